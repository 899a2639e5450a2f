/-
  The document's Abs.
-/
import Derived.Test.YtlfhjcalkokhiaaDoorN
import Derived.WalkKit
import Derived.ProofKit
import Derived.OpenShut
import Derived.Deep.QuietTactic
import Derived.BigQuiet
import Derived.Below
namespace Go.Proofs.YtlfhjcalkokhiaaDoor
open Go.ChangeShapes Go.WideShapes Go.ChangeAt Go.RowKit
set_option linter.unusedVariables false

theorem absR_any (x : Int) (w : World) :
    Calls Tryd.prog 15 #[.int .i64 x] w fun e w' => e = .returned (.int .i64 (absF x)) ∧ w' = w := by
  by_cases h1 : x < -4611686018427387904
  · go_enter Tryd.func15, Tryd.ntmps15
    go_wp2
    go_ret
    exact ⟨ret_int (by rw [absF, if_neg (by omega)]), rfl⟩
  · by_cases h2 : 4611686018427387904 < x
    · go_enter Tryd.func15, Tryd.ntmps15
      go_wp2
      go_ret
      exact ⟨ret_int (by rw [absF, if_neg (by omega)]), rfl⟩
    · go_enter Tryd.func15, Tryd.ntmps15
      go_wp2
      all_goals go_ret
      · exact ⟨ret_int (by rw [absF, if_pos (by omega)]; omega), rfl⟩
      · exact ⟨ret_int (by rw [absF, if_pos (by omega)]; omega), rfl⟩

end Go.Proofs.YtlfhjcalkokhiaaDoor
