/-
  The document's Abs.
-/
import Derived.Test.YtgbehapekfoaiaaN
import Derived.WalkKit
import Derived.ProofKit
import Derived.OpenShut
import Derived.Deep.QuietTactic
import Derived.BigQuiet
import Derived.Below
namespace Go.Proofs.Ytgbehapekfoaiaa
open Go.ChangeShapes Go.WideShapes Go.ChangeAt Go.RowKit
set_option linter.unusedVariables false

theorem absR_any (x : Int) (w : World) :
    Calls Try.prog 14 #[.int .i64 x] w fun e w' => e = .returned (.int .i64 (absF x)) ∧ w' = w := by
  by_cases h1 : x < -4611686018427387904
  · go_enter Try.func14, Try.ntmps14
    go_wp2
    go_ret
    exact ⟨ret_int (by rw [absF, if_neg (by omega)]), rfl⟩
  · by_cases h2 : 4611686018427387904 < x
    · go_enter Try.func14, Try.ntmps14
      go_wp2
      go_ret
      exact ⟨ret_int (by rw [absF, if_neg (by omega)]), rfl⟩
    · go_enter Try.func14, Try.ntmps14
      go_wp2
      all_goals go_ret
      · exact ⟨ret_int (by rw [absF, if_pos (by omega)]; omega), rfl⟩
      · exact ⟨ret_int (by rw [absF, if_pos (by omega)]; omega), rfl⟩

end Go.Proofs.Ytgbehapekfoaiaa
