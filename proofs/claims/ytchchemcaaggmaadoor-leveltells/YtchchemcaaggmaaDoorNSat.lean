/-
  num.Sat.
-/
import Derived.Test.YtchchemcaaggmaaDoorN
import Derived.WalkKit
import Derived.ProofKit
import Derived.OpenShut
import Derived.Deep.QuietTactic
import Derived.BigQuiet
import Derived.Below
namespace Go.Proofs.YtchchemcaaggmaaDoor
open Go.ChangeShapes Go.WideShapes Go.ChangeAt Go.RowKit
set_option linter.unusedVariables false

def satF (x : Int) : Int := max (-32768) (min x 32767)
theorem sat_any (x : Int) (w : World) :
    Calls Tryd.prog 20 #[.int .i64 x] w fun e w' => e = .returned (.int .i64 (satF x)) ∧ w' = w := by
  go_enter Tryd.func20, Tryd.ntmps20
  go_wp2
  all_goals (go_ret; exact ⟨ret_int (by unfold satF; omega), rfl⟩)
end Go.Proofs.YtchchemcaaggmaaDoor
