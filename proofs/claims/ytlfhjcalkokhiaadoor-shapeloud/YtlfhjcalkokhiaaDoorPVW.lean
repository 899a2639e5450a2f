/-
  The program's within.
-/
import Derived.Test.YtlfhjcalkokhiaaDoorNI
namespace Go.Proofs.YtlfhjcalkokhiaaDoor
open Go.ChangeShapes Go.WideShapes Go.ChangeAt Go.RowKit
set_option linter.unusedVariables false

def pwB (x lo hi : Int) : Bool := decide (lo ≤ x) && decide (x ≤ hi)
theorem pwB_yes {x lo hi : Int} (h1 : lo ≤ x) (h2 : x ≤ hi) : pwB x lo hi = true := by simp [pwB, h1, h2]
theorem pwB_no {x lo hi : Int} (h : x < lo ∨ hi < x) : pwB x lo hi = false := by simp [pwB]; omega
theorem pwithin_any (x lo hi : Int) (w : World) : Calls Tryd.prog 33 #[.int .i64 x, .int .i64 lo, .int .i64 hi] w fun e w' => e = .returned (.bool (pwB x lo hi)) ∧ w' = w := by
  by_cases h1 : lo ≤ x
  · have e : pwB x lo hi = decide (x ≤ hi) := by simp [pwB, h1]
    rw [e]
    go_enter Tryd.func33, Tryd.ntmps33
    go_wp2
    go_ret
    exact ⟨rfl, rfl⟩
  · rw [pwB_no (by omega)]
    have h2 : x < lo := by omega
    have h3 : decide (lo ≤ x) = false := by simpa using h1
    go_enter Tryd.func33, Tryd.ntmps33
    go_wp2
    go_ret
    exact ⟨rfl, rfl⟩
end Go.Proofs.YtlfhjcalkokhiaaDoor
