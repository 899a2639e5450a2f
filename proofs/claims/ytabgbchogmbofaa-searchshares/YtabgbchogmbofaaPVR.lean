/-
  The document's far.
-/
import Derived.Test.YtabgbchogmbofaaPVA
namespace Go.Proofs.Ytabgbchogmbofaa
open Go.ChangeShapes Go.WideShapes Go.ChangeAt Go.RowKit
set_option linter.unusedVariables false

theorem rfar_any (x : Int) (w : World) : Calls Try.prog 17 #[.int .i64 x] w fun e w' => e = .returned (.int .i64 ((pvD x : Nat) : Int)) ∧ w' = w := by
  by_cases h1 : x < -24
  · have e : ((pvD x : Nat) : Int) = 25 := by rw [pvD, if_pos (by omega)]; rfl
    rw [e]
    go_enter Try.func17, Try.ntmps17
    go_wp2
    go_ret
    exact ⟨rfl, rfl⟩
  by_cases h2 : 24 < x
  · have e : ((pvD x : Nat) : Int) = 25 := by rw [pvD, if_pos (by omega)]; rfl
    rw [e]
    go_enter Try.func17, Try.ntmps17
    go_wp2
    go_ret
    exact ⟨rfl, rfl⟩
  have e : ((pvD x : Nat) : Int) = if 0 ≤ x then x else -x := by
    rw [pvD, if_neg (by omega)]; split <;> omega
  rw [e]
  by_cases h3 : 0 ≤ x
  · rw [if_pos h3]
    have h4 : -x ≤ x := by omega
    go_enter Try.func17, Try.ntmps17
    go_wp2
    all_goals (go_ret; exact ⟨ret_int (by omega), rfl⟩)
  · rw [if_neg h3]
    have h4 : x < -x := by omega
    go_enter Try.func17, Try.ntmps17
    go_wp2
    all_goals (go_ret; exact ⟨ret_int (by omega), rfl⟩)

end Go.Proofs.Ytabgbchogmbofaa
