/-
  The document's Div.
-/
import Derived.Test.YtlfhjcalkokhiaaDoorNModR
import Derived.WalkKit
import Derived.ProofKit
import Derived.OpenShut
import Derived.Deep.QuietTactic
import Derived.BigQuiet
import Derived.Below
namespace Go.Proofs.YtlfhjcalkokhiaaDoor
open Go.ChangeShapes Go.WideShapes Go.ChangeAt Go.RowKit
set_option linter.unusedVariables false

theorem divR_any (a b : Int) (w : World) :
    Calls Tryd.prog 26 #[.int .i64 a, .int .i64 b] w fun e w' => e = .returned (.int .i64 (divF a b)) ∧ Below w.heap.size w w' := by
  by_cases h1 : a < -1152921504606846976
  · go_enter Tryd.func26, Tryd.ntmps26
    go_wp2
    go_ret
    exact ⟨ret_int (by rw [divF, if_neg (by omega)]), Below.refl _ _⟩
  by_cases h2 : 1152921504606846976 < a
  · go_enter Tryd.func26, Tryd.ntmps26
    go_wp2
    go_ret
    exact ⟨ret_int (by rw [divF, if_neg (by omega)]), Below.refl _ _⟩
  by_cases h3 : b < 1
  · go_enter Tryd.func26, Tryd.ntmps26
    go_wp2
    go_ret
    exact ⟨ret_int (by rw [divF, if_neg (by omega)]), Below.refl _ _⟩
  by_cases h4 : 1152921504606846976 < b
  · go_enter Tryd.func26, Tryd.ntmps26
    go_wp2
    go_ret
    exact ⟨ret_int (by rw [divF, if_neg (by omega)]), Below.refl _ _⟩
  have hb : 1 ≤ b := by omega
  obtain ⟨q1, q2⟩ := quo_bd (a := a) hb (by omega) (by omega)
  have e4 := Int.emod_nonneg a (show b ≠ 0 by omega)
  have e5 := Int.emod_lt_of_pos a (show 0 < b by omega)
  have HQ : Hid (modQ a b = a / b) := modQ_of hb
  have HR : Hid (modR a b = a % b) := modR_of hb
  have q1' : -2305843009213693952 ≤ modQ a b := by rw [HQ.out]; exact q1
  have q2' : modQ a b ≤ 2305843009213693952 := by rw [HQ.out]; exact q2
  have e4' : 0 ≤ modR a b := by rw [HR.out]; exact e4
  have e5' : modR a b < b := by rw [HR.out]; exact e5
  clear q1 q2 e4 e5
  by_cases h : b ≤ 2 * modR a b
  · go_enter Tryd.func26, Tryd.ntmps26
    go_wp2_with (go_at_call 40; refine (modr_any a b (by omega) (by omega) _).mono ?_; rintro e w' ⟨rfl, hg⟩)
    go_ret
    exact ⟨ret_int (by rw [divF, if_pos (by omega), round_up hb (by rw [← HR.out]; exact h), HQ.out]), hg⟩
  · go_enter Tryd.func26, Tryd.ntmps26
    go_wp2_with (go_at_call 40; refine (modr_any a b (by omega) (by omega) _).mono ?_; rintro e w' ⟨rfl, hg⟩)
    go_ret
    exact ⟨ret_int (by rw [divF, if_pos (by omega), round_down hb (by rw [← HR.out]; omega), HQ.out]), hg⟩
end Go.Proofs.YtlfhjcalkokhiaaDoor
