/-
  The document's Shr.
-/
import Derived.Test.YtgbehapekfoaiaaNModR
import Derived.WalkKit
import Derived.ProofKit
import Derived.OpenShut
import Derived.Deep.QuietTactic
import Derived.BigQuiet
import Derived.Below
namespace Go.Proofs.Ytgbehapekfoaiaa
open Go.ChangeShapes Go.WideShapes Go.ChangeAt Go.RowKit
set_option linter.unusedVariables false

theorem shrR_any (a n : Int) (w : World) :
    Calls Try.prog 20 #[.int .i64 a, .int .i64 n] w fun e w' => e = .returned (.int .i64 (shrF a n)) ∧ Below w.heap.size w w' := by
  by_cases h1 : a < -2305843009213693952
  · go_enter Try.func20, Try.ntmps20
    go_wp2
    go_ret
    exact ⟨ret_int (by rw [shrF, if_neg (by omega)]), Below.refl _ _⟩
  by_cases h2 : 2305843009213693952 < a
  · go_enter Try.func20, Try.ntmps20
    go_wp2
    go_ret
    exact ⟨ret_int (by rw [shrF, if_neg (by omega)]), Below.refl _ _⟩
  by_cases h3 : n < 0
  · go_enter Try.func20, Try.ntmps20
    go_wp2
    go_ret
    exact ⟨ret_int (by rw [shrF, if_neg (by omega)]), Below.refl _ _⟩
  by_cases h4 : 60 < n
  · go_enter Try.func20, Try.ntmps20
    go_wp2
    go_ret
    exact ⟨ret_int (by rw [shrF, if_neg (by omega)]), Below.refl _ _⟩
  obtain ⟨p1, p2⟩ := pow_le60 n (by omega)
  obtain ⟨q1, q2⟩ := quo_bd (a := a) p1 (by omega) (by omega)
  have e4 := Int.emod_nonneg a (show (2 : Int) ^ n.toNat ≠ 0 by omega)
  have e5 := Int.emod_lt_of_pos a (show 0 < (2 : Int) ^ n.toNat by omega)
  have HQ : Hid (modQ a (2 ^ n.toNat) = a / 2 ^ n.toNat) := modQ_of p1
  have HR : Hid (modR a (2 ^ n.toNat) = a % 2 ^ n.toNat) := modR_of p1
  have q1' : -2305843009213693952 ≤ modQ a (2 ^ n.toNat) := by rw [HQ.out]; exact q1
  have q2' : modQ a (2 ^ n.toNat) ≤ 2305843009213693952 := by rw [HQ.out]; exact q2
  have e4' : 0 ≤ modR a (2 ^ n.toNat) := by rw [HR.out]; exact e4
  have e5' : modR a (2 ^ n.toNat) < 2 ^ n.toNat := by rw [HR.out]; exact e5
  clear q1 q2 e4 e5
  by_cases h : 2 ^ n.toNat ≤ 2 * modR a (2 ^ n.toNat)
  · go_enter Try.func20, Try.ntmps20
    go_wp2_with (go_at_call 26; refine (modr_any a (2 ^ n.toNat) (by omega) (by omega) _).mono ?_; rintro e w' ⟨rfl, hg⟩)
    go_ret
    exact ⟨ret_int (by rw [shrF, if_pos (by omega), round_up p1 (by rw [← HR.out]; exact h), HQ.out]), hg⟩
  · go_enter Try.func20, Try.ntmps20
    go_wp2_with (go_at_call 26; refine (modr_any a (2 ^ n.toNat) (by omega) (by omega) _).mono ?_; rintro e w' ⟨rfl, hg⟩)
    go_ret
    exact ⟨ret_int (by rw [shrF, if_pos (by omega), round_down p1 (by rw [← HR.out]; omega), HQ.out]), hg⟩

end Go.Proofs.Ytgbehapekfoaiaa
