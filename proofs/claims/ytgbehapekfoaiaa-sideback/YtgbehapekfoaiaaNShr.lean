/-
  num.Shr.
-/
import Derived.Test.YtgbehapekfoaiaaNW
import Derived.WalkKit
import Derived.ProofKit
import Derived.OpenShut
import Derived.Deep.QuietTactic
import Derived.BigQuiet
import Derived.Below
namespace Go.Proofs.Ytgbehapekfoaiaa
open Go.ChangeShapes Go.WideShapes Go.ChangeAt Go.RowKit
set_option linter.unusedVariables false

theorem shr_any (x n : Int) (w : World) :
    Calls Try.prog 19 #[.int .i64 x, .int .i64 n] w fun e w' => e = .returned (.int .i64 (shrF x n)) ∧ Below w.heap.size w w' := by
  by_cases h : -2305843009213693952 ≤ x ∧ x ≤ 2305843009213693952
  · by_cases h' : 0 ≤ n ∧ n ≤ 60
    · obtain ⟨h1, h2⟩ := h
      obtain ⟨h3, h4⟩ := h'
      have hb := in1_yes h1 h2
      have hc := in1_yes h3 h4
      obtain ⟨p1, p2⟩ := pow_le60 n h4
      go_enter Try.func19, Try.ntmps19
      go_wp2_with (go_at_call 25; refine (within_new _ _ _ _ _ (by simp)).mono ?_; rintro e w' ⟨rfl, rfl⟩)
      go_ret
      exact ⟨ret_int (by rw [shrF, if_pos ⟨h1, h2, h3, h4⟩]), ((Below.refl _ _).alloc (Nat.le_refl _) _).alloc (by simp) _⟩
    · obtain ⟨h1, h2⟩ := h
      have hb := in1_yes h1 h2
      have hc := in1_no (lo := 0) (hi := 60) (x := n) (by omega)
      go_enter Try.func19, Try.ntmps19
      go_wp2_with (go_at_call 25; refine (within_new _ _ _ _ _ (by simp)).mono ?_; rintro e w' ⟨rfl, rfl⟩)
      go_ret
      exact ⟨ret_int (by rw [shrF, if_neg (by omega)]), ((Below.refl _ _).alloc (Nat.le_refl _) _).alloc (by simp) _⟩
  · have hb := in1_no (lo := -2305843009213693952) (hi := 2305843009213693952) (x := x) (by omega)
    go_enter Try.func19, Try.ntmps19
    go_wp2_with (go_at_call 25; (refine (within1 _ _ x _ _ (by go_simp)).mono ?_; rintro e w' ⟨rfl, rfl⟩))
    go_ret
    exact ⟨ret_int (by rw [shrF, if_neg (by omega)]), ((Below.refl _ _).alloc (Nat.le_refl _) _)⟩

end Go.Proofs.Ytgbehapekfoaiaa
