/-
  num.Abs.
-/
import Derived.Test.YtgbehapekfoaiaaNW
import Derived.WalkKit
import Derived.ProofKit
import Derived.OpenShut
import Derived.Deep.QuietTactic
import Derived.BigQuiet
import Derived.Below
namespace Go.Proofs.Ytgbehapekfoaiaa
open Go.ChangeShapes Go.WideShapes Go.ChangeAt Go.RowKit
set_option linter.unusedVariables false

theorem abs_any (x : Int) (w : World) :
    Calls Try.prog 28 #[.int .i64 x] w fun e w' => e = .returned (.int .i64 (absF x)) ∧ Below w.heap.size w w' := by
  by_cases h : -4611686018427387904 ≤ x ∧ x ≤ 4611686018427387904
  · have hb := in1_yes h.1 h.2
    obtain ⟨h1, h2⟩ := h
    go_enter Try.func28, Try.ntmps28
    go_wp2_with (go_at_call 25; refine (within1 _ _ x _ _ (by go_simp)).mono ?_; rintro e w' ⟨rfl, rfl⟩)
    all_goals go_ret
    · exact ⟨ret_int (by rw [absF, if_pos ⟨h1, h2⟩]; omega), (Below.refl _ _).alloc (Nat.le_refl _) _⟩
    · exact ⟨ret_int (by rw [absF, if_pos ⟨h1, h2⟩]; omega), (Below.refl _ _).alloc (Nat.le_refl _) _⟩
  · have hb := in1_no (lo := -4611686018427387904) (hi := 4611686018427387904) (x := x) (by omega)
    go_enter Try.func28, Try.ntmps28
    go_wp2_with (go_at_call 25; refine (within1 _ _ x _ _ (by go_simp)).mono ?_; rintro e w' ⟨rfl, rfl⟩)
    go_ret
    exact ⟨ret_int (by rw [absF, if_neg h]), (Below.refl _ _).alloc (Nat.le_refl _) _⟩

end Go.Proofs.Ytgbehapekfoaiaa
