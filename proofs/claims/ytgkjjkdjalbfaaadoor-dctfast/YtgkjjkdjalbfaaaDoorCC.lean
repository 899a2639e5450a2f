/-
  The contract of trig.Cos over the landed text, of a table and of none.
-/
import Derived.Test.YtgkjjkdjalbfaaaDoorC
namespace Go.Proofs.YtgkjjkdjalbfaaaDoor
open Go.ChangeShapes Go.WideShapes Go.ChangeAt Go.RowKit
set_option linter.unusedVariables false

theorem cos_any (r : Nat) (k : Int) (w : World) (ht : Tab r w) :
    Calls Tryd.prog 29 #[.pointer (some ⟨r, 0, none⟩), .int .i64 k] w fun e w' => e = .returned (.int .i64 (cosF k)) ∧ Below w.heap.size w w' := by
  have HT : Hid (Tab r w) := ht
  clear ht
  by_cases h : -1152921504606846976 ≤ k ∧ k ≤ 1152921504606846976
  · have hb := in1_yes h.1 h.2
    obtain ⟨h1, h2⟩ := h
    have HA : Hid (∀ W : World, Below w.heap.size w W → Calls Tryd.prog 47 #[.pointer (some ⟨r, 0, none⟩), .int .i64 k] W fun e w' => e = .returned (.int .i64 (cosI k)) ∧ Below W.heap.size W w') :=
      fun W hW => at_any r k (by omega) h2 W (HT.out.below HT.out.1 hW)
    rw [cosF_in h1 h2]
    generalize cosI k = c at *
    go_enter Tryd.func29, Tryd.ntmps29
    go_wp2_with (first
      | (go_at_call 46; refine (tin1 1152921504606846976 (by omega) k _ _ (by go_simp)).mono ?_; rintro e w1 ⟨rfl, rfl⟩)
      | (go_at_call 47; refine (HA.out _ ((Below.refl _ w).alloc (Nat.le_refl _) _)).mono ?_; rintro e w2 ⟨rfl, hb2⟩))
    go_ret
    exact ⟨rfl, below_then ((Below.refl _ w).alloc (Nat.le_refl _) _) hb2⟩
  · have hb := in1_no (lo := -1152921504606846976) (hi := 1152921504606846976) (x := k) (by omega)
    rw [cosF_out (by omega)]
    go_enter Tryd.func29, Tryd.ntmps29
    go_wp2_with (go_at_call 46; refine (tin1 1152921504606846976 (by omega) k _ _ (by go_simp)).mono ?_; rintro e w1 ⟨rfl, rfl⟩)
    go_ret
    exact ⟨rfl, (Below.refl _ w).alloc (Nat.le_refl _) _⟩
theorem cos_none (k : Int) (w : World) :
    Calls Tryd.prog 29 #[.pointer none, .int .i64 k] w fun e w' => e = .returned (.int .i64 0) ∧ w' = w := by
  go_enter Tryd.func29, Tryd.ntmps29
  go_wp2
  go_ret
  exact ⟨rfl, rfl⟩
end Go.Proofs.YtgkjjkdjalbfaaaDoor
