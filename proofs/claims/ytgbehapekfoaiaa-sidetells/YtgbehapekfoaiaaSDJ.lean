/-
  The chapter's examples; what the law on what comes back asks.
-/
import Derived.Test.YtgbehapekfoaiaaSDP
import Derived.Test.YtgbehapekfoaiaaSM
import Derived.Test.YtgbehapekfoaiaaL2
namespace Go.Proofs.Ytgbehapekfoaiaa
open Go.ChangeShapes Go.WideShapes Go.ChangeAt Go.RowKit
set_option linter.unusedVariables false

theorem one_row (w : World) (x : Int) : IsInts (w.alloc (.cells #[.int .i64 x] 3)) (some ⟨w.heap.size, 0, none⟩) 1 1 (fun _ => x) := by
  have h : (rowA 1 (fun _ => x)) = #[.int .i64 x] := rfl
  have h2 : RowAt w.heap.size 1 (fun _ => x) (w.alloc (.cells (rowA 1 (fun _ => x)) 3)) := al_new w _
  rw [h] at h2
  exact h2.ints (by decide)
theorem one_rows (w : World) (x y : Int) : IsInts ((w.alloc (.cells #[.int .i64 x] 3)).alloc (.cells #[.int .i64 y] 3)) (some ⟨w.heap.size, 0, none⟩) 1 1 (fun _ => x) ∧
    IsInts ((w.alloc (.cells #[.int .i64 x] 3)).alloc (.cells #[.int .i64 y] 3)) (some ⟨w.heap.size + 1, 0, none⟩) 1 1 (fun _ => y) := by
  have h2 := one_row (w.alloc (.cells #[.int .i64 x] 3)) y
  rw [al_size] at h2
  exact ⟨(one_row w x).below ((Below.refl _ _).alloc (Nat.le_refl _) _), h2⟩
theorem ret_bel2 {w : World} {o o' : Obj} {w' : World} (hb : Below ((w.alloc o).alloc o').heap.size ((w.alloc o).alloc o') w') : Below w.heap.size w w' := ret_bel (ret_bel hb)
set_option maxRecDepth 100000 in
theorem sdawake_any (w : World) : Calls Try.prog 5 #[] w fun e w' => e = .returned (.bool true) ∧ Below w.heap.size w w' := by
  have ba : ∀ (W : World) (o : Obj), Below W.heap.size W (W.alloc o) := fun W o => (Below.refl _ W).alloc (Nat.le_refl _) _
  have K1 : Hid (∀ W : World, Calls Try.prog 6 #[.slice (some ⟨W.heap.size, 0, none⟩) 1 1, .slice (some ⟨W.heap.size + 1, 0, none⟩) 1 1] ((W.alloc (.cells #[.int .i64 5] 3)).alloc (.cells #[.int .i64 2] 3)) (SPost 1 (fun _ => 7) (fun _ => 3) ((W.alloc (.cells #[.int .i64 5] 3)).alloc (.cells #[.int .i64 2] 3)))) := fun W => by
    have := side_merge _ _ 1 1 1 1 _ _ (by omega) (by omega) _ (one_rows W 5 2).1 (one_rows W 5 2).2
    rwa [show sdN 1 1 (fun _ => 5) (fun _ => 2) = 1 by decide, show mgL (fun _ => 5) (fun _ => 2) = fun _ => 7 from rfl, show mgR (fun _ => 5) (fun _ => 2) = fun _ => 3 from rfl] at this
  have K2 : Hid (∀ W : World, Calls Try.prog 8 #[.slice (some ⟨W.heap.size, 0, none⟩) 1 1, .slice (some ⟨W.heap.size + 1, 0, none⟩) 1 1] ((W.alloc (.cells #[.int .i64 7] 3)).alloc (.cells #[.int .i64 3] 3)) (SPost 1 (fun _ => 5) (fun _ => 2) ((W.alloc (.cells #[.int .i64 7] 3)).alloc (.cells #[.int .i64 3] 3)))) := fun W => by
    have := side_split _ _ 1 1 1 1 _ _ (by omega) (by omega) _ (one_rows W 7 3).1 (one_rows W 7 3).2
    rwa [show sdN 1 1 (fun _ => 7) (fun _ => 3) = 1 by decide, show spM (fun _ => 7) (fun _ => 3) = fun _ => 5 from rfl, show spS (fun _ => 7) (fun _ => 3) = fun _ => 2 from rfl] at this
  have K3 : Hid (∀ W : World, Calls Try.prog 11 #[.slice (some ⟨W.heap.size, 0, none⟩) 1 1, .slice (some ⟨W.heap.size + 1, 0, none⟩) 1 1] ((W.alloc (.cells #[.int .i64 8] 3)).alloc (.cells #[.int .i64 8] 3)) fun e w' => e = .returned (.bool true) ∧ Below W.heap.size W w') := fun W => by
    have := side_better _ _ 1 1 1 1 _ _ (by omega) (by omega) _ (one_rows W 8 8).1 (one_rows W 8 8).2
    rw [show sdBet 1 1 (fun _ => 8) (fun _ => 8) = true by decide] at this
    exact this.mono fun e w' ⟨he, hb⟩ => ⟨he, ret_bel2 hb⟩
  have K4 : Hid (∀ W : World, Calls Try.prog 11 #[.slice (some ⟨W.heap.size, 0, none⟩) 1 1, .slice (some ⟨W.heap.size + 1, 0, none⟩) 1 1] ((W.alloc (.cells #[.int .i64 8] 3)).alloc (.cells #[.int .i64 0] 3)) fun e w' => e = .returned (.bool false) ∧ Below W.heap.size W w') := fun W => by
    have := side_better _ _ 1 1 1 1 _ _ (by omega) (by omega) _ (one_rows W 8 0).1 (one_rows W 8 0).2
    rw [show sdBet 1 1 (fun _ => 8) (fun _ => 0) = false by decide] at this
    exact this.mono fun e w' ⟨he, hb⟩ => ⟨he, ret_bel2 hb⟩
  have K5 : Hid (∀ (x : Int) a c W, IsInts W a 1 c (fun _ => x) → Calls Try.prog 10 #[.slice a 1 c, .slice (some ⟨W.heap.size, 0, none⟩) 1 1] (W.alloc (.cells #[.int .i64 x] 3)) fun e w' => e = .returned (.bool true) ∧ Below W.heap.size W w') := fun x a c W h =>
    (same_yes a _ 1 c 1 (fun _ => x) (by omega) _ (h.below (ba _ _)) (one_row W x)).mono fun e w' ⟨he, hb⟩ => ⟨he, ret_bel hb⟩
  clear ba
  go_enter Try.func5, Try.ntmps5
  go_wp2_with (fail)
  refine Calls.mono (K1.out _) ?_
  rintro e w1 ⟨a1, c1, a2, c2, rfl, i1, i2, b1⟩
  have B1 := hid (ret_bel2 b1)
  have I1 := hid (And.intro i1 i2)
  clear b1 i1 i2 K1
  go_wp2_with (fail)
  refine Calls.mono (K2.out _) ?_
  rintro e w2 ⟨a3, c3, a4, c4, rfl, i3, i4, b2⟩
  have hb2 := ret_bel2 b2
  have B2 := hid (below_then B1.out hb2)
  have I2 := hid (And.intro (I1.out.1.below hb2) (And.intro (I1.out.2.below hb2) (And.intro i3 i4)))
  clear b2 hb2 i3 i4 K2 I1 B1
  go_wp2_with (fail)
  refine Calls.mono (K5.out 7 _ _ _ I2.out.1) ?_
  rintro e w3 ⟨rfl, b3⟩
  have B3 := hid (below_then B2.out b3)
  have I3 := hid (And.intro (I2.out.2.1.below b3) (And.intro (I2.out.2.2.1.below b3) (I2.out.2.2.2.below b3)))
  clear b3 I2 B2
  go_wp2_with (fail)
  refine Calls.mono (K5.out 3 _ _ _ I3.out.1) ?_
  rintro e w4 ⟨rfl, b4⟩
  have B4 := hid (below_then B3.out b4)
  have I4 := hid (And.intro (I3.out.2.1.below b4) (I3.out.2.2.below b4))
  clear b4 I3 B3
  go_wp2_with (fail)
  refine Calls.mono (K5.out 5 _ _ _ I4.out.1) ?_
  rintro e w5 ⟨rfl, b5⟩
  have B5 := hid (below_then B4.out b5)
  have I5 := hid (I4.out.2.below b5)
  clear b5 I4 B4
  go_wp2_with (fail)
  refine Calls.mono (K5.out 2 _ _ _ I5.out) ?_
  rintro e w6 ⟨rfl, b6⟩
  have B6 := hid (below_then B5.out b6)
  clear b6 I5 B5
  go_wp2_with (fail)
  refine Calls.mono (K3.out _) ?_
  rintro e w7 ⟨rfl, b7⟩
  have B7 := hid (below_then B6.out b7)
  clear b7 B6
  go_wp2_with (fail)
  refine Calls.mono (K4.out _) ?_
  rintro e w8 ⟨rfl, b8⟩
  have B8 := hid (below_then B7.out b8)
  clear b8 B7
  go_wp2
  go_ret
  exact ⟨rfl, B8.out⟩
theorem sdawake_to (w : World) : Hid (∀ W, Below w.heap.size w W → Calls Try.prog 5 #[] W fun e w' => e = .returned (.bool true) ∧ Below w.heap.size w w') := fun W hb =>
  (sdawake_any W).mono fun e w' h => ⟨h.1, below_then hb h.2⟩
theorem sdN_le (n m : Nat) (A B : Nat → Int) (h : n ≤ 70) : sdN n m A B ≤ 64 := by
  unfold sdN
  split
  · next hh => exact (sdB_iff.1 hh).2.n64
  · omega
/-- Numbers from -2^24 to 2^24. -/
structure SdBk (n : Nat) (A B : Nat → Int) : Prop where
  n64 : n ≤ 64
  a : ∀ i, i < n → -16777216 ≤ A i ∧ A i ≤ 16777216
  b : ∀ i, i < n → -16777216 ≤ B i ∧ B i ≤ 16777216
theorem SdBk.in {n : Nat} {A B : Nat → Int} (h : SdBk n A B) : SdIn n A B := ⟨h.n64, fun i hi => by have := h.a i hi; omega, fun i hi => by have := h.b i hi; omega⟩
theorem SdBk.mrg {n : Nat} {A B : Nat → Int} (h : SdBk n A B) : SdIn n (mgL A B) (mgR A B) := ⟨h.n64, fun i hi => by have := h.a i hi; have := h.b i hi; unfold mgL; omega, fun i hi => by have := h.a i hi; have := h.b i hi; unfold mgR; omega⟩
theorem SdBk.back {n : Nat} {A B : Nat → Int} (h : SdBk n A B) : ∀ i, i < n → spM (mgL A B) (mgR A B) i = A i ∧ spS (mgL A B) (mgR A B) i = B i := fun i hi => by
  have := h.a i hi
  have := h.b i hi
  unfold spM spS mgL mgR
  rw [shr1 (by omega) (by omega), shr1 (by omega) (by omega)]; omega
theorem SdBk.mid {n : Nat} {A B : Nat → Int} (h : SdBk n A B) : SdIn n (spM A B) (spS A B) := ⟨h.n64, fun i hi => (h.in.mid i hi).1, fun i hi => (h.in.mid i hi).2⟩
theorem SdBk.near {n : Nat} {A B : Nat → Int} (h : SdBk n A B) : ∀ i, i < n → (0 ≤ mgL (spM A B) (spS A B) i - A i ∧ mgL (spM A B) (spS A B) i - A i ≤ 1) ∧ 0 ≤ mgR (spM A B) (spS A B) i - B i ∧ mgR (spM A B) (spS A B) i - B i ≤ 1 := fun i hi => by
  have := h.a i hi
  have := h.b i hi
  unfold mgL mgR spM spS
  rw [shr1 (by omega) (by omega), shr1 (by omega) (by omega)]; omega
theorem SdBk.of {n : Nat} {A B : Nat → Int} (h : SdIn n A B) : sdN n n A B = n := by rw [sdN, if_pos (sdB_iff.2 ⟨rfl, h⟩)]
end Go.Proofs.Ytgbehapekfoaiaa
