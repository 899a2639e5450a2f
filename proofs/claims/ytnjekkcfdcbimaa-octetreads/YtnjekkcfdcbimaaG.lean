/-
  The chapter's example (awake) comes out, and what is written is read again: plain laws.
-/
import Derived.Test.YtnjekkcfdcbimaaC
import Derived.Test.YtnjekkcfdcbimaaF
namespace Go.Proofs.Ytnjekkcfdcbimaa
open Go.ChangeShapes Go.WideShapes Go.ChangeAt Go.RowKit
set_option linter.unusedVariables false

abbrev ex : ByteArray := ⟨#[1, 2, 97, 98]⟩
theorem ex_out : outF 258 2 = [1, 2] := by decide
theorem ex_num : numV ex (some 0) 2 = 258 := by decide
theorem ex_numN : numN ex (some 0) 2 = some 2 := by decide
theorem ex_txt : txt ex (some 2) 2 = ⟨#[97, 98]⟩ := by decide
theorem ex_nxt : nxt ex (some 2) 2 = some 4 := by decide
theorem ex_num1 : numV ex (some 4) 1 = 0 := by decide
theorem ex_numN1 : numN ex (some 4) 1 = none := by decide
theorem ex_ok (k : Nat) (h : k ≤ 4) : StOk ex (some k) := ⟨by decide, fun j hj => by cases hj; exact h⟩
theorem rd_new (w : World) (s : ByteArray) : IsAt w.heap.size 52 (rdCells s (some 0)) (w.alloc (.cells (rdCells s (some 0)) 52)) := heap_alloc_new w _

theorem awake_any (w : World) : Calls Try.prog 7 #[] w fun e w' => e = .returned (.bool true) ∧ Below w.heap.size w w' := by
  have h0 := wr_new w w.heap.size (Nat.le_refl _)
  have b0 : Below w.heap.size w (w.alloc (.cells #[.pointer none, .int .i64 0] 29)) := (Below.refl _ w).alloc (Nat.le_refl _) _
  have H0 : Hid (WrAt w.heap.size w.heap.size [] (w.alloc (.cells #[.pointer none, .int .i64 0] 29))) := h0
  have B0 : Hid (Below w.heap.size w (w.alloc (.cells #[.pointer none, .int .i64 0] 29))) := b0
  clear h0 b0
  go_enter Try.func7, Try.ntmps7
  go_wp2_with (fail)
  refine (wnum_at w.heap.size w.heap.size [] 258 2 _ H0.out (by simp) (by decide) (by decide) (by decide) (by decide) (by decide)).mono ?_
  rintro e w1 ⟨rfl, h1, b1⟩
  rw [ex_out, List.nil_append] at h1
  have H1 : Hid (WrAt w.heap.size w.heap.size [1, 2] w1) := h1
  have B1 : Hid (Below w.heap.size w w1) := B0.out.trans b1
  clear h1 b1 H0 B0
  go_wp2_with (fail)
  refine (wtext_at w.heap.size w.heap.size [1, 2] ⟨#[97, 98]⟩ _ H1.out B1.out.size (by decide)).mono ?_
  rintro e w2 ⟨rfl, h2, b2⟩
  have H2 : Hid (WrAt w.heap.size w.heap.size [1, 2, 97, 98] w2) := h2
  have B2 : Hid (Below w.heap.size w w2) := B1.out.trans b2
  clear h2 b2 H1 B1
  go_wp2_with (fail)
  refine (wstr_at w.heap.size w.heap.size [1, 2, 97, 98] _ H2.out B2.out.size (by decide)).mono ?_
  rintro e w3 ⟨rfl, h3, b3, _⟩
  have H3 : Hid (WrAt w.heap.size w.heap.size [1, 2, 97, 98] w3) := h3
  have B3 : Hid (Below w.heap.size w w3) := B2.out.trans b3
  clear h3 b3 H2 B2
  go_wp2_with (fail)
  refine (new_any ex _).mono ?_
  rintro e w4 ⟨rfl, hw4⟩
  have R4 : Hid (IsAt w3.heap.size 52 (rdCells ex (some 0)) w4) := by rw [hw4]; exact rd_new _ _
  have b4 : Below w3.heap.size w3 w4 := by rw [hw4]; exact (Below.refl _ w3).alloc (Nat.le_refl _) _
  have H4 : Hid (WrAt w.heap.size w.heap.size [1, 2, 97, 98] w4) := H3.out.below b4
  have B4 : Hid (Below w.heap.size w w4) := B3.out.trans (b4.mono B3.out.size)
  have hr : w.heap.size ≤ w3.heap.size := B3.out.size
  clear hw4 b4 H3 B3
  go_wp2_with (fail)
  refine (num_at w3.heap.size ex (some 0) 2 _ R4.out (ex_ok 0 (by decide))).mono ?_
  rintro e w5 ⟨rfl, r5, b5⟩
  rw [ex_num]
  rw [ex_numN] at r5
  have R5 : Hid (IsAt w3.heap.size 52 (rdCells ex (some 2)) w5) := r5
  have H5 : Hid (WrAt w.heap.size w.heap.size [1, 2, 97, 98] w5) := H4.out.but R4.out b5
  have B5 : Hid (Below w.heap.size w w5) := B4.out.trans (b5.below hr B4.out.size)
  clear r5 b5 R4 H4 B4
  go_wp2_with (fail)
  refine (text_at w3.heap.size ex (some 2) 2 _ R5.out (ex_ok 2 (by decide))).mono ?_
  rintro e w6 ⟨rfl, r6, b6⟩
  rw [ex_txt]
  rw [ex_nxt] at r6
  have R6 : Hid (IsAt w3.heap.size 52 (rdCells ex (some 4)) w6) := r6
  have H6 : Hid (WrAt w.heap.size w.heap.size [1, 2, 97, 98] w6) := H5.out.but R5.out b6
  have B6 : Hid (Below w.heap.size w w6) := B5.out.trans (b6.below hr B5.out.size)
  clear r6 b6 R5 H5 B5
  go_wp2_with (fail)
  refine (wstr_at w.heap.size w.heap.size [1, 2, 97, 98] _ H6.out B6.out.size (by decide)).mono ?_
  rintro e w7 ⟨rfl, h7, b7, r7⟩
  have R7 : Hid (IsAt w3.heap.size 52 (rdCells ex (some 4)) w7) := r7 _ _ R6.out
  have B7 : Hid (Below w.heap.size w w7) := B6.out.trans b7
  clear r7 b7 h7 R6 H6 B6
  go_wp2_with (fail)
  refine (at_at w3.heap.size ex (some 4) _ R7.out).mono ?_
  rintro e w8 ⟨rfl, hw8⟩
  rw [hw8]
  clear hw8 w8
  go_wp2_with (fail)
  refine (num_at w3.heap.size ex (some 4) 1 _ R7.out (ex_ok 4 (by decide))).mono ?_
  rintro e w9 ⟨rfl, r9, b9⟩
  rw [ex_num1]
  rw [ex_numN1] at r9
  have R9 : Hid (IsAt w3.heap.size 52 (rdCells ex none) w9) := r9
  have B9 : Hid (Below w.heap.size w w9) := B7.out.trans (b9.below hr B7.out.size)
  clear r9 b9 R7 B7
  go_wp2_with (fail)
  refine (bad_at w3.heap.size ex none _ R9.out).mono ?_
  rintro e wa ⟨rfl, hwa⟩
  rw [hwa]
  go_wp2
  go_ret
  exact ⟨rfl, B9.out⟩
end Go.Proofs.Ytnjekkcfdcbimaa
