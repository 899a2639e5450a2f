/-
  The chapter's examples (awake).
-/
import Derived.Test.YtkdmgeefeojdoaaDoorI
import Derived.Test.YtkdmgeefeojdoaaDoorK
namespace Go.Proofs.YtkdmgeefeojdoaaDoor
open Go.ChangeShapes Go.WideShapes Go.ChangeAt Go.RowKit
set_option linter.unusedVariables false
set_option maxRecDepth 100000

theorem end_zero : endC zeroC = [] := by decide +kernel
theorem end_one : endC (codeC zeroC 1 2 2) = [127, 255, 255, 255] := by decide +kernel
theorem place_one : placeF (newD [127, 255, 255, 255]) 2 = 1 := by decide +kernel
theorem place_nil (d : De) : placeF d 0 = 0 := rfl
theorem part_122 : IsPart 1 2 2 := by unfold IsPart; decide
theorem code_one_len : (codeC zeroC 1 2 2).T.length ≤ 2000 := by decide +kernel
theorem awake_any (w : World) : Calls Tryd.prog 7 #[] w fun e w' => e = .returned (.bool true) ∧ Below w.heap.size w w' := by
  have H0 : Hid (CoAt w.heap.size w.heap.size zeroC (w.alloc (.cells #[.int .i64 0, .int .i64 0, .pointer none, .int .i64 0, .bool false, .int .u8 0, .int .i64 0] 34))) := co_new w w.heap.size (Nat.le_refl _)
  have F0 : Hid (Below w.heap.size w (w.alloc (.cells #[.int .i64 0, .int .i64 0, .pointer none, .int .i64 0, .bool false, .int .u8 0, .int .i64 0] 34))) := (Below.refl _ w).alloc (Nat.le_refl _) _
  go_enter Tryd.func7, Tryd.ntmps7
  go_wp2_with (fail)
  refine (end_at w.heap.size w.heap.size zeroC _ H0.out (by decide) F0.out.size (by decide)).mono ?_
  rintro e w1 ⟨rfl, h1, f1⟩
  rw [end_zero]
  have H1 : Hid (CoAt w.heap.size w.heap.size zeroC w1) := h1
  have F1 : Hid (Below w.heap.size w w1) := F0.out.trans f1.below
  clear h1 f1 H0 F0
  go_wp2_with (fail)
  refine (code_at w.heap.size w.heap.size zeroC 1 2 2 _ H1.out zero_ok part_122 F1.out.size (by decide)).mono ?_
  rintro e w2 ⟨rfl, h2, f2⟩
  have H2 : Hid (CoAt w.heap.size w.heap.size (codeC zeroC 1 2 2) w2) := h2
  have F2 : Hid (Below w.heap.size w w2) := F1.out.trans f2.below
  have OK2 := code_ok zero_ok part_122
  clear h2 f2 H1 F1
  go_wp2_with (fail)
  refine (end_at w.heap.size w.heap.size _ _ H2.out OK2.low F2.out.size (by have := code_one_len; omega)).mono ?_
  rintro e w3 ⟨rfl, h3, f3⟩
  rw [end_one]
  have H3 : Hid (CoAt w.heap.size w.heap.size (codeC zeroC 1 2 2) w3) := h3
  have F3 : Hid (Below w.heap.size w w3) := F2.out.trans f3.below
  clear h3 f3 H2 F2
  go_wp2_with (fail)
  refine (new_any [127, 255, 255, 255] _ (by decide)).mono ?_
  rintro e w4 ⟨rfl, h4, f4⟩
  have H4 : Hid (IsAt w3.heap.size 55 (dc [127, 255, 255, 255] (newD [127, 255, 255, 255])) w4) := h4
  have H5 : Hid (CoAt w.heap.size w.heap.size (codeC zeroC 1 2 2) w4) := H3.out.below f4
  have F4 : Hid (Below w.heap.size w w4) := F3.out.trans (f4.mono F3.out.size)
  clear h4 f4 H3
  go_wp2_with (fail)
  refine (end_at w.heap.size w.heap.size _ _ H5.out OK2.low F4.out.size (by have := code_one_len; omega)).mono ?_
  rintro e w5 ⟨rfl, h5, f5⟩
  rw [end_one]
  have H6 : Hid (IsAt w3.heap.size 55 (dc [127, 255, 255, 255] (newD [127, 255, 255, 255])) w5) := f5.kept _ _ _ _ H4.out (by decide) (by decide) (by decide)
  have F5 : Hid (Below w.heap.size w w5) := F4.out.trans f5.below
  clear h5 f5 H4 H5
  go_wp2_with (fail)
  refine (place_at w3.heap.size _ _ 2 _ H6.out (new_ok _)).mono ?_
  rintro e w6 ⟨rfl, n6, rfl⟩
  rw [place_one]
  go_wp2_with (fail)
  refine (place_at w3.heap.size _ _ 0 _ (H6.out.drewN n6) (new_ok _)).mono ?_
  rintro e w7 ⟨rfl, n7, rfl⟩
  rw [place_nil]
  go_wp2_with (fail)
  go_ret
  exact ⟨rfl, below_drewN F5.out (n6 + n7)⟩
end Go.Proofs.YtkdmgeefeojdoaaDoor
