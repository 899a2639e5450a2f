/-
  The chapter's examples (awake).
-/
import Derived.Test.YtdfpmhdgebajfaaDoorU7
namespace Go.Proofs.YtdfpmhdgebajfaaDoor
open Go.ChangeShapes Go.WideShapes Go.ChangeAt Go.RowKit
set_option linter.unusedVariables false
set_option maxRecDepth 100000

def s1A : Co := codesC zeroC (deltaP 0)
def s2A : Co := codesC s1A (belowP 70000 100000)
def s3A : Co := codesC s2A (deltaP (-9))
def lA : List UInt8 := endC s3A
def d1A : De := (getD lA (newD lA)).2
def d2A : De := (getW lA d1A 100000).2.2
theorem s1_end : endC s1A = [] := by decide +kernel
theorem s1_ok : s1A.Ok := (codes_ok (deltaP 0) zero_ok (delta_part 0 (by decide) (by decide)).1).1
theorem s2_ok : s2A.Ok := (codes_ok (belowP 70000 100000) s1_ok (below_part 70000 100000 (by decide) (by decide) (by decide)).1).1
theorem s3_ok : s3A.Ok := (codes_ok (deltaP (-9)) s2_ok (delta_part (-9) (by decide) (by decide)).1).1
theorem s1_len : s1A.T.length ≤ 100 := by decide +kernel
theorem s2_len : s2A.T.length ≤ 100 := by decide +kernel
theorem s3_len : s3A.T.length ≤ 100 := by decide +kernel
theorem lA_len : lA.length ≤ 100000 := by decide +kernel
theorem g1A : (getD lA (newD lA)).1 = 0 := by decide +kernel
theorem g2A : (getW lA d1A 100000).1 = 70000 := by decide +kernel
theorem g3A : (getW lA d1A 100000).2.1 = true := by decide +kernel
theorem g4A : (getD lA d2A).1 = -9 := by decide +kernel
theorem d1_ok : d1A.Ok := (getD_ok lA (newD lA) (new_ok _)).1
theorem d2_ok : d2A.Ok := (getW_ok lA d1A 100000 (by decide) (by decide) d1_ok).1
set_option maxHeartbeats 1000000 in
theorem awake_any (w : World) (ht : Tab w) : Calls Tryd.prog 6 #[] w fun e w' => e = .returned (.bool true) ∧ Below w.heap.size w w' := by
  have hz : 0 < w.heap.size := block_lt_of_cell (ht 0 (by decide))
  have H0 : Hid (CoAt w.heap.size w.heap.size zeroC (w.alloc (.cells #[.int .i64 0, .int .i64 0, .pointer none, .int .i64 0, .bool false, .int .u8 0, .int .i64 0] 33))) := co_new w w.heap.size (Nat.le_refl _)
  have F0 : Hid (Below w.heap.size w (w.alloc (.cells #[.int .i64 0, .int .i64 0, .pointer none, .int .i64 0, .bool false, .int .u8 0, .int .i64 0] 33))) := (Below.refl _ w).alloc (Nat.le_refl _) _
  have T0 : Hid (Tab w) := ht
  clear ht
  go_enter Tryd.func6, Tryd.ntmps6
  go_wp2_with (fail)
  refine (putdelta_at w.heap.size w.heap.size zeroC 0 _ H0.out zero_ok F0.out.size (T0.out.frame F0.out hz) (by decide) (by decide)).mono ?_
  rintro e w1 ⟨rfl, h1, f1⟩
  have H1 : Hid (CoAt w.heap.size w.heap.size s1A w1) := h1
  have F1 : Hid (Below w.heap.size w w1) := F0.out.trans f1.below
  clear h1 f1 H0 F0
  go_wp2_with (fail)
  refine (end_at w.heap.size w.heap.size s1A _ H1.out s1_ok.low F1.out.size (by have := s1_len; omega)).mono ?_
  rintro e w2 ⟨rfl, h2, f2⟩
  rw [s1_end]
  have H2 : Hid (CoAt w.heap.size w.heap.size s1A w2) := h2
  have F2 : Hid (Below w.heap.size w w2) := F1.out.trans f2.below
  clear h2 f2 H1 F1
  go_wp2_with (fail)
  refine (putdelta_not _ (-70) _ (by decide)).mono ?_
  rintro e w' ⟨rfl, e'⟩
  obtain rfl := e'.symm
  go_wp2_with (fail)
  refine (putbelow_not _ 5 5 _ (by decide)).mono ?_
  rintro e w' ⟨rfl, e'⟩
  obtain rfl := e'.symm
  go_wp2_with (fail)
  refine (putbelow_at w.heap.size w.heap.size s1A 70000 100000 _ H2.out s1_ok F2.out.size (by decide) (by decide) (by decide) (by have := s1_len; omega)).mono ?_
  rintro e w3 ⟨rfl, h3, f3⟩
  have H3 : Hid (CoAt w.heap.size w.heap.size s2A w3) := h3
  have F3 : Hid (Below w.heap.size w w3) := F2.out.trans f3.below
  clear h3 f3 H2 F2
  go_wp2_with (fail)
  refine (putdelta_at w.heap.size w.heap.size s2A (-9) _ H3.out s2_ok F3.out.size (T0.out.frame F3.out hz) (by decide) (by have := s2_len; omega)).mono ?_
  rintro e w4 ⟨rfl, h4, f4⟩
  have H4 : Hid (CoAt w.heap.size w.heap.size s3A w4) := h4
  have F4 : Hid (Below w.heap.size w w4) := F3.out.trans f4.below
  clear h4 f4 H3 F3
  go_wp2_with (fail)
  refine (end_at w.heap.size w.heap.size s3A _ H4.out s3_ok.low F4.out.size (by have := s3_len; omega)).mono ?_
  rintro e w5 ⟨rfl, h5, f5⟩
  have F5 : Hid (Below w.heap.size w w5) := F4.out.trans f5.below
  clear h5 f5 H4 F4
  have EL : endC s3A = lA := rfl
  rw [EL]
  clear EL
  go_wp2_with (fail)
  refine (new_any lA _ lA_len).mono ?_
  rintro e w6 ⟨rfl, h6, f6⟩
  have H6 : Hid (IsAt w5.heap.size 65 (dc lA (newD lA)) w6) := h6
  have F6 : Hid (Below w.heap.size w w6) := F5.out.trans (f6.mono F5.out.size)
  have R5 : Hid (w.heap.size ≤ w5.heap.size) := F5.out.size
  clear h6 f6 F5
  generalize w5.heap.size = r at *
  go_wp2_with (fail)
  refine (getdelta_at r lA (newD lA) _ H6.out (new_ok _) (T0.out.frame F6.out hz) lA_len).mono ?_
  rintro e w7 ⟨rfl, h7, b7⟩
  rw [g1A]
  have H7 : Hid (IsAt r 65 (dc lA d1A) w7) := h7
  have F7 : Hid (Below w.heap.size w w7) := F6.out.trans (b7.below R5.out F6.out.size)
  clear h7 b7 H6 F6
  go_wp2_with (fail)
  refine (getbelow_at r lA d1A 100000 _ H7.out d1_ok (by decide) (by decide) lA_len).mono ?_
  rintro e w8 ⟨rfl, h8, b8⟩
  rw [g2A, g3A]
  have H8 : Hid (IsAt r 65 (dc lA d2A) w8) := h8
  have F8 : Hid (Below w.heap.size w w8) := F7.out.trans (b8.below R5.out F7.out.size)
  clear h8 b8 H7 F7
  go_wp2_with (fail)
  refine (getdelta_at r lA d2A _ H8.out d2_ok (T0.out.frame F8.out hz) lA_len).mono ?_
  rintro e w9 ⟨rfl, h9, b9⟩
  rw [g4A]
  have F9 : Hid (Below w.heap.size w w9) := F8.out.trans (b9.below R5.out F8.out.size)
  clear h9 b9 H8 F8
  go_wp2_with (fail)
  go_ret
  exact ⟨rfl, F9.out⟩
end Go.Proofs.YtdfpmhdgebajfaaDoor
