/-
  Package window over plain integers: the slope, what is folded, what is left, what meets; what was folded and is left by both is there again but for 3.
-/
import Derived.Test.YtfhcfdepjhdhfaaDoorZA
import Derived.Test.YtfhcfdepjhdhfaaDoorZC
import Derived.Lib.LaidU8
import Derived.MakeChecks
import Derived.Test.YtfhcfdepjhdhfaaDoorZD
namespace Go.Proofs.YtfhcfdepjhdhfaaDoor
set_option linter.unusedVariables false

/-- The slope. -/
def wF (k : Nat) : Int := [494, 4325, 11207, 19363, 26435, 30792, 32481, 32764].getD k 0
theorem wF_bd (k : Nat) : 0 ≤ wF k ∧ wF k ≤ 32764 := by
  unfold wF
  match k with
  | 0 | 1 | 2 | 3 | 4 | 5 | 6 | 7 => exact ⟨by decide, by decide⟩
  | n + 8 => exact ⟨by simp [List.getD], by simp [List.getD]⟩
/-- To the nearest part of 2^15. -/
def sh15 (x : Int) : Int := (x + 16384) / 32768
theorem shr_sh15 {x : Int} (h1 : -2305843009213693952 ≤ x) (h2 : x ≤ 2305843009213693952) : shrF x 15 = sh15 x := by
  rw [shrF, if_pos ⟨h1, h2, by omega, by omega⟩]
  show (x + 2 ^ (15 : Int).toNat / 2) / 2 ^ (15 : Int).toNat = _
  have : ((2 : Int) ^ (15 : Int).toNat) = 32768 := by decide
  rw [this]; rfl
theorem sh15_bd {x B : Int} (h1 : -(32768 * B) ≤ x) (h2 : x ≤ 32768 * B) : -B ≤ sh15 x ∧ sh15 x ≤ B := by unfold sh15; omega
/-- A part of the slope of a number. -/
theorem mul_bd' {a x B : Int} (h1 : 0 ≤ a) (h2 : a ≤ 32764) (h3 : -B ≤ x) (h4 : x ≤ B) : -(32764 * B) ≤ a * x ∧ a * x ≤ 32764 * B := by
  have h0 : 0 ≤ B := by omega
  have e1 : a * x ≤ a * B := Int.mul_le_mul_of_nonneg_left h4 h1
  have e2 : a * (-B) ≤ a * x := Int.mul_le_mul_of_nonneg_left h3 h1
  have e3 : a * B ≤ 32764 * B := Int.mul_le_mul_of_nonneg_right h2 h0
  have e4 : a * (-B) = -(a * B) := Int.mul_neg a B
  omega
/-- What is rounded at the place i of a block's beginning, of its end. -/
def headI (X : Nat → Int) (i : Nat) : Int := wF (4 + i) * X (4 + i) + wF (3 - i) * X (3 - i)
def tailI (n : Nat) (X : Nat → Int) (i : Nat) : Int := wF (4 + i) * X (n + 3 - i) - wF (3 - i) * X (n + 4 + i)
/-- What is folded of n + 8 numbers X, at k. -/
def wFoldF (n : Nat) (X : Nat → Int) (k : Nat) : Int := if k < 4 then sh15 (headI X k) else if n - 4 ≤ k then sh15 (tailI n X (n - 1 - k)) else X (4 + k)
theorem headI_bd {X : Nat → Int} {i : Nat} {B : Int} (h1 : -B ≤ X (4 + i) ∧ X (4 + i) ≤ B) (h2 : -B ≤ X (3 - i) ∧ X (3 - i) ≤ B) : -(65528 * B) ≤ headI X i ∧ headI X i ≤ 65528 * B := by
  obtain ⟨a1, a2⟩ := wF_bd (4 + i)
  obtain ⟨b1, b2⟩ := wF_bd (3 - i)
  have := mul_bd' a1 a2 h1.1 h1.2
  have := mul_bd' b1 b2 h2.1 h2.2
  unfold headI; omega
theorem tailI_bd {n : Nat} {X : Nat → Int} {i : Nat} {B : Int} (h1 : -B ≤ X (n + 3 - i) ∧ X (n + 3 - i) ≤ B) (h2 : -B ≤ X (n + 4 + i) ∧ X (n + 4 + i) ≤ B) : -(65528 * B) ≤ tailI n X i ∧ tailI n X i ≤ 65528 * B := by
  obtain ⟨a1, a2⟩ := wF_bd (4 + i)
  obtain ⟨b1, b2⟩ := wF_bd (3 - i)
  have := mul_bd' a1 a2 h1.1 h1.2
  have := mul_bd' b1 b2 h2.1 h2.2
  unfold tailI; omega
/-- What a block u of n leaves to its left, to its right. -/
def wLeftF (u : Nat → Int) (j : Nat) : Int := wF j * u (if j < 4 then 3 - j else j - 4)
def wRightF (n : Nat) (u : Nat → Int) (j : Nat) : Int := if j < 4 then wF (7 - j) * u (n - 4 + j) else -wF (7 - j) * u (n + 3 - j)
/-- What both leave, together, at one place. -/
def wMeetF (a b : Int) : Int := if -70368744177664 ≤ a ∧ a ≤ 70368744177664 ∧ -70368744177664 ≤ b ∧ b ≤ 70368744177664 then sh15 (a + b) else 0
/-- Is it a block's count? -/
def blkB (n : Nat) : Bool := n == 8 || n == 64
theorem blkB_iff {n : Nat} : blkB n = true ↔ n = 8 ∨ n = 64 := by simp [blkB]

theorem fold_bd {n : Nat} {X : Nat → Int} {B : Int} (hn : n = 8 ∨ n = 64) (hB : 0 ≤ B) (h : ∀ i, i < n + 8 → -B ≤ X i ∧ X i ≤ B) {k : Nat} (hk : k < n) : -(2 * B) ≤ wFoldF n X k ∧ wFoldF n X k ≤ 2 * B := by
  unfold wFoldF
  split
  · have := headI_bd (h (4 + k) (by omega)) (h (3 - k) (by omega))
    exact sh15_bd (by omega) (by omega)
  · split
    · have := tailI_bd (n := n) (h (n + 3 - (n - 1 - k)) (by omega)) (h (n + 4 + (n - 1 - k)) (by omega))
      exact sh15_bd (by omega) (by omega)
    · have := h (4 + k) (by omega)
      omega
/-- P11.3 at one place. -/
theorem meets {x : Nat → Int} (bx : ∀ i, -32768 ≤ x i ∧ x i ≤ 32767) (j : Nat) (hj : j < 8) :
    -3 ≤ wMeetF (wRightF 8 (wFoldF 8 x) j) (wLeftF (wFoldF 8 fun i => x (8 + i)) j) - x (8 + j) ∧ wMeetF (wRightF 8 (wFoldF 8 x) j) (wLeftF (wFoldF 8 fun i => x (8 + i)) j) - x (8 + j) ≤ 3 := by
  have hb := bx
  have h8 := bx 8; have h9 := bx 9; have h10 := bx 10; have h11 := bx 11; have h12 := bx 12; have h13 := bx 13; have h14 := bx 14; have h15 := bx 15
  clear bx hb
  match j, hj with
  | 0, _ =>
    have e1 : wRightF 8 (wFoldF 8 x) 0 = 32764 * sh15 (32764 * x 8 - 494 * x 15) := rfl
    have e2 : wLeftF (wFoldF 8 fun i => x (8 + i)) 0 = 494 * sh15 (32764 * x 15 + 494 * x 8) := rfl
    rw [e1, e2, show x (8 + 0) = x 8 from rfl]
    unfold wMeetF sh15
    rw [if_pos (by omega)]
    omega
  | 1, _ =>
    have e1 : wRightF 8 (wFoldF 8 x) 1 = 32481 * sh15 (32481 * x 9 - 4325 * x 14) := rfl
    have e2 : wLeftF (wFoldF 8 fun i => x (8 + i)) 1 = 4325 * sh15 (32481 * x 14 + 4325 * x 9) := rfl
    rw [e1, e2, show x (8 + 1) = x 9 from rfl]
    unfold wMeetF sh15
    rw [if_pos (by omega)]
    omega
  | 2, _ =>
    have e1 : wRightF 8 (wFoldF 8 x) 2 = 30792 * sh15 (30792 * x 10 - 11207 * x 13) := rfl
    have e2 : wLeftF (wFoldF 8 fun i => x (8 + i)) 2 = 11207 * sh15 (30792 * x 13 + 11207 * x 10) := rfl
    rw [e1, e2, show x (8 + 2) = x 10 from rfl]
    unfold wMeetF sh15
    rw [if_pos (by omega)]
    omega
  | 3, _ =>
    have e1 : wRightF 8 (wFoldF 8 x) 3 = 26435 * sh15 (26435 * x 11 - 19363 * x 12) := rfl
    have e2 : wLeftF (wFoldF 8 fun i => x (8 + i)) 3 = 19363 * sh15 (26435 * x 12 + 19363 * x 11) := rfl
    rw [e1, e2, show x (8 + 3) = x 11 from rfl]
    unfold wMeetF sh15
    rw [if_pos (by omega)]
    omega
  | 4, _ =>
    have e1 : wRightF 8 (wFoldF 8 x) 4 = -19363 * sh15 (26435 * x 11 - 19363 * x 12) := rfl
    have e2 : wLeftF (wFoldF 8 fun i => x (8 + i)) 4 = 26435 * sh15 (26435 * x 12 + 19363 * x 11) := rfl
    rw [e1, e2, show x (8 + 4) = x 12 from rfl]
    unfold wMeetF sh15
    rw [if_pos (by omega)]
    omega
  | 5, _ =>
    have e1 : wRightF 8 (wFoldF 8 x) 5 = -11207 * sh15 (30792 * x 10 - 11207 * x 13) := rfl
    have e2 : wLeftF (wFoldF 8 fun i => x (8 + i)) 5 = 30792 * sh15 (30792 * x 13 + 11207 * x 10) := rfl
    rw [e1, e2, show x (8 + 5) = x 13 from rfl]
    unfold wMeetF sh15
    rw [if_pos (by omega)]
    omega
  | 6, _ =>
    have e1 : wRightF 8 (wFoldF 8 x) 6 = -4325 * sh15 (32481 * x 9 - 4325 * x 14) := rfl
    have e2 : wLeftF (wFoldF 8 fun i => x (8 + i)) 6 = 32481 * sh15 (32481 * x 14 + 4325 * x 9) := rfl
    rw [e1, e2, show x (8 + 6) = x 14 from rfl]
    unfold wMeetF sh15
    rw [if_pos (by omega)]
    omega
  | 7, _ =>
    have e1 : wRightF 8 (wFoldF 8 x) 7 = -494 * sh15 (32764 * x 8 - 494 * x 15) := rfl
    have e2 : wLeftF (wFoldF 8 fun i => x (8 + i)) 7 = 32764 * sh15 (32764 * x 15 + 494 * x 8) := rfl
    rw [e1, e2, show x (8 + 7) = x 15 from rfl]
    unfold wMeetF sh15
    rw [if_pos (by omega)]
    omega
end Go.Proofs.YtfhcfdepjhdhfaaDoor
/-
  The slope where it stands; the contracts of window.isBlock, within and facing.
-/
namespace Go.Proofs.YtfhcfdepjhdhfaaDoor
open Go.ChangeShapes Go.WideShapes Go.ChangeAt Go.RowKit
set_option linter.unusedVariables false

/-- The package's slope stands where it was laid. -/
def STab (w : World) : Prop := ∃ t fr, w.heap[0]? = some (.cells (rowA 8 wF) t fr)
theorem STab.cell {w : World} (h : STab w) {j : Nat} (hj : j < 8) : w.cell? ⟨0, j, none⟩ = some (.int .i64 (wF j)) := by
  obtain ⟨t, fr, h⟩ := h
  rw [cell_of_row w _ j _ t fr h, rowA_get hj]
theorem STab.lt {w : World} (h : STab w) : 0 < w.heap.size := by
  obtain ⟨t, fr, h⟩ := h
  exact (Array.getElem?_eq_some_iff.1 h).1
theorem STab.frame {B : Nat} {w w' : World} (h : STab w) (hb : Below B w w') (hB : 0 < B) : STab w' := by
  obtain ⟨t, fr, h⟩ := h
  exact ⟨t, fr, (hb.block _ hB).trans h⟩
theorem STab.below {w w' : World} (h : STab w) (hb : Below w.heap.size w w') : STab w' := h.frame hb h.lt
theorem isBlock_any (n : Int) (w : World) : Calls Tryd.prog 48 #[.int .i64 n] w fun e w' => e = .returned (.bool (n == 8 || n == 64)) ∧ w' = w := by
  by_cases h : n = 8
  · subst h
    go_enter Tryd.func48, Tryd.ntmps48
    go_wp2
    go_ret
    exact ⟨rfl, rfl⟩
  · have h1 : (n == 8) = false := by simpa using h
    rw [h1]
    go_enter Tryd.func48, Tryd.ntmps48
    go_wp2
    go_ret
    exact ⟨by simp, rfl⟩
theorem facing_any (k : Nat) (hk : k < 4) (w : World) : Calls Tryd.prog 49 #[.int .i64 (k : Int)] w fun e w' => e = .returned (.tuple #[.int .i64 ((3 - k : Nat) : Int), .int .i64 ((4 + k : Nat) : Int)]) ∧ w' = w := by
  go_enter Tryd.func49, Tryd.ntmps49
  go_wp2
  go_ret2
  exact ⟨ret_two ⟨by omega, by omega⟩, rfl⟩
/-- window.within. -/
theorem wwithin_any (B : Int) (hB : 0 ≤ B ∧ B ≤ 4611686018427387904) (a : Option Addr) (len cap : Nat) (X : Nat → Int) (hl : len ≤ 1000) (w : World) (h : IsInts w a len cap X) :
    Calls Tryd.prog 46 #[.int .i64 B, .slice a len cap] w fun e w' => e = .returned (.bool (allIn (-B) B X len)) ∧ w' = w := by
  rcases h with rfl | ⟨b, off, rfl, h1, h2, h3, hc⟩
  · go_enter Tryd.func46, Tryd.ntmps46
    go_wp2
    go_loop [9] (fun i => i = .int .i64 0) (fun i => 0)
    case atStart => rfl
    case round =>
      subst hrel
      go_wp2
      go_ret
      exact ⟨rfl, rfl⟩
  · clear h1 h2 h3
    obtain ⟨hB1, hB2⟩ := hB
    have hneg : wrap64 (-B) = -B := by unfold wrap64; omega
    go_enter Tryd.func46, Tryd.ntmps46
    go_wp2
    go_loop [9] (fun i => ∃ k : Nat, k ≤ len ∧ i = .int .i64 k ∧ allIn (-B) B X k = true) (fun i => len - (intOf i).toNat)
    case atStart => exact ⟨0, Nat.zero_le _, rfl, rfl⟩
    case round =>
      obtain ⟨k, hk, rfl, hall⟩ := hrel
      have HA : Hid (allIn (-B) B X k = true) := hall
      clear hall
      by_cases hlt : k < len
      · have hck := hc k hlt
        clear hc
        by_cases h1 : X k < -B
        · go_wp2
          go_ret
          exact ⟨ret_bool (allIn_no hlt (by omega)).symm, rfl⟩
        · by_cases h2 : B < X k
          · go_wp2
            go_ret
            exact ⟨ret_bool (allIn_no hlt (by omega)).symm, rfl⟩
          · go_wp2
            go_round
            case rel => exact ⟨k + 1, by omega, by go_num, by simp [allIn, HA.out]; omega⟩
            case measure => simp [intOf]; omega
      · clear hc
        go_wp2
        go_ret
        obtain rfl : k = len := by omega
        exact ⟨ret_bool HA.out.symm, rfl⟩
end Go.Proofs.YtfhcfdepjhdhfaaDoor
/-
  The slope as it is laid.
-/
namespace Go.Proofs.YtfhcfdepjhdhfaaDoor
open Go.ChangeShapes Go.WideShapes Go.ChangeAt Go.RowKit
set_option linter.unusedVariables false

theorem stab_of_reads {w : World} (h : Lib.VarReads Tryd.prog w "splicer/window.slope" Rows.laid_splicer_window_slope) : STab w := by
  obtain ⟨g, t, cs, fuel, p, hg, hty, hvar, hd⟩ := h
  obtain rfl := Option.some.inj ((show Tryd.prog.globalNamed "splicer/window.slope" = some 0 by kernel_rfl).symm.trans hg)
  obtain rfl := Option.some.inj ((show (Tryd.prog.globals[0]?).map (·.type) = some 22 by kernel_rfl).symm.trans hty)
  have hcs := Lib.cells_of_tab (zs := [494, 4325, 11207, 19363, 26435, 30792, 32481, 32764]) (k := .i64) Tryd.underlying22 Tryd.underlying3 (by kernel_rfl) (by kernel_rfl) hd
  have e : cs = rowA 8 wF := by
    have h0 : (rowA 8 wF).toList = [494, 4325, 11207, 19363, 26435, 30792, 32481, 32764].map (Value.int .i64) := rfl
    exact Array.toList_inj.1 (hcs.trans h0.symm)
  subst e
  simp only [World.var?, hg, Option.bind_some] at hvar
  split at hvar
  · rename_i c t fr hh
    obtain rfl := Option.some.inj hvar
    exact ⟨t, fr, hh⟩
  · cases hvar
theorem stab_of_laid {w : World} {l : List (String × DataW Unit)} (hp : (l.all fun x => x.2.handleName?.isNone) = true) (h : laidMetH Tryd.prog l w) (hm : ("splicer/window.slope", Rows.laid_splicer_window_slope) ∈ l) : STab w := by
  rw [MakeChecks.laidMetH_plain _ _ _ hp] at h
  exact stab_of_reads (Lib.laidMet.reads h hm)

end Go.Proofs.YtfhcfdepjhdhfaaDoor
/-
  Two arrays of one's own; the contracts of window.shared, Left and Right.
-/
namespace Go.Proofs.YtfhcfdepjhdhfaaDoor
open Go.ChangeShapes Go.WideShapes Go.ChangeAt Go.RowKit
set_option linter.unusedVariables false

/-- Two arrays of one's own: r is handed back in the end, q is filled. -/
structure Twin (B r q : Nat) (Z X : Nat → Int) (w0 w : World) : Prop where
  rB : B ≤ r
  qB : B ≤ q
  ne : r ≠ q
  a : ArrAt r Z w
  b : ArrAt q X w
  bel : Below B w0 w
theorem Twin.set {B r q : Nat} {Z X : Nat → Int} {w0 w : World} (h : Twin B r q Z X w0 w) {j : Nat} (hj : j < 8) (v : Int) : Twin B r q Z (upd X j v) w0 (w.setCell ⟨q, j, none⟩ (.int .i64 v)) :=
  ⟨h.rB, h.qB, h.ne, h.a.other h.ne _, h.b.set hj v, h.bel.setCell (show B ≤ (Addr.mk q j none).block from h.qB) _⟩
theorem Twin.congr {B r q : Nat} {Z X Y : Nat → Int} {w0 w : World} (h : Twin B r q Z X w0 w) (e : ∀ i, i < 8 → X i = Y i) : Twin B r q Z Y w0 w :=
  ⟨h.rB, h.qB, h.ne, h.a, h.b.congr e, h.bel⟩
theorem Twin.drewN {B r q : Nat} {Z X : Nat → Int} {w0 w : World} (h : Twin B r q Z X w0 w) (n : Nat) : Twin B r q Z X w0 (w.drewN n) := by
  refine ⟨h.rB, h.qB, h.ne, ?_, ?_, below_drewN h.bel n⟩
  · have : (w.drewN n).heap = w.heap := by simp
    show (w.drewN n).heap[r]? = _
    rw [this]; exact h.a
  · have : (w.drewN n).heap = w.heap := by simp
    show (w.drewN n).heap[q]? = _
    rw [this]; exact h.b
theorem Twin.drew {B r q : Nat} {Z X : Nat → Int} {w0 w : World} (h : Twin B r q Z X w0 w) : Twin B r q Z X w0 w.drew := h.drewN 1
theorem Twin.tr {B r q : Nat} {Z X : Nat → Int} {w0 w w' : World} (h : Twin B r q Z X w0 w) (hb : Below w.heap.size w w') : Twin B r q Z X w0 w' :=
  ⟨h.rB, h.qB, h.ne, h.a.below hb, h.b.below hb, h.bel.trans (hb.mono (Nat.le_trans h.qB (Nat.le_of_lt h.b.lt)))⟩
theorem Twin.last {B r q : Nat} {Z X : Nat → Int} {w0 w : World} (h : Twin B r q Z X w0 w) : ArrAt r X (w.setRow r (rowA 8 X)) ∧ Below B w0 (w.setRow r (rowA 8 X)) :=
  ⟨h.a.laid X, below_setRow h.bel h.rB _⟩
theorem made_twin (w : World) : Twin w.heap.size w.heap.size (w.heap.size + 1) (fun _ => 0) (fun _ => 0) w ((w.alloc (.cells #[Value.int .i64 0, Value.int .i64 0, Value.int .i64 0, Value.int .i64 0, Value.int .i64 0, Value.int .i64 0, Value.int .i64 0, Value.int .i64 0] 22)).alloc (.cells #[Value.int .i64 0, Value.int .i64 0, Value.int .i64 0, Value.int .i64 0, Value.int .i64 0, Value.int .i64 0, Value.int .i64 0, Value.int .i64 0] 22)) := by
  have h1 := arr_new0 w
  have h2 := arr_new0 (w.alloc (.cells #[Value.int .i64 0, Value.int .i64 0, Value.int .i64 0, Value.int .i64 0, Value.int .i64 0, Value.int .i64 0, Value.int .i64 0, Value.int .i64 0] 22))
  rw [al_size] at h2
  exact ⟨Nat.le_refl _, by omega, by omega, arr_old0 h1, h2, ((Below.refl _ w).alloc (Nat.le_refl _) _).alloc (by rw [al_size]; omega) _⟩
/-- The first k places are told. -/
def upto (k : Nat) (Y : Nat → Int) : Nat → Int := fun j => if j < k then Y j else 0
theorem upto_next {k : Nat} (Y : Nat → Int) (i : Nat) : upd (upto k Y) k (Y k) i = upto (k + 1) Y i := by
  unfold upd upto
  by_cases e : i = k
  · subst e; rw [if_pos rfl, if_pos (by omega)]
  · rw [if_neg e]
    by_cases h : i < k
    · rw [if_pos h, if_pos (by omega)]
    · rw [if_neg h, if_neg (by omega)]
theorem upto_all (Y : Nat → Int) (i : Nat) (h : i < 8) : upto 8 Y i = Y i := by rw [upto, if_pos h]

theorem shared_any (f : Nat) (a : Option Addr) (len cap : Nat) (X : Nat → Int) (hl : len ≤ 1000) (hf : f + 8 ≤ len) (w : World) (h : IsInts w a len cap X) :
    Calls Tryd.prog 59 #[.slice a len cap, .int .i64 (f : Int)] w fun e w' => e = .returned (arr8 fun k => X (f + k)) ∧ Below w.heap.size w w' := by
  obtain ⟨b, off, rfl, hc⟩ := h.cells (by omega)
  obtain ⟨B, hB, HT⟩ : ∃ B, B = w.heap.size ∧ Hid (Twin B w.heap.size (w.heap.size + 1) (fun _ => 0) (fun _ => 0) w ((w.alloc (.cells #[Value.int .i64 0, Value.int .i64 0, Value.int .i64 0, Value.int .i64 0, Value.int .i64 0, Value.int .i64 0, Value.int .i64 0, Value.int .i64 0] 22)).alloc (.cells #[Value.int .i64 0, Value.int .i64 0, Value.int .i64 0, Value.int .i64 0, Value.int .i64 0, Value.int .i64 0, Value.int .i64 0, Value.int .i64 0] 22))) := ⟨_, rfl, made_twin w⟩
  rw [← hB] at hc
  have HB := hid hB
  have HC := hid hc
  clear hc h hB
  go_enter Tryd.func59, Tryd.ntmps59
  go_wp2
  generalize ((w.alloc (.cells #[Value.int .i64 0, Value.int .i64 0, Value.int .i64 0, Value.int .i64 0, Value.int .i64 0, Value.int .i64 0, Value.int .i64 0, Value.int .i64 0] 22)).alloc (.cells #[Value.int .i64 0, Value.int .i64 0, Value.int .i64 0, Value.int .i64 0, Value.int .i64 0, Value.int .i64 0, Value.int .i64 0, Value.int .i64 0] 22)) = W at HT ⊢
  generalize w.heap.size + 1 = q at HT ⊢
  generalize w.heap.size = r at HT ⊢
  go_loopw [7] (fun i wr => ∃ k : Nat, k ≤ 8 ∧ i = .int .i64 k ∧ Hid (Twin B r q (fun _ => 0) (upto k fun k => X (f + k)) w wr)) (fun i _ => 8 - (intOf i).toNat)
  case atStart => exact ⟨0, Nat.zero_le _, rfl, HT⟩
  case round =>
    clear HT
    obtain ⟨k, hk, rfl, HT⟩ := hrel
    by_cases hlt : k < 8
    · have hcx := HC.out _ HT.out.bel (f + k) (by omega)
      have hcq := HT.out.b.get hlt
      have hfq := HT.out.b.frozen k
      have HN := hid ((HT.out.set hlt (X (f + k))).congr (fun i _ => upto_next (fun k => X (f + k)) i))
      generalize X (f + k) = x at *
      go_wp2
      exact ⟨⟨k + 1, by omega, by go_num, HN⟩, by simp [intOf]; omega⟩
    · obtain rfl : k = 8 := by omega
      have HL := HT.out.last
      go_wp2_with (first | (refine wp_load8 rfl rfl rfl HT.out.b ?_) | (refine wp_store8 rfl rfl rfl rfl HT.out.a ?_))
      refine bodyPost_ret (ret8 rfl _ rfl HL.1) rfl ⟨by rw [arr8_congr (upto_all fun k => X (f + k))], ?_⟩
      rw [← HB.out]; exact HL.2
/-- The places next to the middle are told, k on each side. -/
def mid (k : Nat) (Y : Nat → Int) : Nat → Int := fun j => if 4 ≤ j + k ∧ j < 4 + k then Y j else 0
theorem mid_next {k : Nat} (hk : k < 4) (Y : Nat → Int) (i : Nat) : upd (upd (mid k Y) (4 + k) (Y (4 + k))) (3 - k) (Y (3 - k)) i = mid (k + 1) Y i := by
  unfold upd mid
  by_cases e : i = 3 - k
  · subst e; rw [if_pos rfl, if_pos (by omega)]
  · rw [if_neg e]
    by_cases e2 : i = 4 + k
    · subst e2; rw [if_pos rfl, if_pos (by omega)]
    · rw [if_neg e2]
      by_cases h : 4 ≤ i + k ∧ i < 4 + k
      · rw [if_pos h, if_pos (by omega)]
      · rw [if_neg h, if_neg (by omega)]
theorem mid_next' {k : Nat} (hk : k < 4) (Y : Nat → Int) (i : Nat) : upd (upd (mid k Y) (3 - k) (Y (3 - k))) (4 + k) (Y (4 + k)) i = mid (k + 1) Y i := by
  rw [← mid_next hk Y i]
  unfold upd
  by_cases e : i = 3 - k
  · rw [if_neg (by omega), if_pos e, if_pos e]
  · by_cases e2 : i = 4 + k
    · rw [if_pos e2, if_neg e, if_pos e2]
    · rw [if_neg e2, if_neg e, if_neg e, if_neg e2]
theorem mid_all (Y : Nat → Int) (i : Nat) (h : i < 8) : mid 4 Y i = Y i := by rw [mid, if_pos (by omega)]
theorem mid_zero (Y : Nat → Int) (i : Nat) : (0 : Int) = mid 0 Y i := by rw [mid, if_neg (by omega)]
theorem left_up {X : Nat → Int} {k : Nat} (hk : k < 4) : wLeftF X (4 + k) = wF (4 + k) * X k := by
  rw [wLeftF, if_neg (by omega), show 4 + k - 4 = k by omega]
theorem left_dn {X : Nat → Int} {k : Nat} (hk : k < 4) : wLeftF X (3 - k) = wF (3 - k) * X k := by
  rw [wLeftF, if_pos (by omega), show 3 - (3 - k) = k by omega]
theorem wwr_in {x : Int} (h : -9223372036854775808 ≤ x ∧ x ≤ 9223372036854775807) : wrap64 x = x := by unfold wrap64; omega
/-- Numbers of a block lie from -2^30 to 2^30. -/
abbrev Fit30 (X : Nat → Int) (n : Nat) : Prop := ∀ i, i < n → -1073741824 ≤ X i ∧ X i ≤ 1073741824

/-- Is it a block, of numbers that are not too great? -/
def blk30 (X : Nat → Int) (n : Nat) : Bool := (n == 8 || n == 64) && allIn (-1073741824) 1073741824 X n
theorem blk30_iff {X : Nat → Int} {n : Nat} : blk30 X n = true ↔ (n = 8 ∨ n = 64) ∧ Fit30 X n := by
  simp [blk30, allIn_iff]
theorem isBlock_nat (n : Nat) (w : World) : Calls Tryd.prog 48 #[.int .i64 (n : Int)] w fun e w' => e = .returned (.bool (n == 8 || n == 64)) ∧ w' = w := by
  have h := isBlock_any (n : Int) w
  have e : (((n : Int) == 8 || (n : Int) == 64)) = (n == 8 || n == 64) := by
    by_cases h8 : n = 8
    · subst h8; rfl
    · by_cases h64 : n = 64
      · subst h64; rfl
      · have a1 : ((n : Int) == 8) = false := by simp; omega
        have a2 : ((n : Int) == 64) = false := by simp; omega
        have a3 : (n == 8) = false := by simpa using h8
        have a4 : (n == 64) = false := by simpa using h64
        rw [a1, a2, a3, a4]
  rwa [e] at h
theorem left_yes (n : Nat) (hn : n = 8 ∨ n = 64) (a : Option Addr) (cap : Nat) (X : Nat → Int) (hX : Fit30 X n) (w : World) (ht : STab w) (h : IsInts w a n cap X) :
    Calls Tryd.prog 26 #[.slice a n cap] w fun e w' => e = .returned (arr8 (wLeftF X)) ∧ Below w.heap.size w w' := by
  have K1 : Hid (∀ W, Calls Tryd.prog 48 #[.int .i64 (n : Int)] W fun e w' => e = .returned (.bool true) ∧ w' = W) := fun W => by
    have := isBlock_any (n : Int) W
    rwa [show (((n : Int) == 8 || (n : Int) == 64) = true) by rcases hn with rfl | rfl <;> rfl] at this
  have K2 : Hid (∀ W, Below w.heap.size w W → Calls Tryd.prog 46 #[.int .i64 1073741824, .slice a n cap] W fun e w' => e = .returned (.bool true) ∧ w' = W) := fun W hW => by
    have := wwithin_any 1073741824 (by omega) a n cap X (by omega) W (h.below hW)
    rwa [(allIn_iff (-1073741824) 1073741824 X n).2 hX] at this
  have K3 := hid facing_any
  obtain ⟨b, off, rfl, hc⟩ := h.cells (by omega)
  obtain ⟨B, hB, HT⟩ : ∃ B, B = w.heap.size ∧ Hid (Twin B w.heap.size (w.heap.size + 1) (fun _ => 0) (fun _ => 0) w ((w.alloc (.cells #[Value.int .i64 0, Value.int .i64 0, Value.int .i64 0, Value.int .i64 0, Value.int .i64 0, Value.int .i64 0, Value.int .i64 0, Value.int .i64 0] 22)).alloc (.cells #[Value.int .i64 0, Value.int .i64 0, Value.int .i64 0, Value.int .i64 0, Value.int .i64 0, Value.int .i64 0, Value.int .i64 0, Value.int .i64 0] 22))) := ⟨_, rfl, made_twin w⟩
  rw [← hB] at hc K2
  have HS := hid (fun W (hW : Below B w W) => ht.frame hW (by rw [hB]; exact ht.lt))
  have HB := hid hB
  have HC := hid hc
  have HX := hid hX
  clear hc h hB ht hX
  go_enter Tryd.func26, Tryd.ntmps26
  go_wp2_with (first
    | (go_at_call 48; (with_reducible refine (K1.out _).mono ?_); rintro e w1 ⟨rfl, rfl⟩)
    | (go_at_call 46; (with_reducible refine (K2.out _ HT.out.bel).mono ?_); rintro e w1 ⟨rfl, rfl⟩))
  generalize ((w.alloc (.cells #[Value.int .i64 0, Value.int .i64 0, Value.int .i64 0, Value.int .i64 0, Value.int .i64 0, Value.int .i64 0, Value.int .i64 0, Value.int .i64 0] 22)).alloc (.cells #[Value.int .i64 0, Value.int .i64 0, Value.int .i64 0, Value.int .i64 0, Value.int .i64 0, Value.int .i64 0, Value.int .i64 0, Value.int .i64 0] 22)) = W at HT ⊢
  generalize w.heap.size + 1 = q at HT ⊢
  generalize w.heap.size = r at HT ⊢
  go_loopw [17] (fun i wr => ∃ k : Nat, k ≤ 4 ∧ i = .int .i64 k ∧ Hid (Twin B r q (fun _ => 0) (mid k (wLeftF X)) w wr)) (fun i _ => 4 - (intOf i).toNat)
  case atStart => exact ⟨0, Nat.zero_le _, rfl, HT.out.congr fun i _ => mid_zero _ i⟩
  case round =>
    clear HT
    obtain ⟨k, hk, rfl, HT⟩ := hrel
    by_cases hlt : k < 4
    · have hcx := HC.out _ HT.out.bel k (by omega)
      have hsu := (HS.out _ HT.out.bel).cell (j := 4 + k) (by omega)
      have hsv := (HS.out _ HT.out.bel).cell (j := 3 - k) (by omega)
      have hcu := HT.out.b.get (j := 4 + k) (by omega)
      have hfu := HT.out.b.frozen (4 + k)
      have HF := hid (K3.out k hlt wr)
      have bx := HX.out k (by omega)
      have bu := wF_bd (4 + k)
      have bv := wF_bd (3 - k)
      have m1 := wwr_in (x := wF (4 + k) * X k) (by have := mul_bd' bu.1 bu.2 bx.1 bx.2; omega)
      have m2 := wwr_in (x := wF (3 - k) * X k) (by have := mul_bd' bv.1 bv.2 bx.1 bx.2; omega)
      have HN : Hid (∀ W1, Twin B r q (fun _ => 0) (upd (mid k (wLeftF X)) (4 + k) (wF (4 + k) * X k)) w W1 → Twin B r q (fun _ => 0) (mid (k + 1) (wLeftF X)) w (W1.setCell ⟨q, 3 - k, none⟩ (.int .i64 (wF (3 - k) * X k)))) := fun W1 h1 =>
        (h1.set (j := 3 - k) (by omega) _).congr (fun i _ => by rw [← left_up hlt, ← left_dn hlt]; exact mid_next hlt (wLeftF X) i)
      have hu8 : 4 + k < 8 := by omega
      have hv8 : 3 - k < 8 := by omega
      clear bx bu bv
      have ⟨x, hx⟩ : ∃ x, x = X k := ⟨_, rfl⟩
      have ⟨sv, hsv'⟩ : ∃ s, s = wF (3 - k) := ⟨_, rfl⟩
      rw [← hx] at m1 m2 hcx HN
      rw [← hsv'] at m2 HN
      clear hsv
      have HXE := hid hx
      generalize hvv : 3 - k = v at *
      have HV := hid hsv'
      clear hx hsv' hvv
      generalize wF (4 + k) = su at *
      generalize 4 + k = u at *
      go_wp2_with (go_at_call 49; (with_reducible refine HF.out.mono ?_); rintro e w1 ⟨rfl, rfl⟩)
      go_region
      have HW := hid ((HT.out.set hu8 (su * x)).drew)
      generalize (w1.setCell ⟨q, u, none⟩ (.int .i64 (su * x))).drew = W1 at HW ⊢
      have hcx := HC.out _ HW.out.bel k (by omega)
      have hsv := (HS.out _ HW.out.bel).cell hv8
      rw [← HV.out] at hsv
      have hcv := HW.out.b.get hv8
      have hfv := HW.out.b.frozen v
      rw [← HXE.out] at hcx
      clear hsu hcu hfu HT
      go_wp2
      go_region
      have HZ := hid (HN.out _ HW.out).drew
      generalize (W1.setCell ⟨q, v, none⟩ (.int .i64 (sv * x))).drew = W2 at HZ ⊢
      go_wp2
      exact ⟨⟨k + 1, by omega, by go_num, HZ⟩, by simp [intOf]; omega⟩
    · obtain rfl : k = 4 := by omega
      have HL := HT.out.last
      go_wp2_with (first | (refine wp_load8 rfl rfl rfl HT.out.b ?_) | (refine wp_store8 rfl rfl rfl rfl HT.out.a ?_))
      refine bodyPost_ret (ret8 rfl _ rfl HL.1) rfl ⟨by rw [arr8_congr (mid_all (wLeftF X))], ?_⟩
      rw [← HB.out]; exact HL.2
theorem left_no (n : Nat) (a : Option Addr) (cap : Nat) (X : Nat → Int) (hl : n ≤ 1000) (hX : blk30 X n = false) (w : World) (h : IsInts w a n cap X) :
    Calls Tryd.prog 26 #[.slice a n cap] w fun e w' => e = .returned (arr8 fun _ => 0) ∧ Below w.heap.size w w' := by
  have K1 := hid (isBlock_nat n)
  have K2 : Hid (∀ W, Below w.heap.size w W → Calls Tryd.prog 46 #[.int .i64 1073741824, .slice a n cap] W fun e w' => e = .returned (.bool (allIn (-1073741824) 1073741824 X n)) ∧ w' = W) := fun W hW =>
    wwithin_any 1073741824 (by omega) a n cap X hl W (h.below hW)
  obtain ⟨B, hB, HT⟩ : ∃ B, B = w.heap.size ∧ Hid (Twin B w.heap.size (w.heap.size + 1) (fun _ => 0) (fun _ => 0) w ((w.alloc (.cells #[Value.int .i64 0, Value.int .i64 0, Value.int .i64 0, Value.int .i64 0, Value.int .i64 0, Value.int .i64 0, Value.int .i64 0, Value.int .i64 0] 22)).alloc (.cells #[Value.int .i64 0, Value.int .i64 0, Value.int .i64 0, Value.int .i64 0, Value.int .i64 0, Value.int .i64 0, Value.int .i64 0, Value.int .i64 0] 22))) := ⟨_, rfl, made_twin w⟩
  rw [← hB] at K2
  have HB := hid hB
  have HL := HT.out.last
  clear h hB
  unfold blk30 at hX
  by_cases hn : (n == 8 || n == 64) = true
  · rw [hn, Bool.true_and] at hX
    rw [hX] at K2
    rw [hn] at K1
    clear hn hX
    go_enter Tryd.func26, Tryd.ntmps26
    go_wp2_with (first
      | (go_at_call 48; (with_reducible refine (K1.out _).mono ?_); rintro e w1 ⟨rfl, rfl⟩)
      | (go_at_call 46; (with_reducible refine (K2.out _ HT.out.bel).mono ?_); rintro e w1 ⟨rfl, rfl⟩)
      | (refine wp_load8 rfl rfl rfl HT.out.b ?_) | (refine wp_store8 rfl rfl rfl rfl HT.out.a ?_))
    refine bodyPost_ret (ret8 rfl _ rfl HL.1) rfl ⟨rfl, ?_⟩
    have e := HL.2; rw [HB.out] at e; exact e
  · have hn' : (n == 8 || n == 64) = false := by simpa using hn
    rw [hn'] at K1
    clear hn hn' hX
    go_enter Tryd.func26, Tryd.ntmps26
    go_wp2_with (first
      | (go_at_call 48; (with_reducible refine (K1.out _).mono ?_); rintro e w1 ⟨rfl, rfl⟩)
      | (refine wp_load8 rfl rfl rfl HT.out.b ?_) | (refine wp_store8 rfl rfl rfl rfl HT.out.a ?_))
    refine bodyPost_ret (ret8 rfl _ rfl HL.1) rfl ⟨rfl, ?_⟩
    have e := HL.2; rw [HB.out] at e; exact e
end Go.Proofs.YtfhcfdepjhdhfaaDoor
/-
  The contract of window.Right.
-/
namespace Go.Proofs.YtfhcfdepjhdhfaaDoor
open Go.ChangeShapes Go.WideShapes Go.ChangeAt Go.RowKit
set_option linter.unusedVariables false

theorem right_up {n : Nat} {X : Nat → Int} {k : Nat} (hk : k < 4) (hn : 8 ≤ n) : wRightF n X (4 + k) = -wF (3 - k) * X (n - 1 - k) := by
  rw [wRightF, if_neg (by omega), show 7 - (4 + k) = 3 - k by omega, show n + 3 - (4 + k) = n - 1 - k by omega]
theorem right_dn {n : Nat} {X : Nat → Int} {k : Nat} (hk : k < 4) (hn : 8 ≤ n) : wRightF n X (3 - k) = wF (4 + k) * X (n - 1 - k) := by
  rw [wRightF, if_pos (by omega), show 7 - (3 - k) = 4 + k by omega, show n - 4 + (3 - k) = n - 1 - k by omega]
theorem right_yes (n : Nat) (hn : n = 8 ∨ n = 64) (a : Option Addr) (cap : Nat) (X : Nat → Int) (hX : Fit30 X n) (w : World) (ht : STab w) (h : IsInts w a n cap X) :
    Calls Tryd.prog 28 #[.slice a n cap] w fun e w' => e = .returned (arr8 (wRightF n X)) ∧ Below w.heap.size w w' := by
  have K1 : Hid (∀ W, Calls Tryd.prog 48 #[.int .i64 (n : Int)] W fun e w' => e = .returned (.bool true) ∧ w' = W) := fun W => by
    have := isBlock_any (n : Int) W
    rwa [show (((n : Int) == 8 || (n : Int) == 64) = true) by rcases hn with rfl | rfl <;> rfl] at this
  have K2 : Hid (∀ W, Below w.heap.size w W → Calls Tryd.prog 46 #[.int .i64 1073741824, .slice a n cap] W fun e w' => e = .returned (.bool true) ∧ w' = W) := fun W hW => by
    have := wwithin_any 1073741824 (by omega) a n cap X (by omega) W (h.below hW)
    rwa [(allIn_iff (-1073741824) 1073741824 X n).2 hX] at this
  have K3 := hid facing_any
  obtain ⟨b, off, rfl, hc⟩ := h.cells (by omega)
  obtain ⟨B, hB, HT⟩ : ∃ B, B = w.heap.size ∧ Hid (Twin B w.heap.size (w.heap.size + 1) (fun _ => 0) (fun _ => 0) w ((w.alloc (.cells #[Value.int .i64 0, Value.int .i64 0, Value.int .i64 0, Value.int .i64 0, Value.int .i64 0, Value.int .i64 0, Value.int .i64 0, Value.int .i64 0] 22)).alloc (.cells #[Value.int .i64 0, Value.int .i64 0, Value.int .i64 0, Value.int .i64 0, Value.int .i64 0, Value.int .i64 0, Value.int .i64 0, Value.int .i64 0] 22))) := ⟨_, rfl, made_twin w⟩
  rw [← hB] at hc K2
  have HS := hid (fun W (hW : Below B w W) => ht.frame hW (by rw [hB]; exact ht.lt))
  have HB := hid hB
  have HC := hid hc
  have HX := hid hX
  clear hc h hB ht hX
  go_enter Tryd.func28, Tryd.ntmps28
  go_wp2_with (first
    | (go_at_call 48; (with_reducible refine (K1.out _).mono ?_); rintro e w1 ⟨rfl, rfl⟩)
    | (go_at_call 46; (with_reducible refine (K2.out _ HT.out.bel).mono ?_); rintro e w1 ⟨rfl, rfl⟩))
  generalize ((w.alloc (.cells #[Value.int .i64 0, Value.int .i64 0, Value.int .i64 0, Value.int .i64 0, Value.int .i64 0, Value.int .i64 0, Value.int .i64 0, Value.int .i64 0] 22)).alloc (.cells #[Value.int .i64 0, Value.int .i64 0, Value.int .i64 0, Value.int .i64 0, Value.int .i64 0, Value.int .i64 0, Value.int .i64 0, Value.int .i64 0] 22)) = W at HT ⊢
  generalize w.heap.size + 1 = q at HT ⊢
  generalize w.heap.size = r at HT ⊢
  go_loopw [18] (fun i wr => ∃ k : Nat, k ≤ 4 ∧ i = .int .i64 k ∧ Hid (Twin B r q (fun _ => 0) (mid k (wRightF n X)) w wr)) (fun i _ => 4 - (intOf i).toNat)
  case atStart => exact ⟨0, Nat.zero_le _, rfl, HT.out.congr fun i _ => mid_zero _ i⟩
  case round =>
    clear HT
    obtain ⟨k, hk, rfl, HT⟩ := hrel
    by_cases hlt : k < 4
    · have hcx := HC.out _ HT.out.bel (n - 1 - k) (by omega)
      have hsu := (HS.out _ HT.out.bel).cell (j := 4 + k) (by omega)
      have HW := hid (HT.out.set (j := 3 - k) (by omega) (wF (4 + k) * X (n - 1 - k)))
      have hsv := (HS.out _ HW.out.bel).cell (j := 3 - k) (by omega)
      have hcu := HW.out.b.get (j := 4 + k) (by omega)
      have hfu := HW.out.b.frozen (4 + k)
      have hcv := HT.out.b.get (j := 3 - k) (by omega)
      have hfv := HT.out.b.frozen (3 - k)
      have HF := hid (K3.out k hlt wr)
      have bx := HX.out (n - 1 - k) (by omega)
      have bu := wF_bd (4 + k)
      have bv := wF_bd (3 - k)
      have m1 := wwr_in (x := wF (4 + k) * X (n - 1 - k)) (by have := mul_bd' bu.1 bu.2 bx.1 bx.2; omega)
      have m0 := wwr_in (x := -wF (3 - k)) (by omega)
      have m2 := wwr_in (x := -wF (3 - k) * X (n - 1 - k)) (by have := mul_bd' bv.1 bv.2 bx.1 bx.2; rw [Int.neg_mul]; omega)
      have HN : Hid (∀ W1, Twin B r q (fun _ => 0) (upd (mid k (wRightF n X)) (3 - k) (wF (4 + k) * X (n - 1 - k))) w W1 → Twin B r q (fun _ => 0) (mid (k + 1) (wRightF n X)) w (W1.setCell ⟨q, 4 + k, none⟩ (.int .i64 (-wF (3 - k) * X (n - 1 - k))))) := fun W1 h1 =>
        (h1.set (j := 4 + k) (by omega) _).congr (fun i _ => by rw [← right_up (n := n) hlt (by omega), ← right_dn (n := n) hlt (by omega)]; exact mid_next' hlt (wRightF n X) i)
      have hu8 : 4 + k < 8 := by omega
      have hv8 : 3 - k < 8 := by omega
      have hzx : n - 1 - k < n := by omega
      have hix : ((n : Int) - 1 - (k : Int)) = ((n - 1 - k : Nat) : Int) := by omega
      clear bx bu bv
      generalize n - 1 - k = z at *
      generalize X z = x at *
      generalize wF (4 + k) = su at *
      have HN1 := hid (HN.out _ HW.out)
      clear HN HW
      generalize wF (3 - k) = sv at *
      generalize 3 - k = v at *
      generalize 4 + k = u at *
      go_wp2_with (go_at_call 49; (with_reducible refine HF.out.mono ?_); rintro e w1 ⟨rfl, rfl⟩)
      exact ⟨⟨k + 1, by omega, by go_num, HN1⟩, by simp [intOf]; omega⟩
    · obtain rfl : k = 4 := by omega
      have HL := HT.out.last
      go_wp2_with (first | (refine wp_load8 rfl rfl rfl HT.out.b ?_) | (refine wp_store8 rfl rfl rfl rfl HT.out.a ?_))
      refine bodyPost_ret (ret8 rfl _ rfl HL.1) rfl ⟨by rw [arr8_congr (mid_all (wRightF n X))], ?_⟩
      rw [← HB.out]; exact HL.2
theorem right_no (n : Nat) (a : Option Addr) (cap : Nat) (X : Nat → Int) (hl : n ≤ 1000) (hX : blk30 X n = false) (w : World) (h : IsInts w a n cap X) :
    Calls Tryd.prog 28 #[.slice a n cap] w fun e w' => e = .returned (arr8 fun _ => 0) ∧ Below w.heap.size w w' := by
  have K1 := hid (isBlock_nat n)
  have K2 : Hid (∀ W, Below w.heap.size w W → Calls Tryd.prog 46 #[.int .i64 1073741824, .slice a n cap] W fun e w' => e = .returned (.bool (allIn (-1073741824) 1073741824 X n)) ∧ w' = W) := fun W hW =>
    wwithin_any 1073741824 (by omega) a n cap X hl W (h.below hW)
  obtain ⟨B, hB, HT⟩ : ∃ B, B = w.heap.size ∧ Hid (Twin B w.heap.size (w.heap.size + 1) (fun _ => 0) (fun _ => 0) w ((w.alloc (.cells #[Value.int .i64 0, Value.int .i64 0, Value.int .i64 0, Value.int .i64 0, Value.int .i64 0, Value.int .i64 0, Value.int .i64 0, Value.int .i64 0] 22)).alloc (.cells #[Value.int .i64 0, Value.int .i64 0, Value.int .i64 0, Value.int .i64 0, Value.int .i64 0, Value.int .i64 0, Value.int .i64 0, Value.int .i64 0] 22))) := ⟨_, rfl, made_twin w⟩
  rw [← hB] at K2
  have HB := hid hB
  have HL := HT.out.last
  clear h hB
  unfold blk30 at hX
  by_cases hn : (n == 8 || n == 64) = true
  · rw [hn, Bool.true_and] at hX
    rw [hX] at K2
    rw [hn] at K1
    clear hn hX
    go_enter Tryd.func28, Tryd.ntmps28
    go_wp2_with (first
      | (go_at_call 48; (with_reducible refine (K1.out _).mono ?_); rintro e w1 ⟨rfl, rfl⟩)
      | (go_at_call 46; (with_reducible refine (K2.out _ HT.out.bel).mono ?_); rintro e w1 ⟨rfl, rfl⟩)
      | (refine wp_load8 rfl rfl rfl HT.out.b ?_) | (refine wp_store8 rfl rfl rfl rfl HT.out.a ?_))
    refine bodyPost_ret (ret8 rfl _ rfl HL.1) rfl ⟨rfl, ?_⟩
    have e := HL.2; rw [HB.out] at e; exact e
  · have hn' : (n == 8 || n == 64) = false := by simpa using hn
    rw [hn'] at K1
    clear hn hn' hX
    go_enter Tryd.func28, Tryd.ntmps28
    go_wp2_with (first
      | (go_at_call 48; (with_reducible refine (K1.out _).mono ?_); rintro e w1 ⟨rfl, rfl⟩)
      | (refine wp_load8 rfl rfl rfl HT.out.b ?_) | (refine wp_store8 rfl rfl rfl rfl HT.out.a ?_))
    refine bodyPost_ret (ret8 rfl _ rfl HL.1) rfl ⟨rfl, ?_⟩
    have e := HL.2; rw [HB.out] at e; exact e
end Go.Proofs.YtfhcfdepjhdhfaaDoor
/-
  The contract of window.Meet.
-/
namespace Go.Proofs.YtfhcfdepjhdhfaaDoor
open Go.ChangeShapes Go.WideShapes Go.ChangeAt Go.RowKit
set_option linter.unusedVariables false

/-- Do both lie from -2^46 to 2^46? -/
def in46 (a b : Int) : Bool := in1 (-70368744177664) 70368744177664 a && in1 (-70368744177664) 70368744177664 b
theorem in46_iff {a b : Int} : in46 a b = true ↔ -70368744177664 ≤ a ∧ a ≤ 70368744177664 ∧ -70368744177664 ≤ b ∧ b ≤ 70368744177664 := by
  simp [in46, in1]; omega
theorem wwithin2 (x y : Int) (w : World) (b : Nat) (hc : w.cell? ⟨b, 0, none⟩ = some (.int .i64 x)) (hd : w.cell? ⟨b, 1, none⟩ = some (.int .i64 y)) :
    Calls Tryd.prog 46 #[.int .i64 70368744177664, .slice (some ⟨b, 0, none⟩) 2 2] w fun e w' => e = .returned (.bool (in46 x y)) ∧ w' = w := by
  have h := wwithin_any 70368744177664 (by omega) (some ⟨b, 0, none⟩) 2 2 (fun i => if i = 0 then x else y) (by omega) w (.inr ⟨b, 0, rfl, block_lt_of_cell hc, by omega, by decide, by
    intro i hi
    rw [Nat.zero_add]
    by_cases e : i = 0
    · subst e; simpa using hc
    · obtain rfl : i = 1 := by omega
      simpa using hd⟩)
  simpa [allIn, in1, in46, Bool.and_assoc] using h
/-- The arrays that are handed in, in variables of their own, and two more. -/
structure Quad (B a b r q : Nat) (L R Z X : Nat → Int) (w0 w : World) : Prop where
  lc : ∀ W, Below B w0 W → ∀ j, j < 8 → W.cell? ⟨a, j, none⟩ = some (.int .i64 (L j))
  rc : ∀ W, Below B w0 W → ∀ j, j < 8 → W.cell? ⟨b, j, none⟩ = some (.int .i64 (R j))
  t : Twin B r q Z X w0 w
theorem Quad.tr {B a b r q : Nat} {L R Z X : Nat → Int} {w0 w w' : World} (h : Quad B a b r q L R Z X w0 w) (hb : Below w.heap.size w w') : Quad B a b r q L R Z X w0 w' := ⟨h.lc, h.rc, h.t.tr hb⟩
theorem Quad.set {B a b r q : Nat} {L R Z X Y : Nat → Int} {w0 w : World} (h : Quad B a b r q L R Z X w0 w) {j : Nat} (hj : j < 8) (v : Int) (e : ∀ i, upd X j v i = Y i) : Quad B a b r q L R Z Y w0 (w.setCell ⟨q, j, none⟩ (.int .i64 v)) :=
  ⟨h.lc, h.rc, (h.t.set hj v).congr fun i _ => e i⟩
theorem meetF_in {a b : Int} (h : in46 a b = true) : wMeetF a b = sh15 (a + b) := by rw [wMeetF, if_pos (in46_iff.1 h)]
theorem meetF_out {a b : Int} (h : ¬ in46 a b = true) : wMeetF a b = 0 := by rw [wMeetF, if_neg (fun k => h (in46_iff.2 k))]
theorem made_quad (L R : Nat → Int) (w w2 : World) (hw : w2 = (w.alloc (.cells (rowA 8 L) 22)).alloc (.cells (rowA 8 R) 22)) :
    Quad (w.heap.size + 1 + 1) w.heap.size (w.heap.size + 1) (w.heap.size + 1 + 1) (w.heap.size + 1 + 1 + 1) L R (fun _ => 0) (fun _ => 0) w2 ((w2.alloc (.cells #[Value.int .i64 0, Value.int .i64 0, Value.int .i64 0, Value.int .i64 0, Value.int .i64 0, Value.int .i64 0, Value.int .i64 0, Value.int .i64 0] 22)).alloc (.cells #[Value.int .i64 0, Value.int .i64 0, Value.int .i64 0, Value.int .i64 0, Value.int .i64 0, Value.int .i64 0, Value.int .i64 0, Value.int .i64 0] 22)) ∧
    ∀ W, Below (w.heap.size + 1 + 1) w2 W → Below w.heap.size w W := by
  have h1 := arr_new L w
  have h2 := arr_new R (w.alloc (.cells (rowA 8 L) 22))
  rw [al_size] at h2
  have h3 := arr_old h1 (.cells (rowA 8 R) 22)
  rw [← hw] at h2 h3
  have hs : w2.heap.size = w.heap.size + 1 + 1 := by rw [hw, al_size, al_size]
  have hb : Below w.heap.size w w2 := by rw [hw]; exact ((Below.refl _ w).alloc (Nat.le_refl _) _).alloc (by rw [al_size]; omega) _
  have ht := made_twin w2
  rw [hs] at ht
  refine ⟨⟨fun W hW j hj => ?_, fun W hW j hj => ?_, ht⟩, fun W hW => hb.trans (hW.mono (by omega))⟩
  · rw [← hs] at hW; exact (h3.below hW).get hj
  · rw [← hs] at hW; exact (h2.below hW).get hj
theorem meet_any (L R : Nat → Int) (w : World) :
    Calls Tryd.prog 25 #[arr8 L, arr8 R] w fun e w' => e = .returned (arr8 fun j => wMeetF (L j) (R j)) ∧ Below w.heap.size w w' := by
  obtain ⟨w2, hw⟩ : ∃ w2, w2 = (w.alloc (.cells (rowA 8 L) 22)).alloc (.cells (rowA 8 R) 22) := ⟨_, rfl⟩
  have hq := made_quad L R w w2 hw
  have HQ := hid hq.1
  have HE := hid hq.2
  have hw' := hid hw
  clear hq hw
  go_enter Tryd.func25, Tryd.ntmps25
  go_wp2
  have hw := hw'.out
  clear hw'
  rw [← hw]
  clear hw
  obtain ⟨B, hB⟩ : ∃ B, B = w.heap.size + 1 + 1 := ⟨_, rfl⟩
  generalize (w2.alloc (.cells #[Value.int .i64 0, Value.int .i64 0, Value.int .i64 0, Value.int .i64 0, Value.int .i64 0, Value.int .i64 0, Value.int .i64 0, Value.int .i64 0] 22)).alloc (.cells #[Value.int .i64 0, Value.int .i64 0, Value.int .i64 0, Value.int .i64 0, Value.int .i64 0, Value.int .i64 0, Value.int .i64 0, Value.int .i64 0] 22) = W at HQ ⊢
  generalize w.heap.size + 1 + 1 + 1 = q at HQ ⊢
  rw [← hB] at HE
  have HQ' : Hid (Quad B w.heap.size (w.heap.size + 1) (w.heap.size + 1 + 1) q L R (fun _ => 0) (fun _ => 0) w2 W) := by rw [hB]; exact HQ
  clear HQ hB
  have HQ := HQ'
  clear HQ'
  generalize w.heap.size + 1 + 1 = r at HQ ⊢
  generalize w.heap.size + 1 = lb at HQ ⊢
  generalize hla : w.heap.size = la at HQ ⊢
  have HLA := hid hla
  clear hla
  go_loopw [7] (fun i wr => ∃ k : Nat, k ≤ 8 ∧ i = .int .i64 k ∧ Hid (Quad B la lb r q L R (fun _ => 0) (upto k fun j => wMeetF (L j) (R j)) w2 wr)) (fun i _ => 8 - (intOf i).toNat)
  case atStart => exact ⟨0, Nat.zero_le _, rfl, HQ⟩
  case round =>
    clear HQ
    obtain ⟨k, hk, rfl, HQ⟩ := hrel
    by_cases hlt : k < 8
    · have hcl := HQ.out.lc _ HQ.out.t.bel k hlt
      have hcr := HQ.out.rc _ HQ.out.t.bel k hlt
      have HY : Hid (∀ i, upd (upto k fun j => wMeetF (L j) (R j)) k (wMeetF (L k) (R k)) i = upto (k + 1) (fun j => wMeetF (L j) (R j)) i) := fun i => upto_next (fun j => wMeetF (L j) (R j)) i
      obtain ⟨x, hx⟩ : ∃ x, L k = x := ⟨_, rfl⟩
      obtain ⟨y, hy⟩ : ∃ y, R k = y := ⟨_, rfl⟩
      rw [hx] at hcl HY
      rw [hy] at hcr HY
      have HX1 := hid hx
      have HX2 := hid hy
      clear hx hy
      by_cases hin : in46 x y = true
      · go_wp2
        have HM : Hid (wMeetF x y = shrF (x + y) 15) := by
          obtain ⟨u1, u2, u3, u4⟩ := in46_iff.1 hin
          show wMeetF x y = _
          rw [meetF_in hin, shr_sh15 (by omega) (by omega)]
        have m1 : wrap64 (x + y) = x + y := wwr_in (by obtain ⟨u1, u2, u3, u4⟩ := in46_iff.1 hin; omega)
        have HIN := hid hin
        clear hin
        go_region_with (go_at_call 46; refine (wwithin2 x y _ _ (by go_simp) (by go_simp)).mono ?_; rintro e w1 ⟨rfl, rfl⟩; rw [HIN.out])
        all_goals
          have HQ1 := hid (HQ.out.tr (((Below.refl _ wr).alloc (Nat.le_refl _) (.cells #[.int .i64 x, .int .i64 y] 3)).drew))
          generalize (wr.alloc (.cells #[.int .i64 x, .int .i64 y] 3)).drew = W1 at HQ1 ⊢
          generalize wr.heap.size = sz
          clear HQ hcl hcr
          have d4 : ∀ W', Below W1.heap.size W1 W' → W'.cell? ⟨la, k, none⟩ = some (.int .i64 x) := fun W' hq => by rw [← HX1.out]; exact (HQ1.out.tr hq).lc _ (HQ1.out.tr hq).t.bel k hlt
          have d5 : ∀ W', Below W1.heap.size W1 W' → W'.cell? ⟨lb, k, none⟩ = some (.int .i64 y) := fun W' hq => by rw [← HX2.out]; exact (HQ1.out.tr hq).rc _ (HQ1.out.tr hq).t.bel k hlt
          have K1 : Hid (∀ W, Below W1.heap.size W1 W → Calls Tryd.prog 47 #[.int .i64 (x + y), .int .i64 15] W fun e w' => e = .returned (.int .i64 (wMeetF x y)) ∧ Below W1.heap.size W1 w') := fun W hW => by
            have h := shr_any (x + y) 15 W
            rw [← HM.out] at h
            exact h.mono fun e w' ⟨he, hb⟩ => ⟨he, below_then hW hb⟩
          have hg1 : decide (k < 8) = true := decide_eq_true hlt
          clear HIN HX1 HX2 HM
          go_wp2
          refine' region_last_plain (C := Below W1.heap.size W1) (m := 10) (by kernel_rfl) (by kernel_rfl) (by kernel_rfl) rfl rfl rfl rfl (Below.refl _ _).drew
            (Qa := fun a' => a' = _) ?_ ?_
          rotate_left
          · dsimp only [idleLast, idle]
            repeat (go_big_quiet_step (first
              | (intro hq; rfl)
              | (intro hq; rw [d4 _ hq]; exact ⟨rfl, rfl⟩)
              | (intro hq; rw [d5 _ hq]; exact ⟨rfl, rfl⟩)
              | (intro hq; go_at_call 47; (with_reducible exact K1.out _ hq))))
            refine wpQuiet_nil ?_
            exact rfl
          · rintro a' W' hq rfl
            have HQ2 := HQ1.out.tr hq
            refine exec_store (fun _ => trivial) Tryd.sizeOf3 rfl rfl rfl rfl (HQ2.t.b.get hlt) (HQ2.t.b.frozen k) ?_
            have HQ3 := hid (HQ2.set hlt (wMeetF x y) HY.out)
            generalize W'.setCell ⟨q, k, none⟩ (.int .i64 (wMeetF x y)) = W3 at HQ3 ⊢
            clear hq HQ2 d4 d5 K1
            go_wp2
            exact ⟨⟨k + 1, by omega, by go_num, HQ3⟩, by simp [intOf]; omega⟩
      · have HM : Hid (∀ i, upto k (fun j => wMeetF (L j) (R j)) i = upto (k + 1) (fun j => wMeetF (L j) (R j)) i) := fun i => by
          rw [← HY.out i, meetF_out hin]
          unfold upd upto
          by_cases e : i = k
          · subst e; rw [if_pos rfl, if_neg (by omega)]
          · rw [if_neg e]
        have HIN : Hid (in46 x y = false) := by
          show in46 x y = false
          simpa using hin
        clear hin
        go_wp2
        go_region_with (go_at_call 46; refine (wwithin2 x y _ _ (by go_simp) (by go_simp)).mono ?_; rintro e w1 ⟨rfl, rfl⟩; rw [HIN.out])
        all_goals
          have HQ1 := hid (HQ.out.tr (((Below.refl _ wr).alloc (Nat.le_refl _) (.cells #[.int .i64 x, .int .i64 y] 3)).drew))
          generalize (wr.alloc (.cells #[.int .i64 x, .int .i64 y] 3)).drew = W1 at HQ1 ⊢
          generalize wr.heap.size = sz
          clear HQ hcl hcr HIN HX1 HX2
          have HQ2 : Hid (Quad B la lb r q L R (fun _ => 0) (upto (k + 1) fun j => wMeetF (L j) (R j)) w2 W1) := ⟨HQ1.out.lc, HQ1.out.rc, HQ1.out.t.congr fun i _ => HM.out i⟩
          clear HQ1 HM
          go_wp2
          exact ⟨⟨k + 1, by omega, by go_num, HQ2⟩, by simp [intOf]; omega⟩
    · obtain rfl : k = 8 := by omega
      have HL := HQ.out.t.last
      go_wp2_with (first | (refine wp_load8 rfl rfl rfl HQ.out.t.b ?_) | (refine wp_store8 rfl rfl rfl rfl HQ.out.t.a ?_))
      refine bodyPost_ret (ret8 rfl _ rfl HL.1) rfl ⟨by rw [arr8_congr (upto_all fun j => wMeetF (L j) (R j))], ?_⟩
      exact HE.out _ HL.2
end Go.Proofs.YtfhcfdepjhdhfaaDoor
