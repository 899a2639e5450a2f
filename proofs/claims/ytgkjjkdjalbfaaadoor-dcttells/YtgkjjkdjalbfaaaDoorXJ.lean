/-
  The contract of dct.unfold: waves turned behind, and put in their places.
-/
import Derived.Test.YtgkjjkdjalbfaaaDoorXI
import Derived.Test.YtgkjjkdjalbfaaaDoorXD
namespace Go.Proofs.YtgkjjkdjalbfaaaDoor
open Go.ChangeShapes Go.WideShapes Go.ChangeAt Go.RowKit
set_option linter.unusedVariables false

/-- Waves, turned behind. -/
def lateP (n : Nat) (G : Nat → P2) (k : Nat) : P2 := twd (G k) ((4 * (64 / n) * k : Nat) : Int)
/-- In their places. -/
def outF (n : Nat) (G : Nat → P2) (x : Nat) : Int := if x % 2 = 0 then (lateP n G (x / 2)).1 else - (lateP n G ((n - 1 - x) / 2)).2
theorem outF_fast (n m : Nat) (U : Nat → Int) : outF n (wav m (wP n U)) = fastF n m U := rfl
/-- k pairs are in their places. -/
def doneX (n k : Nat) (F : Nat → Int) (x : Nat) : Int := if (x % 2 = 0 ∧ x / 2 < k) ∨ (x % 2 = 1 ∧ (n - 1 - x) / 2 < k) then F x else 0
theorem doneX_zero (n : Nat) (F : Nat → Int) (x : Nat) : doneX n 0 F x = 0 := if_neg (by omega)
theorem doneX_all {n p : Nat} (hp : n = 2 * p) (F : Nat → Int) {x : Nat} (hx : x < n) : doneX n p F x = F x := if_pos (by omega)
theorem doneX_step {n p k : Nat} (hp : n = 2 * p) (hk : k < p) (F : Nat → Int) {x : Nat} (hx : x < n) :
    upd (upd (doneX n k F) (2 * k) (F (2 * k))) (n - 1 - 2 * k) (F (n - 1 - 2 * k)) x = doneX n (k + 1) F x := by
  unfold upd doneX
  by_cases e1 : x = n - 1 - 2 * k
  · rw [if_pos e1, if_pos (by omega), e1]
  · rw [if_neg e1]
    by_cases e2 : x = 2 * k
    · rw [if_pos e2, if_pos (by omega), e2]
    · rw [if_neg e2]
      by_cases c : (x % 2 = 0 ∧ x / 2 < k) ∨ (x % 2 = 1 ∧ (n - 1 - x) / 2 < k)
      · rw [if_pos c, if_pos (by omega)]
      · rw [if_neg c, if_neg (by omega)]
theorem outF_even (n k : Nat) (G : Nat → P2) : outF n G (2 * k) = (lateP n G k).1 := by
  rw [outF, if_pos (by omega), show 2 * k / 2 = k by omega]
theorem outF_odd {n p k : Nat} (hp : n = 2 * p) (hk : k < p) (G : Nat → P2) : outF n G (n - 1 - 2 * k) = - (lateP n G k).2 := by
  rw [outF, if_neg (by omega), show (n - 1 - (n - 1 - 2 * k)) / 2 = k by omega]
set_option maxRecDepth 100000 in
set_option maxHeartbeats 2000000 in
theorem unfold_any {n m st : Nat} (hb : Blk n m st) (p : Nat) (hp : n = 2 * p) (t : Nat) (a c : Option Addr) (ca cb : Nat) (G : Nat → P2) (hG : ∀ i, i < p → Bd 764411904 (G i)) (w : World) (ht : Tab t w) (hu : IsInts w a p ca (fst G)) (hv : IsInts w c p cb (snd G)) :
    Calls Tryd.prog 24 #[.pointer (some ⟨t, 0, none⟩), .slice a p ca, .slice c p cb] w (SPost n (outF n G) w) := by
  have hmk := make_ints hb.hN.le
  have hle := hb.hN.le
  have hge := hb.hN.ge
  have HN : Hid (IsN n) := hb.hN
  have HP : Hid (n = 2 * p) := hp
  have hst1 : 1 ≤ st ∧ st ≤ 8 := by
    obtain ⟨a, e, h1, h2, _⟩ := hb.hN.div
    have := hb.ha; omega
  have HST : Hid (64 / n = st) := hb.ha
  have h2p : 2 * (p : Int) = (n : Int) := by omega
  have hw2 : wrap64 (2 * (p : Int)) = (n : Int) := by rw [h2p]; unfold wrap64; omega
  have htd : (n : Int).tdiv 2 = (p : Int) := by rw [Int.tdiv_eq_ediv_of_nonneg (by omega)]; omega
  have hed : (n : Int) / 2 = (p : Int) := by omega
  have hp1 : 1 ≤ p := by omega
  have HG : Hid (∀ i, i < p → Bd 764411904 (G i)) := hG
  obtain ⟨ab, ao, rfl, CA⟩ := hu.cells hp1
  obtain ⟨cb', co, rfl, CC⟩ := hv.cells hp1
  replace CA : Hid (∀ W, Below w.heap.size w W → ∀ i, i < p → W.cell? ⟨ab, ao + i, none⟩ = some (.int .i64 (G i).1)) := CA
  replace CC : Hid (∀ W, Below w.heap.size w W → ∀ i, i < p → W.cell? ⟨cb', co + i, none⟩ = some (.int .i64 (G i).2)) := CC
  have HT : Hid (∀ W, Below w.heap.size w W → Tab t W) := fun W hb => ht.below ht.1 hb
  have HS : Hid (∀ W, Calls Tryd.prog 35 #[.int .i64 n] W fun e w' => e = .returned (.int .i64 (st : Int)) ∧ w' = W) := fun W => by
    have h := step_any HN.out W
    rwa [HST.out] at h
  have HL : Hid (∀ k, lateP n G k = twd (G k) ((4 * st * k : Nat) : Int)) := fun k => by rw [← HST.out]; rfl
  have hM : n ≤ maxLen := Nat.le_trans hle (by decide)
  clear hu hv hG ht hb hp
  go_enter Tryd.func24, Tryd.ntmps24
  go_wp2
  obtain ⟨r, hr⟩ : ∃ r, r = w.heap.size := ⟨_, rfl⟩
  have H0 : RowAt r n (doneX n 0 (outF n G)) (w.alloc (.cells (rowA n (fun _ => 0)) 3)) := by
    rw [hr]
    exact RowAt.congr (al_new w _) (fun i _ => (doneX_zero n _ i).symm)
  have B0 : Below w.heap.size w (w.alloc (.cells (rowA n (fun _ => 0)) 3)) := (Below.refl _ w).alloc (Nat.le_refl _) _
  generalize w.alloc (.cells (rowA n (fun _ => 0)) 3) = w0 at H0 B0 ⊢
  rw [← hr]
  have HR : Hid (r = w.heap.size) := hr
  replace H0 : Hid _ := H0
  replace B0 : Hid _ := B0
  clear hr hmk
  go_loopw [19] (fun i wr => ∃ k : Nat, k ≤ p ∧ i = .int .i64 k ∧ Hid (RowAt r n (doneX n k (outF n G)) wr) ∧ Hid (Below w.heap.size w wr)) (fun i _ => p - (intOf i).toNat)
  case atStart => exact ⟨0, Nat.zero_le _, rfl, H0, B0⟩
  case round =>
    clear H0 B0
    obtain ⟨k, hk, rfl, HW, HB⟩ := hrel
    by_cases hlt : k < p
    · have hn2 := HP.out
      obtain ⟨th, hth⟩ : ∃ th : Int, ((4 * st * k : Nat) : Int) = th := ⟨_, rfl⟩
      have hl := HL.out k
      rw [hth] at hl
      have hthb : 0 ≤ th ∧ th ≤ 32 * 32 := by
        have : 4 * st * k ≤ 32 * 32 := Nat.mul_le_mul (by omega) (by omega)
        omega
      have e6 : 4 * (st : Int) * (k : Int) = th := by rw [← hth]; simp
      have v6 : Hid (wrap64 (4 * (st : Int) * (k : Int)) = th) := by show _ = _; rw [e6]; unfold wrap64; omega
      have hg := HG.out k hlt
      have hgt := hg.twd th
      have ca : ∀ W, Below wr.heap.size wr W → W.cell? ⟨ab, ao + k, none⟩ = some (.int .i64 (G k).1) := fun W hq => CA.out W (below_then HB.out hq) k hlt
      have cc : ∀ W, Below wr.heap.size wr W → W.cell? ⟨cb', co + k, none⟩ = some (.int .i64 (G k).2) := fun W hq => CC.out W (below_then HB.out hq) k hlt
      have K1 : Hid (∀ W, Below wr.heap.size wr W → Calls Tryd.prog 35 #[.int .i64 n] W fun e w' => e = .returned (.int .i64 (st : Int)) ∧ Below wr.heap.size wr w') := fun W hq =>
        (HS.out W).mono fun e w' ⟨he, hw'⟩ => ⟨he, by rw [hw']; exact hq⟩
      have K2 : Hid (∀ W, Below wr.heap.size wr W → Calls Tryd.prog 34 #[.pointer (some ⟨t, 0, none⟩), .int .i64 (G k).1, .int .i64 (G k).2, .int .i64 th] W fun e w' => e = .returned (.tuple #[.int .i64 (twd (G k) th).1, .int .i64 (twd (G k) th).2]) ∧ Below wr.heap.size wr w') := fun W hq => by
        obtain ⟨⟨u1, u2⟩, ⟨u3, u4⟩⟩ := hg
        refine (turn_yes t (G k).1 (G k).2 th (by omega) (by omega) (by omega) W (HT.out _ (below_then HB.out hq))).mono ?_
        rintro e w2 ⟨he, hb⟩
        exact ⟨he, below_then hq hb⟩
      have HLP : Hid (lateP n G k = twd (G k) th) := hl
      generalize twd (G k) th = xy at *
      generalize G k = gk at *
      obtain ⟨⟨y1, y2⟩, ⟨y3, y4⟩⟩ := hgt
      have v6' := v6.out
      obtain ⟨i2, hi2⟩ : ∃ i2, i2 = n - 1 - 2 * k := ⟨_, rfl⟩
      obtain ⟨i1, hi1⟩ : ∃ i1, i1 = 2 * k := ⟨_, rfl⟩
      have HI : Hid (i1 = 2 * k ∧ i2 = n - 1 - 2 * k) := ⟨hi1, hi2⟩
      have x1 : 2 * (k : Int) = (i1 : Int) := by omega
      have x2 : (n : Int) - 1 - (i1 : Int) = (i2 : Int) := by omega
      have hi1n : i1 < n := by omega
      have hi2n : i2 < n := by omega
      have hne : i1 ≠ i2 := by omega
      clear hg hl hth e6 hthb v6 hi1 hi2 hn2
      go_wp2
      refine region_below (by kernel_rfl) (by kernel_rfl) ?_
      repeat (go_big_quiet_step (first
        | (intro hq; rfl)
        | (intro hq; rw [ca _ hq]; exact ⟨rfl, rfl⟩)
        | (intro hq; rw [cc _ hq]; exact ⟨rfl, rfl⟩)
        | (intro hq; go_at_call 35; (with_reducible exact K1.out _ hq))
        | (intro hq; go_at_call 34; (with_reducible exact K2.out _ hq))))
      refine wpQuiet_nil ?_
      intro w1 hq
      have HW1 : Hid (RowAt r n (doneX n k (outF n G)) w1) := HW.out.below hq
      have HB1 : Hid (Below w.heap.size w w1) := below_then HB.out hq
      clear hq ca cc K1 K2 HW HB v6'
      obtain ⟨z1, c1⟩ : ∃ v, w1.cell? ⟨r, i1, none⟩ = some v := ⟨_, HW1.out.get hi1n⟩
      have f1 := IsAt.frozen HW1.out i1
      obtain ⟨z2, c2⟩ : ∃ v, w1.cell? ⟨r, i2, none⟩ = some v := ⟨_, HW1.out.get hi2n⟩
      have f2 := IsAt.frozen HW1.out i2
      go_wp2
      have HW2 : Hid (RowAt r n (doneX n (k + 1) (outF n G)) ((w1.setCell ⟨r, i1, none⟩ (.int .i64 xy.1)).setCell ⟨r, i2, none⟩ (.int .i64 (-xy.2)))) := by
        refine ((HW1.out.set hi1n xy.1).set hi2n (-xy.2)).congr (fun i hi => ?_)
        rw [← doneX_step HP.out hlt (outF n G) hi, outF_even, outF_odd HP.out hlt, HLP.out, HI.out.1, HI.out.2]
      have HB2 : Hid (Below w.heap.size w ((w1.setCell ⟨r, i1, none⟩ (.int .i64 xy.1)).setCell ⟨r, i2, none⟩ (.int .i64 (-xy.2)))) :=
        (HB1.out.setCell (p := ⟨r, i1, none⟩) (by rw [HR.out]; exact Nat.le_refl _) _).setCell (p := ⟨r, i2, none⟩) (by rw [HR.out]; exact Nat.le_refl _) _
      refine ⟨⟨k + 1, by omega, by go_num, HW2, HB2⟩, by simp [intOf]; omega⟩
    · obtain rfl : k = p := by omega
      have HH : Hid (RowAt r n (outF n G) wr) := HW.out.congr (fun i hi => doneX_all HP.out _ hi)
      go_wp2
      go_ret
      exact ⟨r, rfl, by rw [HR.out]; exact Nat.le_refl _, HH.out, HB.out⟩
end Go.Proofs.YtgkjjkdjalbfaaaDoor
