/-
  The contract of dct.unfold: waves turned behind, and put in their places.
-/
import Derived.Test.YtfhcfdepjhdhfaaDoorZQ
import Derived.Test.YtfhcfdepjhdhfaaDoorZI
import Derived.Lib.SliceRun
import Derived.Test.YtfhcfdepjhdhfaaDoorZJ
import Derived.Test.YtfhcfdepjhdhfaaDoorZD
namespace Go.Proofs.YtfhcfdepjhdhfaaDoor
open Go.ChangeShapes Go.WideShapes Go.ChangeAt Go.RowKit
set_option linter.unusedVariables false

/-- Waves, turned behind. -/
def lateP (n : Nat) (G : Nat → P2) (k : Nat) : P2 := twd (G k) ((4 * (64 / n) * k : Nat) : Int)
/-- In their places. -/
def outF (n : Nat) (G : Nat → P2) (x : Nat) : Int := if x % 2 = 0 then (lateP n G (x / 2)).1 else - (lateP n G ((n - 1 - x) / 2)).2
theorem outF_fast (n m : Nat) (U : Nat → Int) : outF n (wav m (wP n U)) = fastF n m U := rfl
/-- k pairs are in their places. -/
def doneX (n k : Nat) (F : Nat → Int) (x : Nat) : Int := if (x % 2 = 0 ∧ x / 2 < k) ∨ (x % 2 = 1 ∧ (n - 1 - x) / 2 < k) then F x else 0
theorem doneX_zero (n : Nat) (F : Nat → Int) (x : Nat) : doneX n 0 F x = 0 := if_neg (by omega)
theorem doneX_all {n p : Nat} (hp : n = 2 * p) (F : Nat → Int) {x : Nat} (hx : x < n) : doneX n p F x = F x := if_pos (by omega)
theorem doneX_step {n p k : Nat} (hp : n = 2 * p) (hk : k < p) (F : Nat → Int) {x : Nat} (hx : x < n) :
    upd (upd (doneX n k F) (2 * k) (F (2 * k))) (n - 1 - 2 * k) (F (n - 1 - 2 * k)) x = doneX n (k + 1) F x := by
  unfold upd doneX
  by_cases e1 : x = n - 1 - 2 * k
  · rw [if_pos e1, if_pos (by omega), e1]
  · rw [if_neg e1]
    by_cases e2 : x = 2 * k
    · rw [if_pos e2, if_pos (by omega), e2]
    · rw [if_neg e2]
      by_cases c : (x % 2 = 0 ∧ x / 2 < k) ∨ (x % 2 = 1 ∧ (n - 1 - x) / 2 < k)
      · rw [if_pos c, if_pos (by omega)]
      · rw [if_neg c, if_neg (by omega)]
theorem outF_even (n k : Nat) (G : Nat → P2) : outF n G (2 * k) = (lateP n G k).1 := by
  rw [outF, if_pos (by omega), show 2 * k / 2 = k by omega]
theorem outF_odd {n p k : Nat} (hp : n = 2 * p) (hk : k < p) (G : Nat → P2) : outF n G (n - 1 - 2 * k) = - (lateP n G k).2 := by
  rw [outF, if_neg (by omega), show (n - 1 - (n - 1 - 2 * k)) / 2 = k by omega]
set_option maxRecDepth 100000 in
set_option maxHeartbeats 2000000 in
theorem unfold_any {n m st : Nat} (hb : Blk n m st) (p : Nat) (hp : n = 2 * p) (t : Nat) (a c : Option Addr) (ca cb : Nat) (G : Nat → P2) (hG : ∀ i, i < p → Bd 764411904 (G i)) (w : World) (ht : Tab t w) (hu : IsInts w a p ca (fst G)) (hv : IsInts w c p cb (snd G)) :
    Calls Tryd.prog 58 #[.pointer (some ⟨t, 0, none⟩), .slice a p ca, .slice c p cb] w (SPost n (outF n G) w) := by
  have hmk := make_ints hb.hN.le
  have hle := hb.hN.le
  have hge := hb.hN.ge
  have HN : Hid (IsN n) := hb.hN
  have HP : Hid (n = 2 * p) := hp
  have hst1 : 1 ≤ st ∧ st ≤ 8 := by
    obtain ⟨a, e, h1, h2, _⟩ := hb.hN.div
    have := hb.ha; omega
  have HST : Hid (64 / n = st) := hb.ha
  have h2p : 2 * (p : Int) = (n : Int) := by omega
  have hw2 : wrap64 (2 * (p : Int)) = (n : Int) := by rw [h2p]; unfold wrap64; omega
  have htd : (n : Int).tdiv 2 = (p : Int) := by rw [Int.tdiv_eq_ediv_of_nonneg (by omega)]; omega
  have hed : (n : Int) / 2 = (p : Int) := by omega
  have hp1 : 1 ≤ p := by omega
  have HG : Hid (∀ i, i < p → Bd 764411904 (G i)) := hG
  obtain ⟨ab, ao, rfl, CA⟩ := hu.cells hp1
  obtain ⟨cb', co, rfl, CC⟩ := hv.cells hp1
  replace CA : Hid (∀ W, Below w.heap.size w W → ∀ i, i < p → W.cell? ⟨ab, ao + i, none⟩ = some (.int .i64 (G i).1)) := CA
  replace CC : Hid (∀ W, Below w.heap.size w W → ∀ i, i < p → W.cell? ⟨cb', co + i, none⟩ = some (.int .i64 (G i).2)) := CC
  have HT : Hid (∀ W, Below w.heap.size w W → Tab t W) := fun W hb => ht.below ht.1 hb
  have HS : Hid (∀ W, Calls Tryd.prog 67 #[.int .i64 n] W fun e w' => e = .returned (.int .i64 (st : Int)) ∧ w' = W) := fun W => by
    have h := step_any HN.out W
    rwa [HST.out] at h
  have HL : Hid (∀ k, lateP n G k = twd (G k) ((4 * st * k : Nat) : Int)) := fun k => by rw [← HST.out]; rfl
  have hM : n ≤ maxLen := Nat.le_trans hle (by decide)
  clear hu hv hG ht hb hp
  go_enter Tryd.func58, Tryd.ntmps58
  go_wp2
  obtain ⟨r, hr⟩ : ∃ r, r = w.heap.size := ⟨_, rfl⟩
  have H0 : RowAt r n (doneX n 0 (outF n G)) (w.alloc (.cells (rowA n (fun _ => 0)) 3)) := by
    rw [hr]
    exact RowAt.congr (al_new w _) (fun i _ => (doneX_zero n _ i).symm)
  have B0 : Below w.heap.size w (w.alloc (.cells (rowA n (fun _ => 0)) 3)) := (Below.refl _ w).alloc (Nat.le_refl _) _
  generalize w.alloc (.cells (rowA n (fun _ => 0)) 3) = w0 at H0 B0 ⊢
  rw [← hr]
  have HR : Hid (r = w.heap.size) := hr
  replace H0 : Hid _ := H0
  replace B0 : Hid _ := B0
  clear hr hmk
  go_loopw [19] (fun i wr => ∃ k : Nat, k ≤ p ∧ i = .int .i64 k ∧ Hid (RowAt r n (doneX n k (outF n G)) wr) ∧ Hid (Below w.heap.size w wr)) (fun i _ => p - (intOf i).toNat)
  case atStart => exact ⟨0, Nat.zero_le _, rfl, H0, B0⟩
  case round =>
    clear H0 B0
    obtain ⟨k, hk, rfl, HW, HB⟩ := hrel
    by_cases hlt : k < p
    · have hn2 := HP.out
      obtain ⟨th, hth⟩ : ∃ th : Int, ((4 * st * k : Nat) : Int) = th := ⟨_, rfl⟩
      have hl := HL.out k
      rw [hth] at hl
      have hthb : 0 ≤ th ∧ th ≤ 32 * 32 := by
        have : 4 * st * k ≤ 32 * 32 := Nat.mul_le_mul (by omega) (by omega)
        omega
      have e6 : 4 * (st : Int) * (k : Int) = th := by rw [← hth]; simp
      have v6 : Hid (wrap64 (4 * (st : Int) * (k : Int)) = th) := by show _ = _; rw [e6]; unfold wrap64; omega
      have hg := HG.out k hlt
      have hgt := hg.twd th
      have ca : ∀ W, Below wr.heap.size wr W → W.cell? ⟨ab, ao + k, none⟩ = some (.int .i64 (G k).1) := fun W hq => CA.out W (below_then HB.out hq) k hlt
      have cc : ∀ W, Below wr.heap.size wr W → W.cell? ⟨cb', co + k, none⟩ = some (.int .i64 (G k).2) := fun W hq => CC.out W (below_then HB.out hq) k hlt
      have K1 : Hid (∀ W, Below wr.heap.size wr W → Calls Tryd.prog 67 #[.int .i64 n] W fun e w' => e = .returned (.int .i64 (st : Int)) ∧ Below wr.heap.size wr w') := fun W hq =>
        (HS.out W).mono fun e w' ⟨he, hw'⟩ => ⟨he, by rw [hw']; exact hq⟩
      have K2 : Hid (∀ W, Below wr.heap.size wr W → Calls Tryd.prog 66 #[.pointer (some ⟨t, 0, none⟩), .int .i64 (G k).1, .int .i64 (G k).2, .int .i64 th] W fun e w' => e = .returned (.tuple #[.int .i64 (twd (G k) th).1, .int .i64 (twd (G k) th).2]) ∧ Below wr.heap.size wr w') := fun W hq => by
        obtain ⟨⟨u1, u2⟩, ⟨u3, u4⟩⟩ := hg
        refine (turn_yes t (G k).1 (G k).2 th (by omega) (by omega) (by omega) W (HT.out _ (below_then HB.out hq))).mono ?_
        rintro e w2 ⟨he, hb⟩
        exact ⟨he, below_then hq hb⟩
      have HLP : Hid (lateP n G k = twd (G k) th) := hl
      generalize twd (G k) th = xy at *
      generalize G k = gk at *
      obtain ⟨⟨y1, y2⟩, ⟨y3, y4⟩⟩ := hgt
      have v6' := v6.out
      obtain ⟨i2, hi2⟩ : ∃ i2, i2 = n - 1 - 2 * k := ⟨_, rfl⟩
      obtain ⟨i1, hi1⟩ : ∃ i1, i1 = 2 * k := ⟨_, rfl⟩
      have HI : Hid (i1 = 2 * k ∧ i2 = n - 1 - 2 * k) := ⟨hi1, hi2⟩
      have x1 : 2 * (k : Int) = (i1 : Int) := by omega
      have x2 : (n : Int) - 1 - (i1 : Int) = (i2 : Int) := by omega
      have hi1n : i1 < n := by omega
      have hi2n : i2 < n := by omega
      have hne : i1 ≠ i2 := by omega
      clear hg hl hth e6 hthb v6 hi1 hi2 hn2
      go_wp2
      refine region_below (by kernel_rfl) (by kernel_rfl) ?_
      repeat (go_big_quiet_step (first
        | (intro hq; rfl)
        | (intro hq; rw [ca _ hq]; exact ⟨rfl, rfl⟩)
        | (intro hq; rw [cc _ hq]; exact ⟨rfl, rfl⟩)
        | (intro hq; go_at_call 67; (with_reducible exact K1.out _ hq))
        | (intro hq; go_at_call 66; (with_reducible exact K2.out _ hq))))
      refine wpQuiet_nil ?_
      intro w1 hq
      have HW1 : Hid (RowAt r n (doneX n k (outF n G)) w1) := HW.out.below hq
      have HB1 : Hid (Below w.heap.size w w1) := below_then HB.out hq
      clear hq ca cc K1 K2 HW HB v6'
      obtain ⟨z1, c1⟩ : ∃ v, w1.cell? ⟨r, i1, none⟩ = some v := ⟨_, HW1.out.get hi1n⟩
      have f1 := IsAt.frozen HW1.out i1
      obtain ⟨z2, c2⟩ : ∃ v, w1.cell? ⟨r, i2, none⟩ = some v := ⟨_, HW1.out.get hi2n⟩
      have f2 := IsAt.frozen HW1.out i2
      go_wp2
      have HW2 : Hid (RowAt r n (doneX n (k + 1) (outF n G)) ((w1.setCell ⟨r, i1, none⟩ (.int .i64 xy.1)).setCell ⟨r, i2, none⟩ (.int .i64 (-xy.2)))) := by
        refine ((HW1.out.set hi1n xy.1).set hi2n (-xy.2)).congr (fun i hi => ?_)
        rw [← doneX_step HP.out hlt (outF n G) hi, outF_even, outF_odd HP.out hlt, HLP.out, HI.out.1, HI.out.2]
      have HB2 : Hid (Below w.heap.size w ((w1.setCell ⟨r, i1, none⟩ (.int .i64 xy.1)).setCell ⟨r, i2, none⟩ (.int .i64 (-xy.2)))) :=
        (HB1.out.setCell (p := ⟨r, i1, none⟩) (by rw [HR.out]; exact Nat.le_refl _) _).setCell (p := ⟨r, i2, none⟩) (by rw [HR.out]; exact Nat.le_refl _) _
      refine ⟨⟨k + 1, by omega, by go_num, HW2, HB2⟩, by simp [intOf]; omega⟩
    · obtain rfl : k = p := by omega
      have HH : Hid (RowAt r n (outF n G) wr) := HW.out.congr (fun i hi => doneX_all HP.out _ hi)
      go_wp2
      go_ret
      exact ⟨r, rfl, by rw [HR.out]; exact Nat.le_refl _, HH.out, HB.out⟩
end Go.Proofs.YtfhcfdepjhdhfaaDoor
/-
  The contract of dct.Fast: of a block, of none, and of no table.
-/
namespace Go.Proofs.YtfhcfdepjhdhfaaDoor
open Go.ChangeShapes Go.WideShapes Go.ChangeAt Go.RowKit
set_option linter.unusedVariables false

theorem IsInts.to {w : World} {a : Option Addr} {len cap : Nat} {X Y : Nat → Int} (h : IsInts w a len cap X) (e : ∀ i, i < len → X i = Y i) : IsInts w a len cap Y := h.congr e
set_option maxRecDepth 100000 in
theorem fast_yes {n m st : Nat} (hb : Blk n m st) (t : Nat) (a : Option Addr) (cap : Nat) (U : Nat → Int) (hU : ∀ i, i < n → -262144 ≤ U i ∧ U i ≤ 262144) (w : World) (ht : Tab t w) (hd : DTab w) (hu : IsInts w a n cap U) :
    Calls Tryd.prog 40 #[.pointer (some ⟨t, 0, none⟩), .slice a n cap] w (SPost n (fastF n m U) w) := by
  obtain ⟨p, hp⟩ : ∃ p, p = 2 ^ m := ⟨_, rfl⟩
  have hn : n = 2 * p := by rw [hp]; exact hb.hn
  have hle := hb.hN.le
  have HF : Hid (Calls Tryd.prog 55 #[.slice a n cap, .int .i64 262144] w fun e w' => e = .returned (.bool true) ∧ w' = w) := by
    have := xfits_any 262144 (by omega) (by omega) a n cap U (Nat.le_trans hle (by decide)) w hu
    rwa [rightF_of hb.hN hU] at this
  have K1 : Hid (Calls Tryd.prog 56 #[.pointer (some ⟨t, 0, none⟩), .slice a n cap] w (FPost p (wP n U) w)) := fold_any hb p hn t a cap U hU w ht hu
  have HC : Hid (∀ i, i < p → cutP m (wP n U) i = wP n U i) := fun i hi => if_pos (by rw [← hp]; exact hi)
  have hbd : ∀ i, Bd 1048576 (cutP m (wP n U) i) := cutP_bd (by decide) (fun i hi => (wP_bd hb hU hi).wide (by decide))
  have K2 : Hid (∀ W r q, Below w.heap.size w W → IsInts W (some ⟨r, 0, none⟩) p p (fst (wP n U)) → IsInts W (some ⟨q, 0, none⟩) p p (snd (wP n U)) →
      Calls Tryd.prog 57 #[.pointer (some ⟨t, 0, none⟩), .slice (some ⟨r, 0, none⟩) p p, .slice (some ⟨q, 0, none⟩) p p] W (WPost m p (wav m (cutP m (wP n U))) W)) := fun W r q hW h1 h2 =>
    waves_yes (by have := hb.hm; omega) p hp t _ _ p p (cutP m (wP n U)) hbd W (ht.below ht.1 hW) (hd.below hW) (h1.to (fun i hi => by show (wP n U i).1 = _; rw [← HC.out i hi])) (h2.to (fun i hi => by show (wP n U i).2 = _; rw [← HC.out i hi]))
  have HV : Hid (∀ i, i < p → wav m (cutP m (wP n U)) i = wav m (wP n U) i) := fun i hi => cutP_wav m _ (by rw [← hp]; exact hi)
  have hbw : ∀ i, i < p → Bd 764411904 (wav m (wP n U) i) := fun i hi => by
    rw [← HV.out i hi]
    exact (wav_bd m _ hbd i).wide (bnd_le (by have := hb.hm; omega))
  have K3 : Hid (∀ W r q, Below w.heap.size w W → IsInts W (some ⟨r, 0, none⟩) p p (fst (wav m (wP n U))) → IsInts W (some ⟨q, 0, none⟩) p p (snd (wav m (wP n U))) →
      Calls Tryd.prog 58 #[.pointer (some ⟨t, 0, none⟩), .slice (some ⟨r, 0, none⟩) p p, .slice (some ⟨q, 0, none⟩) p p] W (SPost n (fastF n m U) W)) := fun W r q hW h1 h2 =>
    unfold_any hb p hn t _ _ p p (wav m (wP n U)) hbw W (ht.below ht.1 hW) h1 h2
  have HM : Hid (p ≤ maxLen) := by show p ≤ maxLen; exact Nat.le_trans (show p ≤ 64 by omega) (by decide)
  have heq : ∀ (w : World) (x : Addr), (binOp .eql 23 (.slice (some x) p p) (.slice none 0 0)).run Tryd.prog w = .ok (.bool false) w := fun w x => Lib.run_eql_slice_nil w _ 3 (some x) p p 0 0 Tryd.underlying23
  clear hU ht hu hd hbd hbw hp hn hb hle
  go_enter Tryd.func40, Tryd.ntmps40
  go_wp2_with (go_at_call 55; refine HF.out.mono ?_; rintro e w1 ⟨rfl, rfl⟩)
  refine Calls.mono K1.out ?_
  rintro e w2 ⟨r, q, rfl, h2⟩
  have B2 : Hid (Below w1.heap.size w1 w2) := h2.bel
  have H2 : Hid _ := h2
  clear h2 K1 HF
  go_wp2_with (fail)
  refine (K2.out w2 r q B2.out (H2.out.a.ints HM.out) (H2.out.b.ints HM.out)).mono ?_
  rintro e w3 ⟨r2, q2, rfl, h3⟩
  have B3 : Hid (Below w2.heap.size w2 w3) := h3.bel
  have I1 : Hid (IsInts w3 (some ⟨r2, 0, none⟩) p p (fst (wav m (wP n U)))) := (h3.a.ints HM.out).to (fun i hi => by show (wav m (cutP m (wP n U)) i).1 = _; rw [HV.out i hi])
  have I2 : Hid (IsInts w3 (some ⟨q2, 0, none⟩) p p (snd (wav m (wP n U)))) := (h3.b.ints HM.out).to (fun i hi => by show (wav m (cutP m (wP n U)) i).2 = _; rw [HV.out i hi])
  clear h3 K2
  go_wp2_with (fail)
  refine (K3.out w3 r2 q2 (below_then B2.out B3.out) I1.out I2.out).mono ?_
  rintro e w4 ⟨x, rfl, h4, h5, h6⟩
  replace h5 : Hid _ := h5
  replace h6 : Hid _ := h6
  clear K3 I1 I2
  go_wp2
  go_ret
  exact ⟨x, rfl, Nat.le_trans (Nat.le_trans B2.out.size B3.out.size) h4, h5.out, below_then B2.out (below_then B3.out h6.out)⟩
theorem fast_no (t : Nat) (a : Option Addr) (len cap : Nat) (U : Nat → Int) (hl : len ≤ maxLen) (h : rightF U len 262144 = false) (w : World) (hu : IsInts w a len cap U) :
    Calls Tryd.prog 40 #[.pointer (some ⟨t, 0, none⟩), .slice a len cap] w fun e w' => e = .returned (.slice none 0 0) ∧ w' = w := by
  have HF : Hid (Calls Tryd.prog 55 #[.slice a len cap, .int .i64 262144] w fun e w' => e = .returned (.bool false) ∧ w' = w) := by
    have := xfits_any 262144 (by omega) (by omega) a len cap U hl w hu
    rwa [h] at this
  clear h hu hl
  go_enter Tryd.func40, Tryd.ntmps40
  go_wp2_with (go_at_call 55; refine HF.out.mono ?_; rintro e w1 ⟨rfl, rfl⟩)
  go_ret
  exact ⟨rfl, rfl⟩
theorem fast_nil (a : Option Addr) (len cap : Nat) (w : World) :
    Calls Tryd.prog 40 #[.pointer none, .slice a len cap] w fun e w' => e = .returned (.slice none 0 0) ∧ w' = w := by
  go_enter Tryd.func40, Tryd.ntmps40
  go_wp2
  go_ret
  exact ⟨rfl, rfl⟩
end Go.Proofs.YtfhcfdepjhdhfaaDoor
/-
  The contract of the document's Fast.
-/
namespace Go.Proofs.YtfhcfdepjhdhfaaDoor
open Go.ChangeShapes Go.WideShapes Go.ChangeAt Go.RowKit
set_option linter.unusedVariables false

theorem rturn_in {p : P2} {B : Int} (hp : Bd B p) (hB : B ≤ 34359738368) {th : Int} (h0 : 0 ≤ th) (h1 : th ≤ 65536) (w : World) :
    Calls Tryd.prog 60 #[.int .i64 p.1, .int .i64 p.2, .int .i64 th] w fun e w' => e = .returned (.tuple #[.int .i64 (twd p th).1, .int .i64 (twd p th).2]) ∧ Below w.heap.size w w' := by
  have := rturn_any p.1 p.2 th w
  obtain ⟨⟨u1, u2⟩, ⟨u3, u4⟩⟩ := hp
  have hok : okTurn p.1 p.2 th := by unfold okTurn; omega
  rw [turnReF, turnImF, if_pos hok, if_pos hok] at this
  exact this
set_option maxRecDepth 100000 in
set_option maxHeartbeats 2000000 in
theorem rfast_yes {n m st : Nat} (hb : Blk n m st) (a : Option Addr) (cap : Nat) (U : Nat → Int) (hU : ∀ i, i < n → -262144 ≤ U i ∧ U i ≤ 262144) (w : World) (hu : IsInts w a n cap U) :
    Calls Tryd.prog 42 #[.slice a n cap] w (SPost n (fastF n m U) w) := by
  obtain ⟨p, hp⟩ : ∃ p, p = 2 ^ m := ⟨_, rfl⟩
  have hn : n = 2 * p := by rw [hp]; exact hb.hn
  have hle := hb.hN.le
  have hge := hb.hN.ge
  have hmk := make_ints hle
  obtain ⟨i0, hi, hz0, hz1, hz2⟩ := infoI
  have HI : Hid (Tryd.prog.info? 3 = some i0) := hi
  have HP : Hid (n = 2 * p) := hn
  have hst1 : 1 ≤ st ∧ st ≤ 8 := by
    obtain ⟨a, e, h1, h2, _⟩ := hb.hN.div
    have := hb.ha; omega
  obtain ⟨st', hst', _, _, htd64, hnz⟩ := hb.hN.div
  have hst2 : st' = st := by rw [← hst', hb.ha]
  rw [hst2] at htd64
  clear hst' hst2
  have hwst : ∀ q : Nat, q = st → wrap64 (q : Int) = (q : Int) := fun q hq => wr_in (by omega) (by omega)
  have htd : (n : Int).tdiv 2 = (p : Int) := by rw [Int.tdiv_eq_ediv_of_nonneg (by omega)]; omega
  have hed : (n : Int) / 2 = (p : Int) := by omega
  have hp1 : 1 ≤ p := by omega
  have HR : Hid (Calls Tryd.prog 16 #[.slice a n cap, .int .i64 262144] w fun e w' => e = .returned (.bool true) ∧ w' = w) := by
    have := xright_any 262144 (by omega) (by omega) a n cap U (Nat.le_trans hle (by decide)) w hu
    rwa [rightF_of hb.hN hU] at this
  have HU : Hid (∀ i, i < n → -262144 ≤ U i ∧ U i ≤ 262144) := hU
  have HQ : Hid (∀ k, wP n U k = twd (U (2 * k), U (n - 1 - 2 * k)) ((st * (4 * k + 1) : Nat) : Int)) := fun k => by rw [← hb.ha]; rfl
  have HL : Hid (∀ k, lateP n (wav m (wP n U)) k = twd (wav m (wP n U) k) ((4 * st * k : Nat) : Int)) := fun k => by rw [← hb.ha]; rfl
  have hbd : ∀ i, Bd 1048576 (cutP m (wP n U) i) := cutP_bd (by decide) (fun i hi => (wP_bd hb hU hi).wide (by decide))
  have HCt : Hid (∀ i, i < p → cutP m (wP n U) i = wP n U i) := fun i hi => if_pos (by rw [← hp]; exact hi)
  have HV : Hid (∀ i, i < p → wav m (cutP m (wP n U)) i = wav m (wP n U) i) := fun i hi => cutP_wav m _ (by rw [← hp]; exact hi)
  have HG : Hid (∀ i, i < p → Bd 764411904 (wav m (wP n U) i)) := fun i hi => by
    rw [← HV.out i hi]
    exact (wav_bd m _ hbd i).wide (bnd_le (by have := hb.hm; omega))
  have HWv : Hid (∀ W a1 c1 a2 c2, IsInts W a1 p c1 (fst (wP n U)) → IsInts W a2 p c2 (snd (wP n U)) → Calls Tryd.prog 61 #[.slice a1 p c1, .slice a2 p c2] W (RPost m p (cutP m (wP n U)) W)) := fun W a1 c1 a2 c2 h1 h2 =>
    rwaves_yes (by have := hb.hm; omega) p hp a1 a2 c1 c2 (cutP m (wP n U)) hbd W (h1.to (fun i hi => by show (wP n U i).1 = _; rw [← HCt.out i hi])) (h2.to (fun i hi => by show (wP n U i).2 = _; rw [← HCt.out i hi]))
  have hM : n ≤ maxLen := Nat.le_trans hle (by decide)
  obtain ⟨ub, uo, rfl, HC⟩ := hu.cells (by omega)
  replace HC : Hid (∀ W, Below w.heap.size w W → ∀ i, i < n → W.cell? ⟨ub, uo + i, none⟩ = some (.int .i64 (U i))) := HC
  clear hi hu hU hb hbd hp hn
  go_enter Tryd.func42, Tryd.ntmps42
  go_wp2_with (go_at_call 16; refine HR.out.mono ?_; rintro e wz ⟨rfl, rfl⟩)
  clear HR
  go_loopw [5, 6, 7] (fun u v i wr => ∃ k : Nat, k ≤ p ∧ i = .int .i64 k ∧ Hid (TwoOwn wz.heap.size u v k k (fst (wP n U)) (snd (wP n U)) wz wr)) (fun _ _ i _ => p - (intOf i).toNat)
  case atStart => exact ⟨0, Nat.zero_le _, rfl, ⟨World.ownsRow_nil _ _ _ _, World.ownsRow_nil _ _ _ _, .inl rfl, Below.refl _ _, Nat.le_refl _⟩⟩
  case round =>
    obtain ⟨k, hk, rfl, HT⟩ := hrel
    by_cases hlt : k < p
    · have hn2 := HP.out
      obtain ⟨i2, hi2⟩ : ∃ i2, i2 = n - 1 - 2 * k := ⟨_, rfl⟩
      obtain ⟨i1, hi1⟩ : ∃ i1, i1 = 2 * k := ⟨_, rfl⟩
      have hi1n : i1 < n := by omega
      have hi2n : i2 < n := by omega
      have hq := HQ.out k
      rw [← hi2, ← hi1] at hq
      obtain ⟨th, hth⟩ : ∃ th : Int, ((st * (4 * k + 1) : Nat) : Int) = th := ⟨_, rfl⟩
      rw [hth] at hq
      have hthb : 0 ≤ th ∧ th ≤ 8 * 257 := by
        have : st * (4 * k + 1) ≤ 8 * 257 := Nat.mul_le_mul hst1.2 (by omega)
        omega
      have e6 : (st : Int) * (4 * (k : Int) + 1) = th := by rw [← hth]; simp
      have V6 : Hid (wrap64 ((st : Int) * (4 * (k : Int) + 1)) = th) := by show _ = _; rw [e6]; exact wr_in (by omega) (by omega)
      have bx := HU.out i1 hi1n
      have by' := HU.out i2 hi2n
      have ca : ∀ W, Below wr.heap.size wr W → W.cell? ⟨ub, uo + i1, none⟩ = some (.int .i64 (U i1)) := fun W hq => HC.out W (HT.out.bel.trans (hq.mono HT.out.sz)) i1 hi1n
      have cc : ∀ W, Below wr.heap.size wr W → W.cell? ⟨ub, uo + i2, none⟩ = some (.int .i64 (U i2)) := fun W hq => HC.out W (HT.out.bel.trans (hq.mono HT.out.sz)) i2 hi2n
      have K2 : Hid (∀ W, Below wr.heap.size wr W → Calls Tryd.prog 60 #[.int .i64 (U i1), .int .i64 (U i2), .int .i64 th] W fun e w' => e = .returned (.tuple #[.int .i64 (twd (U i1, U i2) th).1, .int .i64 (twd (U i1, U i2) th).2]) ∧ Below wr.heap.size wr w') := fun W hq => by
        refine (rturn_in (p := (U i1, U i2)) (B := 262144) ⟨bx, by'⟩ (by decide) hthb.1 (by omega) W).mono ?_
        rintro e w2 ⟨he, hb⟩
        exact ⟨he, below_then hq hb⟩
      have HWP : Hid (wP n U k = twd (U i1, U i2) th) := hq
      generalize twd (U i1, U i2) th = xy at *
      generalize U i1 = x at *
      generalize U i2 = y at *
      have x1 : 2 * (k : Int) = (i1 : Int) := by omega
      have x2 : (n : Int) - 1 - (i1 : Int) = (i2 : Int) := by omega
      clear hq hth hthb e6 hi1 hi2 hn2 bx by'
      have v6 := V6.out
      go_wp2
      refine region_below (by kernel_rfl) (by kernel_rfl) ?_
      repeat (go_big_quiet_step (first
        | (intro hq; rfl)
        | (intro hq; rw [ca _ hq]; exact ⟨rfl, rfl⟩)
        | (intro hq; rw [cc _ hq]; exact ⟨rfl, rfl⟩)
        | (intro hq; go_at_call 60; (with_reducible exact K2.out _ hq))))
      refine wpQuiet_nil ?_
      intro w1 hq
      have T0 : Hid (TwoOwn wz.heap.size u5 u6 k k (fst (wP n U)) (snd (wP n U)) wz w1) := ⟨owns_below HT.out.a hq, owns_below HT.out.b hq, HT.out.ne, HT.out.bel.trans (hq.mono HT.out.sz), Nat.le_trans HT.out.sz hq.size⟩
      have e1 : Hid (xy.1 = fst (wP n U) k) := by show _ = (wP n U k).1; rw [HWP.out]
      have e2 : Hid (xy.2 = snd (wP n U) k) := by show _ = (wP n U k).2; rw [HWP.out]
      clear hq ca cc K2 HT v6
      have HA : Hid ((w1.alloc (.cells #[.int .i64 xy.1] 3)).ownsRow wz.heap.size 3 1 u5 k (intL k (fst (wP n U)))) := T0.out.a.alloc _
      have HZ : Hid (wz.heap.size ≤ (w1.alloc (.cells #[.int .i64 xy.1] 3)).heap.size) := Nat.le_trans T0.out.sz (by simp)
      go_wp2_with (at_builtin; refine wpList_append_lies _ rfl _ _ _ rfl wz.heap.size 3 i0 (.int .i64 0) 1 8 Tryd.underlying23 HI.out hz0 hz1 hz2 rfl (by omega) _ _ _ rfl HA.out ⟨w1.heap.size, 0, none⟩ 1 1 [.int .i64 xy.1] rfl rfl (World.news_of_block (cs := #[.int .i64 xy.1]) (heap_alloc_new w1 _)) (by intro u hu; simp at hu; subst hu; rfl) (by omega) (by unfold maxLen; omega) (by omega) HZ.out (w1.heap.size + 1) (by simp) ?_)
      intro g cap1 w3 hown hgr hor _
      have T1 : Hid (TwoOwn wz.heap.size (.slice (some ⟨g, 0, none⟩) (k + 1) cap1) u6 (k + 1) k (fst (wP n U)) (snd (wP n U)) wz w3) := two_a T0.out e1.out hown hgr hor
      have HA2 : Hid ((w3.alloc (.cells #[.int .i64 xy.2] 3)).ownsRow wz.heap.size 3 1 u6 k (intL k (snd (wP n U)))) := T1.out.b.alloc _
      have HZ2 : Hid (wz.heap.size ≤ (w3.alloc (.cells #[.int .i64 xy.2] 3)).heap.size) := Nat.le_trans T1.out.sz (by simp)
      clear hown hgr hor HA HZ T0
      go_wp2_with (at_builtin; refine wpList_append_lies _ rfl _ _ _ rfl wz.heap.size 3 i0 (.int .i64 0) 1 8 Tryd.underlying23 HI.out hz0 hz1 hz2 rfl (by omega) _ _ _ rfl HA2.out ⟨w3.heap.size, 0, none⟩ 1 1 [.int .i64 xy.2] rfl rfl (World.news_of_block (cs := #[.int .i64 xy.2]) (heap_alloc_new w3 _)) (by intro u hu; simp at hu; subst hu; rfl) (by omega) (by unfold maxLen; omega) (by omega) HZ2.out (w3.heap.size + 1) (by simp) ?_)
      intro g2 cap2 w4 hown hgr hor _
      have T2 : Hid (TwoOwn wz.heap.size (.slice (some ⟨g, 0, none⟩) (k + 1) cap1) (.slice (some ⟨g2, 0, none⟩) (k + 1) cap2) (k + 1) (k + 1) (fst (wP n U)) (snd (wP n U)) wz w4) := two_b T1.out e2.out hown hgr hor
      clear hown hgr hor HA2 HZ2 T1
      go_wp2
      refine ⟨⟨k + 1, by omega, by go_num, T2⟩, by simp [intOf]; omega⟩
    · obtain rfl : k = p := by omega
      obtain ⟨a1, c1, rfl, i1⟩ := own_ints HT.out.a
      obtain ⟨a2, c2, rfl, i2⟩ := own_ints HT.out.b
      have B1 : Hid (Below wz.heap.size wz wr) := HT.out.bel
      have KW : Hid (Calls Tryd.prog 61 #[.slice a1 k c1, .slice a2 k c2] wr (RPost m k (cutP m (wP n U)) wr)) := HWv.out wr a1 c1 a2 c2 i1 i2
      clear i1 i2 HT HWv
      go_wp2_with (go_at_call 61; refine Calls.mono KW.out ?_; rintro e w2 ⟨a3, c3, a4, c4, rfl, i3, i4, b2⟩; replace i3 : Hid _ := i3; replace i4 : Hid _ := i4; replace b2 : Hid _ := b2)
      have I3 : Hid (IsInts w2 a3 k c3 (fst (wav m (wP n U))))   := (show IsInts w2 a3 k c3 (fst (wav m (cutP m (wP n U)))) from i3.out).to (fun i hi => by show (wav m (cutP m (wP n U)) i).1 = _; rw [HV.out i hi])
      have I4 : Hid (IsInts w2 a4 k c4 (snd (wav m (wP n U))))   := (show IsInts w2 a4 k c4 (snd (wav m (cutP m (wP n U)))) from i4.out).to (fun i hi => by show (wav m (cutP m (wP n U)) i).2 = _; rw [HV.out i hi])
      have B12 : Hid (Below wz.heap.size wz w2) := below_then B1.out b2.out
      obtain ⟨ab, ao, rfl, CA⟩ := I3.out.cells hp1
      obtain ⟨cb, co, rfl, CC⟩ := I4.out.cells hp1
      replace CA : Hid (∀ W, Below w2.heap.size w2 W → ∀ i, i < k → W.cell? ⟨ab, ao + i, none⟩ = some (.int .i64 (wav m (wP n U) i).1)) := CA
      replace CC : Hid (∀ W, Below w2.heap.size w2 W → ∀ i, i < k → W.cell? ⟨cb, co + i, none⟩ = some (.int .i64 (wav m (wP n U) i).2)) := CC
      clear i3 i4 I3 I4 KW b2 B1
      obtain ⟨r, hr⟩ : ∃ r, r = w2.heap.size := ⟨_, rfl⟩
      have H0 : RowAt r n (doneX n 0 (fastF n m U)) (w2.alloc (.cells (rowA n (fun _ => 0)) 3)) := by
        rw [hr]
        exact RowAt.congr (al_new w2 _) (fun i _ => (doneX_zero n _ i).symm)
      have B0 : Below w2.heap.size w2 (w2.alloc (.cells (rowA n (fun _ => 0)) 3)) := (Below.refl _ w2).alloc (Nat.le_refl _) _
      generalize w2.alloc (.cells (rowA n (fun _ => 0)) 3) = w0 at H0 B0 ⊢
      rw [← hr]
      have HRR : Hid (r = w2.heap.size) := hr
      replace H0 : Hid _ := H0
      replace B0 : Hid _ := B0
      clear hr hmk hk hlt
      go_loopw [11] (fun i wr => ∃ j : Nat, j ≤ k ∧ i = .int .i64 j ∧ Hid (RowAt r n (doneX n j (fastF n m U)) wr) ∧ Hid (Below w2.heap.size w2 wr)) (fun i _ => k - (intOf i).toNat)
      case atStart => exact ⟨0, Nat.zero_le _, rfl, H0, B0⟩
      case round =>
        clear H0 B0
        obtain ⟨j, hj, rfl, HW, HB⟩ := hrel
        by_cases hlt : j < k
        · have hn2 := HP.out
          obtain ⟨th, hth⟩ : ∃ th : Int, ((4 * st * j : Nat) : Int) = th := ⟨_, rfl⟩
          have hl := HL.out j
          rw [hth] at hl
          have hthb : 0 ≤ th ∧ th ≤ 32 * 32 := by
            have : 4 * st * j ≤ 32 * 32 := Nat.mul_le_mul (by omega) (by omega)
            omega
          have e6 : 4 * (st : Int) * (j : Int) = th := by rw [← hth]; simp
          have V6 : Hid (wrap64 (4 * (st : Int) * (j : Int)) = th) := by show _ = _; rw [e6]; exact wr_in (by omega) (by omega)
          have hg := HG.out j hlt
          have hgt := hg.twd th
          have ca : ∀ W, Below wr.heap.size wr W → W.cell? ⟨ab, ao + j, none⟩ = some (.int .i64 (wav m (wP n U) j).1) := fun W hq => CA.out W (below_then HB.out hq) j hlt
          have cc : ∀ W, Below wr.heap.size wr W → W.cell? ⟨cb, co + j, none⟩ = some (.int .i64 (wav m (wP n U) j).2) := fun W hq => CC.out W (below_then HB.out hq) j hlt
          have K2 : Hid (∀ W, Below wr.heap.size wr W → Calls Tryd.prog 60 #[.int .i64 (wav m (wP n U) j).1, .int .i64 (wav m (wP n U) j).2, .int .i64 th] W fun e w' => e = .returned (.tuple #[.int .i64 (twd (wav m (wP n U) j) th).1, .int .i64 (twd (wav m (wP n U) j) th).2]) ∧ Below wr.heap.size wr w') := fun W hq => by
            refine (rturn_in hg (by decide) hthb.1 (by omega) W).mono ?_
            rintro e w2 ⟨he, hb⟩
            exact ⟨he, below_then hq hb⟩
          have HLP : Hid (lateP n (wav m (wP n U)) j = twd (wav m (wP n U) j) th) := hl
          generalize twd (wav m (wP n U) j) th = xy at *
          generalize wav m (wP n U) j = gk at *
          obtain ⟨⟨y1, y2⟩, ⟨y3, y4⟩⟩ := hgt
          obtain ⟨i2, hi2⟩ : ∃ i2, i2 = n - 1 - 2 * j := ⟨_, rfl⟩
          obtain ⟨i1, hi1⟩ : ∃ i1, i1 = 2 * j := ⟨_, rfl⟩
          have HII : Hid (i1 = 2 * j ∧ i2 = n - 1 - 2 * j) := ⟨hi1, hi2⟩
          have x1 : 2 * (j : Int) = (i1 : Int) := by omega
          have x2 : (n : Int) - 1 - (i1 : Int) = (i2 : Int) := by omega
          have hi1n : i1 < n := by omega
          have hi2n : i2 < n := by omega
          have hne : i1 ≠ i2 := by omega
          clear hg hl hth e6 hthb hi1 hi2 hn2
          have v6 := V6.out
          go_wp2
          refine region_below (by kernel_rfl) (by kernel_rfl) ?_
          repeat (go_big_quiet_step (first
            | (intro hq; rfl)
            | (intro hq; rw [ca _ hq]; exact ⟨rfl, rfl⟩)
            | (intro hq; rw [cc _ hq]; exact ⟨rfl, rfl⟩)
            | (intro hq; go_at_call 60; (with_reducible exact K2.out _ hq))))
          refine wpQuiet_nil ?_
          intro w1 hq
          have HW1 : Hid (RowAt r n (doneX n j (fastF n m U)) w1) := HW.out.below hq
          have HB1 : Hid (Below w2.heap.size w2 w1) := below_then HB.out hq
          clear hq ca cc K2 HW HB v6
          obtain ⟨z1, c1⟩ : ∃ v, w1.cell? ⟨r, i1, none⟩ = some v := ⟨_, HW1.out.get hi1n⟩
          have f1 := IsAt.frozen HW1.out i1
          obtain ⟨z2, c2⟩ : ∃ v, w1.cell? ⟨r, i2, none⟩ = some v := ⟨_, HW1.out.get hi2n⟩
          have f2 := IsAt.frozen HW1.out i2
          go_wp2
          have HW2 : Hid (RowAt r n (doneX n (j + 1) (fastF n m U)) ((w1.setCell ⟨r, i1, none⟩ (.int .i64 xy.1)).setCell ⟨r, i2, none⟩ (.int .i64 (-xy.2)))) := by
            refine ((HW1.out.set hi1n xy.1).set hi2n (-xy.2)).congr (fun i hi => ?_)
            rw [← outF_fast, ← doneX_step HP.out hlt (outF n (wav m (wP n U))) hi, outF_even, outF_odd HP.out hlt, HLP.out, HII.out.1, HII.out.2]
          have HB2 : Hid (Below w2.heap.size w2 ((w1.setCell ⟨r, i1, none⟩ (.int .i64 xy.1)).setCell ⟨r, i2, none⟩ (.int .i64 (-xy.2)))) :=
            (HB1.out.setCell (p := ⟨r, i1, none⟩) (by rw [HRR.out]; exact Nat.le_refl _) _).setCell (p := ⟨r, i2, none⟩) (by rw [HRR.out]; exact Nat.le_refl _) _
          refine ⟨⟨j + 1, by omega, by go_num, HW2, HB2⟩, by simp [intOf]; omega⟩
        · obtain rfl : j = k := by omega
          have HH : Hid (RowAt r n (fastF n m U) wr) := HW.out.congr (fun i hi => doneX_all HP.out _ hi)
          go_wp2
          go_ret
          exact ⟨r, rfl, by rw [HRR.out]; exact B12.out.size, HH.out, below_then B12.out HB.out⟩
theorem rfast_no (a : Option Addr) (len cap : Nat) (U : Nat → Int) (hl : len ≤ maxLen) (h : rightF U len 262144 = false) (w : World) (hu : IsInts w a len cap U) :
    Calls Tryd.prog 42 #[.slice a len cap] w fun e w' => e = .returned (.slice none 0 0) ∧ w' = w := by
  have HR : Hid (Calls Tryd.prog 16 #[.slice a len cap, .int .i64 262144] w fun e w' => e = .returned (.bool false) ∧ w' = w) := by
    have := xright_any 262144 (by omega) (by omega) a len cap U hl w hu
    rwa [h] at this
  clear h hu hl
  go_enter Tryd.func42, Tryd.ntmps42
  go_wp2_with (go_at_call 16; refine HR.out.mono ?_; rintro e w1 ⟨rfl, rfl⟩)
  go_ret
  exact ⟨rfl, rfl⟩
end Go.Proofs.YtfhcfdepjhdhfaaDoor
