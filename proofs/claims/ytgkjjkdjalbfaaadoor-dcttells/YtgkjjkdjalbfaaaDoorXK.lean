/-
  The contract of dct.Fast: of a block, of none, and of no table.
-/
import Derived.Test.YtgkjjkdjalbfaaaDoorXJ
import Derived.Lib.SliceRun
namespace Go.Proofs.YtgkjjkdjalbfaaaDoor
open Go.ChangeShapes Go.WideShapes Go.ChangeAt Go.RowKit
set_option linter.unusedVariables false

theorem IsInts.to {w : World} {a : Option Addr} {len cap : Nat} {X Y : Nat → Int} (h : IsInts w a len cap X) (e : ∀ i, i < len → X i = Y i) : IsInts w a len cap Y := h.congr e
set_option maxRecDepth 100000 in
theorem fast_yes {n m st : Nat} (hb : Blk n m st) (t : Nat) (a : Option Addr) (cap : Nat) (U : Nat → Int) (hU : ∀ i, i < n → -262144 ≤ U i ∧ U i ≤ 262144) (w : World) (ht : Tab t w) (hd : DTab w) (hu : IsInts w a n cap U) :
    Calls Tryd.prog 12 #[.pointer (some ⟨t, 0, none⟩), .slice a n cap] w (SPost n (fastF n m U) w) := by
  obtain ⟨p, hp⟩ : ∃ p, p = 2 ^ m := ⟨_, rfl⟩
  have hn : n = 2 * p := by rw [hp]; exact hb.hn
  have hle := hb.hN.le
  have HF : Hid (Calls Tryd.prog 16 #[.slice a n cap, .int .i64 262144] w fun e w' => e = .returned (.bool true) ∧ w' = w) := by
    have := xfits_any 262144 (by omega) (by omega) a n cap U (Nat.le_trans hle (by decide)) w hu
    rwa [rightF_of hb.hN hU] at this
  have K1 : Hid (Calls Tryd.prog 22 #[.pointer (some ⟨t, 0, none⟩), .slice a n cap] w (FPost p (wP n U) w)) := fold_any hb p hn t a cap U hU w ht hu
  have HC : Hid (∀ i, i < p → cutP m (wP n U) i = wP n U i) := fun i hi => if_pos (by rw [← hp]; exact hi)
  have hbd : ∀ i, Bd 1048576 (cutP m (wP n U) i) := cutP_bd (by decide) (fun i hi => (wP_bd hb hU hi).wide (by decide))
  have K2 : Hid (∀ W r q, Below w.heap.size w W → IsInts W (some ⟨r, 0, none⟩) p p (fst (wP n U)) → IsInts W (some ⟨q, 0, none⟩) p p (snd (wP n U)) →
      Calls Tryd.prog 23 #[.pointer (some ⟨t, 0, none⟩), .slice (some ⟨r, 0, none⟩) p p, .slice (some ⟨q, 0, none⟩) p p] W (WPost m p (wav m (cutP m (wP n U))) W)) := fun W r q hW h1 h2 =>
    waves_yes (by have := hb.hm; omega) p hp t _ _ p p (cutP m (wP n U)) hbd W (ht.below ht.1 hW) (hd.below hW) (h1.to (fun i hi => by show (wP n U i).1 = _; rw [← HC.out i hi])) (h2.to (fun i hi => by show (wP n U i).2 = _; rw [← HC.out i hi]))
  have HV : Hid (∀ i, i < p → wav m (cutP m (wP n U)) i = wav m (wP n U) i) := fun i hi => cutP_wav m _ (by rw [← hp]; exact hi)
  have hbw : ∀ i, i < p → Bd 764411904 (wav m (wP n U) i) := fun i hi => by
    rw [← HV.out i hi]
    exact (wav_bd m _ hbd i).wide (bnd_le (by have := hb.hm; omega))
  have K3 : Hid (∀ W r q, Below w.heap.size w W → IsInts W (some ⟨r, 0, none⟩) p p (fst (wav m (wP n U))) → IsInts W (some ⟨q, 0, none⟩) p p (snd (wav m (wP n U))) →
      Calls Tryd.prog 24 #[.pointer (some ⟨t, 0, none⟩), .slice (some ⟨r, 0, none⟩) p p, .slice (some ⟨q, 0, none⟩) p p] W (SPost n (fastF n m U) W)) := fun W r q hW h1 h2 =>
    unfold_any hb p hn t _ _ p p (wav m (wP n U)) hbw W (ht.below ht.1 hW) h1 h2
  have HM : Hid (p ≤ maxLen) := by show p ≤ maxLen; exact Nat.le_trans (show p ≤ 64 by omega) (by decide)
  have heq : ∀ (w : World) (x : Addr), (binOp .eql 22 (.slice (some x) p p) (.slice none 0 0)).run Tryd.prog w = .ok (.bool false) w := fun w x => Lib.run_eql_slice_nil w _ 3 (some x) p p 0 0 Tryd.underlying22
  clear hU ht hu hd hbd hbw hp hn hb hle
  go_enter Tryd.func12, Tryd.ntmps12
  go_wp2_with (go_at_call 16; refine HF.out.mono ?_; rintro e w1 ⟨rfl, rfl⟩)
  refine Calls.mono K1.out ?_
  rintro e w2 ⟨r, q, rfl, h2⟩
  have B2 : Hid (Below w1.heap.size w1 w2) := h2.bel
  have H2 : Hid _ := h2
  clear h2 K1 HF
  go_wp2_with (fail)
  refine (K2.out w2 r q B2.out (H2.out.a.ints HM.out) (H2.out.b.ints HM.out)).mono ?_
  rintro e w3 ⟨r2, q2, rfl, h3⟩
  have B3 : Hid (Below w2.heap.size w2 w3) := h3.bel
  have I1 : Hid (IsInts w3 (some ⟨r2, 0, none⟩) p p (fst (wav m (wP n U)))) := (h3.a.ints HM.out).to (fun i hi => by show (wav m (cutP m (wP n U)) i).1 = _; rw [HV.out i hi])
  have I2 : Hid (IsInts w3 (some ⟨q2, 0, none⟩) p p (snd (wav m (wP n U)))) := (h3.b.ints HM.out).to (fun i hi => by show (wav m (cutP m (wP n U)) i).2 = _; rw [HV.out i hi])
  clear h3 K2
  go_wp2_with (fail)
  refine (K3.out w3 r2 q2 (below_then B2.out B3.out) I1.out I2.out).mono ?_
  rintro e w4 ⟨x, rfl, h4, h5, h6⟩
  replace h5 : Hid _ := h5
  replace h6 : Hid _ := h6
  clear K3 I1 I2
  go_wp2
  go_ret
  exact ⟨x, rfl, Nat.le_trans (Nat.le_trans B2.out.size B3.out.size) h4, h5.out, below_then B2.out (below_then B3.out h6.out)⟩
theorem fast_no (t : Nat) (a : Option Addr) (len cap : Nat) (U : Nat → Int) (hl : len ≤ maxLen) (h : rightF U len 262144 = false) (w : World) (hu : IsInts w a len cap U) :
    Calls Tryd.prog 12 #[.pointer (some ⟨t, 0, none⟩), .slice a len cap] w fun e w' => e = .returned (.slice none 0 0) ∧ w' = w := by
  have HF : Hid (Calls Tryd.prog 16 #[.slice a len cap, .int .i64 262144] w fun e w' => e = .returned (.bool false) ∧ w' = w) := by
    have := xfits_any 262144 (by omega) (by omega) a len cap U hl w hu
    rwa [h] at this
  clear h hu hl
  go_enter Tryd.func12, Tryd.ntmps12
  go_wp2_with (go_at_call 16; refine HF.out.mono ?_; rintro e w1 ⟨rfl, rfl⟩)
  go_ret
  exact ⟨rfl, rfl⟩
theorem fast_nil (a : Option Addr) (len cap : Nat) (w : World) :
    Calls Tryd.prog 12 #[.pointer none, .slice a len cap] w fun e w' => e = .returned (.slice none 0 0) ∧ w' = w := by
  go_enter Tryd.func12, Tryd.ntmps12
  go_wp2
  go_ret
  exact ⟨rfl, rfl⟩
end Go.Proofs.YtgkjjkdjalbfaaaDoor
