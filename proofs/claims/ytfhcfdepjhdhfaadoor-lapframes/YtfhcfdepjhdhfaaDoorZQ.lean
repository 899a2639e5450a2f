/-
  The contract of dct.fold: a block as half as many numbers of two parts, turned ahead of their waves.
-/
import Derived.Test.YtfhcfdepjhdhfaaDoorZI
import Derived.Test.YtfhcfdepjhdhfaaDoorZG
import Derived.Deep.RegionHeld3
namespace Go.Proofs.YtfhcfdepjhdhfaaDoor
open Go.ChangeShapes Go.WideShapes Go.ChangeAt Go.RowKit
set_option linter.unusedVariables false

/-- k numbers of two parts are done. -/
def doneP (k : Nat) (F : Nat → P2) (x : Nat) : P2 := if x < k then F x else (0, 0)
theorem doneP_zero (F : Nat → P2) (x : Nat) : doneP 0 F x = (0, 0) := if_neg (by omega)
theorem doneP_all {p : Nat} (F : Nat → P2) {x : Nat} (h : x < p) : doneP p F x = F x := if_pos h
theorem doneP_step (k : Nat) (F : Nat → P2) (x : Nat) : doneP (k + 1) F x = if x = k then F k else doneP k F x := by
  unfold doneP
  by_cases e : x = k
  · subst e; rw [if_pos rfl, if_pos (by omega)]
  · rw [if_neg e]
    by_cases c : x < k
    · rw [if_pos c, if_pos (by omega)]
    · rw [if_neg c, if_neg (by omega)]
theorem Two.swap {B r q n : Nat} {X Y : Nat → Int} {w0 w : World} (h : Two B r q n X Y w0 w) : Two B q r n Y X w0 w := ⟨h.qB, h.rB, fun e => h.ne e.symm, h.b, h.a, h.bel⟩
/-- Two new lists, of p numbers each. -/
def FPost (p : Nat) (F : Nat → P2) (w : World) (e : Ending) (w' : World) : Prop := ∃ r q, e = .returned (.tuple #[.slice (some ⟨r, 0, none⟩) p p, .slice (some ⟨q, 0, none⟩) p p]) ∧ Two w.heap.size r q p (fst F) (snd F) w w'
set_option maxRecDepth 100000 in
set_option maxHeartbeats 2000000 in
theorem fold_any {n m st : Nat} (hb : Blk n m st) (p : Nat) (hp : n = 2 * p) (t : Nat) (a : Option Addr) (cap : Nat) (U : Nat → Int) (hU : ∀ i, i < n → -262144 ≤ U i ∧ U i ≤ 262144) (w : World) (ht : Tab t w) (hu : IsInts w a n cap U) :
    Calls Tryd.prog 56 #[.pointer (some ⟨t, 0, none⟩), .slice a n cap] w (FPost p (wP n U) w) := by
  have hmk := make_ints (n := p) (by have := hb.hN.le; omega)
  have hle := hb.hN.le
  have hge := hb.hN.ge
  have HN : Hid (IsN n) := hb.hN
  have HP : Hid (n = 2 * p) := hp
  have HST : Hid (64 / n = st) := hb.ha
  have hst1 : 1 ≤ st ∧ st ≤ 8 := by
    obtain ⟨a, e, h1, h2, _⟩ := hb.hN.div
    have := hb.ha; omega
  have htd : (n : Int).tdiv 2 = (p : Int) := by rw [Int.tdiv_eq_ediv_of_nonneg (by omega)]; omega
  have hed : (n : Int) / 2 = (p : Int) := by omega
  have HU : Hid (∀ i, i < n → -262144 ≤ U i ∧ U i ≤ 262144) := hU
  obtain ⟨ub, uo, rfl, HC⟩ := hu.cells (by omega)
  have hub : ub < w.heap.size := by
    rcases hu with h | ⟨b, off, e, h1, _⟩
    · omega
    · cases e; exact h1
  replace HC : Hid (∀ W, Below w.heap.size w W → ∀ i, i < n → W.cell? ⟨ub, uo + i, none⟩ = some (.int .i64 (U i))) := HC
  have HT : Hid (∀ W, Below w.heap.size w W → Tab t W) := fun W hb => ht.below ht.1 hb
  have HS : Hid (∀ W, Calls Tryd.prog 67 #[.int .i64 n] W fun e w' => e = .returned (.int .i64 (st : Int)) ∧ w' = W) := fun W => by
    have h := step_any HN.out W
    rwa [HST.out] at h
  have HUB : Hid (ub < w.heap.size) := hub
  have HQ : Hid (∀ k, wP n U k = twd (U (2 * k), U (n - 1 - 2 * k)) ((st * (4 * k + 1) : Nat) : Int)) := fun k => by rw [← HST.out]; rfl
  clear hu hU ht hb hp hub
  go_enter Tryd.func56, Tryd.ntmps56
  go_wp2
  go_region
  · obtain ⟨B, hB, H0⟩ : ∃ B, B = w.heap.size ∧ Two B w.heap.size (w.heap.size + 1) p (fun _ => 0) (fun _ => 0) w _ := ⟨_, rfl, made_two p w⟩
    generalize ((w.alloc (.cells (rowA p (fun _ => 0)) 3)).alloc (.cells (rowA p (fun _ => 0)) 3)).drew = w0 at H0 ⊢
    generalize w.heap.size + 1 = q at H0 ⊢
    generalize w.heap.size = r at H0 ⊢
    have HB : Hid (B = w.heap.size) := hB
    replace H0 : Hid (Two B r q p (fst (doneP 0 (wP n U))) (snd (doneP 0 (wP n U))) w w0) := H0.congr (fun x _ => by show _ = (doneP 0 (wP n U) x).1; rw [doneP_zero]) (fun x _ => by show _ = (doneP 0 (wP n U) x).2; rw [doneP_zero])
    clear hB hmk
    go_wp2
    go_loopw [20] (fun i wr => ∃ k : Nat, k ≤ p ∧ i = .int .i64 k ∧ Hid (Two B r q p (fst (doneP k (wP n U))) (snd (doneP k (wP n U))) w wr)) (fun i _ => p - (intOf i).toNat)
    case atStart => exact ⟨0, Nat.zero_le _, rfl, H0⟩
    case round =>
      clear H0
      obtain ⟨k, hk, rfl, HW⟩ := hrel
      by_cases hlt : k < p
      · obtain ⟨i2, hi2⟩ : ∃ i2, i2 = n - 1 - 2 * k := ⟨_, rfl⟩
        obtain ⟨i1, hi1⟩ : ∃ i1, i1 = 2 * k := ⟨_, rfl⟩
        have hn2 := HP.out
        have hi1n : i1 < n := by omega
        have hi2n : i2 < n := by omega
        have hbel : Below w.heap.size w wr := by rw [← HB.out]; exact HW.out.bel
        have cx := HC.out wr hbel i1 hi1n
        have cy := HC.out wr hbel i2 hi2n
        have HTW : Hid (Tab t wr.drew) := HT.out _ hbel.drew
        have bx := HU.out i1 hi1n
        have by' := HU.out i2 hi2n
        have hq := HQ.out k
        rw [← hi2, ← hi1] at hq
        obtain ⟨th, hth⟩ : ∃ th : Int, ((st * (4 * k + 1) : Nat) : Int) = th := ⟨_, rfl⟩
        rw [hth] at hq
        have hthb : 0 ≤ th ∧ th ≤ 8 * 257 := by
          have : st * (4 * k + 1) ≤ 8 * 257 := Nat.mul_le_mul hst1.2 (by omega)
          omega
        have v1 : IntKind.i64.wrap (2 * (k : Int)) = (i1 : Int) := by simp [IntKind.wrap, IntKind.signed, IntKind.bits]; omega
        have v2 : IntKind.i64.wrap ((n : Int) - 1) = (n : Int) - 1 := by simp [IntKind.wrap, IntKind.signed, IntKind.bits]; omega
        have v3 : IntKind.i64.wrap ((n : Int) - 1 - (i1 : Int)) = (i2 : Int) := by simp [IntKind.wrap, IntKind.signed, IntKind.bits]; omega
        have v4 : IntKind.i64.wrap (4 * (k : Int)) = 4 * (k : Int) := by simp [IntKind.wrap, IntKind.signed, IntKind.bits]; omega
        have v5 : IntKind.i64.wrap (4 * (k : Int) + 1) = 4 * (k : Int) + 1 := by simp [IntKind.wrap, IntKind.signed, IntKind.bits]; omega
        have e6 : (st : Int) * (4 * (k : Int) + 1) = th := by rw [← hth]; simp
        have v6 : IntKind.i64.wrap ((st : Int) * (4 * (k : Int) + 1)) = th := by rw [e6]; simp [IntKind.wrap, IntKind.signed, IntKind.bits]; omega
        have hi1a : (0 : Int) ≤ (i1 : Int) := by omega
        have hi1b : (i1 : Int) < (n : Int) := by omega
        have hi2a : (0 : Int) ≤ (i2 : Int) := by omega
        have hi2b : (i2 : Int) < (n : Int) := by omega
        have hka : (0 : Int) ≤ (k : Int) := by omega
        have hkb : (k : Int) < (p : Int) := by omega
        have hne1 : ub ≠ r := by have := HW.out.rB; have := HUB.out; have := HB.out; omega
        have hne2 : ub ≠ q := by have := HW.out.qB; have := HUB.out; have := HB.out; omega
        have HWP : Hid (wP n U k = twd (U i1, U i2) th) := hq
        obtain ⟨x, hx⟩ : ∃ x, U i1 = x := ⟨_, rfl⟩
        obtain ⟨y, hy⟩ : ∃ y, U i2 = y := ⟨_, rfl⟩
        rw [hx] at cx bx HWP
        rw [hy] at cy by' HWP
        have HC1 : Hid (Calls Tryd.prog 66 #[.pointer (some ⟨t, 0, none⟩), .int .i64 x, .int .i64 y, .int .i64 th] wr.drew fun e w' => e = .returned (.tuple #[.int .i64 (twd (x, y) th).1, .int .i64 (twd (x, y) th).2]) ∧ Two B r q p (fst (doneP k (wP n U))) (snd (doneP k (wP n U))) w w' ∧ w'.cell? ⟨ub, uo + i1, none⟩ = some (.int .i64 x) ∧ w'.cell? ⟨ub, uo + i2, none⟩ = some (.int .i64 y)) := by
          refine (turn_yes t x y th (by omega) (by omega) (by omega) _ HTW.out).mono ?_
          rintro e w2 ⟨he, hb⟩
          have h2 := HW.out.drew.below hb
          have hbel2 : Below w.heap.size w w2 := by rw [← HB.out]; exact h2.bel
          exact ⟨he, h2, by rw [← hx]; exact HC.out _ hbel2 _ hi1n, by rw [← hy]; exact HC.out _ hbel2 _ hi2n⟩
        generalize twd (x, y) th = xy at *
        clear hq hth hthb bx by' hx hy hn2 hi1 hi2 hi1n hi2n hbel e6
        go_wp2
        go_region_held3 (fun w' => w'.cell? ⟨ub, uo + i1, none⟩ = some (.int .i64 x) ∧ w'.cell? ⟨ub, uo + i2, none⟩ = some (.int .i64 y)) (go_keep) (first
          | (go_at_call 67; refine (HS.out _).mono ?_; rintro e w2 ⟨rfl, rfl⟩)
          | (go_at_call 66; refine Calls.mono HC1.out ?_; rintro e w3 ⟨rfl, h3, d1, d2⟩; have hr3 := h3.a.get hlt; have hq3 := h3.b.get hlt; have fr3 := IsAt.frozen h3.a k; have fq3 := IsAt.frozen h3.b k; have hne3 := h3.ne; have H3 : Hid _ := h3; clear h3; have g1 : ∀ v, (w3.setCell ⟨r, k, none⟩ v).cell? ⟨ub, uo + i1, none⟩ = some (.int .i64 x) := fun v => (World.cell?_of_block (a := ⟨ub, uo + i1, none⟩) (Below.heap_setCell _ _ _ ub hne1)).trans d1; have g2 : ∀ v, (w3.setCell ⟨r, k, none⟩ v).cell? ⟨ub, uo + i2, none⟩ = some (.int .i64 y) := fun v => (World.cell?_of_block (a := ⟨ub, uo + i2, none⟩) (Below.heap_setCell _ _ _ ub hne1)).trans d2; have g3 : ∀ v v', ((w3.setCell ⟨r, k, none⟩ v).setCell ⟨q, k, none⟩ v').cell? ⟨ub, uo + i1, none⟩ = some (.int .i64 x) := fun v v' => (World.cell?_of_block (a := ⟨ub, uo + i1, none⟩) (Below.heap_setCell _ _ _ ub hne2)).trans (g1 v); have g4 : ∀ v v', ((w3.setCell ⟨r, k, none⟩ v).setCell ⟨q, k, none⟩ v').cell? ⟨ub, uo + i2, none⟩ = some (.int .i64 y) := fun v v' => (World.cell?_of_block (a := ⟨ub, uo + i2, none⟩) (Below.heap_setCell _ _ _ ub hne2)).trans (g2 v); obtain ⟨vq, hvq⟩ : ∃ v, w3.cell? ⟨q, k, none⟩ = some v := ⟨_, hq3⟩; have g5 : ∀ v, (w3.setCell ⟨r, k, none⟩ v).cell? ⟨q, k, none⟩ = some vq := fun v => (World.cell?_of_block (a := ⟨q, k, none⟩) (Below.heap_setCell _ _ _ q (fun e => hne3 e.symm))).trans hvq; have g6 : ∀ v, (w3.setCell ⟨r, k, none⟩ v).frozen? ⟨q, k, none⟩ = false := fun v => by rw [World.frozen?_setCell]; exact fq3))
        have HW5 : Hid (Two B r q p (fst (doneP (k + 1) (wP n U))) (snd (doneP (k + 1) (wP n U))) w ((w3.setCell ⟨r, k, none⟩ (.int .i64 xy.1)).setCell ⟨q, k, none⟩ (.int .i64 xy.2))) :=
          ((H3.out.setA hlt xy.1).setB hlt xy.2).congr
            (fun i _ => by
              show upd (fst (doneP k (wP n U))) k xy.1 i = (doneP (k + 1) (wP n U) i).1
              rw [doneP_step]; unfold upd
              by_cases e : i = k
              · rw [if_pos e, if_pos e, HWP.out]
              · rw [if_neg e, if_neg e])
            (fun i _ => by
              show upd (snd (doneP k (wP n U))) k xy.2 i = (doneP (k + 1) (wP n U) i).2
              rw [doneP_step]; unfold upd
              by_cases e : i = k
              · rw [if_pos e, if_pos e, HWP.out]
              · rw [if_neg e, if_neg e])
        clear hq3 fr3 fq3 hne3 H3 g1 g2 g3 g4 g5 g6 hvq d1 d2 hr3 HC1 HWP cx cy HTW
        generalize (w3.setCell ⟨r, k, none⟩ (.int .i64 xy.1)).setCell ⟨q, k, none⟩ (.int .i64 xy.2) = w5 at *
        go_wp2
        refine ⟨⟨k + 1, by omega, by go_num, HW5⟩, by simp [intOf]; omega⟩
      · obtain rfl : k = p := by omega
        go_wp2
        go_ret2
        refine ⟨r, q, rfl, ?_⟩
        rw [← HB.out]
        exact HW.out.congr (fun x hx => by show (doneP k (wP n U) x).1 = _; rw [doneP_all _ hx]) (fun x hx => by show (doneP k (wP n U) x).2 = _; rw [doneP_all _ hx])
  · obtain ⟨B, hB, H0⟩ : ∃ B, B = w.heap.size ∧ Two B (w.heap.size + 1) w.heap.size p (fun _ => 0) (fun _ => 0) w _ := ⟨_, rfl, made_owt p w⟩
    generalize ((w.alloc (.cells (rowA p (fun _ => 0)) 3)).alloc (.cells (rowA p (fun _ => 0)) 3)).drew = w0 at H0 ⊢
    generalize w.heap.size + 1 = r at H0 ⊢
    generalize w.heap.size = q at H0 ⊢
    have HB : Hid (B = w.heap.size) := hB
    replace H0 : Hid (Two B r q p (fst (doneP 0 (wP n U))) (snd (doneP 0 (wP n U))) w w0) := H0.congr (fun x _ => by show _ = (doneP 0 (wP n U) x).1; rw [doneP_zero]) (fun x _ => by show _ = (doneP 0 (wP n U) x).2; rw [doneP_zero])
    clear hB hmk
    go_wp2
    go_loopw [20] (fun i wr => ∃ k : Nat, k ≤ p ∧ i = .int .i64 k ∧ Hid (Two B r q p (fst (doneP k (wP n U))) (snd (doneP k (wP n U))) w wr)) (fun i _ => p - (intOf i).toNat)
    case atStart => exact ⟨0, Nat.zero_le _, rfl, H0⟩
    case round =>
      clear H0
      obtain ⟨k, hk, rfl, HW⟩ := hrel
      by_cases hlt : k < p
      · obtain ⟨i2, hi2⟩ : ∃ i2, i2 = n - 1 - 2 * k := ⟨_, rfl⟩
        obtain ⟨i1, hi1⟩ : ∃ i1, i1 = 2 * k := ⟨_, rfl⟩
        have hn2 := HP.out
        have hi1n : i1 < n := by omega
        have hi2n : i2 < n := by omega
        have hbel : Below w.heap.size w wr := by rw [← HB.out]; exact HW.out.bel
        have cx := HC.out wr hbel i1 hi1n
        have cy := HC.out wr hbel i2 hi2n
        have HTW : Hid (Tab t wr.drew) := HT.out _ hbel.drew
        have bx := HU.out i1 hi1n
        have by' := HU.out i2 hi2n
        have hq := HQ.out k
        rw [← hi2, ← hi1] at hq
        obtain ⟨th, hth⟩ : ∃ th : Int, ((st * (4 * k + 1) : Nat) : Int) = th := ⟨_, rfl⟩
        rw [hth] at hq
        have hthb : 0 ≤ th ∧ th ≤ 8 * 257 := by
          have : st * (4 * k + 1) ≤ 8 * 257 := Nat.mul_le_mul hst1.2 (by omega)
          omega
        have v1 : IntKind.i64.wrap (2 * (k : Int)) = (i1 : Int) := by simp [IntKind.wrap, IntKind.signed, IntKind.bits]; omega
        have v2 : IntKind.i64.wrap ((n : Int) - 1) = (n : Int) - 1 := by simp [IntKind.wrap, IntKind.signed, IntKind.bits]; omega
        have v3 : IntKind.i64.wrap ((n : Int) - 1 - (i1 : Int)) = (i2 : Int) := by simp [IntKind.wrap, IntKind.signed, IntKind.bits]; omega
        have v4 : IntKind.i64.wrap (4 * (k : Int)) = 4 * (k : Int) := by simp [IntKind.wrap, IntKind.signed, IntKind.bits]; omega
        have v5 : IntKind.i64.wrap (4 * (k : Int) + 1) = 4 * (k : Int) + 1 := by simp [IntKind.wrap, IntKind.signed, IntKind.bits]; omega
        have e6 : (st : Int) * (4 * (k : Int) + 1) = th := by rw [← hth]; simp
        have v6 : IntKind.i64.wrap ((st : Int) * (4 * (k : Int) + 1)) = th := by rw [e6]; simp [IntKind.wrap, IntKind.signed, IntKind.bits]; omega
        have hi1a : (0 : Int) ≤ (i1 : Int) := by omega
        have hi1b : (i1 : Int) < (n : Int) := by omega
        have hi2a : (0 : Int) ≤ (i2 : Int) := by omega
        have hi2b : (i2 : Int) < (n : Int) := by omega
        have hka : (0 : Int) ≤ (k : Int) := by omega
        have hkb : (k : Int) < (p : Int) := by omega
        have hne1 : ub ≠ r := by have := HW.out.rB; have := HUB.out; have := HB.out; omega
        have hne2 : ub ≠ q := by have := HW.out.qB; have := HUB.out; have := HB.out; omega
        have HWP : Hid (wP n U k = twd (U i1, U i2) th) := hq
        obtain ⟨x, hx⟩ : ∃ x, U i1 = x := ⟨_, rfl⟩
        obtain ⟨y, hy⟩ : ∃ y, U i2 = y := ⟨_, rfl⟩
        rw [hx] at cx bx HWP
        rw [hy] at cy by' HWP
        have HC1 : Hid (Calls Tryd.prog 66 #[.pointer (some ⟨t, 0, none⟩), .int .i64 x, .int .i64 y, .int .i64 th] wr.drew fun e w' => e = .returned (.tuple #[.int .i64 (twd (x, y) th).1, .int .i64 (twd (x, y) th).2]) ∧ Two B r q p (fst (doneP k (wP n U))) (snd (doneP k (wP n U))) w w' ∧ w'.cell? ⟨ub, uo + i1, none⟩ = some (.int .i64 x) ∧ w'.cell? ⟨ub, uo + i2, none⟩ = some (.int .i64 y)) := by
          refine (turn_yes t x y th (by omega) (by omega) (by omega) _ HTW.out).mono ?_
          rintro e w2 ⟨he, hb⟩
          have h2 := HW.out.drew.below hb
          have hbel2 : Below w.heap.size w w2 := by rw [← HB.out]; exact h2.bel
          exact ⟨he, h2, by rw [← hx]; exact HC.out _ hbel2 _ hi1n, by rw [← hy]; exact HC.out _ hbel2 _ hi2n⟩
        generalize twd (x, y) th = xy at *
        clear hq hth hthb bx by' hx hy hn2 hi1 hi2 hi1n hi2n hbel e6
        go_wp2
        go_region_held3 (fun w' => w'.cell? ⟨ub, uo + i1, none⟩ = some (.int .i64 x) ∧ w'.cell? ⟨ub, uo + i2, none⟩ = some (.int .i64 y)) (go_keep) (first
          | (go_at_call 67; refine (HS.out _).mono ?_; rintro e w2 ⟨rfl, rfl⟩)
          | (go_at_call 66; refine Calls.mono HC1.out ?_; rintro e w3 ⟨rfl, h3, d1, d2⟩; have hr3 := h3.a.get hlt; have hq3 := h3.b.get hlt; have fr3 := IsAt.frozen h3.a k; have fq3 := IsAt.frozen h3.b k; have hne3 := h3.ne; have H3 : Hid _ := h3; clear h3; have g1 : ∀ v, (w3.setCell ⟨r, k, none⟩ v).cell? ⟨ub, uo + i1, none⟩ = some (.int .i64 x) := fun v => (World.cell?_of_block (a := ⟨ub, uo + i1, none⟩) (Below.heap_setCell _ _ _ ub hne1)).trans d1; have g2 : ∀ v, (w3.setCell ⟨r, k, none⟩ v).cell? ⟨ub, uo + i2, none⟩ = some (.int .i64 y) := fun v => (World.cell?_of_block (a := ⟨ub, uo + i2, none⟩) (Below.heap_setCell _ _ _ ub hne1)).trans d2; have g3 : ∀ v v', ((w3.setCell ⟨r, k, none⟩ v).setCell ⟨q, k, none⟩ v').cell? ⟨ub, uo + i1, none⟩ = some (.int .i64 x) := fun v v' => (World.cell?_of_block (a := ⟨ub, uo + i1, none⟩) (Below.heap_setCell _ _ _ ub hne2)).trans (g1 v); have g4 : ∀ v v', ((w3.setCell ⟨r, k, none⟩ v).setCell ⟨q, k, none⟩ v').cell? ⟨ub, uo + i2, none⟩ = some (.int .i64 y) := fun v v' => (World.cell?_of_block (a := ⟨ub, uo + i2, none⟩) (Below.heap_setCell _ _ _ ub hne2)).trans (g2 v); obtain ⟨vq, hvq⟩ : ∃ v, w3.cell? ⟨q, k, none⟩ = some v := ⟨_, hq3⟩; have g5 : ∀ v, (w3.setCell ⟨r, k, none⟩ v).cell? ⟨q, k, none⟩ = some vq := fun v => (World.cell?_of_block (a := ⟨q, k, none⟩) (Below.heap_setCell _ _ _ q (fun e => hne3 e.symm))).trans hvq; have g6 : ∀ v, (w3.setCell ⟨r, k, none⟩ v).frozen? ⟨q, k, none⟩ = false := fun v => by rw [World.frozen?_setCell]; exact fq3))
        have HW5 : Hid (Two B r q p (fst (doneP (k + 1) (wP n U))) (snd (doneP (k + 1) (wP n U))) w ((w3.setCell ⟨r, k, none⟩ (.int .i64 xy.1)).setCell ⟨q, k, none⟩ (.int .i64 xy.2))) :=
          ((H3.out.setA hlt xy.1).setB hlt xy.2).congr
            (fun i _ => by
              show upd (fst (doneP k (wP n U))) k xy.1 i = (doneP (k + 1) (wP n U) i).1
              rw [doneP_step]; unfold upd
              by_cases e : i = k
              · rw [if_pos e, if_pos e, HWP.out]
              · rw [if_neg e, if_neg e])
            (fun i _ => by
              show upd (snd (doneP k (wP n U))) k xy.2 i = (doneP (k + 1) (wP n U) i).2
              rw [doneP_step]; unfold upd
              by_cases e : i = k
              · rw [if_pos e, if_pos e, HWP.out]
              · rw [if_neg e, if_neg e])
        clear hq3 fr3 fq3 hne3 H3 g1 g2 g3 g4 g5 g6 hvq d1 d2 hr3 HC1 HWP cx cy HTW
        generalize (w3.setCell ⟨r, k, none⟩ (.int .i64 xy.1)).setCell ⟨q, k, none⟩ (.int .i64 xy.2) = w5 at *
        go_wp2
        refine ⟨⟨k + 1, by omega, by go_num, HW5⟩, by simp [intOf]; omega⟩
      · obtain rfl : k = p := by omega
        go_wp2
        go_ret2
        refine ⟨r, q, rfl, ?_⟩
        rw [← HB.out]
        exact HW.out.congr (fun x hx => by show (doneP k (wP n U) x).1 = _; rw [doneP_all _ hx]) (fun x hx => by show (doneP k (wP n U) x).2 = _; rw [doneP_all _ hx])
end Go.Proofs.YtfhcfdepjhdhfaaDoor
