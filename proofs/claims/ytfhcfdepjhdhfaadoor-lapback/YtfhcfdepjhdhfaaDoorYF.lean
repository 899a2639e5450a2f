/-
  The document's Frame.
-/
import Derived.Test.YtfhcfdepjhdhfaaDoorYA
import Derived.Test.YtfhcfdepjhdhfaaDoorZM
import Derived.Test.YtfhcfdepjhdhfaaDoorZA
import Derived.Test.YtfhcfdepjhdhfaaDoorZC
import Derived.Test.YtfhcfdepjhdhfaaDoorZD
namespace Go.Proofs.YtfhcfdepjhdhfaaDoor
open Go.ChangeShapes Go.WideShapes Go.ChangeAt Go.RowKit
set_option linter.unusedVariables false

/-- The tail ahead of block b. -/
def tlF (n : Nat) (T : Nat → Int) (Y : Nat → Nat → Int) (b : Nat) : Nat → Int := if b = 0 then T else wRightF n (Y (b - 1))
/-- A frame's samples, of blocks of n numbers. -/
def frF (n : Nat) (T : Nat → Int) (Y : Nat → Nat → Int) (q : Nat) : Int :=
  if q % n < 8 then satF (wMeetF (tlF n T Y (q / n) (q % n)) (wLeftF (Y (q / n)) (q % n))) else satF (Y (q / n) (q % n - 4))
theorem frF_meet {n : Nat} (hn : 8 ≤ n) (T : Nat → Int) (Y : Nat → Nat → Int) {b j : Nat} (hj : j < 8) : frF n T Y (n * b + j) = satF (wMeetF (tlF n T Y b j) (wLeftF (Y b) j)) := by
  have e1 : (n * b + j) % n = j := by rw [Nat.mul_add_mod, Nat.mod_eq_of_lt (by omega)]
  have e2 : (n * b + j) / n = b := by rw [Nat.mul_add_div (by omega), Nat.div_eq_of_lt (by omega), Nat.add_zero]
  rw [frF, e1, e2, if_pos hj]
theorem frF_own {n : Nat} (T : Nat → Int) (Y : Nat → Nat → Int) {b k : Nat} (h4 : 4 ≤ k) (hk : k + 4 < n) : frF n T Y (n * b + (k + 4)) = satF (Y b k) := by
  have e1 : (n * b + (k + 4)) % n = k + 4 := by rw [Nat.mul_add_mod, Nat.mod_eq_of_lt hk]
  have e2 : (n * b + (k + 4)) / n = b := by rw [Nat.mul_add_div (by omega), Nat.div_eq_of_lt hk, Nat.add_zero]
  rw [frF, e1, e2, if_neg (by omega), show k + 4 - 4 = k by omega]
/-- The samples and the tail behind them. -/
def FrPost (m : Nat) (G T : Nat → Int) (w : World) (e : Ending) (w' : World) : Prop := ∃ a cap, e = .returned (.tuple #[.slice a m cap, arr8 T]) ∧ IsInts w' a m cap G ∧ Below w.heap.size w w'
theorem results_two8 {fn : Func} {q p : Tmp} (hfn : fn.results = #[.tmp q, .cell p 22]) (tmps : Array Value) {r : Nat} {v : Value} {X : Nat → Int} {w : World} (hq : tmps.getD q undef = v) (hp : tmps.getD p undef = .pointer (some ⟨r, 0, none⟩)) (h : ArrAt r X w) : (results fn tmps).run Tryd.prog w = .ok (.tuple #[v, arr8 X]) w := by
  have hl := h.load
  have hp' : tmps[p]?.getD undef = .pointer (some ⟨r, 0, none⟩) := by simpa using hp
  have hq' : tmps[q]?.getD undef = v := by simpa using hq
  simp [results, hfn, hp', hq', asAddr, hl]
theorem quiet_load8 {o : Oper} {a : Act} {C : World → Prop} {K : Act → Prop} {x : Operand} {p : Nat} {X : Nat → Int} (ho : o.op = .load 22 x) (hx : a.eval x = .pointer (some ⟨p, 0, none⟩)) (h : ∀ w, C w → ArrAt p X w) (k : K (a.put o.dst (arr8 X))) : o.quiet Tryd.prog a C K :=
  ⟨arr8 X, fun w hw => by
    unfold Oper.quietAt
    rw [exec_load8 ho hx (h w hw)]
    exact ⟨rfl, rfl⟩, k⟩
/-- A frame on the way: cnt samples are told (G), the tail stands in block p, the result in block r; what Blocks made is as it was. -/
structure FrS (B4 W1 p r cnt : Nat) (u : Value) (G TL : Nat → Int) (w w4 wr : World) : Prop where
  own : wr.ownsRow B4 3 1 u cnt (intL cnt G)
  tail : ArrAt p TL wr
  res : ArrAt r (fun _ => 0) wr
  keep : ∀ k, W1 ≤ k → k < B4 → wr.heap[k]? = w4.heap[k]?
  bel : Below w.heap.size w wr
  sz : B4 ≤ wr.heap.size
  lo : w.heap.size ≤ p ∧ w.heap.size ≤ r ∧ p < W1 ∧ r < W1 ∧ p ≠ r ∧ W1 ≤ B4
theorem FrS.tr {B4 W1 p r cnt : Nat} {u : Value} {G TL : Nat → Int} {w w4 wr w' : World} (h : FrS B4 W1 p r cnt u G TL w w4 wr) (hb : Below wr.heap.size wr w') : FrS B4 W1 p r cnt u G TL w w4 w' :=
  ⟨owns_below h.own hb, h.tail.below hb, h.res.below hb, fun k h1 h2 => (hb.block k (Nat.lt_of_lt_of_le h2 h.sz)).trans (h.keep k h1 h2), below_then h.bel hb, Nat.le_trans h.sz hb.size, h.lo⟩
theorem owns_keep {w w' : World} {B k sz : Nat} {t : TypeId} {v : Value} {l : List Value} (h : w.ownsRow B t sz v k l) (hb : ∀ j, B ≤ j → w'.heap[j]? = w.heap[j]?) : w'.ownsRow B t sz v k l := by
  obtain ⟨h1, h2 | ⟨g, cap, cur, h2, h3, h4, h5⟩⟩ := h
  · exact ⟨h1, .inl h2⟩
  · exact ⟨h1, .inr ⟨g, cap, cur, h2, h3, (hb g h3).trans h4, h5⟩⟩
theorem FrS.setTail {B4 W1 p r cnt : Nat} {u : Value} {G TL : Nat → Int} {w w4 wr : World} (h : FrS B4 W1 p r cnt u G TL w w4 wr) (TL' : Nat → Int) : FrS B4 W1 p r cnt u G TL' w w4 (wr.setRow p (rowA 8 TL')) := by
  have lo := h.lo
  exact ⟨owns_keep h.own (fun j hj => setRow_other wr p j _ (by omega)), h.tail.laid TL', h.res.kept (by omega) _, fun k h1 h2 => (setRow_other wr p k _ (by omega)).trans (h.keep k h1 h2), below_setRow h.bel lo.1 _, by rw [size_setRow]; exact h.sz, lo⟩
theorem FrS.next {B4 W1 p r cnt g cap : Nat} {u : Value} {G TL : Nat → Int} {w w4 wr w3 : World} {c : Int} (h : FrS B4 W1 p r cnt u G TL w w4 wr) (hc : c = G cnt)
    (hown : w3.ownsRow B4 3 1 (.slice (some ⟨g, 0, none⟩) (cnt + 1) cap) (cnt + 1) (intL cnt G ++ [.int .i64 c])) (hg : (wr.alloc (.cells #[.int .i64 c] 3)).grownBy w3 u.ownBlock) :
    FrS B4 W1 p r (cnt + 1) (.slice (some ⟨g, 0, none⟩) (cnt + 1) cap) G TL w w4 w3 := by
  subst hc
  have lo := h.lo
  have hs : (wr.alloc (.cells #[.int .i64 (G cnt)] 3)).heap.size = wr.heap.size + 1 := al_size _ _
  have hsz := h.sz
  have hb : ∀ k, k < B4 → w3.heap[k]? = wr.heap[k]? := fun k hk => (hg.block k (by omega) (fun e => by
    have := (h.own.lt k e.symm).1
    omega)).trans (al_old _ (by omega))
  refine ⟨by rw [intL_snoc]; exact hown, (hb p (by omega)).trans h.tail, (hb r (by omega)).trans h.res, fun k h1 h2 => (hb k h2).trans (h.keep k h1 h2), ?_, by have := hg.size; omega, lo⟩
  exact Below.grown (h.bel.alloc (by have := h.bel.size; omega) _) hg (by have := h.bel.size; omega) (fun j hj => by have := (h.own.lt j hj).1; omega)
theorem alloc_arr {wr wk : World} (h : Below wr.heap.size wr wk) : ArrAt wk.heap.size (fun _ => 0) (wk.alloc (.cells #[Value.int .i64 0, Value.int .i64 0, Value.int .i64 0, Value.int .i64 0, Value.int .i64 0, Value.int .i64 0, Value.int .i64 0, Value.int .i64 0] 22)) ∧ Below wr.heap.size wr (wk.alloc (.cells #[Value.int .i64 0, Value.int .i64 0, Value.int .i64 0, Value.int .i64 0, Value.int .i64 0, Value.int .i64 0, Value.int .i64 0, Value.int .i64 0] 22)) :=
  ⟨arr_new0 wk, h.alloc h.size _⟩
set_option maxRecDepth 100000 in
set_option maxHeartbeats 4000000 in
theorem rframe_yes (n kB : Nat) (hn : (n = 8 ∧ kB = 8) ∨ (n = 64 ∧ kB = 1)) (short : Bool) (a : Option Addr) (cap : Nat) (X T : Nat → Int) (Y : Nat → Nat → Int) (hX : rightF X 64 33554432 = true) (hT : ∀ j, j < 8 → -35184372088832 ≤ T j ∧ T j ≤ 35184372088832)
    (hY : ∀ b, b < kB → Fit30 (Y b) n) (w : World) (h : IsInts w a 64 cap X)
    (hB : ∀ W, Below w.heap.size w W → Calls Tryd.prog 30 #[.slice a 64 cap, .bool short] W (NPost kB n Y W)) :
    Calls Tryd.prog 10 #[arr8 T, .slice a 64 cap, .bool short] w (FrPost 64 (frF n T Y) (tlF n T Y kB) w) := by
  obtain ⟨i0, hi, hz0, hz1, hz2⟩ := infoI
  have HI : Hid (Tryd.prog.info? 3 = some i0) := hi
  obtain ⟨W1, hW1⟩ : ∃ W1, W1 = (w.alloc (.cells (rowA 8 T) 22)).alloc (.cells #[Value.int .i64 0, Value.int .i64 0, Value.int .i64 0, Value.int .i64 0, Value.int .i64 0, Value.int .i64 0, Value.int .i64 0, Value.int .i64 0] 22) := ⟨_, rfl⟩
  have hp := arr_new T w
  have hr := arr_new0 (w.alloc (.cells (rowA 8 T) 22))
  have hp' := arr_old0 hp
  rw [al_size] at hr
  rw [← hW1] at hr hp'
  have hbw : Below w.heap.size w W1 := by rw [hW1]; exact ((Below.refl _ w).alloc (Nat.le_refl _) _).alloc (by rw [al_size]; omega) _
  have K1 : Hid (∀ W, Below w.heap.size w W → Calls Tryd.prog 16 #[.slice a 64 cap, .int .i64 33554432] W fun e w' => e = .returned (.bool true) ∧ w' = W) := fun W hW => by
    have := xright_any 33554432 (by omega) (by omega) a 64 cap X (by decide) W (h.below hW)
    rwa [hX] at this
  have K2 : Hid (∀ W, Below W1.heap.size W1 W → Calls Tryd.prog 29 #[.slice (some ⟨w.heap.size, 0, none⟩) 8 8, .int .i64 (-35184372088832), .int .i64 35184372088832] W fun e w' => e = .returned (.bool true) ∧ w' = W) := fun W hW => by
    have := rwithin_g (-35184372088832) 35184372088832 (some ⟨w.heap.size, 0, none⟩) 8 8 T (by omega) W (ArrAt.ints (hp'.below hW))
    rwa [(allIn_iff (-35184372088832) 35184372088832 T 8).2 hT] at this
  have K3 := hid hB
  have HW1 := hid hW1
  have HP := hid hp'
  have HR := hid hr
  have HBW := hid hbw
  have HY := hid hY
  have HNK := hid hn
  clear hi hX hT hY h hB hW1 hp hp' hr hbw hn
  go_enter Tryd.func10, Tryd.ntmps10
  go_wp2_with (fail)
  have hW1 := HW1.out
  rw [← hW1]
  clear hW1 HW1
  refine (K1.out _ HBW.out).mono ?_
  rintro e w2 ⟨rfl, rfl⟩
  go_wp2_with (fail)
  refine (K2.out _ (Below.refl _ _)).mono ?_
  rintro e w3 ⟨rfl, rfl⟩
  go_wp2_with (fail)
  refine (K3.out _ HBW.out).mono ?_
  rintro e w4 ⟨la, lc, rfl, l4, b4⟩
  have HLN := hid l4
  have hB4 : w3.heap.size ≤ w4.heap.size := b4.size
  have HF0 : Hid (FrS w4.heap.size w3.heap.size w.heap.size (w.heap.size + 1) (n * 0) (.slice none 0 0) (frF n T Y) (tlF n T Y 0) w w4 w4) := by
    refine ⟨World.ownsRow_nil _ _ _ _, HP.out.below b4, HR.out.below b4, fun k _ _ => rfl, below_then HBW.out b4, Nat.le_refl _, Nat.le_refl _, by omega, HP.out.lt, HR.out.lt, by omega, hB4⟩
  clear l4 b4 hB4 HP HR K1 K2 K3
  go_wp2
  generalize w.heap.size + 1 = r at HF0 ⊢
  generalize hpp : w.heap.size = p at HF0 ⊢
  have HPP := hid hpp
  clear hpp
  have HF1 : Hid (FrS w4.heap.size w3.heap.size p r (n * 0) (.slice none 0 0) (frF n T Y) (tlF n T Y 0) w w4 w4) := HF0
  clear HF0
  go_loopw [8, 10] (fun o i wr => ∃ b : Nat, b ≤ kB ∧ i = .int .i64 b ∧ Hid (FrS w4.heap.size w3.heap.size p r (n * b) o (frF n T Y) (tlF n T Y b) w w4 wr)) (fun _ i _ => kB - (intOf i).toNat)
  case atStart => exact ⟨0, by omega, rfl, HF1⟩
  case round =>
    clear HF1
    obtain ⟨b, hb, rfl, HF⟩ := hrel
    have hk8 : kB ≤ 8 := by have := HNK.out; omega
    by_cases hlt : b < kB
    · obtain ⟨lb, lo, rfl, hl0, hl1, _, _, hl2⟩ : ∃ b off, la = some ⟨b, off, none⟩ ∧ w3.heap.size ≤ b ∧ b < w4.heap.size ∧ kB ≤ lc ∧ lc ≤ maxLen ∧ ∀ i, i < kB → ∃ ai ci, w4.cell? ⟨b, off + i, none⟩ = some (.slice ai n ci) ∧ IsInts w4 ai n ci (Y i) ∧ ∀ x, ai = some x → w3.heap.size ≤ x.block := by
        rcases HLN.out with h | h
        · omega
        · exact h
      obtain ⟨ai, ci, hcell, hI, hnew⟩ := hl2 b hlt
      have hn8 : 8 ≤ n := by have := HNK.out; omega
      obtain ⟨rb, ro, rfl, hrb⟩ : ∃ rb ro, ai = some ⟨rb, ro, none⟩ ∧ rb < w4.heap.size := by
        rcases hI with h | ⟨b', o', e, h, _⟩
        · omega
        · exact ⟨b', o', e, h⟩
      have hrn := hnew _ rfl
      have HLK : Hid (∀ W : World, (∀ k, w3.heap.size ≤ k → k < w4.heap.size → W.heap[k]? = w4.heap[k]?) → W.cell? ⟨lb, lo + b, none⟩ = some (.slice (some ⟨rb, ro, none⟩) n ci)) := fun W hW => by
        rw [World.cell?_of_block (a := ⟨lb, lo + b, none⟩) (hW lb hl0 hl1)]; exact hcell
      have HIK : Hid (∀ W : World, (∀ k, w3.heap.size ≤ k → k < w4.heap.size → W.heap[k]? = w4.heap[k]?) → w4.heap.size ≤ W.heap.size → IsInts W (some ⟨rb, ro, none⟩) n ci (Y b)) := fun W hW hs => by
        rcases hI with h | ⟨b', o', e, h1, h2, h3, h4⟩
        · exact .inl h
        · cases e
          refine .inr ⟨rb, ro, rfl, Nat.lt_of_lt_of_le hrb hs, h2, h3, fun i hi => ?_⟩
          rw [World.cell?_of_block (a := ⟨rb, ro + i, none⟩) (hW rb hrn hrb)]
          exact h4 i hi
      have HLC : Hid (∀ W, Below wr.heap.size wr W → W.cell? ⟨lb, lo + b, none⟩ = some (.slice (some ⟨rb, ro, none⟩) n ci)) := fun W hW => HLK.out W (HF.out.tr hW).keep
      have HIY : Hid (∀ W, Below wr.heap.size wr W → IsInts W (some ⟨rb, ro, none⟩) n ci (Y b)) := fun W hW => HIK.out W (HF.out.tr hW).keep (HF.out.tr hW).sz
      have HTL : Hid (∀ W, Below wr.heap.size wr W → ArrAt p (tlF n T Y b) W) := fun W hW => HF.out.tail.below hW
      have KL : Hid (∀ W, Below wr.heap.size wr W → Calls Tryd.prog 32 #[.slice (some ⟨rb, ro, none⟩) n ci] W fun e w' => e = .returned (arr8 (wLeftF (Y b))) ∧ Below W.heap.size W w') := fun W hW => rleft_yes n (by have := HNK.out; omega) _ ci (Y b) (HY.out b hlt) W (HIY.out W hW)
      have hlt2 : (b : Int) < (kB : Int) := by omega
      have hnb : n * b + n ≤ 64 := by
        rcases HNK.out with ⟨h1, h2⟩ | ⟨h1, h2⟩
        · subst h1; omega
        · subst h1; omega
      clear hl0 hl1 hl2 hcell hI hnew hrb hrn
      go_wp2
      refine wp_region_noPanic ?_
      refine wp_region_held_drew (S := fun W' => Below wr.heap.size wr W') (by kernel_rfl) ((Below.refl _ _).drew) (fun hHeld => ?_)
      refine wpAnyH_take (i := 0) (v := arr8 (tlF n T Y b)) rfl (by kernel_rfl) (by kernel_rfl) (by kernel_rfl) (fun _ _ _ h => h) (Or.inl ⟨by rfl, ?_⟩) hHeld ?_
      · (intro wz hSw; simp only [List.getElem_toArray, List.getElem_cons_zero]; exact exec_load8 (by rfl) (by rfl) (HTL.out _ hSw))
      simp only [List.getElem_toArray, List.getElem_cons_zero, Act.put, List.setIfInBounds_toArray, List.set_cons_zero, List.set_cons_succ]
      refine wpAnyH_take (i := 1) (v := ?_) rfl (by kernel_rfl) (by kernel_rfl) (by kernel_rfl) (fun _ _ _ h => h) (Or.inl ⟨by rfl, ?_⟩) hHeld ?_
      rotate_left
      · (intro wz hSw; simp only [List.getElem_toArray, List.getElem_cons_zero, List.getElem_cons_succ]; go_simp; try (with_reducible rfl))
      simp only [List.getElem_toArray, List.getElem_cons_zero, List.getElem_cons_succ, Act.put, List.setIfInBounds_toArray, List.set_cons_zero, List.set_cons_succ]
      refine wpAnyH_take (i := 2) (v := ?_) rfl (by kernel_rfl) (by kernel_rfl) (by kernel_rfl) (fun _ _ _ h => h) (Or.inl ⟨by rfl, ?_⟩) hHeld ?_
      rotate_left
      · (intro wz hSw; simp only [List.getElem_toArray, List.getElem_cons_zero, List.getElem_cons_succ]; go_simp; try (with_reducible rfl))
      simp only [List.getElem_toArray, List.getElem_cons_zero, List.getElem_cons_succ, Act.put, List.setIfInBounds_toArray, List.set_cons_zero, List.set_cons_succ]
      refine wpAnyH_take (i := 3) (v := ?_) rfl (by kernel_rfl) (by kernel_rfl) (by kernel_rfl) (fun _ _ _ h => h) (Or.inl ⟨by rfl, ?_⟩) hHeld ?_
      rotate_left
      · (intro wz hSw; simp only [List.getElem_toArray, List.getElem_cons_zero, List.getElem_cons_succ]; go_simp; try (with_reducible rfl))
      simp only [List.getElem_toArray, List.getElem_cons_zero, List.getElem_cons_succ, Act.put, List.setIfInBounds_toArray, List.set_cons_zero, List.set_cons_succ]
      refine wpAnyH_take (i := 4) (v := ?_) rfl (by kernel_rfl) (by kernel_rfl) (by kernel_rfl) (fun _ _ _ h => h) (Or.inl ⟨by rfl, ?_⟩) hHeld ?_
      rotate_left
      · (intro wz hSw; have hlc := HLC.out _ hSw; simp only [List.getElem_toArray, List.getElem_cons_zero, List.getElem_cons_succ]; go_simp; try (with_reducible rfl))
      simp only [List.getElem_toArray, List.getElem_cons_zero, List.getElem_cons_succ, Act.put, List.setIfInBounds_toArray, List.set_cons_zero, List.set_cons_succ]
      refine wpAnyH_ready (rs := [5, 7]) (by kernel_rfl) (by simp) ?_
      refine AllReadyH.cons rfl (fun K hK => ?_) ?_
      · simp only [List.getElem_toArray, List.getElem_cons_zero, List.getElem_cons_succ]
        go_simp
        refine (KL.out _ hHeld).mono ?_
        rintro e w5 ⟨rfl, b5⟩
        try (replace hq := ArrAt.below hq b5)
        refine hK.out _ _ (below_then hHeld b5) (fun hHeld => ?_)
        clear hK K b5
        refine wpAnyH_ready (rs := [6, 7]) (by kernel_rfl) (by simp) ?_
        refine AllReadyH.cons rfl (fun K hK => ?_) ?_
        · simp only [List.getElem_toArray, List.getElem_cons_zero, List.getElem_cons_succ]
          go_simp
          refine (rmeet_any _ _ _).mono ?_
          rintro e w6 ⟨rfl, b6⟩
          try (replace hq := ArrAt.below hq b6)
          refine hK.out _ _ (below_then hHeld b6) (fun hHeld => ?_)
          clear hK K b6
          refine wpAnyH_ready (rs := [7]) (by kernel_rfl) (by simp) ?_
          refine AllReadyH.cons rfl (fun K hK => ?_) AllReadyH.nil
          simp only [List.getElem_toArray, List.getElem_cons_zero, List.getElem_cons_succ]
          go_simp
          have hq2 := alloc_arr hHeld
          have hq := hq2.1
          have hqlo := hHeld.size
          refine hK.out _ _ hq2.2 (fun hHeld => ?_)
          clear hK K hq2
          refine wpAnyH_ready (rs := [8]) (by kernel_rfl) (by simp) ?_
          refine AllReadyH.cons rfl (fun K hK => ?_) AllReadyH.nil
          simp only [List.getElem_toArray, List.getElem_cons_zero, List.getElem_cons_succ]
          refine wp_store_row 22 _ _ rfl _ (rowA 8 _) rfl rfl 22 (rowA 8 (fun _ => 0)) hq (by rw [rowA_size]; exact info8) (by rw [rowA_size, rowA_size]) (rowA_one 8 _) ?_
          have hM := ArrAt.laid hq (fun j => wMeetF (tlF n T Y b j) (wLeftF (Y b) j))
          refine hK.out _ _ (below_setRow hHeld hqlo _) (fun hHeld => ?_)
          clear hK K hq
          refine wpAnyH_done (by kernel_rfl) ?_ _
          refine NoPanic.normal ?_
          first | (rw [show (w6.alloc (.cells #[Value.int .i64 0, Value.int .i64 0, Value.int .i64 0, Value.int .i64 0, Value.int .i64 0, Value.int .i64 0, Value.int .i64 0, Value.int .i64 0] 22)).setRow w6.heap.size (rowA 8 fun j => wMeetF (tlF n T Y b j) (wLeftF (Y b) j)) = (w6.alloc (.cells #[Value.int .i64 0, Value.int .i64 0, Value.int .i64 0, Value.int .i64 0, Value.int .i64 0, Value.int .i64 0, Value.int .i64 0, Value.int .i64 0] 22)).setRow w6.heap.size (rowA 8 fun j => wMeetF (tlF n T Y b j) (wLeftF (Y b) j)) from rfl]; generalize (w6.alloc (.cells #[Value.int .i64 0, Value.int .i64 0, Value.int .i64 0, Value.int .i64 0, Value.int .i64 0, Value.int .i64 0, Value.int .i64 0, Value.int .i64 0] 22)).setRow w6.heap.size (rowA 8 fun j => wMeetF (tlF n T Y b j) (wLeftF (Y b) j)) = Wn at hM hHeld ⊢) | (rw [show w6.setRow w5.heap.size (rowA 8 fun j => wMeetF (tlF n T Y b j) (wLeftF (Y b) j)) = w6.setRow w5.heap.size (rowA 8 fun j => wMeetF (tlF n T Y b j) (wLeftF (Y b) j)) from rfl]; generalize w6.setRow w5.heap.size (rowA 8 fun j => wMeetF (tlF n T Y b j) (wLeftF (Y b) j)) = Wn at hM hHeld ⊢) | (rw [show wr.drew.heap.size = wr.heap.size from rfl] at hM hqlo; rw [show w6.setRow wr.heap.size (rowA 8 fun j => wMeetF (tlF n T Y b j) (wLeftF (Y b) j)) = w6.setRow wr.heap.size (rowA 8 fun j => wMeetF (tlF n T Y b j) (wLeftF (Y b) j)) from rfl]; generalize w6.setRow wr.heap.size (rowA 8 fun j => wMeetF (tlF n T Y b j) (wLeftF (Y b) j)) = Wn at hM hHeld ⊢)
          first | (rw [show w6.heap.size = w6.heap.size from rfl]; generalize w6.heap.size = q at hM hqlo ⊢) | (rw [show w5.heap.size = w5.heap.size from rfl]; generalize w5.heap.size = q at hM hqlo ⊢) | (generalize hqw : wr.heap.size = q at hM ⊢; try rw [hqw] at hqlo)
          have HF2 := hid (And.intro (HF.out.tr hHeld) (And.intro hM (show u8.ownBlock ≠ some q from fun e => by have := (HF.out.own.lt _ e).2; (try simp at hqlo); omega)))
          clear hM hHeld hqlo
          go_wp2
          go_loopw [8, 12] (fun o i wr => ∃ j : Nat, j ≤ 8 ∧ i = .int .i64 j ∧ Hid (FrS w4.heap.size w3.heap.size p r (n * b + j) o (frF n T Y) (tlF n T Y b) w w4 wr ∧ ArrAt q (fun j => wMeetF (tlF n T Y b j) (wLeftF (Y b) j)) wr ∧ o.ownBlock ≠ some q)) (fun _ i _ => 8 - (intOf i).toNat)
          case atStart => exact ⟨0, by omega, rfl, HF2⟩
          case round =>
            clear HF2
            obtain ⟨j, hj, rfl, HF2⟩ := hrel
            by_cases hlj : j < 8
            · have hcm : wr.cell? ⟨q, j, none⟩ = some (.int .i64 (wMeetF (tlF n T Y b j) (wLeftF (Y b) j))) := HF2.out.2.1.get hlj
              have hcc := frF_meet hn8 T Y (b := b) hlj
              obtain ⟨m, hm⟩ : ∃ m, m = wMeetF (tlF n T Y b j) (wLeftF (Y b) j) := ⟨_, rfl⟩
              rw [← hm] at hcm hcc
              obtain ⟨c, hc⟩ : ∃ c, c = satF m := ⟨_, rfl⟩
              have ks := satR_any m wr
              rw [← hc] at ks hcc
              have KS := hid ks
              have HCC := hid hcc.symm
              have HA : Hid ((wr.alloc (.cells #[.int .i64 c] 3)).ownsRow w4.heap.size 3 1 u8 (n * b + j) (intL (n * b + j) (frF n T Y))) := HF2.out.1.own.alloc _
              have HS : Hid (w4.heap.size ≤ (wr.alloc (.cells #[.int .i64 c] 3)).heap.size) := Nat.le_trans HF2.out.1.sz (by simp)
              clear hm hc hcc ks
              go_wp2_with (first
                | (go_at_call 33; (with_reducible refine KS.out.mono ?_); rintro e w9 ⟨rfl, rfl⟩)
                | (at_builtin; refine wpList_append_lies _ rfl _ _ _ rfl w4.heap.size 3 i0 (.int .i64 0) 1 8 Tryd.underlying23 HI.out hz0 hz1 hz2 rfl (by omega) _ _ _ rfl HA.out ⟨w9.heap.size, 0, none⟩ 1 1 [.int .i64 c] rfl rfl (World.news_of_block (cs := #[.int .i64 c]) (heap_alloc_new w9 _)) (by intro u hu; simp at hu; subst hu; rfl) (by omega) (by unfold maxLen; omega) (by omega) HS.out _ rfl ?_))
              intro gg cap1 w11 hown hgr hor _
              have hq9 : ArrAt q (fun j => wMeetF (tlF n T Y b j) (wLeftF (Y b) j)) w11 := (hgr.block q (by rw [al_size]; have := HF2.out.2.1.lt; omega) (fun e => HF2.out.2.2 e.symm)).trans ((al_old _ HF2.out.2.1.lt).trans HF2.out.2.1)
              have hne9 : (Value.slice (some ⟨gg, 0, none⟩) (n * b + j + 1) cap1).ownBlock ≠ some q := fun e => by
                have e : some gg = some q := e
                rcases hor with h | h
                · exact HF2.out.2.2 (h.trans e)
                · have h1 := HF2.out.2.1.lt
                  have h2 := Option.some.inj e
                  omega
              have HF3 := hid (And.intro (HF2.out.1.next HCC.out hown hgr) (And.intro hq9 hne9))
              clear hown hgr hor hq9 hne9 HA HS HF2 hcm
              go_wp2
              exact ⟨⟨j + 1, by omega, by go_num, HF3⟩, by simp [intOf]; omega⟩
            · obtain rfl : j = 8 := by omega
              rw [show ((8 : Nat) : Int) = (8 : Int) from rfl]
              have HF4 := hid HF2.out.1
              clear HF2
              go_wp2
              go_loopw [8, 13] (fun o i wr => ∃ k : Nat, 4 ≤ k ∧ k + 4 ≤ n ∧ i = .int .i64 k ∧ Hid (FrS w4.heap.size w3.heap.size p r (n * b + (k + 4)) o (frF n T Y) (tlF n T Y b) w w4 wr)) (fun _ i _ => n - (intOf i).toNat)
              case atStart => exact ⟨4, by omega, by omega, rfl, HF4⟩
              case round =>
                clear HF4
                obtain ⟨k, hk4, hk, rfl, HF4⟩ := hrel
                have hlc := HLK.out _ HF4.out.keep
                by_cases hlk : k + 4 < n
                · have hd : (k : Int) < (n : Int) - 4 := by omega
                  obtain ⟨b', o', e', hcc'⟩ := (HIK.out wr HF4.out.keep HF4.out.sz).cells (by omega)
                  cases e'
                  have hck := hcc' wr (Below.refl _ _) k (by omega)
                  have hcc := frF_own T Y (b := b) hk4 hlk
                  obtain ⟨m, hm⟩ : ∃ m, m = Y b k := ⟨_, rfl⟩
                  rw [← hm] at hck hcc
                  obtain ⟨c, hc⟩ : ∃ c, c = satF m := ⟨_, rfl⟩
                  have ks := satR_any m wr
                  rw [← hc] at ks hcc
                  have KS := hid ks
                  have HCC := hid hcc.symm
                  have hkn : k < n := by omega
                  have HA : Hid ((wr.alloc (.cells #[.int .i64 c] 3)).ownsRow w4.heap.size 3 1 u8 (n * b + (k + 4)) (intL (n * b + (k + 4)) (frF n T Y))) := HF4.out.own.alloc _
                  have HS : Hid (w4.heap.size ≤ (wr.alloc (.cells #[.int .i64 c] 3)).heap.size) := Nat.le_trans HF4.out.sz (by simp)
                  clear hm hc hcc ks hcc'
                  go_wp2_with (first
                    | (go_at_call 33; (with_reducible refine KS.out.mono ?_); rintro e w9 ⟨rfl, rfl⟩)
                    | (at_builtin; refine wpList_append_lies _ rfl _ _ _ rfl w4.heap.size 3 i0 (.int .i64 0) 1 8 Tryd.underlying23 HI.out hz0 hz1 hz2 rfl (by omega) _ _ _ rfl HA.out ⟨w9.heap.size, 0, none⟩ 1 1 [.int .i64 c] rfl rfl (World.news_of_block (cs := #[.int .i64 c]) (heap_alloc_new w9 _)) (by intro u hu; simp at hu; subst hu; rfl) (by omega) (by unfold maxLen; omega) (by omega) HS.out _ rfl ?_))
                  intro gg cap1 w11 hown hgr hor _
                  have HF3 := hid (HF4.out.next HCC.out hown hgr)
                  clear hown hgr hor HA HS HF4 hck hlc
                  go_wp2
                  exact ⟨⟨k + 1, by omega, by omega, by go_num, HF3⟩, by simp [intOf]; omega⟩
                · have hd : ¬ ((k : Int) < (n : Int) - 4) := by omega
                  have KR := hid (rright_yes n (by have := HNK.out; omega) _ ci (Y b) (HY.out b hlt) wr (HIK.out wr HF4.out.keep HF4.out.sz))
                  have HKN : Hid (n = k + 4) := by
                    show n = k + 4
                    omega
                  go_wp2_with (fail)
                  refine KR.out.mono ?_
                  rintro e w10 ⟨rfl, b10⟩
                  have HF5 := hid (HF4.out.tr b10)
                  have HF6 := hid (HF5.out.setTail (wRightF n (Y b)))
                  clear HF4 b10 KR hlc
                  go_wp2_with (refine wp_store8 rfl rfl rfl rfl HF5.out.tail ?_)
                  generalize w10.setRow p (rowA 8 (wRightF n (Y b))) = W6 at HF6 ⊢
                  have HF7 : Hid (FrS w4.heap.size w3.heap.size p r (n * (b + 1)) u8 (frF n T Y) (tlF n T Y (b + 1)) w w4 W6) := by
                    have h := HF6.out
                    rw [← HKN.out] at h
                    rw [Nat.mul_succ, show tlF n T Y (b + 1) = wRightF n (Y b) by rw [tlF, if_neg (by omega), show b + 1 - 1 = b by omega]]
                    exact h
                  clear HF5 HF6
                  go_wp2
                  exact ⟨⟨b + 1, by omega, by go_num, HF7⟩, by simp [intOf]; omega⟩
        refine AllReadyH.cons rfl (fun K hK => ?_) AllReadyH.nil
        simp only [List.getElem_toArray, List.getElem_cons_zero, List.getElem_cons_succ]
        go_simp
        have hq2 := alloc_arr hHeld
        have hq := hq2.1
        have hqlo := hHeld.size
        refine hK.out _ _ hq2.2 (fun hHeld => ?_)
        clear hK K hq2
        refine wpAnyH_ready (rs := [6]) (by kernel_rfl) (by simp) ?_
        refine AllReadyH.cons rfl (fun K hK => ?_) AllReadyH.nil
        simp only [List.getElem_toArray, List.getElem_cons_zero, List.getElem_cons_succ]
        go_simp
        refine (rmeet_any _ _ _).mono ?_
        rintro e w6 ⟨rfl, b6⟩
        try (replace hq := ArrAt.below hq b6)
        refine hK.out _ _ (below_then hHeld b6) (fun hHeld => ?_)
        clear hK K b6
        refine wpAnyH_ready (rs := [8]) (by kernel_rfl) (by simp) ?_
        refine AllReadyH.cons rfl (fun K hK => ?_) AllReadyH.nil
        simp only [List.getElem_toArray, List.getElem_cons_zero, List.getElem_cons_succ]
        refine wp_store_row 22 _ _ rfl _ (rowA 8 _) rfl rfl 22 (rowA 8 (fun _ => 0)) hq (by rw [rowA_size]; exact info8) (by rw [rowA_size, rowA_size]) (rowA_one 8 _) ?_
        have hM := ArrAt.laid hq (fun j => wMeetF (tlF n T Y b j) (wLeftF (Y b) j))
        refine hK.out _ _ (below_setRow hHeld hqlo _) (fun hHeld => ?_)
        clear hK K hq
        refine wpAnyH_done (by kernel_rfl) ?_ _
        refine NoPanic.normal ?_
        first | (rw [show (w6.alloc (.cells #[Value.int .i64 0, Value.int .i64 0, Value.int .i64 0, Value.int .i64 0, Value.int .i64 0, Value.int .i64 0, Value.int .i64 0, Value.int .i64 0] 22)).setRow w6.heap.size (rowA 8 fun j => wMeetF (tlF n T Y b j) (wLeftF (Y b) j)) = (w6.alloc (.cells #[Value.int .i64 0, Value.int .i64 0, Value.int .i64 0, Value.int .i64 0, Value.int .i64 0, Value.int .i64 0, Value.int .i64 0, Value.int .i64 0] 22)).setRow w6.heap.size (rowA 8 fun j => wMeetF (tlF n T Y b j) (wLeftF (Y b) j)) from rfl]; generalize (w6.alloc (.cells #[Value.int .i64 0, Value.int .i64 0, Value.int .i64 0, Value.int .i64 0, Value.int .i64 0, Value.int .i64 0, Value.int .i64 0, Value.int .i64 0] 22)).setRow w6.heap.size (rowA 8 fun j => wMeetF (tlF n T Y b j) (wLeftF (Y b) j)) = Wn at hM hHeld ⊢) | (rw [show w6.setRow w5.heap.size (rowA 8 fun j => wMeetF (tlF n T Y b j) (wLeftF (Y b) j)) = w6.setRow w5.heap.size (rowA 8 fun j => wMeetF (tlF n T Y b j) (wLeftF (Y b) j)) from rfl]; generalize w6.setRow w5.heap.size (rowA 8 fun j => wMeetF (tlF n T Y b j) (wLeftF (Y b) j)) = Wn at hM hHeld ⊢) | (rw [show wr.drew.heap.size = wr.heap.size from rfl] at hM hqlo; rw [show w6.setRow wr.heap.size (rowA 8 fun j => wMeetF (tlF n T Y b j) (wLeftF (Y b) j)) = w6.setRow wr.heap.size (rowA 8 fun j => wMeetF (tlF n T Y b j) (wLeftF (Y b) j)) from rfl]; generalize w6.setRow wr.heap.size (rowA 8 fun j => wMeetF (tlF n T Y b j) (wLeftF (Y b) j)) = Wn at hM hHeld ⊢)
        first | (rw [show w6.heap.size = w6.heap.size from rfl]; generalize w6.heap.size = q at hM hqlo ⊢) | (rw [show w5.heap.size = w5.heap.size from rfl]; generalize w5.heap.size = q at hM hqlo ⊢) | (generalize hqw : wr.heap.size = q at hM ⊢; try rw [hqw] at hqlo)
        have HF2 := hid (And.intro (HF.out.tr hHeld) (And.intro hM (show u8.ownBlock ≠ some q from fun e => by have := (HF.out.own.lt _ e).2; (try simp at hqlo); omega)))
        clear hM hHeld hqlo
        go_wp2
        go_loopw [8, 12] (fun o i wr => ∃ j : Nat, j ≤ 8 ∧ i = .int .i64 j ∧ Hid (FrS w4.heap.size w3.heap.size p r (n * b + j) o (frF n T Y) (tlF n T Y b) w w4 wr ∧ ArrAt q (fun j => wMeetF (tlF n T Y b j) (wLeftF (Y b) j)) wr ∧ o.ownBlock ≠ some q)) (fun _ i _ => 8 - (intOf i).toNat)
        case atStart => exact ⟨0, by omega, rfl, HF2⟩
        case round =>
          clear HF2
          obtain ⟨j, hj, rfl, HF2⟩ := hrel
          by_cases hlj : j < 8
          · have hcm : wr.cell? ⟨q, j, none⟩ = some (.int .i64 (wMeetF (tlF n T Y b j) (wLeftF (Y b) j))) := HF2.out.2.1.get hlj
            have hcc := frF_meet hn8 T Y (b := b) hlj
            obtain ⟨m, hm⟩ : ∃ m, m = wMeetF (tlF n T Y b j) (wLeftF (Y b) j) := ⟨_, rfl⟩
            rw [← hm] at hcm hcc
            obtain ⟨c, hc⟩ : ∃ c, c = satF m := ⟨_, rfl⟩
            have ks := satR_any m wr
            rw [← hc] at ks hcc
            have KS := hid ks
            have HCC := hid hcc.symm
            have HA : Hid ((wr.alloc (.cells #[.int .i64 c] 3)).ownsRow w4.heap.size 3 1 u8 (n * b + j) (intL (n * b + j) (frF n T Y))) := HF2.out.1.own.alloc _
            have HS : Hid (w4.heap.size ≤ (wr.alloc (.cells #[.int .i64 c] 3)).heap.size) := Nat.le_trans HF2.out.1.sz (by simp)
            clear hm hc hcc ks
            go_wp2_with (first
              | (go_at_call 33; (with_reducible refine KS.out.mono ?_); rintro e w9 ⟨rfl, rfl⟩)
              | (at_builtin; refine wpList_append_lies _ rfl _ _ _ rfl w4.heap.size 3 i0 (.int .i64 0) 1 8 Tryd.underlying23 HI.out hz0 hz1 hz2 rfl (by omega) _ _ _ rfl HA.out ⟨w9.heap.size, 0, none⟩ 1 1 [.int .i64 c] rfl rfl (World.news_of_block (cs := #[.int .i64 c]) (heap_alloc_new w9 _)) (by intro u hu; simp at hu; subst hu; rfl) (by omega) (by unfold maxLen; omega) (by omega) HS.out _ rfl ?_))
            intro gg cap1 w11 hown hgr hor _
            have hq9 : ArrAt q (fun j => wMeetF (tlF n T Y b j) (wLeftF (Y b) j)) w11 := (hgr.block q (by rw [al_size]; have := HF2.out.2.1.lt; omega) (fun e => HF2.out.2.2 e.symm)).trans ((al_old _ HF2.out.2.1.lt).trans HF2.out.2.1)
            have hne9 : (Value.slice (some ⟨gg, 0, none⟩) (n * b + j + 1) cap1).ownBlock ≠ some q := fun e => by
              have e : some gg = some q := e
              rcases hor with h | h
              · exact HF2.out.2.2 (h.trans e)
              · have h1 := HF2.out.2.1.lt
                have h2 := Option.some.inj e
                omega
            have HF3 := hid (And.intro (HF2.out.1.next HCC.out hown hgr) (And.intro hq9 hne9))
            clear hown hgr hor hq9 hne9 HA HS HF2 hcm
            go_wp2
            exact ⟨⟨j + 1, by omega, by go_num, HF3⟩, by simp [intOf]; omega⟩
          · obtain rfl : j = 8 := by omega
            rw [show ((8 : Nat) : Int) = (8 : Int) from rfl]
            have HF4 := hid HF2.out.1
            clear HF2
            go_wp2
            go_loopw [8, 13] (fun o i wr => ∃ k : Nat, 4 ≤ k ∧ k + 4 ≤ n ∧ i = .int .i64 k ∧ Hid (FrS w4.heap.size w3.heap.size p r (n * b + (k + 4)) o (frF n T Y) (tlF n T Y b) w w4 wr)) (fun _ i _ => n - (intOf i).toNat)
            case atStart => exact ⟨4, by omega, by omega, rfl, HF4⟩
            case round =>
              clear HF4
              obtain ⟨k, hk4, hk, rfl, HF4⟩ := hrel
              have hlc := HLK.out _ HF4.out.keep
              by_cases hlk : k + 4 < n
              · have hd : (k : Int) < (n : Int) - 4 := by omega
                obtain ⟨b', o', e', hcc'⟩ := (HIK.out wr HF4.out.keep HF4.out.sz).cells (by omega)
                cases e'
                have hck := hcc' wr (Below.refl _ _) k (by omega)
                have hcc := frF_own T Y (b := b) hk4 hlk
                obtain ⟨m, hm⟩ : ∃ m, m = Y b k := ⟨_, rfl⟩
                rw [← hm] at hck hcc
                obtain ⟨c, hc⟩ : ∃ c, c = satF m := ⟨_, rfl⟩
                have ks := satR_any m wr
                rw [← hc] at ks hcc
                have KS := hid ks
                have HCC := hid hcc.symm
                have hkn : k < n := by omega
                have HA : Hid ((wr.alloc (.cells #[.int .i64 c] 3)).ownsRow w4.heap.size 3 1 u8 (n * b + (k + 4)) (intL (n * b + (k + 4)) (frF n T Y))) := HF4.out.own.alloc _
                have HS : Hid (w4.heap.size ≤ (wr.alloc (.cells #[.int .i64 c] 3)).heap.size) := Nat.le_trans HF4.out.sz (by simp)
                clear hm hc hcc ks hcc'
                go_wp2_with (first
                  | (go_at_call 33; (with_reducible refine KS.out.mono ?_); rintro e w9 ⟨rfl, rfl⟩)
                  | (at_builtin; refine wpList_append_lies _ rfl _ _ _ rfl w4.heap.size 3 i0 (.int .i64 0) 1 8 Tryd.underlying23 HI.out hz0 hz1 hz2 rfl (by omega) _ _ _ rfl HA.out ⟨w9.heap.size, 0, none⟩ 1 1 [.int .i64 c] rfl rfl (World.news_of_block (cs := #[.int .i64 c]) (heap_alloc_new w9 _)) (by intro u hu; simp at hu; subst hu; rfl) (by omega) (by unfold maxLen; omega) (by omega) HS.out _ rfl ?_))
                intro gg cap1 w11 hown hgr hor _
                have HF3 := hid (HF4.out.next HCC.out hown hgr)
                clear hown hgr hor HA HS HF4 hck hlc
                go_wp2
                exact ⟨⟨k + 1, by omega, by omega, by go_num, HF3⟩, by simp [intOf]; omega⟩
              · have hd : ¬ ((k : Int) < (n : Int) - 4) := by omega
                have KR := hid (rright_yes n (by have := HNK.out; omega) _ ci (Y b) (HY.out b hlt) wr (HIK.out wr HF4.out.keep HF4.out.sz))
                have HKN : Hid (n = k + 4) := by
                  show n = k + 4
                  omega
                go_wp2_with (fail)
                refine KR.out.mono ?_
                rintro e w10 ⟨rfl, b10⟩
                have HF5 := hid (HF4.out.tr b10)
                have HF6 := hid (HF5.out.setTail (wRightF n (Y b)))
                clear HF4 b10 KR hlc
                go_wp2_with (refine wp_store8 rfl rfl rfl rfl HF5.out.tail ?_)
                generalize w10.setRow p (rowA 8 (wRightF n (Y b))) = W6 at HF6 ⊢
                have HF7 : Hid (FrS w4.heap.size w3.heap.size p r (n * (b + 1)) u8 (frF n T Y) (tlF n T Y (b + 1)) w w4 W6) := by
                  have h := HF6.out
                  rw [← HKN.out] at h
                  rw [Nat.mul_succ, show tlF n T Y (b + 1) = wRightF n (Y b) by rw [tlF, if_neg (by omega), show b + 1 - 1 = b by omega]]
                  exact h
                clear HF5 HF6
                go_wp2
                exact ⟨⟨b + 1, by omega, by go_num, HF7⟩, by simp [intOf]; omega⟩
      refine AllReadyH.cons rfl (fun K hK => ?_) AllReadyH.nil
      simp only [List.getElem_toArray, List.getElem_cons_zero, List.getElem_cons_succ]
      go_simp
      have hq2 := alloc_arr hHeld
      have hq := hq2.1
      have hqlo := hHeld.size
      refine hK.out _ _ hq2.2 (fun hHeld => ?_)
      clear hK K hq2
      refine wpAnyH_ready (rs := [5]) (by kernel_rfl) (by simp) ?_
      refine AllReadyH.cons rfl (fun K hK => ?_) AllReadyH.nil
      simp only [List.getElem_toArray, List.getElem_cons_zero, List.getElem_cons_succ]
      go_simp
      refine (KL.out _ hHeld).mono ?_
      rintro e w5 ⟨rfl, b5⟩
      try (replace hq := ArrAt.below hq b5)
      refine hK.out _ _ (below_then hHeld b5) (fun hHeld => ?_)
      clear hK K b5
      refine wpAnyH_ready (rs := [6]) (by kernel_rfl) (by simp) ?_
      refine AllReadyH.cons rfl (fun K hK => ?_) AllReadyH.nil
      simp only [List.getElem_toArray, List.getElem_cons_zero, List.getElem_cons_succ]
      go_simp
      refine (rmeet_any _ _ _).mono ?_
      rintro e w6 ⟨rfl, b6⟩
      try (replace hq := ArrAt.below hq b6)
      refine hK.out _ _ (below_then hHeld b6) (fun hHeld => ?_)
      clear hK K b6
      refine wpAnyH_ready (rs := [8]) (by kernel_rfl) (by simp) ?_
      refine AllReadyH.cons rfl (fun K hK => ?_) AllReadyH.nil
      simp only [List.getElem_toArray, List.getElem_cons_zero, List.getElem_cons_succ]
      refine wp_store_row 22 _ _ rfl _ (rowA 8 _) rfl rfl 22 (rowA 8 (fun _ => 0)) hq (by rw [rowA_size]; exact info8) (by rw [rowA_size, rowA_size]) (rowA_one 8 _) ?_
      have hM := ArrAt.laid hq (fun j => wMeetF (tlF n T Y b j) (wLeftF (Y b) j))
      refine hK.out _ _ (below_setRow hHeld hqlo _) (fun hHeld => ?_)
      clear hK K hq
      refine wpAnyH_done (by kernel_rfl) ?_ _
      refine NoPanic.normal ?_
      first | (rw [show (w6.alloc (.cells #[Value.int .i64 0, Value.int .i64 0, Value.int .i64 0, Value.int .i64 0, Value.int .i64 0, Value.int .i64 0, Value.int .i64 0, Value.int .i64 0] 22)).setRow w6.heap.size (rowA 8 fun j => wMeetF (tlF n T Y b j) (wLeftF (Y b) j)) = (w6.alloc (.cells #[Value.int .i64 0, Value.int .i64 0, Value.int .i64 0, Value.int .i64 0, Value.int .i64 0, Value.int .i64 0, Value.int .i64 0, Value.int .i64 0] 22)).setRow w6.heap.size (rowA 8 fun j => wMeetF (tlF n T Y b j) (wLeftF (Y b) j)) from rfl]; generalize (w6.alloc (.cells #[Value.int .i64 0, Value.int .i64 0, Value.int .i64 0, Value.int .i64 0, Value.int .i64 0, Value.int .i64 0, Value.int .i64 0, Value.int .i64 0] 22)).setRow w6.heap.size (rowA 8 fun j => wMeetF (tlF n T Y b j) (wLeftF (Y b) j)) = Wn at hM hHeld ⊢) | (rw [show w6.setRow w5.heap.size (rowA 8 fun j => wMeetF (tlF n T Y b j) (wLeftF (Y b) j)) = w6.setRow w5.heap.size (rowA 8 fun j => wMeetF (tlF n T Y b j) (wLeftF (Y b) j)) from rfl]; generalize w6.setRow w5.heap.size (rowA 8 fun j => wMeetF (tlF n T Y b j) (wLeftF (Y b) j)) = Wn at hM hHeld ⊢) | (rw [show wr.drew.heap.size = wr.heap.size from rfl] at hM hqlo; rw [show w6.setRow wr.heap.size (rowA 8 fun j => wMeetF (tlF n T Y b j) (wLeftF (Y b) j)) = w6.setRow wr.heap.size (rowA 8 fun j => wMeetF (tlF n T Y b j) (wLeftF (Y b) j)) from rfl]; generalize w6.setRow wr.heap.size (rowA 8 fun j => wMeetF (tlF n T Y b j) (wLeftF (Y b) j)) = Wn at hM hHeld ⊢)
      first | (rw [show w6.heap.size = w6.heap.size from rfl]; generalize w6.heap.size = q at hM hqlo ⊢) | (rw [show w5.heap.size = w5.heap.size from rfl]; generalize w5.heap.size = q at hM hqlo ⊢) | (generalize hqw : wr.heap.size = q at hM ⊢; try rw [hqw] at hqlo)
      have HF2 := hid (And.intro (HF.out.tr hHeld) (And.intro hM (show u8.ownBlock ≠ some q from fun e => by have := (HF.out.own.lt _ e).2; (try simp at hqlo); omega)))
      clear hM hHeld hqlo
      go_wp2
      go_loopw [8, 12] (fun o i wr => ∃ j : Nat, j ≤ 8 ∧ i = .int .i64 j ∧ Hid (FrS w4.heap.size w3.heap.size p r (n * b + j) o (frF n T Y) (tlF n T Y b) w w4 wr ∧ ArrAt q (fun j => wMeetF (tlF n T Y b j) (wLeftF (Y b) j)) wr ∧ o.ownBlock ≠ some q)) (fun _ i _ => 8 - (intOf i).toNat)
      case atStart => exact ⟨0, by omega, rfl, HF2⟩
      case round =>
        clear HF2
        obtain ⟨j, hj, rfl, HF2⟩ := hrel
        by_cases hlj : j < 8
        · have hcm : wr.cell? ⟨q, j, none⟩ = some (.int .i64 (wMeetF (tlF n T Y b j) (wLeftF (Y b) j))) := HF2.out.2.1.get hlj
          have hcc := frF_meet hn8 T Y (b := b) hlj
          obtain ⟨m, hm⟩ : ∃ m, m = wMeetF (tlF n T Y b j) (wLeftF (Y b) j) := ⟨_, rfl⟩
          rw [← hm] at hcm hcc
          obtain ⟨c, hc⟩ : ∃ c, c = satF m := ⟨_, rfl⟩
          have ks := satR_any m wr
          rw [← hc] at ks hcc
          have KS := hid ks
          have HCC := hid hcc.symm
          have HA : Hid ((wr.alloc (.cells #[.int .i64 c] 3)).ownsRow w4.heap.size 3 1 u8 (n * b + j) (intL (n * b + j) (frF n T Y))) := HF2.out.1.own.alloc _
          have HS : Hid (w4.heap.size ≤ (wr.alloc (.cells #[.int .i64 c] 3)).heap.size) := Nat.le_trans HF2.out.1.sz (by simp)
          clear hm hc hcc ks
          go_wp2_with (first
            | (go_at_call 33; (with_reducible refine KS.out.mono ?_); rintro e w9 ⟨rfl, rfl⟩)
            | (at_builtin; refine wpList_append_lies _ rfl _ _ _ rfl w4.heap.size 3 i0 (.int .i64 0) 1 8 Tryd.underlying23 HI.out hz0 hz1 hz2 rfl (by omega) _ _ _ rfl HA.out ⟨w9.heap.size, 0, none⟩ 1 1 [.int .i64 c] rfl rfl (World.news_of_block (cs := #[.int .i64 c]) (heap_alloc_new w9 _)) (by intro u hu; simp at hu; subst hu; rfl) (by omega) (by unfold maxLen; omega) (by omega) HS.out _ rfl ?_))
          intro gg cap1 w11 hown hgr hor _
          have hq9 : ArrAt q (fun j => wMeetF (tlF n T Y b j) (wLeftF (Y b) j)) w11 := (hgr.block q (by rw [al_size]; have := HF2.out.2.1.lt; omega) (fun e => HF2.out.2.2 e.symm)).trans ((al_old _ HF2.out.2.1.lt).trans HF2.out.2.1)
          have hne9 : (Value.slice (some ⟨gg, 0, none⟩) (n * b + j + 1) cap1).ownBlock ≠ some q := fun e => by
            have e : some gg = some q := e
            rcases hor with h | h
            · exact HF2.out.2.2 (h.trans e)
            · have h1 := HF2.out.2.1.lt
              have h2 := Option.some.inj e
              omega
          have HF3 := hid (And.intro (HF2.out.1.next HCC.out hown hgr) (And.intro hq9 hne9))
          clear hown hgr hor hq9 hne9 HA HS HF2 hcm
          go_wp2
          exact ⟨⟨j + 1, by omega, by go_num, HF3⟩, by simp [intOf]; omega⟩
        · obtain rfl : j = 8 := by omega
          rw [show ((8 : Nat) : Int) = (8 : Int) from rfl]
          have HF4 := hid HF2.out.1
          clear HF2
          go_wp2
          go_loopw [8, 13] (fun o i wr => ∃ k : Nat, 4 ≤ k ∧ k + 4 ≤ n ∧ i = .int .i64 k ∧ Hid (FrS w4.heap.size w3.heap.size p r (n * b + (k + 4)) o (frF n T Y) (tlF n T Y b) w w4 wr)) (fun _ i _ => n - (intOf i).toNat)
          case atStart => exact ⟨4, by omega, by omega, rfl, HF4⟩
          case round =>
            clear HF4
            obtain ⟨k, hk4, hk, rfl, HF4⟩ := hrel
            have hlc := HLK.out _ HF4.out.keep
            by_cases hlk : k + 4 < n
            · have hd : (k : Int) < (n : Int) - 4 := by omega
              obtain ⟨b', o', e', hcc'⟩ := (HIK.out wr HF4.out.keep HF4.out.sz).cells (by omega)
              cases e'
              have hck := hcc' wr (Below.refl _ _) k (by omega)
              have hcc := frF_own T Y (b := b) hk4 hlk
              obtain ⟨m, hm⟩ : ∃ m, m = Y b k := ⟨_, rfl⟩
              rw [← hm] at hck hcc
              obtain ⟨c, hc⟩ : ∃ c, c = satF m := ⟨_, rfl⟩
              have ks := satR_any m wr
              rw [← hc] at ks hcc
              have KS := hid ks
              have HCC := hid hcc.symm
              have hkn : k < n := by omega
              have HA : Hid ((wr.alloc (.cells #[.int .i64 c] 3)).ownsRow w4.heap.size 3 1 u8 (n * b + (k + 4)) (intL (n * b + (k + 4)) (frF n T Y))) := HF4.out.own.alloc _
              have HS : Hid (w4.heap.size ≤ (wr.alloc (.cells #[.int .i64 c] 3)).heap.size) := Nat.le_trans HF4.out.sz (by simp)
              clear hm hc hcc ks hcc'
              go_wp2_with (first
                | (go_at_call 33; (with_reducible refine KS.out.mono ?_); rintro e w9 ⟨rfl, rfl⟩)
                | (at_builtin; refine wpList_append_lies _ rfl _ _ _ rfl w4.heap.size 3 i0 (.int .i64 0) 1 8 Tryd.underlying23 HI.out hz0 hz1 hz2 rfl (by omega) _ _ _ rfl HA.out ⟨w9.heap.size, 0, none⟩ 1 1 [.int .i64 c] rfl rfl (World.news_of_block (cs := #[.int .i64 c]) (heap_alloc_new w9 _)) (by intro u hu; simp at hu; subst hu; rfl) (by omega) (by unfold maxLen; omega) (by omega) HS.out _ rfl ?_))
              intro gg cap1 w11 hown hgr hor _
              have HF3 := hid (HF4.out.next HCC.out hown hgr)
              clear hown hgr hor HA HS HF4 hck hlc
              go_wp2
              exact ⟨⟨k + 1, by omega, by omega, by go_num, HF3⟩, by simp [intOf]; omega⟩
            · have hd : ¬ ((k : Int) < (n : Int) - 4) := by omega
              have KR := hid (rright_yes n (by have := HNK.out; omega) _ ci (Y b) (HY.out b hlt) wr (HIK.out wr HF4.out.keep HF4.out.sz))
              have HKN : Hid (n = k + 4) := by
                show n = k + 4
                omega
              go_wp2_with (fail)
              refine KR.out.mono ?_
              rintro e w10 ⟨rfl, b10⟩
              have HF5 := hid (HF4.out.tr b10)
              have HF6 := hid (HF5.out.setTail (wRightF n (Y b)))
              clear HF4 b10 KR hlc
              go_wp2_with (refine wp_store8 rfl rfl rfl rfl HF5.out.tail ?_)
              generalize w10.setRow p (rowA 8 (wRightF n (Y b))) = W6 at HF6 ⊢
              have HF7 : Hid (FrS w4.heap.size w3.heap.size p r (n * (b + 1)) u8 (frF n T Y) (tlF n T Y (b + 1)) w w4 W6) := by
                have h := HF6.out
                rw [← HKN.out] at h
                rw [Nat.mul_succ, show tlF n T Y (b + 1) = wRightF n (Y b) by rw [tlF, if_neg (by omega), show b + 1 - 1 = b by omega]]
                exact h
              clear HF5 HF6
              go_wp2
              exact ⟨⟨b + 1, by omega, by go_num, HF7⟩, by simp [intOf]; omega⟩

    · obtain rfl : b = kB := by omega
      have e64 : n * b = 64 := by
        rcases HNK.out with ⟨h1, h2⟩ | ⟨h1, h2⟩
        · subst h1; omega
        · subst h1; omega
      have HF8 : Hid (FrS w4.heap.size w3.heap.size p r 64 u8 (frF n T Y) (tlF n T Y b) w w4 wr) := by
        have h := HF.out
        rw [e64] at h
        exact h
      clear HF
      obtain ⟨a1, c1, rfl, i1⟩ := own_ints HF8.out.own
      have I1 := hid i1
      clear i1
      go_wp2
      refine' region_tail_plain (C := Below wr.heap.size wr) 3 (by kernel_rfl) (by kernel_rfl) (by decide) (by kernel_rfl) (Below.refl _ _).drew (Qa := fun a' => a' = _) ?_ ?_
      rotate_left
      · dsimp only [idleTail, idleN]
        go_big_quiet_step (first | (intro hq; rfl))
        refine wpQuiet_step (fun K hK => ?_)
        rw [if_pos (by rfl)]
        refine quiet_load8 rfl rfl (fun W hW => HF8.out.tail.below hW) (hK _ ?_)
        simp only [Act.put, List.setIfInBounds_toArray, List.set_cons_zero, List.set_cons_succ]
        go_big_quiet_step (first | (intro hq; rfl))
        go_big_quiet_step (first | (intro hq; rfl))
        refine wpQuiet_nil ?_
        exact rfl
      · rintro a' w2 hb2 rfl
        dsimp only [List.drop]
        have HF9 := hid (HF8.out.tr hb2)
        have I2 := hid (I1.out.below hb2)
        have HRS := hid (HF9.out.res.laid (tlF n T Y b))
        have hlo := HF9.out.lo
        have HBL := hid (below_setRow HF9.out.bel hlo.2.1 (rowA 8 (tlF n T Y b)))
        have I3 : Hid (IsInts (w2.setRow r (rowA 8 (tlF n T Y b))) a1 64 c1 (frF n T Y)) := by
          have hown := owns_keep (w' := w2.setRow r (rowA 8 (tlF n T Y b))) HF9.out.own (fun j hj => setRow_other w2 r j _ (by omega))
          obtain ⟨a', c', e', i'⟩ := own_ints hown
          cases e'
          exact i'
        clear hb2 hlo I1 I2
        go_wp2_with (refine wp_store8 rfl rfl rfl rfl HF9.out.res ?_)
        refine bodyPost_ret (results_two8 rfl _ rfl rfl HRS.out) rfl ⟨a1, c1, rfl, I3.out, HBL.out⟩
end Go.Proofs.YtfhcfdepjhdhfaaDoor
