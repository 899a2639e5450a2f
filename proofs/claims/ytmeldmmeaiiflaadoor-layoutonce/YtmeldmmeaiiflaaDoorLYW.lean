/-
  The contracts of layout.Cut where there is none, of layout.Join.
-/
import Derived.Test.YtmeldmmeaiiflaaDoorLYV
import Derived.Test.YtmeldmmeaiiflaaDoorCP
import Derived.Test.YtmeldmmeaiiflaaDoorLYD
namespace Go.Proofs.YtmeldmmeaiiflaaDoor
open Go.ChangeShapes Go.WideShapes Go.ChangeAt Go.RowKit
set_option linter.unusedVariables false

/-- A band's numbers laid over a row's. -/
theorem over_band {Z : Nat → Int} {Y : Nat → Nat → Int} {p b i : Nat} (hp : p < 13) (hb : b < 13) (hi : i < widN b) (h : b ≠ p → Z (begN b + i) = Y b i) : overF Z (Y p) (begN p) (widN p) (begN b + i) = Y b i := by
  unfold overF
  by_cases c : begN p ≤ begN b + i ∧ begN b + i < begN p + widN p
  · have e1 := of_in (b := p) hp (k := ((begN b + i : Nat) : Int)) (by omega) (by omega)
    have e2 := of_in (b := b) hb (k := ((begN b + i : Nat) : Int)) (by omega) (by omega)
    obtain rfl : b = p := by omega
    rw [if_pos c, show begN b + i - begN b = i by omega]
  · rw [if_neg c]
    refine h (fun e => ?_)
    subst e
    omega
theorem cut_no (a : Option Addr) (len cap : Nat) (hl : len ≤ maxLen) (h : len ≠ 64) (w : World) :
    Calls Tryd.prog 13 #[.slice a len cap] w fun e w' => e = .returned (.slice none 0 0) ∧ Below w.heap.size w w' := by
  have h1' : ((len : Int) != 64) = true := by
    have : ((len : Int) == 64) = false := by simp; omega
    rw [bne, this]; rfl
  unfold maxLen at hl
  go_enter Tryd.func13, Tryd.ntmps13
  go_wp2
  go_ret
  exact ⟨rfl, (Below.refl _ _).alloc (Nat.le_refl _) _⟩
theorem join_no (a : Option Addr) (len cap : Nat) (hl : len ≤ maxLen) (h : len ≠ 13) (w : World) :
    Calls Tryd.prog 16 #[.slice a len cap] w fun e w' => e = .returned (.slice none 0 0) ∧ Below w.heap.size w w' := by
  have h1' : ((len : Int) != 13) = true := by
    have : ((len : Int) == 13) = false := by simp; omega
    rw [bne, this]; rfl
  unfold maxLen at hl
  go_enter Tryd.func16, Tryd.ntmps16
  go_wp2
  have hc := cell_al_new (w := w.alloc (.cells #[.slice a len cap] 23)) (b := w.heap.size + 1) (.slice none 0 0) 22 (by simp)
  have hB := ((Below.refl _ w).alloc (Nat.le_refl _) (.cells #[.slice a len cap] 23)).alloc (by simp) (.cells #[.slice none 0 0] 22)
  refine bodyPost_ret (v := .slice none 0 0) (by simp [results, Tryd.f16, go_sem, hc]) rfl ⟨rfl, hB⟩
section
attribute [local go_sem] Oper.semAt_some
set_option maxRecDepth 100000 in
set_option maxHeartbeats 2000000 in
theorem join_any (a : Option Addr) (cap : Nat) (N : Nat → Nat) (Y : Nat → Nat → Int) (hm : ∀ i, i < 13 → N i ≤ 64) (w : World) (hw : WTab w) (h : IsListsV w a 13 cap N Y) :
    Calls Tryd.prog 16 #[.slice a 13 cap] w fun e w' => (((∀ i, i < 13 → N i = widN i) ∧ ∃ a' cap', e = .returned (.slice a' 64 cap') ∧ IsInts w' a' 64 cap' (joinF Y)) ∨ ((∃ i, i < 13 ∧ N i ≠ widN i) ∧ e = .returned (.slice none 0 0))) ∧ Below w.heap.size w w' := by
  have hmk : ∀ w, (Instr.makeSlice 22 (.int .i64 64) (.int .i64 64)).run Tryd.prog w = .ok (.slice (some ⟨w.heap.size, 0, none⟩) 64 64) (w.alloc (.cells (rowA 64 (fun _ => 0)) 3)) := make_ints (n := 64) (by omega)
  obtain ⟨lb, lo, rfl, hc⟩ := join_row h
  have HC := hid hc
  have HM := hid hm
  have HWT := hid hw
  obtain ⟨s, hs⟩ : ∃ s, s = w.heap.size := ⟨_, rfl⟩
  clear h hc hw hm
  refine (callsIn_wide (n := 5)).1 ?_
  refine callsIn_of_wp_marks Tryd.func16 rfl trivial ?_ rfl
  simp only [Tryd.ntmps16, List.size_toArray, List.length_cons, List.length_nil, Nat.reduceAdd, Nat.reduceSub, Array.replicate_succ, Array.replicate_zero, List.push_toArray, List.append_toArray, List.nil_append, List.cons_append]
  gi_wp2_with (refine ⟨trivial, ?_⟩; gi_at_call 18; refine (callsIn_wide.2 (bands_any _)).mono ?_; rintro e w' ⟨rfl, rfl⟩)
  have M0 : Below w.heap.size w ((((w.alloc (.cells #[.slice (some ⟨lb, lo, none⟩) 13 cap] 23)).alloc (.cells #[.slice none 0 0] 22)).alloc (.cells (rowA 64 (fun _ => 0)) 3)).alloc (.cells #[.slice (some ⟨w.heap.size + 1 + 1, 0, none⟩) 64 64] 22)) := ((((Below.refl _ w).alloc (Nat.le_refl _) _).alloc (by simp) _).alloc (by simp <;> omega) _).alloc (by simp <;> omega) _
  have M1 := (cell_al_old (w := ((w.alloc (.cells #[.slice (some ⟨lb, lo, none⟩) 13 cap] 23)).alloc (.cells #[.slice none 0 0] 22)).alloc (.cells (rowA 64 (fun _ => 0)) 3)) (b := w.heap.size) (.cells #[.slice (some ⟨w.heap.size + 1 + 1, 0, none⟩) 64 64] 22) (by simp <;> omega)).trans ((cell_al_old (.cells (rowA 64 (fun _ => 0)) 3) (by simp <;> omega)).trans ((cell_al_old (.cells #[.slice none 0 0] 22) (by simp)).trans (cell_al_new (w := w) (.slice (some ⟨lb, lo, none⟩) 13 cap) 23 rfl)))
  have M2 := (cell_al_old (w := ((w.alloc (.cells #[.slice (some ⟨lb, lo, none⟩) 13 cap] 23)).alloc (.cells #[.slice none 0 0] 22)).alloc (.cells (rowA 64 (fun _ => 0)) 3)) (b := w.heap.size + 1) (.cells #[.slice (some ⟨w.heap.size + 1 + 1, 0, none⟩) 64 64] 22) (by simp <;> omega)).trans ((cell_al_old (.cells (rowA 64 (fun _ => 0)) 3) (by simp)).trans (cell_al_new (w := w.alloc (.cells #[.slice (some ⟨lb, lo, none⟩) 13 cap] 23)) (.slice none 0 0) 22 (by simp)))
  have M2f := (frozen_al_old (w := ((w.alloc (.cells #[.slice (some ⟨lb, lo, none⟩) 13 cap] 23)).alloc (.cells #[.slice none 0 0] 22)).alloc (.cells (rowA 64 (fun _ => 0)) 3)) (b := w.heap.size + 1) (.cells #[.slice (some ⟨w.heap.size + 1 + 1, 0, none⟩) 64 64] 22) (by simp <;> omega)).trans ((frozen_al_old (.cells (rowA 64 (fun _ => 0)) 3) (by simp)).trans (frozen_al_new (w := w.alloc (.cells #[.slice (some ⟨lb, lo, none⟩) 13 cap] 23)) (.slice none 0 0) 22 (by simp)))
  have M3 : RowAt (w.heap.size + 1 + 1) 64 (fun _ => 0) ((((w.alloc (.cells #[.slice (some ⟨lb, lo, none⟩) 13 cap] 23)).alloc (.cells #[.slice none 0 0] 22)).alloc (.cells (rowA 64 (fun _ => 0)) 3)).alloc (.cells #[.slice (some ⟨w.heap.size + 1 + 1, 0, none⟩) 64 64] 22)) := (al_old _ (by simp)).trans (by have := al_new ((w.alloc (.cells #[.slice (some ⟨lb, lo, none⟩) 13 cap] 23)).alloc (.cells #[.slice none 0 0] 22)) (.cells (rowA 64 (fun _ => 0)) 3); rwa [al_size, al_size] at this)
  have M4 := cell_al_new (w := ((w.alloc (.cells #[.slice (some ⟨lb, lo, none⟩) 13 cap] 23)).alloc (.cells #[.slice none 0 0] 22)).alloc (.cells (rowA 64 (fun _ => 0)) 3)) (b := w.heap.size + 1 + 1 + 1) (.slice (some ⟨w.heap.size + 1 + 1, 0, none⟩) 64 64) 22 (by simp)
  generalize hW0 : (((w.alloc (.cells #[.slice (some ⟨lb, lo, none⟩) 13 cap] 23)).alloc (.cells #[.slice none 0 0] 22)).alloc (.cells (rowA 64 (fun _ => 0)) 3)).alloc (.cells #[.slice (some ⟨w.heap.size + 1 + 1, 0, none⟩) 64 64] 22) = W0 at M0 M1 M2 M2f M3 M4 ⊢
  have hz0 : W0.heap.size = w.heap.size + 4 := by rw [← hW0]; simp
  obtain ⟨g, hg⟩ : ∃ g, g = s + 1 := ⟨_, rfl⟩
  obtain ⟨r, hr⟩ : ∃ r, r = g + 1 := ⟨_, rfl⟩
  obtain ⟨q, hq⟩ : ∃ q, q = r + 1 := ⟨_, rfl⟩
  rw [← hs, ← hg, ← hr, ← hq] at M4 ⊢
  rw [← hs, ← hg, ← hr] at M3
  rw [← hs, ← hg] at M2 M2f
  rw [← hs] at M1
  have HZ := hid (show s = w.heap.size ∧ g = w.heap.size + 1 ∧ r = w.heap.size + 2 ∧ q = w.heap.size + 3 ∧ W0.heap.size = w.heap.size + 4 from ⟨hs, by omega, by omega, by omega, hz0⟩)
  clear hW0 hs hg hr hq hz0
  refine wpIn_rangeFunc_ownF (F := Fence.wide) (n := 5) (w := W0) rfl (by omega) (gf := 20) (lb := #[]) rfl trivial (enters_of Tryd.func20 (by kernel_rfl) rfl)
    (bands_stops 4 (by omega) _ (HWT.out.below M0)) (fun _ _ => trivial) (fun _ _ _ _ _ _ _ _ => trivial) (Below.refl _ _) (fun _ => rfl)
    (fun pre W => ((∃ Z, RowAt r 64 Z W ∧ ∀ y ∈ pre, ∀ i, i < widN y.val → Z (begN y.val + i) = Y y.val i) ∧ (∀ y ∈ pre, N y.val = widN y.val) ∧ W.cell? ⟨s, 0, none⟩ = some (.slice (some ⟨lb, lo, none⟩) 13 cap) ∧ (W.cell? ⟨g, 0, none⟩ = some (.slice none 0 0) ∧ W.frozen? ⟨g, 0, none⟩ = false) ∧ W.cell? ⟨q, 0, none⟩ = some (.slice (some ⟨r, 0, none⟩) 64 64)) ∧ Below w.heap.size w W)
    (fun c pre W => (c = .ret ∧ (∃ i, i < 13 ∧ N i ≠ widN i) ∧ W.cell? ⟨g, 0, none⟩ = some (.slice none 0 0)) ∧ Below w.heap.size w W)
    (OwnFrom.and (Own.from (fun pre A B row hs hg hr => ⟨hs.1.imp fun Z h => ⟨h.1.kept hg hr, h.2⟩, hs.2.1, cell_kept hs.2.2.1 hg hr, ⟨cell_kept hs.2.2.2.1.1 hg hr, (frozen_kept hs.2.2.2.1.1 hg hr).trans hs.2.2.2.1.2⟩, cell_kept hs.2.2.2.2 hg hr⟩) _) (ownFrom_below (Nat.le_refl _) (by have := HZ.out; omega)))
    (fun c => OwnFrom.and (Own.from (fun pre A B row hs hg hr => ⟨hs.1, hs.2.1, cell_kept hs.2.2 hg hr⟩) _) (ownFrom_below (Nat.le_refl _) (by have := HZ.out; omega)))
    ⟨⟨⟨_, M3, fun y hy => (by cases hy)⟩, fun y hy => (by cases hy), M1, ⟨M2, M2f⟩, M4⟩, M0⟩
    (fun x => { tmps := #[.slice (some ⟨lb, lo, none⟩) 13 cap, .pointer (some ⟨s, 0, none⟩), .pointer (some ⟨g, 0, none⟩), .pointer (some ⟨q, 0, none⟩), .int .i64 (x.val : Int), .int .i64 ((begN x.val : Nat) : Int), .slice (some ⟨lb, lo, none⟩) 13 cap, .int .i64 13, .bool false, .slice (some ⟨r, 0, none⟩) 64 64, .func (.func 20) #[] #[], .int .i64 (x.val : Int), .int .i64 ((begN x.val : Nat) : Int), undef, undef, undef, undef, undef, undef, undef, undef, undef, undef, undef, undef, undef, undef, undef, undef, undef, undef], defers := [] }) ?assign ?body ?done ?stop
  case assign =>
    intro l x W K hK
    gi_wp2
    exact hK
  case stop =>
    rintro D c pre W hD hpre ⟨⟨rfl, hn, hcr⟩, hB⟩ hK
    gi_wp2
    refine ⟨by simp, .inl ⟨_, _, rfl, run_takeDeferred hK, ?_⟩⟩
    have hc5 := cell_kept hcr (grownBy_putObj' _ D (.deferred none)) (fun r e => by cases e; exact ⟨_, hK, rfl⟩)
    refine ⟨.slice none 0 0, ?_, .inr ⟨hn, rfl⟩, hB.trans (belowK_b (w := w) (Nat.le_refl _) W D _ _ (by have := HZ.out; omega) hK rfl rfl)⟩
    simp [results, Tryd.f16, go_sem, hc5]
  case done =>
    rintro D ys W hD rfl ⟨⟨⟨Z, hR, hZ⟩, hpN, hcs, ⟨hcg, hfg⟩, hcq⟩, hB⟩ hK
    have HNA : Hid (∀ i, i < 13 → N i = widN i) := fun i hi => hpN ⟨i, hi⟩ (in_firsts hi)
    have HRJ : Hid (RowAt r 64 (joinF Y) W) := hR.congr fun k hk => by
      obtain ⟨b, hb, h1, h2⟩ := of_some (k := (k : Int)) (by omega) (by omega)
      obtain ⟨i, rfl⟩ : ∃ i, k = begN b + i := ⟨k - begN b, by omega⟩
      rw [joinF_at Y hb (by omega)]
      exact hZ ⟨b, hb⟩ (in_firsts hb) i (by show i < widN b; omega)
    have HBW := hid hB
    have HK := hid hK
    clear hR hZ hpN hB hK
    gi_wp2
    have hK' := (KeepsOthers.setCell W ⟨g, 0, none⟩ (.slice (some ⟨r, 0, none⟩) 64 64)).same D _ HK.out rfl
    refine ⟨by simp, .inl ⟨_, _, rfl, run_takeDeferred hK', ?_⟩⟩
    have hc5 := cell_kept (World.cell?_setCell_same' W ⟨g, 0, none⟩ (.slice (some ⟨r, 0, none⟩) 64 64) (by rw [hcg]; rfl)) (grownBy_putObj' _ D (.deferred none)) (fun r e => by cases e; exact ⟨_, hK', rfl⟩)
    have hr5 : RowAt r 64 (joinF Y) ((W.setCell ⟨g, 0, none⟩ (.slice (some ⟨r, 0, none⟩) 64 64)).putObj D (.deferred none)) :=
      IsAt.kept (IsAt.other HRJ.out (a := ⟨g, 0, none⟩) (show r ≠ g by have := HZ.out; omega) _) (grownBy_putObj' _ D (.deferred none)) (fun r e => by cases e; exact ⟨_, hK', rfl⟩)
    refine ⟨.slice (some ⟨r, 0, none⟩) 64 64, ?_, .inl ⟨HNA.out, _, _, rfl, hr5.ints (by decide)⟩, (HBW.out.setCell (p := ⟨g, 0, none⟩) (show w.heap.size ≤ g by have := HZ.out; omega) _).trans (belowK_b (w := w) (Nat.le_refl _) _ D _ _ (by have := HZ.out; omega) hK' rfl rfl)⟩
    simp [results, Tryd.f16, go_sem, hc5]
  case body =>
    rintro l pre x W ⟨⟨⟨Z, hR, hZ⟩, hpN, hcs, ⟨hcg, hfg⟩, hcq⟩, hB⟩ _
    have hx := x.isLt
    obtain ⟨p, hp⟩ : ∃ p : Nat, x.val = p := ⟨_, rfl⟩
    have HP := hid hp
    rw [hp] at hx ⊢
    obtain ⟨ai, ci, c1, i1⟩ := HC.out p hx
    have hle := begN_in hx
    have hwd := widN_in p
    have hmx := HM.out p hx
    have hlt0 : q < W.heap.size := World.block_lt_of_cell? W ⟨q, 0, none⟩ hcq
    have hrl := hR.lt
    have HI := hid (show (∀ y ∈ pre, ∀ i, i < widN y.val → Z (begN y.val + i) = Y y.val i) ∧ (∀ y ∈ pre, N y.val = widN y.val) ∧ W.cell? ⟨s, 0, none⟩ = some (.slice (some ⟨lb, lo, none⟩) 13 cap) ∧ (W.cell? ⟨g, 0, none⟩ = some (.slice none 0 0) ∧ W.frozen? ⟨g, 0, none⟩ = false) ∧ W.cell? ⟨q, 0, none⟩ = some (.slice (some ⟨r, 0, none⟩) 64 64) ∧ Below w.heap.size w W from ⟨hZ, hpN, hcs, ⟨hcg, hfg⟩, hcq, hB⟩)
    have HLT := hid hlt0
    have e1 : ∀ V, ButX r W V → V.cell? ⟨s, 0, none⟩ = some (.slice (some ⟨lb, lo, none⟩) 13 cap) := fun V h => (World.cell?_of_block (a := ⟨s, 0, none⟩) (h.other (show s ≠ r by have := HZ.out; omega) (show s < W.heap.size by have := HZ.out; omega))).trans hcs
    have e2 : ∀ V, ButX r W V → V.cell? ⟨q, 0, none⟩ = some (.slice (some ⟨r, 0, none⟩) 64 64) := fun V h => (World.cell?_of_block (a := ⟨q, 0, none⟩) (h.other (show q ≠ r by have := HZ.out; omega) hlt0)).trans hcq
    have HBW : Hid (∀ V, ButX r W V → Below w.heap.size w V) := fun V h => hB.trans (h.bel.mono (by have := HZ.out; omega))
    have e3 : ∀ V, ButX r W V → V.cell? ⟨0, p, none⟩ = some (.int .i64 ((widN p : Nat) : Int)) := fun V h => (HWT.out.frame (HBW.out V h) HWT.out.lt).get hx
    have HCA := hid (fun V (h : ButX r W V) => c1 V (HBW.out V h))
    have HR1 := hid hR
    have hxi : (p : Int) < 13 := by omega
    have HBX := hid (fun V (h : Below W.heap.size W V) => (ButX.refl r W).below (Nat.le_of_lt hrl) h)
    have HKO : Hid (∀ V, ButX r W V → KeepsOthers W V) := fun V h => h.keeps ⟨_, _, _, HR1.out⟩
    have HG : Hid (∀ V, ButX r W V → V.cell? ⟨g, 0, none⟩ = some (.slice none 0 0) ∧ V.frozen? ⟨g, 0, none⟩ = false) := fun V h =>
      ⟨(World.cell?_of_block (a := ⟨g, 0, none⟩) (h.other (show g ≠ r by have := HZ.out; omega) (show g < W.heap.size by have := HZ.out; omega))).trans hcg, (World.frozen?_of_block (a := ⟨g, 0, none⟩) (h.other (show g ≠ r by have := HZ.out; omega) (show g < W.heap.size by have := HZ.out; omega))).trans hfg⟩
    by_cases hN : N p = widN p
    · obtain ⟨ab, ao, rfl, hac⟩ := (i1 w (Below.refl _ _)).cells (by omega)
      have HII := hid (fun V (h : ButX r W V) => hac V (HBW.out V h))
      have HNN := hid hN
      have HOV := hid (fun (b i : Nat) (hb : b < 13) (hi : i < widN b) (h : b ≠ p → Z (begN b + i) = Y b i) => over_band hx hb hi h)
      rw [hN] at HCA HII
      obtain ⟨v, hv⟩ : ∃ v : Nat, widN p = v := ⟨_, rfl⟩
      have HVV := hid hv
      obtain ⟨y, hy⟩ : ∃ y : Nat, begN p = y := ⟨_, rfl⟩
      rw [hv] at hle hwd e3 HCA HII HOV
      rw [hy] at hle HOV ⊢
      have z3 : ¬ (64 = y) := by omega
      have z4 : y ≤ 64 := by omega
      have z5 : y + v ≤ 64 := by omega
      have z6 : (y : Int) ≤ 64 := by omega
      clear hZ hpN hcs hcg hfg hcq hB hp hv hy hN c1 i1 hac hmx hR
      gi_wp2
      refine' region_quiet_round (by kernel_rfl) (by kernel_rfl) (by kernel_rfl) (C := Below W.heap.size W) ((Below.refl _ _).drew) (Qa := fun a' => a' = _) ?_ ?_
      rotate_left
      · repeat (go_big_quiet_step (first | (intro hq; rfl) | rfl | (intro hq; rw [e1 _ (HBX.out _ hq)]; exact ⟨rfl, rfl⟩) | (intro hq; rw [e3 _ (HBX.out _ hq)]; exact ⟨rfl, rfl⟩) | (intro hq; rw [HCA.out _ (HBX.out _ hq)]; exact ⟨rfl, rfl⟩)))
        refine wpQuiet_nil ?_
        exact rfl
      rintro a' V hV rfl
      gi_wp2
      refine region_heldIn (S := ButX r W) (by kernel_rfl) ?_
      have hHeld : ButX r W V.drew := HBX.out _ (hV.drew)
      have HRW := hid (show RowAt r 64 Z V.drew from HR1.out.below hV.drew)
      generalize V.drew = W1 at hHeld HRW ⊢
      clear hV
      refine heldIn_take (i := 0) (v := ?_) (fun _ => trivial) rfl (by kernel_rfl) (by kernel_rfl) (by kernel_rfl) (by kernel_rfl) (fun _ _ _ h => h) (Or.inl ⟨by rfl, ?_⟩) hHeld ?_
      rotate_left
      · (intro wz hS; have f1 := e1 wz hS; have f2 := e2 wz hS; have f3 := HCA.out wz hS; simp only [List.getElem_toArray, List.getElem_cons_zero]; go_simp; try (with_reducible rfl))
      simp only [List.getElem_toArray, List.getElem_cons_zero, Act.put, List.setIfInBounds_toArray, List.set_cons_zero, List.set_cons_succ]
      refine heldIn_take (i := 1) (v := ?_) (fun _ => trivial) rfl (by kernel_rfl) (by kernel_rfl) (by kernel_rfl) (by kernel_rfl) (fun _ _ _ h => h) (Or.inl ⟨by rfl, ?_⟩) hHeld ?_
      rotate_left
      · (intro wz hS; have f1 := e1 wz hS; have f2 := e2 wz hS; have f3 := HCA.out wz hS; simp only [List.getElem_toArray, List.getElem_cons_zero, List.getElem_cons_succ]; go_simp; try (with_reducible rfl))
      simp only [List.getElem_toArray, List.getElem_cons_zero, List.getElem_cons_succ, Act.put, List.setIfInBounds_toArray, List.set_cons_zero, List.set_cons_succ]
      refine heldIn_take (i := 2) (v := ?_) (fun _ => trivial) rfl (by kernel_rfl) (by kernel_rfl) (by kernel_rfl) (by kernel_rfl) (fun _ _ _ h => h) (Or.inl ⟨by rfl, ?_⟩) hHeld ?_
      rotate_left
      · (intro wz hS; have f1 := e1 wz hS; have f2 := e2 wz hS; have f3 := HCA.out wz hS; simp only [List.getElem_toArray, List.getElem_cons_zero, List.getElem_cons_succ]; go_simp; try (with_reducible rfl))
      simp only [List.getElem_toArray, List.getElem_cons_zero, List.getElem_cons_succ, Act.put, List.setIfInBounds_toArray, List.set_cons_zero, List.set_cons_succ]
      refine heldIn_take (i := 3) (v := ?_) (fun _ => trivial) rfl (by kernel_rfl) (by kernel_rfl) (by kernel_rfl) (by kernel_rfl) (fun _ _ _ h => h) (Or.inl ⟨by rfl, ?_⟩) hHeld ?_
      rotate_left
      · (intro wz hS; have f1 := e1 wz hS; have f2 := e2 wz hS; have f3 := HCA.out wz hS; simp only [List.getElem_toArray, List.getElem_cons_zero, List.getElem_cons_succ]; go_simp; try (with_reducible rfl))
      simp only [List.getElem_toArray, List.getElem_cons_zero, List.getElem_cons_succ, Act.put, List.setIfInBounds_toArray, List.set_cons_zero, List.set_cons_succ]
      refine heldIn_take (i := 4) (v := ?_) (fun _ => trivial) rfl (by kernel_rfl) (by kernel_rfl) (by kernel_rfl) (by kernel_rfl) (fun _ _ _ h => h) (Or.inl ⟨by rfl, ?_⟩) hHeld ?_
      rotate_left
      · (intro wz hS; have f1 := e1 wz hS; have f2 := e2 wz hS; have f3 := HCA.out wz hS; simp only [List.getElem_toArray, List.getElem_cons_zero, List.getElem_cons_succ]; go_simp; try (with_reducible rfl))
      simp only [List.getElem_toArray, List.getElem_cons_zero, List.getElem_cons_succ, Act.put, List.setIfInBounds_toArray, List.set_cons_zero, List.set_cons_succ]
      refine heldIn_take (i := 5) (v := ?_) (fun _ => trivial) rfl (by kernel_rfl) (by kernel_rfl) (by kernel_rfl) (by kernel_rfl) (fun _ _ _ h => h) (Or.inl ⟨by rfl, ?_⟩) hHeld ?_
      rotate_left
      · (intro wz hS; have f1 := e1 wz hS; have f2 := e2 wz hS; have f3 := HCA.out wz hS; simp only [List.getElem_toArray, List.getElem_cons_zero, List.getElem_cons_succ]; go_simp; try (with_reducible rfl))
      simp only [List.getElem_toArray, List.getElem_cons_zero, List.getElem_cons_succ, Act.put, List.setIfInBounds_toArray, List.set_cons_zero, List.set_cons_succ]
      refine heldIn_take (i := 6) (v := ?_) (fun _ => trivial) rfl (by kernel_rfl) (by kernel_rfl) (by kernel_rfl) (by kernel_rfl) (fun _ _ _ h => h) (Or.inl ⟨by rfl, ?_⟩) hHeld ?_
      rotate_left
      · (intro wz hS; have f1 := e1 wz hS; have f2 := e2 wz hS; have f3 := HCA.out wz hS; simp only [List.getElem_toArray, List.getElem_cons_zero, List.getElem_cons_succ]; go_simp; try (with_reducible rfl))
      simp only [List.getElem_toArray, List.getElem_cons_zero, List.getElem_cons_succ, Act.put, List.setIfInBounds_toArray, List.set_cons_zero, List.set_cons_succ]
      refine heldIn_one (i := 7) rfl (by kernel_rfl) rfl (fun K hK => ?_)
      simp only [List.getElem_toArray, List.getElem_cons_zero, List.getElem_cons_succ]
      have cp := fun ty => copy_at (k := v) (y := y) (dl := 64 - y) (dc := 64 - y) (ca := ci) HRW.out (by omega) (by omega) (HII.out _ hHeld) ty
      go_simp
      have HR2 := hid (row_setRow HRW.out (overF Z (Y p) y v))
      refine hK.out _ _ (hHeld.setRow _) (fun hHeld => ?_)
      clear hK K
      refine heldIn_done (by kernel_rfl) ?_ _
      refine ⟨HKO.out _ hHeld, trivial, ⟨⟨_, HR2.out, fun y' hy' i hi => HOV.out _ i y'.isLt hi (fun hne => ?_)⟩, fun y' hy' => ?_, e1 _ hHeld, HG.out _ hHeld, e2 _ hHeld⟩, HBW.out _ hHeld⟩
      · rcases List.mem_append.1 hy' with h | h
        · exact HI.out.1 y' h i hi
        · have h : y' = x := by simpa using h
          subst h
          exact absurd HP.out hne
      · rcases List.mem_append.1 hy' with h | h
        · exact HI.out.2.1 y' h
        · have h : y' = x := by simpa using h
          subst h
          rw [HP.out]; exact HNN.out
    · have HNE := hid (show ∃ i, i < 13 ∧ N i ≠ widN i from ⟨p, hx, hN⟩)
      have hneb : ((N p : Int) != ((widN p : Nat) : Int)) = true := by
        have : ((N p : Int) == ((widN p : Nat) : Int)) = false := by simp; omega
        rw [bne, this]; rfl
      clear hZ hpN hcs hcg hfg hcq hB hp hN c1 i1 hle hR
      generalize N p = nk at *
      generalize widN p = v at *
      gi_wp2
      refine' region_quiet_round (by kernel_rfl) (by kernel_rfl) (by kernel_rfl) (C := Below W.heap.size W) ((Below.refl _ _).drew) (Qa := fun a' => a' = _) ?_ ?_
      rotate_left
      · repeat (go_big_quiet_step (first | (intro hq; rfl) | rfl | (intro hq; rw [e1 _ (HBX.out _ hq)]; exact ⟨rfl, rfl⟩) | (intro hq; rw [e3 _ (HBX.out _ hq)]; exact ⟨rfl, rfl⟩) | (intro hq; rw [HCA.out _ (HBX.out _ hq)]; exact ⟨rfl, rfl⟩)))
        refine wpQuiet_nil ?_
        exact rfl
      rintro a' V hV rfl
      obtain ⟨hg1, hg2⟩ := HG.out V (HBX.out V hV)
      have HKV := hid (HKO.out V (HBX.out V hV))
      have HBV := hid (HBW.out V (HBX.out V hV))
      clear hV
      gi_wp2
      exact ⟨HKV.out.trans (KeepsOthers.setCell _ _ _), ⟨rfl, HNE.out, World.cell?_setCell_same' _ _ _ (by rw [hg1]; rfl)⟩, HBV.out.setCell (p := ⟨g, 0, none⟩) (show w.heap.size ≤ g by have := HZ.out; omega) _⟩
end
end Go.Proofs.YtmeldmmeaiiflaaDoor
