/-
  The contract of layout.Of.
-/
import Derived.Test.YtmeldmmeaiiflaaDoorLYT
import Derived.Test.YtmeldmmeaiiflaaDoorRQ
import Derived.Test.YtmeldmmeaiiflaaDoorOI
namespace Go.Proofs.YtmeldmmeaiiflaaDoor
open Go.ChangeShapes Go.WideShapes Go.ChangeAt Go.RowKit
set_option linter.unusedVariables false

section
attribute [local go_sem] Oper.semAt_some
set_option maxRecDepth 100000 in
set_option maxHeartbeats 2000000 in
theorem of_any (b : Int) (w : World) (hw : WTab w) : Calls Tryd.prog 10 #[.int .i64 b] w fun e w' => e = .returned (.int .i64 (ofF b)) ∧ Below w.heap.size w w' := by
  have hlt := hw.lt
  refine (callsIn_wide (n := 5)).1 ?_
  refine callsIn_of_wp_marks Tryd.func10 rfl trivial ?_ rfl
  simp only [Tryd.ntmps10, List.size_toArray, List.length_cons, List.length_nil, Nat.reduceAdd, Nat.reduceSub, Array.replicate_succ, Array.replicate_zero, List.push_toArray, List.append_toArray, List.nil_append, List.cons_append]
  gi_wp2_with (refine ⟨trivial, ?_⟩; gi_at_call 18; refine (callsIn_wide.2 (bands_any _)).mono ?_; rintro e w' ⟨rfl, rfl⟩)
  have d0 := (cell_al_old (b := w.heap.size) (.cells #[.int .i64 0] 3) (by simp)).trans (cell_al_new (w := w) (.int .i64 b) 3 rfl)
  have d1 := cell_al_new (w := w.alloc (.cells #[.int .i64 b] 3)) (b := w.heap.size + 1) (.int .i64 0) 3 (by simp)
  have d2 := frozen_al_new (w := w.alloc (.cells #[.int .i64 b] 3)) (b := w.heap.size + 1) (.int .i64 0) 3 (by simp)
  have hB0 : Below w.heap.size w ((w.alloc (.cells #[.int .i64 b] 3)).alloc (.cells #[.int .i64 0] 3)) := ((Below.refl _ w).alloc (Nat.le_refl _) _).alloc (by simp) _
  refine wpIn_rangeFunc_ownF (F := Fence.wide) (n := 5) rfl (by omega) (gf := 20) (lb := #[]) rfl trivial (enters_of Tryd.func20 (by kernel_rfl) rfl)
    (bands_stops 4 (by omega) _ (hw.below hB0)) (fun _ _ => trivial) (fun _ _ _ _ _ _ _ _ => trivial) (Below.refl _ _) (fun _ => rfl)
    (fun pre W => ((∀ y ∈ pre, ¬ (((begN y.val : Nat) : Int) ≤ b ∧ b < ((begN y.val : Nat) : Int) + ((widN y.val : Nat) : Int))) ∧ W.cell? ⟨w.heap.size, 0, none⟩ = some (.int .i64 b) ∧ W.cell? ⟨w.heap.size + 1, 0, none⟩ = some (.int .i64 0) ∧ W.frozen? ⟨w.heap.size + 1, 0, none⟩ = false) ∧ Below w.heap.size w W)
    (fun c pre W => (c = .ret ∧ W.cell? ⟨w.heap.size + 1, 0, none⟩ = some (.int .i64 (ofF b))) ∧ Below w.heap.size w W)
    (OwnFrom.and (Own.from (fun s A B row hs hg hr => ⟨hs.1, cell_kept hs.2.1 hg hr, cell_kept hs.2.2.1 hg hr, (frozen_kept hs.2.2.1 hg hr).trans hs.2.2.2⟩) _) (ownFrom_below (Nat.le_refl _) (by simp; omega)))
    (fun c => OwnFrom.and (Own.from (fun s A B row hs hg hr => ⟨hs.1, cell_kept hs.2 hg hr⟩) _) (ownFrom_below (Nat.le_refl _) (by simp; omega)))
    ⟨⟨by simp, d0, d1, d2⟩, hB0⟩
    (fun x => { tmps := #[.int .i64 b, .pointer (some ⟨w.heap.size, 0, none⟩), .pointer (some ⟨w.heap.size + 1, 0, none⟩), .int .i64 (x.val : Int), .int .i64 ((begN x.val : Nat) : Int), .func (.func 20) #[] #[], .int .i64 (x.val : Int), .int .i64 ((begN x.val : Nat) : Int), undef, undef, undef, undef, undef, undef, undef, undef, undef, undef, undef, undef, undef], defers := [] }) ?assign ?body ?done ?stop
  case assign =>
    intro l x W K hK
    gi_wp2
    exact hK
  case body =>
    rintro l pre x W ⟨⟨hp, hcw, hcr, hfr⟩, hB⟩ _
    have hx := x.isLt
    have hle := begN_in hx
    have hlt0 : w.heap.size + 1 < W.heap.size := by
      obtain ⟨c, hc⟩ : ∃ c, W.heap[w.heap.size + 1]? = some c := by
        simp only [World.cell?] at hcr
        cases h : W.heap[w.heap.size + 1]? with
        | none => rw [h] at hcr; cases hcr
        | some c => exact ⟨c, rfl⟩
      exact (Array.getElem?_eq_some_iff.1 hc).1
    have d1 : ∀ V, Below W.heap.size W V → V.cell? ⟨w.heap.size, 0, none⟩ = some (.int .i64 b) := fun V h => (h.cell (p := ⟨w.heap.size, 0, none⟩) (show w.heap.size < W.heap.size by omega)).trans hcw
    have d2 : ∀ V, Below W.heap.size W V → V.cell? ⟨0, x.val, none⟩ = some (.int .i64 ((widN x.val : Nat) : Int)) := fun V h => ((hw.below hB).below h).get hx
    have HI : Hid (∀ V, Below W.heap.size W V → (V.cell? ⟨w.heap.size, 0, none⟩ = some (.int .i64 b) ∧ V.cell? ⟨w.heap.size + 1, 0, none⟩ = some (.int .i64 0) ∧ V.frozen? ⟨w.heap.size + 1, 0, none⟩ = false) ∧ Below w.heap.size w V ∧ KeepsOthers W V) := fun V h =>
      ⟨⟨d1 V h, (h.cell (p := ⟨w.heap.size + 1, 0, none⟩) hlt0).trans hcr, (h.frozen (p := ⟨w.heap.size + 1, 0, none⟩) hlt0).trans hfr⟩, below_then hB h, ⟨h.size, fun k o hk _ => (h.block k (Array.getElem?_eq_some_iff.1 hk).1).trans hk⟩⟩
    have HP : Hid (∀ y ∈ pre, ¬ (((begN y.val : Nat) : Int) ≤ b ∧ b < ((begN y.val : Nat) : Int) + ((widN y.val : Nat) : Int))) := hp
    have HOF : Hid (∀ {b : Nat} (h : b < 13) {k : Int} (h1 : ((begN b : Nat) : Int) ≤ k) (h2 : k < ((begN b : Nat) : Int) + ((widN b : Nat) : Int)), ofF k = (b : Int)) := of_in
    have hwd := (widN_in x.val).2
    by_cases c1 : ((begN x.val : Nat) : Int) ≤ b
    · by_cases c2 : b < ((begN x.val : Nat) : Int) + ((widN x.val : Nat) : Int)
      · have hbe := hid (HOF.out hx c1 c2)
        have e1 : decide (((begN x.val : Nat) : Int) ≤ b) = true := decide_eq_true c1
        have e2 : decide (b < ((begN x.val : Nat) : Int) + ((widN x.val : Nat) : Int)) = true := decide_eq_true c2
        have e3 : wrap64 (((begN x.val : Nat) : Int) + ((widN x.val : Nat) : Int)) = ((begN x.val : Nat) : Int) + ((widN x.val : Nat) : Int) := wr_in (by omega) (by omega)
        clear hp hcw hcr hfr hB HP
        gi_wp2
        refine' region_quiet_round (by kernel_rfl) (by kernel_rfl) (by kernel_rfl) (C := Below W.heap.size W) (Below.refl _ _).drew (Qa := fun a' => a' = _) ?_ ?_
        rotate_left
        · repeat (go_big_quiet_step (first | (intro hq; rfl) | rfl | (intro hq; rw [d1 _ hq]; exact ⟨rfl, rfl⟩) | (intro hq; rw [d2 _ hq]; exact ⟨rfl, rfl⟩)))
          refine wpQuiet_nil ?_
          exact rfl
        rintro a' V hV rfl
        obtain ⟨⟨h1, h2, h3⟩, h4, h5⟩ := HI.out V hV
        clear d1 d2 HI
        gi_wp2
        exact ⟨h5.trans (KeepsOthers.setCell _ _ _), ⟨rfl, by rw [hbe.out]; exact World.cell?_setCell_same' _ _ _ (by rw [h2]; rfl)⟩, h4.setCell (p := ⟨w.heap.size + 1, 0, none⟩) (by simp) _⟩
      · have e1 : decide (((begN x.val : Nat) : Int) ≤ b) = true := decide_eq_true c1
        have e2 : decide (b < ((begN x.val : Nat) : Int) + ((widN x.val : Nat) : Int)) = false := decide_eq_false c2
        have e3 : wrap64 (((begN x.val : Nat) : Int) + ((widN x.val : Nat) : Int)) = ((begN x.val : Nat) : Int) + ((widN x.val : Nat) : Int) := wr_in (by omega) (by omega)
        clear hp hcw hcr hfr hB
        gi_wp2
        refine' region_quiet_round (by kernel_rfl) (by kernel_rfl) (by kernel_rfl) (C := Below W.heap.size W) (Below.refl _ _).drew (Qa := fun a' => a' = _) ?_ ?_
        rotate_left
        · repeat (go_big_quiet_step (first | (intro hq; rfl) | rfl | (intro hq; rw [d1 _ hq]; exact ⟨rfl, rfl⟩) | (intro hq; rw [d2 _ hq]; exact ⟨rfl, rfl⟩)))
          refine wpQuiet_nil ?_
          exact rfl
        rintro a' V hV rfl
        obtain ⟨⟨h1, h2, h3⟩, h4, h5⟩ := HI.out V hV
        clear d1 d2 HI
        gi_wp2
        exact ⟨h5, trivial, ⟨fun y hy => (List.mem_append.1 hy).elim (HP.out y) (fun e => by simp at e; subst e; exact fun h => by have := h.2; omega), h1, h2, h3⟩, h4⟩
    · have e1 : decide (((begN x.val : Nat) : Int) ≤ b) = false := decide_eq_false c1
      clear hp hcw hcr hfr hB
      gi_wp2
      refine' region_quiet_round (by kernel_rfl) (by kernel_rfl) (by kernel_rfl) (C := Below W.heap.size W) (Below.refl _ _).drew (Qa := fun a' => a' = _) ?_ ?_
      rotate_left
      · repeat (go_big_quiet_step (first | (intro hq; rfl) | rfl | (intro hq; rw [d1 _ hq]; exact ⟨rfl, rfl⟩) | (intro hq; rw [d2 _ hq]; exact ⟨rfl, rfl⟩)))
        refine wpQuiet_nil ?_
        exact rfl
      rintro a' V hV rfl
      obtain ⟨⟨h1, h2, h3⟩, h4, h5⟩ := HI.out V hV
      clear d1 d2 HI
      gi_wp2
      exact ⟨h5, trivial, ⟨fun y hy => (List.mem_append.1 hy).elim (HP.out y) (fun e => by simp at e; subst e; exact fun h => by have := h.1; omega), h1, h2, h3⟩, h4⟩
  case done =>
    rintro D ys W hD rfl ⟨⟨hne, _, hcr, hfr⟩, hB⟩ hK
    gi_wp2
    have hK' := (KeepsOthers.setCell W ⟨w.heap.size + 1, 0, none⟩ (.int .i64 (-1))).same D _ hK rfl
    refine ⟨by simp, .inl ⟨_, _, rfl, run_takeDeferred hK', ?_⟩⟩
    have hc5 := cell_kept (World.cell?_setCell_same' W ⟨w.heap.size + 1, 0, none⟩ (.int .i64 (-1)) (by rw [hcr]; rfl)) (grownBy_putObj' _ D (.deferred none)) (fun r e => by cases e; exact ⟨_, hK', rfl⟩)
    have hb : ofF b = -1 := of_none fun q hq => hne ⟨q, hq⟩ (in_firsts hq)
    refine ⟨.int .i64 (-1), ?_, by rw [hb], (hB.setCell (p := ⟨w.heap.size + 1, 0, none⟩) (by simp) _).trans (belowK_b (w := w) (Nat.le_refl _) _ D _ _ (by simp at hD; omega) hK' rfl rfl)⟩
    simp [results, Tryd.f10, go_sem, hc5]
  case stop =>
    rintro D c pre W hD hpre ⟨⟨rfl, hcr⟩, hB⟩ hK
    gi_wp2
    refine ⟨by simp, .inl ⟨_, _, rfl, run_takeDeferred hK, ?_⟩⟩
    have hc5 := cell_kept hcr (grownBy_putObj' _ D (.deferred none)) (fun r e => by cases e; exact ⟨_, hK, rfl⟩)
    refine ⟨.int .i64 (ofF b), ?_, rfl, hB.trans (belowK_b (w := w) (Nat.le_refl _) W D _ _ (by simp at hD; omega) hK rfl rfl)⟩
    simp [results, Tryd.f10, go_sem, hc5]
end
end Go.Proofs.YtmeldmmeaiiflaaDoor
