/-
  The contracts of layout.Width, layout.Start.
-/
import Derived.Test.YtmeldmmeaiiflaaDoorLYS
import Derived.Test.YtmeldmmeaiiflaaDoorRL
import Derived.Test.YtmeldmmeaiiflaaDoorCL
namespace Go.Proofs.YtmeldmmeaiiflaaDoor
open Go.ChangeShapes Go.WideShapes Go.ChangeAt Go.RowKit
set_option linter.unusedVariables false

theorem WTab.get {w : World} (h : WTab w) {k : Nat} (hk : k < 13) : w.cell? ⟨0, k, none⟩ = some (.int .i64 ((widN k : Nat) : Int)) := by
  obtain ⟨t, fr, h⟩ := h
  have e : (rowA 13 wI)[k]? = some (.int .i64 (wI k)) := rowA_get hk
  simpa [World.cell?, h, wI] using e
theorem width_any (b : Int) (w : World) (hw : WTab w) : Calls Tryd.prog 6 #[.int .i64 b] w fun e w' => e = .returned (.int .i64 (widF b)) ∧ w' = w := by
  by_cases h : 0 ≤ b ∧ b ≤ 12
  · obtain ⟨k, rfl⟩ : ∃ k : Nat, b = (k : Int) := ⟨b.toNat, by omega⟩
    rw [widF_nat (by omega)]
    have hc := hw.get (k := k) (by omega)
    have hk : k < 13 := by omega
    go_enter Tryd.func6, Tryd.ntmps6
    go_wp2
    go_ret
    exact ⟨rfl, rfl⟩
  · have e : widF b = 0 := by rw [widF, if_pos (by omega)]
    rw [e]
    by_cases h1 : b < 0
    · go_enter Tryd.func6, Tryd.ntmps6
      go_wp2
      go_ret
      exact ⟨rfl, rfl⟩
    · have h2 : 13 ≤ b := by omega
      go_enter Tryd.func6, Tryd.ntmps6
      go_wp2
      go_ret
      exact ⟨rfl, rfl⟩
theorem in_firsts {b : Nat} (h : b < 13) : (⟨b, h⟩ : Fin 13) ∈ firsts 13 13 := by
  have e : firsts 13 13 = List.finRange 13 := List.take_of_length_le (by simp)
  rw [e]; exact List.mem_finRange _
section
attribute [local go_sem] Oper.semAt_some
set_option maxRecDepth 100000 in
set_option maxHeartbeats 2000000 in
theorem start_any (b : Int) (w : World) (hw : WTab w) : Calls Tryd.prog 8 #[.int .i64 b] w fun e w' => e = .returned (.int .i64 (begF b)) ∧ Below w.heap.size w w' := by
  have hlt := hw.lt
  refine (callsIn_wide (n := 5)).1 ?_
  refine callsIn_of_wp_marks Tryd.func8 rfl trivial ?_ rfl
  simp only [Tryd.ntmps8, List.size_toArray, List.length_cons, List.length_nil, Nat.reduceAdd, Nat.reduceSub, Array.replicate_succ, Array.replicate_zero, List.push_toArray, List.append_toArray, List.nil_append, List.cons_append]
  gi_wp2_with (refine ⟨trivial, ?_⟩; gi_at_call 18; refine (callsIn_wide.2 (bands_any _)).mono ?_; rintro e w' ⟨rfl, rfl⟩)
  have d0 := (cell_al_old (b := w.heap.size) (.cells #[.int .i64 0] 3) (by simp)).trans (cell_al_new (w := w) (.int .i64 b) 3 rfl)
  have d1 := cell_al_new (w := w.alloc (.cells #[.int .i64 b] 3)) (b := w.heap.size + 1) (.int .i64 0) 3 (by simp)
  have d2 := frozen_al_new (w := w.alloc (.cells #[.int .i64 b] 3)) (b := w.heap.size + 1) (.int .i64 0) 3 (by simp)
  have hB0 : Below w.heap.size w ((w.alloc (.cells #[.int .i64 b] 3)).alloc (.cells #[.int .i64 0] 3)) := ((Below.refl _ w).alloc (Nat.le_refl _) _).alloc (by simp) _
  refine wpIn_rangeFunc_ownF (F := Fence.wide) (n := 5) rfl (by omega) (gf := 20) (lb := #[]) rfl trivial (enters_of Tryd.func20 (by kernel_rfl) rfl)
    (bands_stops 4 (by omega) _ (hw.below hB0)) (fun _ _ => trivial) (fun _ _ _ _ _ _ _ _ => trivial) (Below.refl _ _) (fun _ => rfl)
    (fun pre W => ((∀ y ∈ pre, ((y.val : Nat) : Int) ≠ b) ∧ W.cell? ⟨w.heap.size, 0, none⟩ = some (.int .i64 b) ∧ W.cell? ⟨w.heap.size + 1, 0, none⟩ = some (.int .i64 0) ∧ W.frozen? ⟨w.heap.size + 1, 0, none⟩ = false) ∧ Below w.heap.size w W)
    (fun c pre W => (c = .ret ∧ W.cell? ⟨w.heap.size + 1, 0, none⟩ = some (.int .i64 (begF b))) ∧ Below w.heap.size w W)
    (OwnFrom.and (Own.from (fun s A B row hs hg hr => ⟨hs.1, cell_kept hs.2.1 hg hr, cell_kept hs.2.2.1 hg hr, (frozen_kept hs.2.2.1 hg hr).trans hs.2.2.2⟩) _) (ownFrom_below (Nat.le_refl _) (by simp; omega)))
    (fun c => OwnFrom.and (Own.from (fun s A B row hs hg hr => ⟨hs.1, cell_kept hs.2 hg hr⟩) _) (ownFrom_below (Nat.le_refl _) (by simp; omega)))
    ⟨⟨by simp, d0, d1, d2⟩, hB0⟩
    (fun x => { tmps := #[.int .i64 b, .pointer (some ⟨w.heap.size, 0, none⟩), .pointer (some ⟨w.heap.size + 1, 0, none⟩), .int .i64 (x.val : Int), .int .i64 ((begN x.val : Nat) : Int), .func (.func 20) #[] #[], .int .i64 (x.val : Int), .int .i64 ((begN x.val : Nat) : Int), undef, undef, undef, undef], defers := [] }) ?assign ?body ?done ?stop
  case assign =>
    intro l x W K hK
    gi_wp2
    exact hK
  case body =>
    rintro l pre x W ⟨⟨hp, hcw, hcr, hfr⟩, hB⟩ _
    have hx := x.isLt
    have hbe := begF_nat hx
    gi_wp2
    · rename_i hx
      have hx : ((x.val : Nat) : Int) = b := eq_of_beq hx
      rw [hx] at hbe
      exact ⟨KeepsOthers.setCell _ _ _, ⟨rfl, by rw [hbe]; exact World.cell?_setCell_same' _ _ _ (by rw [hcr]; rfl)⟩, hB.setCell (p := ⟨w.heap.size + 1, 0, none⟩) (by simp) _⟩
    · rename_i hx
      exact ⟨KeepsOthers.refl _, trivial, ⟨fun y hy => (List.mem_append.1 hy).elim (hp y) (fun e e' => by simp at e; subst e; rw [e'] at hx; simp at hx), hcw, hcr, hfr⟩, hB⟩
  case done =>
    rintro D ys W hD rfl ⟨⟨hne, _, hcr, hfr⟩, hB⟩ hK
    gi_wp2
    have hK' := (KeepsOthers.setCell W ⟨w.heap.size + 1, 0, none⟩ (.int .i64 0)).same D _ hK rfl
    refine ⟨by simp, .inl ⟨_, _, rfl, run_takeDeferred hK', ?_⟩⟩
    have hc5 := cell_kept (World.cell?_setCell_same' W ⟨w.heap.size + 1, 0, none⟩ (.int .i64 0) (by rw [hcr]; rfl)) (grownBy_putObj' _ D (.deferred none)) (fun r e => by cases e; exact ⟨_, hK', rfl⟩)
    have hb : begF b = 0 := by
      rw [begF, if_pos]
      refine Decidable.byContradiction fun h => ?_
      exact hne ⟨b.toNat, by omega⟩ (in_firsts _) (by show ((b.toNat : Nat) : Int) = b; omega)
    refine ⟨.int .i64 0, ?_, by rw [hb], (hB.setCell (p := ⟨w.heap.size + 1, 0, none⟩) (by simp) _).trans (belowK_b (w := w) (Nat.le_refl _) _ D _ _ (by simp at hD; omega) hK' rfl rfl)⟩
    simp [results, Tryd.f8, go_sem, hc5]
  case stop =>
    rintro D c pre W hD hpre ⟨⟨rfl, hcr⟩, hB⟩ hK
    gi_wp2
    refine ⟨by simp, .inl ⟨_, _, rfl, run_takeDeferred hK, ?_⟩⟩
    have hc5 := cell_kept hcr (grownBy_putObj' _ D (.deferred none)) (fun r e => by cases e; exact ⟨_, hK, rfl⟩)
    refine ⟨.int .i64 (begF b), ?_, rfl, hB.trans (belowK_b (w := w) (Nat.le_refl _) W D _ _ (by simp at hD; omega) hK rfl rfl)⟩
    simp [results, Tryd.f8, go_sem, hc5]
end
end Go.Proofs.YtmeldmmeaiiflaaDoor
