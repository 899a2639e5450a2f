/-
  The contract of layout.Cut.
-/
import Derived.Test.YtmeldmmeaiiflaaDoorLYU
import Derived.Test.YtmeldmmeaiiflaaDoorRK
import Derived.Test.YtmeldmmeaiiflaaDoorBX
import Derived.Test.YtmeldmmeaiiflaaDoorLS
import Derived.Test.YtmeldmmeaiiflaaDoorCN
import Derived.Test.YtmeldmmeaiiflaaDoorRT
import Derived.Test.YtmeldmmeaiiflaaDoorLYC
namespace Go.Proofs.YtmeldmmeaiiflaaDoor
open Go.ChangeShapes Go.WideShapes Go.ChangeAt Go.RowKit
set_option linter.unusedVariables false

theorem ButX.keeps {r : Nat} {w W : World} (h : ButX r w W) (hc : ∃ cs t f, w.heap[r]? = some (.cells cs t f)) : KeepsOthers w W := by
  obtain ⟨cs, t, f, hc⟩ := hc
  refine ⟨h.bel.size, fun k o hk ho => ?_⟩
  have hkl := (Array.getElem?_eq_some_iff.1 hk).1
  refine (h.other (fun e => ?_) hkl).trans hk
  subst e
  rw [hc] at hk; cases hk; cases ho
section
attribute [local go_sem] Oper.semAt_some
set_option maxRecDepth 100000 in
set_option maxHeartbeats 2000000 in
theorem cut_yes (a : Option Addr) (cap : Nat) (X : Nat → Int) (w : World) (hw : WTab w) (h : IsInts w a 64 cap X) :
    Calls Tryd.prog 13 #[.slice a 64 cap] w fun e w' => ∃ a' cap', e = .returned (.slice a' 13 cap') ∧ IsListsV w' a' 13 cap' widN (cutF X) ∧ Below w.heap.size w w' := by
  have hmk : ∀ w, (Instr.makeSlice 23 (.int .i64 13) (.int .i64 13)).run Tryd.prog w = .ok (.slice (some ⟨w.heap.size, 0, none⟩) 13 13) (w.alloc (.cells (listA 13 (fun _ => .slice none 0 0)) 22)) := make_lists (n := 13) (by omega)
  obtain ⟨xb, xo, rfl, hb0, hcap, hcap2, hc⟩ : ∃ b off, a = some ⟨b, off, none⟩ ∧ b < w.heap.size ∧ 64 ≤ cap ∧ cap ≤ maxLen ∧ ∀ i, i < 64 → w.cell? ⟨b, off + i, none⟩ = some (.int .i64 (X i)) := by
    rcases h with h | h
    · omega
    · exact h
  have HSB : Hid (∀ V, Below w.heap.size w V → ∀ b, b < 13 → IsInts V (some ⟨xb, xo + begN b, none⟩) (widN b) (cap - begN b) (cutF X b)) := fun V hV b hb => .inr ⟨xb, xo + begN b, rfl, Nat.lt_of_lt_of_le hb0 hV.size, by have := begN_in hb; omega, by omega, fun i hi => by
    rw [hV.cell (p := ⟨xb, xo + begN b + i, none⟩) hb0, Nat.add_assoc]
    exact hc (begN b + i) (by have := begN_in hb; omega)⟩
  have HWT := hid hw
  obtain ⟨r, hr⟩ : ∃ r, r = w.heap.size + 1 := ⟨_, rfl⟩
  obtain ⟨s, hs⟩ : ∃ s, s = w.heap.size := ⟨_, rfl⟩
  clear h hc hw hb0
  refine (callsIn_wide (n := 5)).1 ?_
  refine callsIn_of_wp_marks Tryd.func13 rfl trivial ?_ rfl
  simp only [Tryd.ntmps13, List.size_toArray, List.length_cons, List.length_nil, Nat.reduceAdd, Nat.reduceSub, Array.replicate_succ, Array.replicate_zero, List.push_toArray, List.append_toArray, List.nil_append, List.cons_append]
  gi_wp2_with (refine ⟨trivial, ?_⟩; gi_at_call 18; refine (callsIn_wide.2 (bands_any _)).mono ?_; rintro e w' ⟨rfl, rfl⟩)
  have M3 : VRow (w.heap.size + 1) 13 widN (cutF X) (fun _ => False) w (((w.alloc (.cells #[.slice (some ⟨xb, xo, none⟩) 64 cap] 22)).alloc (.cells (listA 13 (fun _ => .slice none 0 0)) 22)).alloc (.cells #[.slice (some ⟨w.heap.size + 1, 0, none⟩) 13 13] 23)) :=
    ⟨⟨fun _ => .slice none 0 0, (al_old _ (by simp)).trans (by have := al_new (w.alloc (.cells #[.slice (some ⟨xb, xo, none⟩) 64 cap] 22)) (.cells (listA 13 (fun _ => .slice none 0 0)) 22); rwa [al_size] at this), fun i _ h => h.elim⟩, (((Below.refl _ w).alloc (Nat.le_refl _) _).alloc (by simp) _).alloc (by simp; omega) _, by omega⟩
  have d1 := (cell_al_old (b := w.heap.size) (.cells #[.slice (some ⟨w.heap.size + 1, 0, none⟩) 13 13] 23) (by simp; omega)).trans ((cell_al_old (.cells (listA 13 (fun _ => .slice none 0 0)) 22) (by simp)).trans (cell_al_new (w := w) (.slice (some ⟨xb, xo, none⟩) 64 cap) 22 rfl))
  have d2 := cell_al_new (w := (w.alloc (.cells #[.slice (some ⟨xb, xo, none⟩) 64 cap] 22)).alloc (.cells (listA 13 (fun _ => .slice none 0 0)) 22)) (b := w.heap.size + 1 + 1) (.slice (some ⟨w.heap.size + 1, 0, none⟩) 13 13) 23 (by simp)
  generalize hW0 : ((w.alloc (.cells #[.slice (some ⟨xb, xo, none⟩) 64 cap] 22)).alloc (.cells (listA 13 (fun _ => .slice none 0 0)) 22)).alloc (.cells #[.slice (some ⟨w.heap.size + 1, 0, none⟩) 13 13] 23) = W0 at M3 d1 d2 ⊢
  have hz0 : W0.heap.size = w.heap.size + 3 := by rw [← hW0]; simp
  rw [← hr] at M3 d2 ⊢
  rw [← hs] at d1 ⊢
  obtain ⟨q, hq⟩ : ∃ q, q = r + 1 := ⟨_, rfl⟩
  rw [← hq] at d2 ⊢
  have HZ := hid (show r = w.heap.size + 1 ∧ s = w.heap.size ∧ q = w.heap.size + 2 ∧ W0.heap.size = w.heap.size + 3 from ⟨hr, hs, by omega, hz0⟩)
  clear hW0 hr hs hq hz0
  refine wpIn_rangeFunc_ownF (F := Fence.wide) (n := 5) (w := W0) rfl (by omega) (gf := 20) (lb := #[]) rfl trivial (enters_of Tryd.func20 (by kernel_rfl) rfl)
    (bands_stops 4 (by omega) _ (HWT.out.below M3.bel)) (fun _ _ => trivial) (fun _ _ _ _ _ _ _ _ => trivial) (Below.refl _ _) (fun _ => rfl)
    (fun pre W => VRow r 13 widN (cutF X) (fun i => ∃ y ∈ pre, y.val = i) w W ∧ W.cell? ⟨s, 0, none⟩ = some (.slice (some ⟨xb, xo, none⟩) 64 cap) ∧ W.cell? ⟨q, 0, none⟩ = some (.slice (some ⟨r, 0, none⟩) 13 13))
    (fun _ _ _ => False)
    (fun pre A B row hs hg hr => ⟨hs.1.kept hg (fun k e => ⟨by have := (hr k e).1; have := HZ.out; omega, (hr k e).2⟩), cell_kept hs.2.1 hg (fun k e => (hr k e).2), cell_kept hs.2.2 hg (fun k e => (hr k e).2)⟩)
    (fun _ _ _ _ _ hs _ _ => hs)
    ⟨⟨M3.row.imp fun V h => ⟨h.1, fun i _ hp => by obtain ⟨y, hy, _⟩ := hp; cases hy⟩, M3.bel, M3.le⟩, d1, d2⟩
    (fun x => { tmps := #[.slice (some ⟨xb, xo, none⟩) 64 cap, .pointer (some ⟨s, 0, none⟩), .slice none 0 0, .pointer (some ⟨q, 0, none⟩), .int .i64 (x.val : Int), .int .i64 ((begN x.val : Nat) : Int), .slice (some ⟨xb, xo, none⟩) 64 cap, .int .i64 64, .bool false, .slice (some ⟨r, 0, none⟩) 13 13, .func (.func 20) #[] #[], .int .i64 (x.val : Int), .int .i64 ((begN x.val : Nat) : Int), undef, undef, undef, undef, undef, undef, undef, undef, undef, undef, undef, undef, undef], defers := [] }) ?assign ?body ?done ?stop
  case assign =>
    intro l x W K hK
    gi_wp2
    exact hK
  case stop =>
    rintro D c pre W _ _ h _
    exact h.elim
  case body =>
    rintro l pre x W ⟨hV, hcs, hcq⟩ _
    have hx := x.isLt
    have hle := begN_in hx
    have hwd := widN_in x.val
    have hrl := hV.lt
    have hlt0 : q < W.heap.size := World.block_lt_of_cell? W ⟨q, 0, none⟩ hcq
    have e1 : ∀ V, ButX r W V → V.cell? ⟨s, 0, none⟩ = some (.slice (some ⟨xb, xo, none⟩) 64 cap) := fun V h => (World.cell?_of_block (a := ⟨s, 0, none⟩) (h.other (show s ≠ r by have := HZ.out; omega) (show s < W.heap.size by have := HZ.out; omega))).trans hcs
    have e2 : ∀ V, ButX r W V → V.cell? ⟨q, 0, none⟩ = some (.slice (some ⟨r, 0, none⟩) 13 13) := fun V h => (World.cell?_of_block (a := ⟨q, 0, none⟩) (h.other (show q ≠ r by have := HZ.out; omega) hlt0)).trans hcq
    have e3 : ∀ V, ButX r W V → V.cell? ⟨0, x.val, none⟩ = some (.int .i64 ((widN x.val : Nat) : Int)) := fun V h => (HWT.out.frame ((hV.bel.trans (h.bel.mono (by have := HZ.out; omega))) : Below w.heap.size w V) HWT.out.lt).get hx
    obtain ⟨p, hp⟩ : ∃ p : Nat, x.val = p := ⟨_, rfl⟩
    have HP := hid hp
    rw [hp] at hx hle hwd e3 ⊢
    have K1 := hid (fun V (hb : ButX r W V) => clone_ints (widN p) (cap - begN p) (by omega) (by omega) (some ⟨xb, xo + begN p, none⟩) (cutF X p) V (HSB.out V (hV.bel.trans (hb.bel.mono (by have := HZ.out; omega))) p hx))
    have HV := hid hV
    have HC : Hid (∃ cs t f, W.heap[r]? = some (.cells cs t f)) := by
      obtain ⟨U, h1, _⟩ := hV.row
      exact ⟨_, _, _, h1⟩
    have HQ := hid hlt0
    obtain ⟨v, hv⟩ : ∃ v : Nat, widN p = v := ⟨_, rfl⟩
    have HVV := hid hv
    obtain ⟨y, hy⟩ : ∃ y : Nat, begN p = y := ⟨_, rfl⟩
    obtain ⟨z, hz⟩ : ∃ z : Nat, z = y + v := ⟨_, rfl⟩
    rw [hv] at hle hwd e3 K1
    rw [hy] at hle K1 ⊢
    have x1 : (y : Int) + (v : Int) = (z : Int) := by omega
    have xw : IntKind.i64.wrap (z : Int) = (z : Int) := by simp [IntKind.wrap, IntKind.signed, IntKind.bits]; omega
    have hxi : (p : Int) < 13 := by omega
    have z1 : y ≤ z := by omega
    have z2 : z ≤ cap := by omega
    have z3 : ¬ (cap = y) := by omega
    have z4 : z - y = v := by omega
    have z5 : z ≤ 64 := by omega
    clear hV hcs hcq hp hv hy hz
    gi_wp2
    refine region_heldIn (S := ButX r W) (by kernel_rfl) ?_
    have hHeld : ButX r W W.drew := (ButX.refl r W).below (Nat.le_of_lt hrl) (Below.refl _ _).drew
    have HB1 := hid (show Below W.heap.size W W.drew from (Below.refl _ _).drew)
    generalize W.drew = W1 at hHeld HB1 ⊢
    refine heldIn_take (i := 0) (v := ?_) (fun _ => trivial) rfl (by kernel_rfl) (by kernel_rfl) (by kernel_rfl) (by kernel_rfl) (fun _ _ _ h => h) (Or.inl ⟨by rfl, ?_⟩) hHeld ?_
    rotate_left
    · (intro wz hS; have f1 := e1 wz hS; have f2 := e2 wz hS; have f3 := e3 wz hS; simp only [List.getElem_toArray, List.getElem_cons_zero]; go_simp; try (with_reducible rfl))
    simp only [List.getElem_toArray, List.getElem_cons_zero, Act.put, List.setIfInBounds_toArray, List.set_cons_zero, List.set_cons_succ]
    refine heldIn_take (i := 1) (v := ?_) (fun _ => trivial) rfl (by kernel_rfl) (by kernel_rfl) (by kernel_rfl) (by kernel_rfl) (fun _ _ _ h => h) (Or.inl ⟨by rfl, ?_⟩) hHeld ?_
    rotate_left
    · (intro wz hS; have f1 := e1 wz hS; have f2 := e2 wz hS; have f3 := e3 wz hS; simp only [List.getElem_toArray, List.getElem_cons_zero, List.getElem_cons_succ]; go_simp; try (with_reducible rfl))
    simp only [List.getElem_toArray, List.getElem_cons_zero, List.getElem_cons_succ, Act.put, List.setIfInBounds_toArray, List.set_cons_zero, List.set_cons_succ]
    refine heldIn_take (i := 2) (v := ?_) (fun _ => trivial) rfl (by kernel_rfl) (by kernel_rfl) (by kernel_rfl) (by kernel_rfl) (fun _ _ _ h => h) (Or.inl ⟨by rfl, ?_⟩) hHeld ?_
    rotate_left
    · (intro wz hS; have f1 := e1 wz hS; have f2 := e2 wz hS; have f3 := e3 wz hS; simp only [List.getElem_toArray, List.getElem_cons_zero, List.getElem_cons_succ]; go_simp; try (with_reducible rfl))
    simp only [List.getElem_toArray, List.getElem_cons_zero, List.getElem_cons_succ, Act.put, List.setIfInBounds_toArray, List.set_cons_zero, List.set_cons_succ]
    refine heldIn_take (i := 3) (v := ?_) (fun _ => trivial) rfl (by kernel_rfl) (by kernel_rfl) (by kernel_rfl) (by kernel_rfl) (fun _ _ _ h => h) (Or.inl ⟨by rfl, ?_⟩) hHeld ?_
    rotate_left
    · (intro wz hS; have f1 := e1 wz hS; have f2 := e2 wz hS; have f3 := e3 wz hS; simp only [List.getElem_toArray, List.getElem_cons_zero, List.getElem_cons_succ]; go_simp; try (with_reducible rfl))
    simp only [List.getElem_toArray, List.getElem_cons_zero, List.getElem_cons_succ, Act.put, List.setIfInBounds_toArray, List.set_cons_zero, List.set_cons_succ]
    refine heldIn_take (i := 4) (v := ?_) (fun _ => trivial) rfl (by kernel_rfl) (by kernel_rfl) (by kernel_rfl) (by kernel_rfl) (fun _ _ _ h => h) (Or.inl ⟨by rfl, ?_⟩) hHeld ?_
    rotate_left
    · (intro wz hS; have f1 := e1 wz hS; have f2 := e2 wz hS; have f3 := e3 wz hS; simp only [List.getElem_toArray, List.getElem_cons_zero, List.getElem_cons_succ]; go_simp; try (with_reducible rfl))
    simp only [List.getElem_toArray, List.getElem_cons_zero, List.getElem_cons_succ, Act.put, List.setIfInBounds_toArray, List.set_cons_zero, List.set_cons_succ]
    refine heldIn_take (i := 5) (v := ?_) (fun _ => trivial) rfl (by kernel_rfl) (by kernel_rfl) (by kernel_rfl) (by kernel_rfl) (fun _ _ _ h => h) (Or.inl ⟨by rfl, ?_⟩) hHeld ?_
    rotate_left
    · (intro wz hS; have f1 := e1 wz hS; have f2 := e2 wz hS; have f3 := e3 wz hS; simp only [List.getElem_toArray, List.getElem_cons_zero, List.getElem_cons_succ]; go_simp; try (with_reducible rfl))
    simp only [List.getElem_toArray, List.getElem_cons_zero, List.getElem_cons_succ, Act.put, List.setIfInBounds_toArray, List.set_cons_zero, List.set_cons_succ]
    refine heldIn_take (i := 6) (v := ?_) (fun _ => trivial) rfl (by kernel_rfl) (by kernel_rfl) (by kernel_rfl) (by kernel_rfl) (fun _ _ _ h => h) (Or.inl ⟨by rfl, ?_⟩) hHeld ?_
    rotate_left
    · (intro wz hS; have f1 := e1 wz hS; have f2 := e2 wz hS; have f3 := e3 wz hS; simp only [List.getElem_toArray, List.getElem_cons_zero, List.getElem_cons_succ]; go_simp; try (with_reducible rfl))
    simp only [List.getElem_toArray, List.getElem_cons_zero, List.getElem_cons_succ, Act.put, List.setIfInBounds_toArray, List.set_cons_zero, List.set_cons_succ]
    refine heldIn_take (i := 7) (v := ?_) (fun _ => trivial) rfl (by kernel_rfl) (by kernel_rfl) (by kernel_rfl) (by kernel_rfl) (fun _ _ _ h => h) (Or.inl ⟨by rfl, ?_⟩) hHeld ?_
    rotate_left
    · (intro wz hS; have f1 := e1 wz hS; have f2 := e2 wz hS; have f3 := e3 wz hS; simp only [List.getElem_toArray, List.getElem_cons_zero, List.getElem_cons_succ]; go_simp; try (with_reducible rfl))
    simp only [List.getElem_toArray, List.getElem_cons_zero, List.getElem_cons_succ, Act.put, List.setIfInBounds_toArray, List.set_cons_zero, List.set_cons_succ]
    refine heldIn_take (i := 8) (v := ?_) (fun _ => trivial) rfl (by kernel_rfl) (by kernel_rfl) (by kernel_rfl) (by kernel_rfl) (fun _ _ _ h => h) (Or.inl ⟨by rfl, ?_⟩) hHeld ?_
    rotate_left
    · (intro wz hS; have f1 := e1 wz hS; have f2 := e2 wz hS; have f3 := e3 wz hS; simp only [List.getElem_toArray, List.getElem_cons_zero, List.getElem_cons_succ]; go_simp; try (with_reducible rfl))
    simp only [List.getElem_toArray, List.getElem_cons_zero, List.getElem_cons_succ, Act.put, List.setIfInBounds_toArray, List.set_cons_zero, List.set_cons_succ]
    refine heldIn_take (i := 9) (v := ?_) (fun _ => trivial) rfl (by kernel_rfl) (by kernel_rfl) (by kernel_rfl) (by kernel_rfl) (fun _ _ _ h => h) (Or.inl ⟨by rfl, ?_⟩) hHeld ?_
    rotate_left
    · (intro wz hS; have f1 := e1 wz hS; have f2 := e2 wz hS; have f3 := e3 wz hS; simp only [List.getElem_toArray, List.getElem_cons_zero, List.getElem_cons_succ]; go_simp; try (with_reducible rfl))
    simp only [List.getElem_toArray, List.getElem_cons_zero, List.getElem_cons_succ, Act.put, List.setIfInBounds_toArray, List.set_cons_zero, List.set_cons_succ]
    refine heldIn_one (i := 10) rfl (by kernel_rfl) rfl (fun K hK => ?_)
    simp only [List.getElem_toArray, List.getElem_cons_zero, List.getElem_cons_succ]
    go_simp
    refine ⟨trivial, (CallsIn.inRound l (callsIn_wide.2 (K1.out _ hHeld))).mono ?_⟩
    rintro e V2 ⟨a2, c2, rfl, hI2, hB2, hnew⟩
    obtain ⟨b2, o2, rfl, _⟩ := hI2.cells (by omega)
    have hrb : r < b2 := Nat.lt_of_lt_of_le (Nat.lt_of_lt_of_le hrl hHeld.bel.size) (hnew _ rfl)
    have HV2 := hid ((HV.out.below HB1.out).below hB2)
    replace hHeld := hHeld.below (Nat.le_of_lt (Nat.lt_of_lt_of_le hrl hHeld.bel.size)) hB2
    have HI2 := hid hI2
    clear hB2 hnew hI2
    refine hK.out _ _ hHeld (fun hHeld => ?_)
    clear hK K
    refine heldIn_take (i := 11) (v := ?_) (fun _ => trivial) rfl (by kernel_rfl) (by kernel_rfl) (by kernel_rfl) (by kernel_rfl) (fun _ _ _ h => h) (Or.inl ⟨by rfl, ?_⟩) hHeld ?_
    rotate_left
    · (intro wz hS; have f1 := e1 wz hS; have f2 := e2 wz hS; have f3 := e3 wz hS; simp only [List.getElem_toArray, List.getElem_cons_zero, List.getElem_cons_succ]; go_simp; try (with_reducible rfl))
    simp only [List.getElem_toArray, List.getElem_cons_zero, List.getElem_cons_succ, Act.put, List.setIfInBounds_toArray, List.set_cons_zero, List.set_cons_succ]
    refine heldIn_one (i := 12) rfl (by kernel_rfl) rfl (fun K hK => ?_)
    simp only [List.getElem_toArray, List.getElem_cons_zero, List.getElem_cons_succ]
    obtain ⟨u0, hu0, hf0⟩ := HV2.out.cell hx
    go_simp
    refine hK.out _ _ (hHeld.setCell _) (fun hHeld => ?_)
    clear hK K
    refine heldIn_done (by kernel_rfl) ?_ _
    refine ⟨hHeld.keeps HC.out, trivial, ?_, e1 _ hHeld, e2 _ hHeld⟩
    have hnx := HV2.out.next (P' := fun i => ∃ y ∈ pre ++ [x], y.val = i) (j := p) (c := c2) (ad := ⟨b2, o2, none⟩) hx (by rw [HVV.out]; exact HI2.out) hrb (fun i hi => by
      obtain ⟨y', hy', e⟩ := hi
      rcases List.mem_append.1 hy' with h | h
      · exact .inl ⟨y', h, e⟩
      · have h : y' = x := by simpa using h
        subst h
        exact .inr (e.symm.trans HP.out))
    rw [HVV.out] at hnx
    exact hnx
  case done =>
    rintro D ys W hD rfl ⟨hV, hcs, hcq⟩ hK
    have HV2 := hid (hV.kept (grownBy_putObj' _ D (.deferred none)) (fun k e => by cases e; exact ⟨by have := HZ.out; omega, _, hK, rfl⟩))
    have HVB := hid hV
    clear hV
    gi_wp2
    refine ⟨by simp, .inl ⟨_, _, rfl, run_takeDeferred hK, ?_⟩⟩
    exact ⟨_, results_tmp rfl _ _ _, some ⟨r, 0, none⟩, 13, rfl, HV2.out.lists (by decide) (fun i hi => ⟨⟨i, hi⟩, in_firsts hi, rfl⟩), HV2.out.bel⟩
end
end Go.Proofs.YtmeldmmeaiiflaaDoor
