/-
  The contract of trig.Make over the landed text: the table lies in a new block, all its 512 cosines in their places.
-/
import Derived.Test.YtgkjjkdjalbfaaaDoorA
import Derived.BigRegion
namespace Go.Proofs.YtgkjjkdjalbfaaaDoor
open Go.ChangeShapes Go.WideShapes Go.ChangeAt Go.RowKit
set_option linter.unusedVariables false

theorem zero512 (w : World) : (zeroValue 32).run Tryd.prog w = .ok (.agg (Array.replicate 512 (.int .i64 0))) w := by
  have h : (Tryd.prog.info? 32).bind (·.zero) = some (.agg (Array.replicate 512 (.int .i64 0))) := by kernel_rfl
  cases hi : Tryd.prog.info? 32 with
  | none => simp [hi] at h
  | some i =>
    simp [hi] at h
    simp [zeroValue, typeInfo, hi, h]

/-- A row of cells, in block r. -/
abbrev IsAt (r : Nat) (t : TypeId) (cs : Array Value) (w : World) : Prop := w.heap[r]? = some (.cells cs t (0, 0))
theorem IsAt.cell {r t : Nat} {cs : Array Value} {w : World} (h : IsAt r t cs w) (j : Nat) : w.cell? ⟨r, j, none⟩ = cs[j]? := by
  have h' : w.heap[r]? = some (.cells cs t (0, 0)) := h
  simp [World.cell?, h']
theorem IsAt.frozen {r t : Nat} {cs : Array Value} {w : World} (h : IsAt r t cs w) (j : Nat) : w.frozen? ⟨r, j, none⟩ = false := by
  have h' : w.heap[r]? = some (.cells cs t (0, 0)) := h
  simp [World.frozen?, h']
theorem IsAt.set {r t : Nat} {cs : Array Value} {w : World} (h : IsAt r t cs w) (j : Nat) (v : Value) : IsAt r t (cs.setIfInBounds j v) (w.setCell ⟨r, j, none⟩ v) :=
  heap_setCell_same w r j cs t v h
theorem IsAt.other {r t : Nat} {cs : Array Value} {w : World} (h : IsAt r t cs w) {a : Addr} (hr : r ≠ a.block) (v : Value) : IsAt r t cs (w.setCell a v) :=
  (heap_setCell_other w a r v hr).trans h

/-- Block r is the table. -/
def Tab (r : Nat) (w : World) : Prop := r < w.heap.size ∧ ∀ i, i < 512 → w.cell? ⟨r, i, none⟩ = some (.int .i64 (cosT i))
theorem Tab.drewN {r : Nat} {w : World} (h : Tab r w) (n : Nat) : Tab r (w.drewN n) := by
  refine ⟨?_, fun i hi => ?_⟩
  · have : ∀ n, (w.drewN n).heap.size = w.heap.size := fun n => by simp
    rw [this]; exact h.1
  · rw [World.cell?_drewN]; exact h.2 i hi
theorem Tab.below {r B : Nat} {w w' : World} (h : Tab r w) (hr : r < B) (hb : Below B w w') : Tab r w' :=
  ⟨Nat.lt_of_lt_of_le h.1 hb.size, fun i hi => (hb.cell (p := ⟨r, i, none⟩) hr).trans (h.2 i hi)⟩

/-- The table (block r) on the way: the places of P are right; block f is the first quarter; below B all is as it was. -/
def Made (B r f : Nat) (w : World) (P : Nat → Prop) (wr : World) : Prop :=
  ∃ cs : Array Value, cs.size = 512 ∧ (∀ i, i < 512 → P i → cs[i]? = some (.int .i64 (cosT i))) ∧ IsAt r 32 cs wr ∧ IsAt f 33 qA wr ∧ Below B w wr
theorem Made.cell {B r f : Nat} {w wr : World} {P : Nat → Prop} (h : Made B r f w P wr) {j : Nat} (hj : j < 512) : ∃ v, wr.cell? ⟨r, j, none⟩ = some v ∧ wr.frozen? ⟨r, j, none⟩ = false := by
  obtain ⟨cs, h1, h2, h3, h4, h5⟩ := h
  exact ⟨cs[j]'(by omega), by rw [h3.cell j]; simp [h1, hj], h3.frozen j⟩
theorem Made.known {B r f : Nat} {w wr : World} {P : Nat → Prop} (h : Made B r f w P wr) {j : Nat} (hj : j < 512) (hp : P j) : wr.cell? ⟨r, j, none⟩ = some (.int .i64 (cosT j)) := by
  obtain ⟨cs, h1, h2, h3, h4, h5⟩ := h
  rw [h3.cell j]; exact h2 j hj hp
theorem Made.first {B r f : Nat} {w wr : World} {P : Nat → Prop} (h : Made B r f w P wr) {j : Nat} (hj : j < 129) : wr.cell? ⟨f, j, none⟩ = some (.int .i64 (qd j)) := by
  obtain ⟨cs, h1, h2, h3, h4, h5⟩ := h
  rw [h4.cell j]; exact qA_get hj
theorem Made.step {B r f : Nat} {w wr : World} {P P' : Nat → Prop} (h : Made B r f w P wr) {k : Nat} (hk : k < 512) (hr : B ≤ r) (hne : f ≠ r) {v : Int} (hv : v = cosT k) (hP : ∀ i, P' i → P i ∨ i = k) :
    Made B r f w P' (wr.setCell ⟨r, k, none⟩ (.int .i64 v)) := by
  obtain ⟨cs, h1, h2, h3, h4, h5⟩ := h
  subst hv
  refine ⟨_, by simpa using h1, fun i hi hp => ?_, h3.set k _, h4.other hne _, h5.setCell hr _⟩
  rw [Array.getElem?_setIfInBounds]
  by_cases e : k = i
  · subst e; simp [h1, hk]
  · rw [if_neg e]; exact h2 i hi ((hP i hp).resolve_right (fun x => e x.symm))
theorem Made.drew {B r f : Nat} {w wr : World} {P : Nat → Prop} (h : Made B r f w P wr) : Made B r f w P wr.drew := by
  obtain ⟨cs, h1, h2, h3, h4, h5⟩ := h
  exact ⟨cs, h1, h2, h3, h4, h5.drew⟩
theorem Made.mono {B r f : Nat} {w wr : World} {P P' : Nat → Prop} (h : Made B r f w P wr) (hP : ∀ i, P' i → P i) : Made B r f w P' wr := by
  obtain ⟨cs, h1, h2, h3, h4, h5⟩ := h
  exact ⟨cs, h1, fun i hi hp => h2 i hi (hP i hp), h3, h4, h5⟩
theorem Made.tab {B r f : Nat} {w wr : World} {P : Nat → Prop} (h : Made B r f w P wr) (hP : ∀ i, i < 512 → P i) : Tab r wr ∧ Below B w wr := by
  obtain ⟨cs, h1, h2, h3, h4, h5⟩ := h
  exact ⟨⟨(Array.getElem?_eq_some_iff.1 h3).1, fun i hi => by rw [h3.cell i]; exact h2 i hi (hP i hi)⟩, h5⟩
theorem cosT_lo {k : Nat} (h : k ≤ 128) : qd k = cosT k := by rw [cosT, if_pos h]
theorem qd_bd {k : Nat} (h : k ≤ 128) : -16777216 ≤ qd k ∧ qd k ≤ 16777216 := by
  have h1 := all512_at bd_all (show k < 512 by omega)
  simp only [Bool.and_eq_true, decide_eq_true_eq] at h1
  rw [cosT_lo h]; exact h1
theorem cosT_mid {k : Nat} (h : k < 128) : - qd k = cosT (256 - k) := by
  rw [cosT, if_neg (by omega), if_pos (by omega)]; congr 2; omega
theorem cosT_hi {k : Nat} (h : k < 256) : cosT (256 - k) = cosT (256 + k) := by
  have h1 := all512_at neg_all (show 256 + k < 512 by omega)
  simp only [decide_eq_true_eq] at h1
  rw [← h1]; congr 1; omega

theorem store129 (W : World) (ys : Array Value) (h : ys.size = 129) :
    (storeCells ⟨W.heap.size, 0, none⟩ qA.toList).run Tryd.prog (W.alloc (.cells ys 33)) = .ok () ((W.alloc (.cells ys 33)).setRow W.heap.size qA) := by
  have := run_storeCells_from (P := Tryd.prog) W.heap.size 33 qA.toList 0 ys (W.alloc (.cells ys 33)) (heap_alloc_new W _) (by simp [qA_size, h]) (fun v hv => (Array.all_eq_true_iff_forall_mem.1 qA_one) v (by simpa using hv))
  simpa using this
set_option maxRecDepth 1000000 in
theorem make_any (w : World) :
    Calls Tryd.prog 6 #[] w fun e w' => e = .returned (.pointer (some ⟨w.heap.size, 0, none⟩)) ∧ Tab w.heap.size w' ∧ Below w.heap.size w w' := by
  obtain ⟨zs, hzs, hz⟩ : ∃ zs : Array Value, Hid (zs.size = 512) ∧ ∀ w, (zeroValue 32).run Tryd.prog w = .ok (.agg zs) w := ⟨_, Array.size_replicate, zero512⟩
  obtain ⟨ys, hys, hy⟩ : ∃ ys : Array Value, Hid (ys.size = 129) ∧ ∀ w, (zeroValue 33).run Tryd.prog w = .ok (.agg ys) w := ⟨_, Array.size_replicate, zero129⟩
  have hst : ∀ W : World, (storeCells ⟨W.heap.size, 0, none⟩ qA.toList).run Tryd.prog (W.alloc (.cells ys 33)) = .ok () ((W.alloc (.cells ys 33)).setRow W.heap.size qA) := fun W => store129 W ys hys.out
  have hq := qA_size
  go_enter Tryd.func6, Tryd.ntmps6
  go_wp2_with (go_at_call 15; refine (cosines_any _).mono ?_; rintro e w1 ⟨rfl, hb1⟩)
  have hsz : w.heap.size < w1.heap.size := by have := hb1.size; simp at this; omega
  have HM : Hid (Made w.heap.size w.heap.size w1.heap.size w (fun i => i < 0) ((w1.alloc (Obj.cells ys 33)).setRow w1.heap.size qA)) := by
    have hr : w1.heap[w.heap.size]? = some (.cells zs 32 (0, 0)) := (hb1.block w.heap.size (by simp)).trans (heap_alloc_new w _)
    refine ⟨zs, hzs.out, fun i hi h => absurd h (Nat.not_lt_zero i), ?_, setRow_heap _ _ _ _ _ _ (heap_alloc_new w1 _), ?_⟩
    · exact ((setRow_other _ _ _ _ (by omega)).trans (Below.heap_alloc w1 _ _ hsz)).trans hr
    · exact below_setRow (((((Below.refl _ w).alloc (Nat.le_refl _) _).trans (hb1.mono (by simp)))).alloc (by omega) _) (by omega) _
  generalize (w1.alloc (Obj.cells ys 33)).setRow w1.heap.size qA = W0 at HM ⊢
  clear hst hy hb1 hys ys hq
  generalize w1.heap.size = f at *
  go_loopw [9] (fun i wr => ∃ k : Nat, k ≤ 129 ∧ i = .int .i64 k ∧ Hid (Made w.heap.size w.heap.size f w (fun i => i < k) wr)) (fun i _ => 129 - (intOf i).toNat)
  case atStart => exact ⟨0, by omega, rfl, HM⟩
  case round =>
    clear HM
    obtain ⟨k, hk, rfl, HM⟩ := hrel
    by_cases hlt : k < 129
    · obtain ⟨v, hc, hf⟩ := HM.out.cell (show k < 512 by omega)
      have hq := HM.out.first hlt
      go_wp2
      go_region
      go_wp2
      refine ⟨⟨k + 1, by omega, by go_num, (HM.out.step (by omega) (Nat.le_refl _) (by omega) (cosT_lo (by omega)) (fun i hi => by omega)).drew⟩, by simp [intOf]; omega⟩
    · obtain rfl : k = 129 := by omega
      have HM2 : Hid (Made w.heap.size w.heap.size f w (fun i => i ≤ 128 ∨ 256 - 0 < i ∧ i ≤ 256) wr) := HM.out.mono (fun i hi => by omega)
      clear HM
      go_wp2
      go_loopw [20] (fun i wr => ∃ k : Nat, k ≤ 128 ∧ i = .int .i64 k ∧ Hid (Made w.heap.size w.heap.size f w (fun i => i ≤ 128 ∨ 256 - k < i ∧ i ≤ 256) wr)) (fun i _ => 128 - (intOf i).toNat)
      case atStart => exact ⟨0, by omega, rfl, HM2⟩
      case round =>
        clear HM2
        obtain ⟨k, hk, rfl, HM⟩ := hrel
        by_cases hlt : k < 128
        · obtain ⟨v, hc, hf⟩ := HM.out.cell (show 256 - k < 512 by omega)
          have hq := HM.out.first (show k < 129 by omega)
          have he : (256 - (k : Int)).toNat = 256 - k := by omega
          obtain ⟨q1, q2⟩ := qd_bd (show k ≤ 128 by omega)
          go_wp2
          go_region
          go_wp2
          refine ⟨⟨k + 1, by omega, by go_num, (HM.out.step (by omega) (Nat.le_refl _) (by omega) (cosT_mid (by omega)) (fun i hi => by omega)).drew⟩, by simp [intOf]; omega⟩
        · obtain rfl : k = 128 := by omega
          have HM2 : Hid (Made w.heap.size w.heap.size f w (fun i => i ≤ 256 ∨ i < 256 + 0) wr) := HM.out.mono (fun i hi => by omega)
          clear HM
          go_wp2
          go_loopw [33] (fun i wr => ∃ k : Nat, k ≤ 256 ∧ i = .int .i64 k ∧ Hid (Made w.heap.size w.heap.size f w (fun i => i ≤ 256 ∨ i < 256 + k) wr)) (fun i _ => 256 - (intOf i).toNat)
          case atStart => exact ⟨0, by omega, rfl, HM2⟩
          case round =>
            clear HM2
            obtain ⟨k, hk, rfl, HM⟩ := hrel
            by_cases hlt : k < 256
            · obtain ⟨v, hc, hf⟩ := HM.out.cell (show 256 + k < 512 by omega)
              have hq := HM.out.known (show 256 - k < 512 by omega) (by omega)
              have he : (256 - (k : Int)).toNat = 256 - k := by omega
              have he2 : (256 + (k : Int)).toNat = 256 + k := by omega
              go_wp2
              go_region
              go_wp2
              refine ⟨⟨k + 1, by omega, by go_num, (HM.out.step (by omega) (Nat.le_refl _) (by omega) (cosT_hi (by omega)) (fun i hi => by omega)).drew⟩, by simp [intOf]; omega⟩
            · obtain rfl : k = 256 := by omega
              go_wp2
              go_ret
              exact ⟨rfl, HM.out.tab (fun i hi => by omega)⟩
end Go.Proofs.YtgkjjkdjalbfaaaDoor
