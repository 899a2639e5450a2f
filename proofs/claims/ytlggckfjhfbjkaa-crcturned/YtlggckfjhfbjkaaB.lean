/-
  The contracts of crc.Make, More and Sum, over the landed text: the table lies in a new block; what is summed is the document's.
-/
import Derived.Test.YtlggckfjhfbjkaaA
namespace Go.Proofs.Ytlggckfjhfbjkaa
open Go.ChangeShapes Go.WideShapes Go.ChangeAt Go.RowKit
set_option linter.unusedVariables false

theorem zero_arr (w : World) : (zeroValue 34).run Try.prog w = .ok (.agg (Array.replicate 256 (.int .u32 0))) w := by
  have h : (Try.prog.info? 34).bind (·.zero) = some (.agg (Array.replicate 256 (.int .u32 0))) := by kernel_rfl
  cases hi : Try.prog.info? 34 with
  | none => simp [hi] at h
  | some i =>
    simp [hi] at h
    simp [zeroValue, typeInfo, hi, h]

/-- A row of cells, in block r. -/
abbrev IsAt (r : Nat) (t : TypeId) (cs : Array Value) (w : World) : Prop := w.heap[r]? = some (.cells cs t (0, 0))
theorem IsAt.cell {r t : Nat} {cs : Array Value} {w : World} (h : IsAt r t cs w) (j : Nat) : w.cell? ⟨r, j, none⟩ = cs[j]? := by
  have h' : w.heap[r]? = some (.cells cs t (0, 0)) := h
  simp [World.cell?, h']
theorem IsAt.frozen {r t : Nat} {cs : Array Value} {w : World} (h : IsAt r t cs w) (j : Nat) : w.frozen? ⟨r, j, none⟩ = false := by
  have h' : w.heap[r]? = some (.cells cs t (0, 0)) := h
  simp [World.frozen?, h']
theorem IsAt.set {r t : Nat} {cs : Array Value} {w : World} (h : IsAt r t cs w) (j : Nat) (v : Value) : IsAt r t (cs.setIfInBounds j v) (w.setCell ⟨r, j, none⟩ v) := by
  have h' : w.heap[r]? = some (.cells cs t (0, 0)) := h
  show (w.setCell ⟨r, j, none⟩ v).heap[r]? = _
  simp [World.setCell, Array.getElem?_modify, h']
theorem heap_alloc_new (w : World) (o : Obj) : (w.alloc o).heap[w.heap.size]? = some o := by
  show (w.heap.push o)[w.heap.size]? = _
  simp

/-- Block r is the table. -/
def Tab (r : Nat) (w : World) : Prop := r < w.heap.size ∧ ∀ i, i < 256 → w.cell? ⟨r, i, none⟩ = some (.int .u32 (stps 8 i : Int))
theorem Tab.drewN {r : Nat} {w : World} (h : Tab r w) (n : Nat) : Tab r (w.drewN n) := by
  refine ⟨?_, fun i hi => ?_⟩
  · have : ∀ n, (w.drewN n).heap.size = w.heap.size := fun n => by simp
    rw [this]; exact h.1
  · rw [World.cell?_drewN]; exact h.2 i hi
theorem Tab.below {r B : Nat} {w w' : World} (h : Tab r w) (hr : r < B) (hb : Below B w w') : Tab r w' :=
  ⟨Nat.lt_of_lt_of_le h.1 hb.size, fun i hi => (hb.cell (p := ⟨r, i, none⟩) hr).trans (h.2 i hi)⟩

/-- The table, made up to k. -/
def MadeTo (w : World) (k : Nat) (wr : World) : Prop :=
  ∃ cs : Array Value, cs.size = 256 ∧ (∀ i, i < k → cs[i]? = some (.int .u32 (stps 8 i : Int))) ∧ IsAt w.heap.size 34 cs wr ∧ Below w.heap.size w wr
theorem MadeTo.cell {w wr : World} {k : Nat} (h : MadeTo w k wr) {j : Nat} (hj : j < 256) : ∃ v, wr.cell? ⟨w.heap.size, j, none⟩ = some v ∧ wr.frozen? ⟨w.heap.size, j, none⟩ = false := by
  obtain ⟨cs, h1, h2, h3, h4⟩ := h
  exact ⟨cs[j]'(by omega), by rw [h3.cell j]; simp [h1, hj], h3.frozen j⟩
theorem MadeTo.step {w wr : World} {k : Nat} (h : MadeTo w k wr) (hk : k < 256) : MadeTo w (k + 1) (wr.setCell ⟨w.heap.size, k, none⟩ (.int .u32 (stps 8 k : Int))) := by
  obtain ⟨cs, h1, h2, h3, h4⟩ := h
  refine ⟨_, by simpa using h1, fun i hi => ?_, h3.set k _, h4.setCell (Nat.le_refl _) _⟩
  rw [Array.getElem?_setIfInBounds]
  by_cases e : k = i
  · subst e; simp [h1, hk]
  · rw [if_neg e]; exact h2 i (by omega)
theorem MadeTo.tab {w wr : World} (h : MadeTo w 256 wr) : Tab w.heap.size wr := by
  obtain ⟨cs, h1, h2, h3, h4⟩ := h
  exact ⟨(Array.getElem?_eq_some_iff.1 h3).1, fun i hi => by rw [h3.cell i]; exact h2 i hi⟩
theorem MadeTo.below {w wr : World} {k : Nat} (h : MadeTo w k wr) : Below w.heap.size w wr := by
  obtain ⟨cs, h1, h2, h3, h4⟩ := h; exact h4

set_option maxRecDepth 100000 in
theorem make_any (w : World) :
    Calls Try.prog 7 #[] w fun e w' => e = .returned (.pointer (some ⟨w.heap.size, 0, none⟩)) ∧ Tab w.heap.size w' ∧ Below w.heap.size w w' := by
  obtain ⟨zs, hzs, hz⟩ : ∃ zs : Array Value, Hid (zs.size = 256) ∧ ∀ w, (zeroValue 34).run Try.prog w = .ok (.agg zs) w := ⟨_, Array.size_replicate, zero_arr⟩
  go_enter Try.func7, Try.ntmps7
  go_wp2
  go_loopw [6] (fun i wr => ∃ k : Nat, k ≤ 256 ∧ i = .int .u32 k ∧ MadeTo w k wr) (fun i _ => 256 - (intOf i).toNat)
  case atStart => exact ⟨0, by omega, rfl, _, hzs.out, fun i hi => absurd hi (Nat.not_lt_zero i), heap_alloc_new w _, (Below.refl _ w).alloc (Nat.le_refl _) _⟩
  case round =>
    obtain ⟨k, hk, rfl, hm⟩ := hrel
    have HM : Hid (MadeTo w k wr) := hm
    clear hm
    by_cases hlt : k < 256
    · obtain ⟨v, hc, hf⟩ := HM.out.cell hlt
      have hd : decide ((k : Int) < 256) = true := by simp; omega
      go_wp2
      go_loop [3, 10] (fun a i => ∃ j : Nat, j ≤ 8 ∧ i = .int .i64 j ∧ a = .int .u32 (stps j k : Int)) (fun _ i => 8 - (intOf i).toNat)
      case atStart => exact ⟨0, by omega, rfl, rfl⟩
      case round =>
        obtain ⟨j, hj, rfl, rfl⟩ := hrel
        have hl2 := stps_lt j k (by omega)
        by_cases hlt2 : j < 8
        · go_wp2_with (go_at_call 13; refine (step_any _ hl2 _).mono ?_; rintro e w' ⟨rfl, rfl⟩)
          go_round
          case rel => exact ⟨j + 1, by omega, by go_num, rfl⟩
          case measure => simp [intOf]; omega
        · obtain rfl : j = 8 := by omega
          go_wp2
          refine ⟨⟨k + 1, by omega, by go_num, HM.out.step hlt⟩, by simp [intOf]; omega⟩
    · obtain rfl : k = 256 := by omega
      go_wp2
      go_ret
      exact ⟨rfl, HM.out.tab, HM.out.below⟩
end Go.Proofs.Ytlggckfjhfbjkaa
