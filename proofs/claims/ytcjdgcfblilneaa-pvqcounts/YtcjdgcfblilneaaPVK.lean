/-
  The program's table of 9 rows of 25 ints, behind a pointer: made, read.
-/
import Derived.Test.YtcjdgcfblilneaaPVB
import Derived.Test.YtcjdgcfblilneaaRL
import Derived.Test.YtcjdgcfblilneaaNAbs
namespace Go.Proofs.Ytcjdgcfblilneaa
open Go.ChangeShapes Go.WideShapes Go.ChangeAt Go.RowKit
set_option linter.unusedVariables false

/-- Block r is a table whose cells F tells. -/
def PTab (r : Nat) (F : Nat → Int) (w : World) : Prop := IsAt r 45 (rowA 225 F) w
theorem PTab.lt {r : Nat} {F : Nat → Int} {w : World} (h : PTab r F w) : r < w.heap.size := by
  have h' : w.heap[r]? = some _ := h
  exact (Array.getElem?_eq_some_iff.1 h').1
theorem PTab.below {r : Nat} {F : Nat → Int} {w w' : World} (h : PTab r F w) (hb : Below w.heap.size w w') : PTab r F w' := (hb.block r h.lt).trans h
theorem PTab.frozen {r : Nat} {F : Nat → Int} {w : World} (h : PTab r F w) (j : Nat) : w.frozen? ⟨r, j, none⟩ = false := IsAt.frozen (t := 45) (cs := rowA 225 F) h j
theorem PTab.get {r : Nat} {F : Nat → Int} {w : World} (h : PTab r F w) {j : Nat} (hj : j < 225) : w.cell? ⟨r, j, none⟩ = some (.int .i64 (F j)) := by
  rw [IsAt.cell (t := 45) (cs := rowA 225 F) h, rowA_get hj]
theorem PTab.set {r : Nat} {F : Nat → Int} {w : World} (h : PTab r F w) {j : Nat} (hj : j < 225) (v : Int) : PTab r (upd F j v) (w.setCell ⟨r, j, none⟩ (.int .i64 v)) := by
  rw [PTab, ← rowA_set F v hj]; exact IsAt.set h j _
set_option maxRecDepth 100000 in
theorem zeroP (w : World) : (zeroValue 45).run Try.prog w = .ok (.agg (rowA 225 (fun _ => 0))) w := by
  have h : (Try.prog.info? 45).bind (·.zero) = some (.agg (rowA 225 (fun _ => 0))) := by kernel_rfl
  cases hi : Try.prog.info? 45 with
  | none => simp [hi] at h
  | some i =>
    simp [hi] at h
    simp [zeroValue, typeInfo, hi, h]
/-- The rows up to n, and of the next one the first k, are told. -/
def Told (r n k : Nat) (w0 w : World) : Prop := ∃ F, PTab r F w ∧ Below w0.heap.size w0 w ∧ ∀ a b, a < 9 → b < 25 → (a < n ∨ a = n ∧ b < k) → F (a * 25 + b) = pvT a b
theorem Told.get {r n k : Nat} {w0 w : World} (h : Told r n k w0 w) {a b : Nat} (ha : a < 9) (hb : b < 25) (hab : a < n ∨ a = n ∧ b < k) : w.cell? ⟨r, a * 25 + b, none⟩ = some (.int .i64 (pvT a b)) := by
  obtain ⟨F, h1, h2, h3⟩ := h
  rw [h1.get (by omega), h3 a b ha hb hab]
theorem Told.frozen {r n k : Nat} {w0 w : World} (h : Told r n k w0 w) (j : Nat) : w.frozen? ⟨r, j, none⟩ = false := by
  obtain ⟨F, h1, h2, h3⟩ := h
  exact h1.frozen j
theorem Told.cell {r n k : Nat} {w0 w : World} (h : Told r n k w0 w) {j : Nat} (hj : j < 225) : ∃ v : Int, w.cell? ⟨r, j, none⟩ = some (.int .i64 v) := by
  obtain ⟨F, h1, h2, h3⟩ := h
  exact ⟨_, h1.get hj⟩
theorem Told.next {r n k : Nat} {w0 w : World} (h : Told r n k w0 w) (hr : w0.heap.size ≤ r) (hn : n < 9) (hk : k < 25) {v : Int} (hv : v = pvT n k) : Told r n (k + 1) w0 (w.setCell ⟨r, n * 25 + k, none⟩ (.int .i64 v)) := by
  obtain ⟨F, h1, h2, h3⟩ := h
  refine ⟨_, h1.set (by omega) v, h2.setCell hr _, fun a b ha hb hab => ?_⟩
  unfold upd
  by_cases e : a * 25 + b = n * 25 + k
  · rw [if_pos e, hv]
    have e1 : a = n := by omega
    have e2 : b = k := by omega
    rw [e1, e2]
  · rw [if_neg e]
    refine h3 a b ha hb ?_
    rcases hab with h | ⟨rfl, h⟩
    · exact .inl h
    · exact .inr ⟨rfl, by omega⟩
theorem Told.row {r n : Nat} {w0 w : World} (h : Told r n 25 w0 w) : Told r (n + 1) 0 w0 w := by
  obtain ⟨F, h1, h2, h3⟩ := h
  exact ⟨F, h1, h2, fun a b ha hb hab => h3 a b ha hb (by omega)⟩
theorem Told.drew {r n k : Nat} {w0 w : World} (h : Told r n k w0 w) : Told r n k w0 w.drew := by
  obtain ⟨F, h1, h2, h3⟩ := h
  exact ⟨F, h1, h2.drew, h3⟩
set_option maxRecDepth 100000 in
theorem counted_any (w : World) : Calls Try.prog 21 #[] w fun e w' => e = .returned (.pointer (some ⟨w.heap.size, 0, none⟩)) ∧ Told w.heap.size 9 0 w w' := by
  obtain ⟨zs, hzs, hz⟩ : ∃ zs : Array Value, Hid (zs = rowA 225 (fun _ => 0)) ∧ ∀ w, (zeroValue 45).run Try.prog w = .ok (.agg zs) w := ⟨_, rfl, zeroP⟩
  obtain ⟨z1, hz1⟩ : ∃ z1, z1 = zs.setIfInBounds 0 (.int .i64 1) := ⟨_, rfl⟩
  have hfirst : PTab w.heap.size (fun _ => 0) (w.alloc (.cells zs 45)) := by rw [hzs.out]; exact al_new w _
  have hcell := hfirst.get (j := 0) (by omega)
  have hfro := hfirst.frozen 0
  have HT : Hid (Told w.heap.size 1 0 w (w.alloc (.cells z1 45))) := by
    refine ⟨upd (fun _ => 0) 0 1, ?_, (Below.refl _ w).alloc (Nat.le_refl _) _, fun a b ha hb hab => ?_⟩
    · rw [hz1, hzs.out, rowA_set _ _ (by omega)]; exact al_new w _
    · obtain rfl : a = 0 := by omega
      unfold upd
      by_cases e : b = 0
      · subst e; rfl
      · rw [if_neg (by omega), pvT, pvC_none (by omega)]; rfl
  clear hfirst
  go_enter Try.func21, Try.ntmps21
  go_wp2
  rw [← hz1]
  clear hcell hfro hz1 hz hzs
  go_loopw [10] (fun i wr => ∃ n : Nat, n ≤ 8 ∧ i = .int .i64 n ∧ Hid (Told w.heap.size (n + 1) 0 w wr)) (fun i _ => 8 - (intOf i).toNat)
  case atStart => exact ⟨0, by omega, rfl, HT.out⟩
  case round =>
    clear HT
    obtain ⟨n, hn, rfl, HO⟩ := hrel
    obtain ⟨w5, e5⟩ : ∃ w5, w5 = wr := ⟨_, rfl⟩
    subst e5
    by_cases hlt : n < 8
    · obtain ⟨v0, hc0⟩ := HO.out.cell (j := (n + 1) * 25 + 0) (by omega)
      have hf0 := HO.out.frozen ((n + 1) * 25 + 0)
      have HT := hid (HO.out.next (Nat.le_refl _) (show n + 1 < 9 by omega) (by omega) (v := 1) (by rw [pvT, pvC_zero]; rfl))
      rw [Nat.add_zero] at hc0 hf0
      rw [show (n + 1) * 25 + 0 = (n + 1) * 25 from Nat.add_zero _] at HT
      clear HO
      go_wp2
      clear hc0 hf0
      go_loopw [19] (fun i wr => ∃ k : Nat, k ≤ 24 ∧ i = .int .i64 k ∧ Hid (Told w.heap.size (n + 1) (k + 1) w wr)) (fun i _ => 24 - (intOf i).toNat)
      case atStart => exact ⟨0, by omega, rfl, HT.out⟩
      case round =>
        clear HT
        obtain ⟨k, hk, rfl, HO⟩ := hrel
        obtain ⟨w6, e6⟩ : ∃ w6, w6 = wr := ⟨_, rfl⟩
        subst e6
        by_cases hlt2 : k < 24
        · obtain ⟨v0, hc0⟩ := HO.out.cell (j := (n + 1) * 25 + (k + 1)) (by omega)
          have hf0 := HO.out.frozen ((n + 1) * 25 + (k + 1))
          have hA := HO.out.get (a := n) (b := k + 1) (by omega) (by omega) (by omega)
          have hB := HO.out.get (a := n + 1) (b := k) (by omega) (by omega) (by omega)
          have hC := HO.out.get (a := n) (b := k) (by omega) (by omega) (by omega)
          have bA := pvC_bd (n := n) (k := k + 1) (by omega) (by omega)
          have bB := pvC_bd (n := n + 1) (k := k) (by omega) (by omega)
          have bC := pvC_bd (n := n) (k := k) (by omega) (by omega)
          have hsum : pvT n (k + 1) + pvT (n + 1) k + pvT n k = pvT (n + 1) (k + 1) := by unfold pvT; rw [pvC_three]; omega
          have xA : 0 ≤ pvT n (k + 1) ∧ pvT n (k + 1) ≤ 33232930569601 := by unfold pvT; omega
          have xB : 0 ≤ pvT (n + 1) k ∧ pvT (n + 1) k ≤ 33232930569601 := by unfold pvT; omega
          have xC : 0 ≤ pvT n k ∧ pvT n k ≤ 33232930569601 := by unfold pvT; omega
          have HN := hid (fun (W : World) (h : Told w.heap.size (n + 1) (k + 1) w W) => h.next (Nat.le_refl _) (show n + 1 < 9 by omega) (show k + 1 < 25 by omega) hsum)
          clear bA bB bC hsum
          generalize pvT n (k + 1) = A at *
          generalize pvT (n + 1) k = B at *
          generalize pvT n k = C at *
          go_wp2
          go_region
          go_wp2
          exact ⟨⟨k + 1, by omega, by go_num, (HN.out _ HO.out).drew⟩, by simp [intOf]; omega⟩
        · obtain rfl : k = 24 := by omega
          have HO2 := hid HO.out.row
          clear HO
          go_wp2
          exact ⟨⟨n + 1, by omega, by go_num, HO2⟩, by simp [intOf]; omega⟩
    · obtain rfl : n = 8 := by omega
      go_wp2
      go_ret
      exact ⟨rfl, HO.out⟩
end Go.Proofs.Ytcjdgcfblilneaa
