/-
  Lists of lists of ints, of integers of any kind, of bools, that are handed in.
-/
import Derived.Test.YtmeldmmeaiiflaaDoorRS
import Derived.Deep.Grids
namespace Go.Proofs.YtmeldmmeaiiflaaDoor
open Go.ChangeShapes Go.WideShapes Go.ChangeAt Go.RowKit Go.Deep
set_option linter.unusedVariables false

/-- A slice of cells, those that V tells. -/
def IsVals (w : World) (a : Option Addr) (len cap : Nat) (V : Nat → Value) : Prop :=
  len = 0 ∨ ∃ b off, a = some ⟨b, off, none⟩ ∧ b < w.heap.size ∧ len ≤ cap ∧ cap ≤ maxLen ∧ ∀ i, i < len → w.cell? ⟨b, off + i, none⟩ = some (V i)
theorem IsVals.below {w w' : World} {a : Option Addr} {len cap : Nat} {V : Nat → Value} (h : IsVals w a len cap V) (hb : Below w.heap.size w w') : IsVals w' a len cap V := by
  rcases h with h | ⟨b, off, e, h1, h2, h3, h4⟩
  · exact .inl h
  · have hs := hb.size
    exact .inr ⟨b, off, e, by omega, h2, h3, fun i hi => by rw [hb.cell (p := ⟨b, off + i, none⟩) h1]; exact h4 i hi⟩
theorem IsVals.cells {w : World} {a : Option Addr} {len cap : Nat} {V : Nat → Value} (h : IsVals w a len cap V) (h1 : 1 ≤ len) : ∃ b off, a = some ⟨b, off, none⟩ ∧ ∀ W, Below w.heap.size w W → ∀ i, i < len → W.cell? ⟨b, off + i, none⟩ = some (V i) := by
  rcases h with h | ⟨b, off, rfl, hb, _, _, hc⟩
  · omega
  · exact ⟨b, off, rfl, fun W hW i hi => by rw [hW.cell (p := ⟨b, off + i, none⟩) hb]; exact hc i hi⟩
section
variable {H : Type} {enc : TypeId × Value → H} {P : Program} {w : World} {base : Nat} {held : Bool}
theorem open_islists {t e q : TypeId} {fuel : Nat} {a : Option Addr} {len cap : Nat} {x : DataW H × List MemPlace} (ht : P.underlying t = some (.slice e)) (he : P.underlying e = some (.slice q)) (hq : P.underlying q = some (.int .i64)) (ce : P.cellsOf e = 1) (cq : P.cellsOf q = 1)
    (h : DataW.trod enc P w base (fun _ => true) held fuel t (Value.slice a len cap).cells.toList = some x) : ∃ (N : Nat → Nat) (Y : Nat → Nat → Int), len ≤ maxLen ∧ (∀ i, i < len → N i ≤ maxLen) ∧ IsListsV w a len cap N Y := by
  rcases open_slice1 ht ce h with ⟨h0, _⟩ | ⟨a', l, c, m, n, V, D, Pl, hcs, _, hl, hm, hmm, _, hx⟩
  · simp [Value.cells] at h0
    obtain ⟨rfl, rfl, rfl⟩ := h0
    exact ⟨fun _ => 0, fun _ _ => 0, Nat.zero_le _, fun i hi => by omega, .inl rfl⟩
  simp [Value.cells] at hcs
  obtain ⟨rfl, rfl, rfl⟩ := hcs
  have hmc : m = cap := by simpa using hmm
  subst hmc
  have each : ∀ i, i < m → ∃ p : Option Addr × Nat × Nat × (Nat → Int), V i = .slice p.1 p.2.1 p.2.2.1 ∧ p.2.1 ≤ maxLen ∧ IsInts w p.1 p.2.1 p.2.2.1 p.2.2.2 := by
    intro i hi
    have g := (hx i hi).2
    rcases open_ints he hq cq g with ⟨hcs, _⟩ | ⟨y, l2, c2, zs, hcs, _⟩
    · simp only [List.cons.injEq, and_true] at hcs
      exact ⟨(none, 0, 0, fun _ => 0), hcs, Nat.zero_le _, .inl rfl⟩
    · simp only [List.cons.injEq, and_true] at hcs
      rw [hcs] at g
      obtain ⟨X, hX, hI⟩ := open_isints (w := w) (a := some y) (len := l2) (cap := c2) he hq cq (by simpa [Value.cells] using g)
      exact ⟨(some y, l2, c2, X), hcs, hX, hI⟩
  obtain ⟨p, hp⟩ := choose_lt each
  refine ⟨fun i => (p i).2.1, fun i => (p i).2.2.2, Nat.le_trans hl hm, fun i hi => (hp i (by omega)).2.1, ?_⟩
  by_cases h0 : len = 0
  · exact .inl h0
  have h1 := (hx 0 (by omega)).1
  have e : a'.add 0 = a' := by simp [Addr.add]
  rw [e] at h1
  obtain ⟨b, off, rfl, hb'⟩ := addr_plainF h1
  refine .inr ⟨b, off, rfl, hb', hl, hm, fun i hi => ⟨(p i).1, (p i).2.2.1, ?_, (hp i (by omega)).2.2⟩⟩
  have h2 := (hx i (by omega)).1
  rw [add_plain, (hp i (by omega)).1] at h2
  exact h2
/-- A slice of integers of a kind. -/
theorem open_iskind {t e : TypeId} {k : IntKind} {fuel : Nat} {a : Option Addr} {len cap : Nat} {x : DataW H × List MemPlace} (ht : P.underlying t = some (.slice e)) (he : P.underlying e = some (.int k)) (hc : P.cellsOf e = 1)
    (h : DataW.trod enc P w base (fun _ => true) held fuel t (Value.slice a len cap).cells.toList = some x) : ∃ X : Nat → Int, len ≤ maxLen ∧ (∀ i, i < len → (Lit.int k (X i)).wf = true) ∧ IsVals w a len cap fun i => .int k (X i) := by
  rcases open_ints ht he hc h with ⟨hcs, _⟩ | ⟨y, l, c, zs, hcs, _, hl, hm, hz, _, hcell, hwf⟩
  · simp [Value.cells] at hcs
    obtain ⟨rfl, rfl, rfl⟩ := hcs
    exact ⟨fun _ => 0, Nat.zero_le _, fun i hi => by omega, .inl rfl⟩
  simp [Value.cells] at hcs
  obtain ⟨rfl, rfl, rfl⟩ := hcs
  have hz' : zs.length = cap := by simpa using hz
  refine ⟨fun i => zs.getD i 0, Nat.le_trans hl hm, fun i hi => hwf _ ?_, ?_⟩
  · show zs.getD i 0 ∈ zs
    rw [List.getD_eq_getElem?_getD, List.getElem?_eq_getElem (show i < zs.length by omega)]
    exact List.getElem_mem _
  by_cases h0 : len = 0
  · exact .inl h0
  have h1 := hcell 0 (by omega)
  have e : y.add 0 = y := by simp [Addr.add]
  rw [e] at h1
  obtain ⟨b, off, rfl, hb'⟩ := addr_plainF h1
  exact .inr ⟨b, off, rfl, hb', hl, hm, fun i hi => by have h2 := hcell i (by omega); rwa [add_plain] at h2⟩
/-- A slice of bools. -/
theorem open_isbools {t e : TypeId} {fuel : Nat} {a : Option Addr} {len cap : Nat} {x : DataW H × List MemPlace} (ht : P.underlying t = some (.slice e)) (he : P.underlying e = some .bool) (hc : P.cellsOf e = 1)
    (h : DataW.trod enc P w base (fun _ => true) held fuel t (Value.slice a len cap).cells.toList = some x) : ∃ X : Nat → Bool, len ≤ maxLen ∧ IsVals w a len cap fun i => .bool (X i) := by
  rcases open_bools ht he hc h with ⟨hcs, _⟩ | ⟨y, l, c, X, hcs, _, hl, hm, _, hcell⟩
  · simp [Value.cells] at hcs
    obtain ⟨rfl, rfl, rfl⟩ := hcs
    exact ⟨fun _ => false, Nat.zero_le _, .inl rfl⟩
  simp [Value.cells] at hcs
  obtain ⟨rfl, rfl, rfl⟩ := hcs
  refine ⟨X, Nat.le_trans hl hm, ?_⟩
  by_cases h0 : len = 0
  · exact .inl h0
  have h1 := hcell 0 (by omega)
  have e : y.add 0 = y := by simp [Addr.add]
  rw [e] at h1
  obtain ⟨b, off, rfl, hb'⟩ := addr_plainF h1
  exact .inr ⟨b, off, rfl, hb', hl, hm, fun i hi => by have h2 := hcell i (by omega); rwa [add_plain] at h2⟩
end
end Go.Proofs.YtmeldmmeaiiflaaDoor
