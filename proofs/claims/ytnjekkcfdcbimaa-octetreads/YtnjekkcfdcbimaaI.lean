/-
  Arguments opened: a slice of pairs of ints, a slice of a bool and an int.
-/
import Derived.Test.YtnjekkcfdcbimaaG
import Derived.Deep.SlicePairs
import Derived.Deep.RegionHeld3
import Derived.ChangeOld
namespace Go.Proofs.Ytnjekkcfdcbimaa
open Go.ChangeShapes Go.WideShapes Go.ChangeAt Go.RowKit Go.Deep
set_option linter.unusedVariables false

theorem addr_plain {w : World} {a : Addr} {v : Value} (h : w.cell? a = some v) : ∃ b off, a = ⟨b, off, none⟩ ∧ b < w.heap.size := by
  obtain ⟨b, off, spot⟩ := a
  have hs : spot = none := World.cell?_spot h
  subst hs
  refine ⟨b, off, rfl, ?_⟩
  rcases Nat.lt_or_ge b w.heap.size with h' | h'
  · exact h'
  · simp [World.cell?, Array.getElem?_eq_none h'] at h

section
variable {H : Type} {enc : TypeId × Value → H} {P : Program} {w : World} {base : Nat} {held : Bool}
/-- What a walk is told of a slice of two one-cell parts: none is in it; or its parts lie two by two behind one address. -/
def IsTwos (w : World) (a : Option Addr) (len cap : Nat) (V0 V1 : Nat → Value) : Prop :=
  len ≤ maxLen ∧ (len = 0 ∨ ∃ b off, a = some ⟨b, off, none⟩ ∧ b < w.heap.size ∧ len ≤ cap ∧ cap ≤ maxLen ∧ ∀ i, i < len → w.cell? ⟨b, off + i * 2, none⟩ = some (V0 i) ∧ w.cell? ⟨b, off + i * 2 + 1, none⟩ = some (V1 i))
theorem twos_of {a : Addr} {len cap : Nat} {V0 V1 : Nat → Value} (hl : len ≤ cap) (hm : cap ≤ maxLen) (h : ∀ i, i < cap → w.cell? (a.add (i * 2)) = some (V0 i) ∧ w.cell? (a.add (i * 2 + 1)) = some (V1 i)) :
    IsTwos w (some a) len cap V0 V1 := by
  refine ⟨by omega, ?_⟩
  by_cases h0 : len = 0
  · exact .inl h0
  right
  have h1 := (h 0 (by omega)).1
  have e : a.add (0 * 2) = a := by simp [Addr.add]
  rw [e] at h1
  obtain ⟨b, off, rfl, hb⟩ := addr_plain h1
  refine ⟨b, off, rfl, hb, hl, hm, fun i hi => ?_⟩
  obtain ⟨h2, h3⟩ := h i (by omega)
  rw [add_plain] at h2 h3
  exact ⟨h2, by rw [Nat.add_assoc]; exact h3⟩
theorem open_arr2 {t e f : TypeId} {fuel : Nat} {cs : List Value} {x : DataW H × List MemPlace} (ht : P.underlying t = some (.slice e)) (he : P.underlying e = some (.array 2 f)) (hf : P.underlying f = some (.int .i64))
    (ce : P.cellsOf e = 2) (cf : P.cellsOf f = 1) (h : DataW.trod enc P w base (fun _ => true) held fuel t cs = some x) :
    cs = [.slice none 0 0] ∨ ∃ (a : Addr) (len cap : Nat) (X Y : Nat → Int), cs = [.slice (some a) len cap] ∧ len ≤ cap ∧ cap ≤ maxLen ∧
      ∀ i, i < cap → (w.cell? (a.add (i * 2)) = some (.int .i64 (X i)) ∧ w.cell? (a.add (i * 2 + 1)) = some (.int .i64 (Y i))) ∧ (Lit.int .i64 (X i)).wf = true ∧ (Lit.int .i64 (Y i)).wf = true := by
  rcases open_slice ht h with h0 | ⟨a, len, cap, m, n, D, Pl, rfl, hb, hl, hm, hmm, rfl, hx⟩
  · exact .inl h0.1
  right
  have hmc : m = cap := by simpa using hmm
  subst hmc
  have each : ∀ i, i < m → ∃ q : Int × Int, (w.cell? (a.add (i * 2)) = some (.int .i64 q.1) ∧ w.cell? (a.add (i * 2 + 1)) = some (.int .i64 q.2)) ∧ (Lit.int .i64 q.1).wf = true ∧ (Lit.int .i64 q.2).wf = true := by
    intro i hi
    obtain ⟨cs', h1, h2⟩ := hx i hi
    rw [ce] at h1
    obtain ⟨_, hlen, hcell⟩ := World.cells?_some h1
    obtain ⟨xs, k, hk, hxy, _, hxl, hf'⟩ := DataW.trod_array he h2
    match xs, hxl, cs', hlen with
    | [y0, y1], _, [v0, v1], _ =>
      have g0 := hf' 0 (by omega)
      have g1 := hf' 1 (by omega)
      simp [cf] at g0 g1
      obtain ⟨n0, e0, _, w0⟩ := DataW.trod_int hf g0
      obtain ⟨n1, e1, _, w1⟩ := DataW.trod_int hf g1
      simp at e0 e1
      subst e0 e1
      have c0 := hcell 0 (by omega)
      have c1 := hcell 1 (by omega)
      rw [add_add] at c0 c1
      exact ⟨(n0, n1), ⟨by simpa using c0, by simpa using c1⟩, w0, w1⟩
  obtain ⟨q, hq⟩ := choose_lt each
  exact ⟨a, len, m, fun i => (q i).1, fun i => (q i).2, rfl, hl, hm, hq⟩
end
section
variable {H : Type} {enc : TypeId × Value → H} {P : Program} {w : World} {base : Nat} {held : Bool}
theorem open_boolint {t e : TypeId} {f0 f1 : Field} {fuel : Nat} {cs : List Value} {x : DataW H × List MemPlace} (ht : P.underlying t = some (.slice e)) (he : P.underlying e = some (.struct #[f0, f1]))
    (ce : P.cellsOf e = 2) (o0 : f0.offset = 0) (o1 : f1.offset = 1) (h0 : P.underlying f0.type = some .bool) (h1 : P.underlying f1.type = some (.int .i64)) (c0 : P.cellsOf f0.type = 1) (c1 : P.cellsOf f1.type = 1)
    (h : DataW.trod enc P w base (fun _ => true) held fuel t cs = some x) :
    cs = [.slice none 0 0] ∨ ∃ (a : Addr) (len cap : Nat) (X : Nat → Bool) (Y : Nat → Int), cs = [.slice (some a) len cap] ∧ len ≤ cap ∧ cap ≤ maxLen ∧
      ∀ i, i < cap → (w.cell? (a.add (i * 2)) = some (.bool (X i)) ∧ w.cell? (a.add (i * 2 + 1)) = some (.int .i64 (Y i))) ∧ (Lit.int .i64 (Y i)).wf = true := by
  rcases open_slice_pairs ht he ce o0 o1 c0 c1 h with h0' | ⟨a, len, cap, m, n, V0, V1, D0, D1, P0, P1, rfl, hb, hl, hm, hmm, rfl, hx⟩
  · exact .inl h0'.1
  right
  have hmc : m = cap := by simpa using hmm
  subst hmc
  have each : ∀ i, i < m → ∃ q : Bool × Int, (w.cell? (a.add (i * 2)) = some (.bool q.1) ∧ w.cell? (a.add (i * 2 + 1)) = some (.int .i64 q.2)) ∧ (Lit.int .i64 q.2).wf = true := by
    intro i hi
    obtain ⟨g0, g1, g2, g3⟩ := hx i hi
    obtain ⟨b0, e0, _⟩ := DataW.trod_bool h0 g2
    obtain ⟨n1, e1, _, w1⟩ := DataW.trod_int h1 g3
    simp at e0 e1
    rw [e0] at g0
    rw [e1] at g1
    exact ⟨(b0, n1), ⟨g0, g1⟩, w1⟩
  obtain ⟨q, hq⟩ := choose_lt each
  exact ⟨a, len, m, fun i => (q i).1, fun i => (q i).2, rfl, hl, hm, hq⟩
end
end Go.Proofs.Ytnjekkcfdcbimaa
