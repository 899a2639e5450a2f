/-
  What the law on loudness asks of coefficients.
-/
import Derived.Test.YtlfhjcalkokhiaaDoorSHJ
namespace Go.Proofs.YtlfhjcalkokhiaaDoor
open Go.ChangeShapes Go.WideShapes Go.ChangeAt Go.RowKit
set_option linter.unusedVariables false

theorem ShIn.pow {n : Nat} {X : Nat → Int} {c f : Int} (h : ShIn n X c f) : powF n (shV n X c f) = rootF (sqS (shV n X c f) n) :=
  powF_in ⟨by have := h.n8; omega, fun i hi => h.bound hi⟩
/-- What the law asks, in letters. -/
structure Loud (n : Nat) (X V : Nat → Int) (a p : Int) : Prop where
  n1 : 1 ≤ n
  n8 : n ≤ 8
  a0 : 2 ≤ a
  a1 : a ≤ 16777216
  up : p - a ≤ (n : Int) + 1 + a / 1000
  down : -((n : Int) + 1 + a / 1000) ≤ p - a
  p0 : 0 ≤ p
  p1 : p ≤ 1152921504606846976
  x24 : ∀ i, i < n → (X i).natAbs ≤ 24
  v26 : ∀ i, i < n → (V i).natAbs ≤ 67108864
  side : ∀ i, i < n → (0 < X i ∧ 0 ≤ V i) ∨ (X i < 0 ∧ V i ≤ 0) ∨ (X i = 0 ∧ V i = 0)
  more : ∀ i, i < n → ∀ j, j < n → (X i).natAbs ≤ (X j).natAbs → (V i).natAbs ≤ (V j).natAbs
theorem ShIn.law {n : Nat} {X : Nat → Int} {c f : Int} (h : ShIn n X c f) : Loud n X (shV n X c f) (ampF c f) (powF n (shV n X c f)) := by
  have h1 := h.loud
  have h2 := h.amp
  have h3 := sqS_nn (shV n X c f) n
  obtain ⟨p0, p1, _, _⟩ := rootF_facts (n := sqS (shV n X c f) n) h3 (by omega)
  rw [h.pow]
  refine ⟨h.n1, h.n8, h2.1, h2.2, h1.1, h1.2.1, p0, by omega, fun i hi => (pvF_at h.k24 hi).1, fun i hi => by have := h.bound hi; omega, fun i hi => ?_, fun i hi j hj hx => h.more hi hj hx⟩
  obtain ⟨s1, s2, s3⟩ := h.side hi
  rcases (by omega : 0 < X i ∨ X i < 0 ∨ X i = 0) with h | h | h
  · exact .inl ⟨h, s1 h⟩
  · exact .inr (.inl ⟨h, s2 h⟩)
  · exact .inr (.inr ⟨h, s3 h⟩)
end Go.Proofs.YtlfhjcalkokhiaaDoor
