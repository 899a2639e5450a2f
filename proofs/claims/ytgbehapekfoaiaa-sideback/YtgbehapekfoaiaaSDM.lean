/-
  Two channels as middle and sides: plain numbers; what two lists are answered by.
-/
import Derived.Test.YtgbehapekfoaiaaIC
import Derived.Test.YtgbehapekfoaiaaNI
namespace Go.Proofs.Ytgbehapekfoaiaa
open Go.ChangeShapes Go.WideShapes Go.ChangeAt Go.RowKit
set_option linter.unusedVariables false

def sdB (n m : Nat) (A B : Nat → Int) : Bool := decide (n = m) && decide (n ≤ 64) && allIn (-33554432) 33554432 A n && allIn (-33554432) 33554432 B m
/-- As many of both as may be, none too great. -/
structure SdIn (n : Nat) (A B : Nat → Int) : Prop where
  n64 : n ≤ 64
  a : ∀ i, i < n → -33554432 ≤ A i ∧ A i ≤ 33554432
  b : ∀ i, i < n → -33554432 ≤ B i ∧ B i ≤ 33554432
theorem sdB_iff {n m : Nat} {A B : Nat → Int} : sdB n m A B = true ↔ n = m ∧ SdIn n A B := by
  constructor
  · intro h
    simp only [sdB, Bool.and_eq_true, decide_eq_true_eq] at h
    obtain ⟨⟨⟨h1, h2⟩, h3⟩, h4⟩ := h
    subst h1
    exact ⟨rfl, h2, (allIn_iff _ _ _ _).1 h3, (allIn_iff _ _ _ _).1 h4⟩
  · rintro ⟨rfl, h⟩
    simp only [sdB, Bool.and_eq_true, decide_eq_true_eq]
    exact ⟨⟨⟨trivial, h.n64⟩, (allIn_iff _ _ _ _).2 h.a⟩, (allIn_iff _ _ _ _).2 h.b⟩
def sdN (n m : Nat) (A B : Nat → Int) : Nat := if sdB n m A B = true then n else 0
def mgL (A B : Nat → Int) (i : Nat) : Int := A i + B i
def mgR (A B : Nat → Int) (i : Nat) : Int := A i - B i
def spM (A B : Nat → Int) (i : Nat) : Int := shrF (A i + B i) 1
def spS (A B : Nat → Int) (i : Nat) : Int := shrF (A i - B i) 1
theorem shr1 {x : Int} (h1 : -67108864 ≤ x) (h2 : x ≤ 67108864) : shrF x 1 = (x + 1) / 2 := by
  rw [shrF, if_pos (by omega)]; rfl
/-- How far numbers are from 0 together. -/
def sdF (X : Nat → Int) : Nat → Nat
  | 0 => 0
  | i + 1 => sdF X i + (X i).natAbs
theorem sdF_le {X : Nat → Int} {c : Nat} : ∀ n, (∀ i, i < n → (X i).natAbs ≤ c) → sdF X n ≤ c * n
  | 0, _ => Nat.le_refl _
  | n + 1, h => by have := sdF_le n (fun i hi => h i (by omega)); have := h n (by omega); rw [sdF, Nat.mul_add]; omega
def sdBet (n m : Nat) (A B : Nat → Int) : Bool := sdB n m A B && decide (4 * (sdF (spM A B) n + sdF (spS A B) n) < 3 * (sdF A n + sdF B n))
theorem SdIn.mid {n : Nat} {A B : Nat → Int} (h : SdIn n A B) : ∀ i, i < n → (-33554432 ≤ spM A B i ∧ spM A B i ≤ 33554432) ∧ -33554432 ≤ spS A B i ∧ spS A B i ≤ 33554432 := fun i hi => by
  have h1 := h.a i hi
  have h2 := h.b i hi
  rw [spM, spS, shr1 (by omega) (by omega), shr1 (by omega) (by omega)]; omega
/-- Two lists of one's own, or none. -/
def SPost (n : Nat) (F G : Nat → Int) (w : World) (e : Ending) (w' : World) : Prop := ∃ a c a' c', e = .returned (.tuple #[.slice a n c, .slice a' n c']) ∧ IsInts w' a n c F ∧ IsInts w' a' n c' G ∧ Below w.heap.size w w'
end Go.Proofs.Ytgbehapekfoaiaa
