/-
  Numbers that lie from one to another.
-/
import Derived.Test.YtgbehapekfoaiaaN
namespace Go.Proofs.Ytgbehapekfoaiaa
set_option linter.unusedVariables false

/-- Do all of the first n numbers lie from lo to hi? -/
def allIn (lo hi : Int) (f : Nat → Int) : Nat → Bool
  | 0 => true
  | n + 1 => allIn lo hi f n && decide (lo ≤ f n) && decide (f n ≤ hi)
theorem allIn_iff (lo hi : Int) (f : Nat → Int) (n : Nat) : allIn lo hi f n = true ↔ ∀ i, i < n → lo ≤ f i ∧ f i ≤ hi := by
  induction n with
  | zero => simp [allIn]
  | succ n ih =>
    simp only [allIn, Bool.and_eq_true, decide_eq_true_eq, ih]
    constructor
    · rintro ⟨⟨h, h1⟩, h2⟩ i hi
      by_cases e : i = n
      · subst e; exact ⟨h1, h2⟩
      · exact h i (by omega)
    · intro h
      exact ⟨⟨fun i hi => h i (by omega), (h n (by omega)).1⟩, (h n (by omega)).2⟩
theorem allIn_no {lo hi : Int} {f : Nat → Int} {n k : Nat} (h : k < n) (h1 : ¬ (lo ≤ f k ∧ f k ≤ hi)) : allIn lo hi f n = false := by
  cases e : allIn lo hi f n with
  | false => rfl
  | true => exact (h1 ((allIn_iff lo hi f n).1 e k h)).elim
end Go.Proofs.Ytgbehapekfoaiaa
