/-
  The bands of a spectrum. Plain numbers.
-/
import Derived.Test.YtjfngheefnmolaaDoorN
namespace Go.Proofs.YtjfngheefnmolaaDoor
set_option linter.unusedVariables false

/-- How wide a band is; where it begins; of a place the band. -/
def widF (b : Int) : Int := if b < 0 ∨ 12 < b then 0 else if b < 4 then 2 else if b < 8 then 4 else 8
def begF (b : Int) : Int := if b < 0 ∨ 12 < b then 0 else if b < 5 then 2 * b else if b < 9 then 4 * b - 8 else 8 * b - 40
def ofF (k : Int) : Int := if k < 0 ∨ 63 < k then -1 else if k < 8 then k / 2 else if k < 24 then (k - 8) / 4 + 4 else (k - 24) / 8 + 8
/-- The same of a band's number. -/
def widN (b : Nat) : Nat := if b < 4 then 2 else if b < 8 then 4 else 8
def begN (b : Nat) : Nat := if b < 5 then 2 * b else if b < 9 then 4 * b - 8 else 8 * b - 40
theorem begN_zero : begN 0 = 0 := rfl
theorem begN_all : begN 13 = 64 := rfl
theorem widN_in (b : Nat) : 2 ≤ widN b ∧ widN b ≤ 8 := by unfold widN; split <;> (try split) <;> omega
theorem begN_next {b : Nat} (h : b < 13) : begN (b + 1) = begN b + widN b := by
  unfold begN widN
  by_cases h1 : b < 4
  · rw [if_pos (by omega), if_pos (by omega), if_pos h1]; omega
  · by_cases h2 : b < 5
    · rw [if_neg (by omega), if_pos (by omega), if_pos h2, if_neg h1, if_pos (by omega)]; omega
    · by_cases h3 : b < 8
      · rw [if_neg (by omega), if_pos (by omega), if_neg h2, if_pos (by omega), if_neg h1, if_pos h3]; omega
      · by_cases h4 : b < 9
        · rw [if_neg (by omega), if_neg (by omega), if_neg h2, if_pos h4, if_neg h1, if_neg h3]; omega
        · rw [if_neg (by omega), if_neg (by omega), if_neg h2, if_neg h4, if_neg h1, if_neg h3]; omega
theorem begN_in {b : Nat} (h : b < 13) : begN b + widN b ≤ 64 := by
  unfold begN widN
  by_cases h1 : b < 4
  · rw [if_pos (by omega), if_pos h1]; omega
  · by_cases h2 : b < 5
    · rw [if_pos h2, if_neg h1, if_pos (by omega)]; omega
    · by_cases h3 : b < 8
      · rw [if_neg h2, if_pos (by omega), if_neg h1, if_pos h3]; omega
      · by_cases h4 : b < 9
        · rw [if_neg h2, if_pos h4, if_neg h1, if_neg h3]; omega
        · rw [if_neg h2, if_neg h4, if_neg h1, if_neg h3]; omega
theorem widF_nat {b : Nat} (h : b < 13) : widF (b : Int) = ((widN b : Nat) : Int) := by
  unfold widF widN
  rw [if_neg (by omega)]
  by_cases h1 : b < 4
  · rw [if_pos (by omega), if_pos h1]; rfl
  · rw [if_neg (by omega), if_neg h1]
    by_cases h2 : b < 8
    · rw [if_pos (by omega), if_pos h2]; rfl
    · rw [if_neg (by omega), if_neg h2]; rfl
theorem begF_nat {b : Nat} (h : b < 13) : begF (b : Int) = ((begN b : Nat) : Int) := by
  unfold begF begN
  rw [if_neg (by omega)]
  by_cases h1 : b < 5
  · rw [if_pos (by omega), if_pos h1]; omega
  · rw [if_neg (by omega), if_neg h1]
    by_cases h2 : b < 9
    · rw [if_pos (by omega), if_pos h2]; omega
    · rw [if_neg (by omega), if_neg h2]; omega
theorem of_in {b : Nat} (h : b < 13) {k : Int} (h1 : ((begN b : Nat) : Int) ≤ k) (h2 : k < ((begN b : Nat) : Int) + ((widN b : Nat) : Int)) : ofF k = (b : Int) := by
  unfold begN at h1 h2
  unfold widN at h2
  unfold ofF
  by_cases c1 : b < 4
  · rw [if_pos (by omega)] at h1 h2
    rw [if_pos c1] at h2
    rw [if_neg (by omega), if_pos (by omega)]
    omega
  · by_cases c2 : b < 5
    · rw [if_pos c2] at h1 h2
      rw [if_neg c1, if_pos (by omega)] at h2
      rw [if_neg (by omega), if_neg (by omega), if_pos (by omega)]
      omega
    · rw [if_neg c2] at h1 h2
      rw [if_neg c1] at h2
      by_cases c3 : b < 8
      · rw [if_pos (by omega)] at h1 h2
        rw [if_pos c3] at h2
        rw [if_neg (by omega), if_neg (by omega), if_pos (by omega)]
        omega
      · rw [if_neg c3] at h2
        by_cases c4 : b < 9
        · rw [if_pos c4] at h1 h2
          rw [if_neg (by omega), if_neg (by omega), if_neg (by omega)]
          omega
        · rw [if_neg c4] at h1 h2
          rw [if_neg (by omega), if_neg (by omega), if_neg (by omega)]
          omega
/-- Each place is in a band. -/
theorem of_some {k : Int} (h0 : 0 ≤ k) (h1 : k ≤ 63) : ∃ b : Nat, b < 13 ∧ ((begN b : Nat) : Int) ≤ k ∧ k < ((begN b : Nat) : Int) + ((widN b : Nat) : Int) := by
  by_cases c1 : k < 8
  · refine ⟨(k / 2).toNat, by omega, ?_, ?_⟩ <;> unfold begN
    · rw [if_pos (by omega)]; omega
    · unfold widN; rw [if_pos (by omega), if_pos (by omega)]; omega
  · by_cases c2 : k < 24
    · refine ⟨((k - 8) / 4 + 4).toNat, by omega, ?_, ?_⟩
      · by_cases c3 : k < 12
        · unfold begN; rw [if_pos (by omega)]; omega
        · unfold begN; rw [if_neg (by omega), if_pos (by omega)]; omega
      · unfold widN
        rw [if_neg (by omega), if_pos (by omega)]
        by_cases c3 : k < 12
        · unfold begN; rw [if_pos (by omega)]; omega
        · unfold begN; rw [if_neg (by omega), if_pos (by omega)]; omega
    · refine ⟨((k - 24) / 8 + 8).toNat, by omega, ?_, ?_⟩
      · by_cases c3 : k < 32
        · unfold begN; rw [if_neg (by omega), if_pos (by omega)]; omega
        · unfold begN; rw [if_neg (by omega), if_neg (by omega)]; omega
      · unfold widN
        rw [if_neg (by omega), if_neg (by omega)]
        by_cases c3 : k < 32
        · unfold begN; rw [if_neg (by omega), if_pos (by omega)]; omega
        · unfold begN; rw [if_neg (by omega), if_neg (by omega)]; omega
theorem of_none {k : Int} (h : ∀ b : Nat, b < 13 → ¬ (((begN b : Nat) : Int) ≤ k ∧ k < ((begN b : Nat) : Int) + ((widN b : Nat) : Int))) : ofF k = -1 := by
  by_cases c : 0 ≤ k ∧ k ≤ 63
  · obtain ⟨b, h1, h2, h3⟩ := of_some c.1 c.2
    exact absurd ⟨h2, h3⟩ (h b h1)
  · rw [ofF, if_pos (by omega)]
end Go.Proofs.YtjfngheefnmolaaDoor
