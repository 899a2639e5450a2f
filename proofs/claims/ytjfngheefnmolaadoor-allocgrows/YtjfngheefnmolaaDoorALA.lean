/-
  How many pulses a band has. Plain numbers.
-/
import Derived.Test.YtjfngheefnmolaaDoorLYA
namespace Go.Proofs.YtjfngheefnmolaaDoor
set_option linter.unusedVariables false

def alP (q c : Int) : Int := if c + q < 8 then 0 else if 16 < c + q then 8 else c + q - 8
def alS (w : Int) : Int := if w = 2 then 1 else if w = 4 then 2 else if w = 8 then 3 else 0
def bandF (q c w : Int) : Int := if q < 0 ∨ 10 < q ∨ c < 1 ∨ 23 < c then 0 else alS w * alP q c
/-- Of each band of a row. -/
def bandsF (q : Int) (C : Nat → Int) (b : Nat) : Int := bandF q (C b) ((widN b : Nat) : Int)
theorem alP_in (q c : Int) : 0 ≤ alP q c ∧ alP q c ≤ 8 := by unfold alP; split <;> (try split) <;> omega
theorem alS_in (w : Int) : 0 ≤ alS w ∧ alS w ≤ 3 := by unfold alS; split <;> (try split) <;> (try split) <;> omega
theorem band_no {q c : Int} (w : Int) (h : q < 0 ∨ 10 < q ∨ c < 1 ∨ 23 < c) : bandF q c w = 0 := if_pos h
theorem band_yes {q c : Int} (w : Int) (h : 0 ≤ q ∧ q ≤ 10 ∧ 1 ≤ c ∧ c ≤ 23) : bandF q c w = alS w * alP q c := if_neg (by omega)
theorem band_in (q c w : Int) : 0 ≤ bandF q c w ∧ bandF q c w ≤ 24 := by
  by_cases h : q < 0 ∨ 10 < q ∨ c < 1 ∨ 23 < c
  · rw [band_no w h]; omega
  · rw [band_yes w (by omega)]
    have h1 := alP_in q c
    unfold alS; split <;> (try split) <;> (try split) <;> omega
end Go.Proofs.YtjfngheefnmolaaDoor
