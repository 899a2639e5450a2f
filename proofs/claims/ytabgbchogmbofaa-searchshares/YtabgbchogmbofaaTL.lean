/-
  A row on the way: what is told of its first numbers, and noughts.
-/
import Derived.Test.YtabgbchogmbofaaIC
namespace Go.Proofs.Ytabgbchogmbofaa
open Go.ChangeShapes Go.WideShapes Go.ChangeAt Go.RowKit
set_option linter.unusedVariables false

/-- What is told of the first k, and noughts. -/
def tilF (k : Nat) (F : Nat → Int) : Nat → Int := fun j => if j < k then F j else 0
theorem til_set (k : Nat) (F : Nat → Int) : upd (tilF k F) k (F k) = tilF (k + 1) F := by
  funext j
  simp only [upd, tilF]
  by_cases e : j = k
  · subst e; simp
  · rw [if_neg e]
    by_cases h : j < k
    · rw [if_pos h, if_pos (by omega)]
    · rw [if_neg h, if_neg (by omega)]
theorem til_all (F : Nat → Int) (n : Nat) : ∀ j, j < n → tilF n F j = F j := fun j hj => by simp [tilF, hj]
end Go.Proofs.Ytabgbchogmbofaa
