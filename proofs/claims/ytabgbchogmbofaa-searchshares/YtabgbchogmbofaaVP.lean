/-
  What is answered by a list of one's own, and a Bool.
-/
import Derived.Test.YtabgbchogmbofaaIC
namespace Go.Proofs.Ytabgbchogmbofaa
open Go.ChangeShapes Go.WideShapes Go.ChangeAt Go.RowKit
set_option linter.unusedVariables false

/-- Pulses of one's own, or none. -/
def VPost (n : Nat) (F : Nat → Int) (b : Bool) (w : World) (e : Ending) (w' : World) : Prop := ∃ a cap, e = .returned (.tuple #[.slice a n cap, .bool b]) ∧ IsInts w' a n cap F ∧ Below w.heap.size w w' ∧ ∀ x, a = some x → w.heap.size ≤ x.block
end Go.Proofs.Ytabgbchogmbofaa
