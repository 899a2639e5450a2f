/-
  All old blocks but one are as they were.
-/
import Derived.Test.YtmeldmmeaiiflaaDoorIC
namespace Go.Proofs.YtmeldmmeaiiflaaDoor
open Go.RowKit
set_option linter.unusedVariables false

/-- Every old block but r is as it was. -/
structure ButX (r : Nat) (w W : World) : Prop where
  bel : Below r w W
  more : ∀ j, r < j → j < w.heap.size → W.heap[j]? = w.heap[j]?
theorem ButX.refl (r : Nat) (w : World) : ButX r w w := ⟨Below.refl _ _, fun _ _ _ => rfl⟩
theorem ButX.below {r : Nat} {w W W' : World} (h : ButX r w W) (hr : r ≤ W.heap.size) (hb : Below W.heap.size W W') : ButX r w W' :=
  ⟨h.bel.trans (hb.mono hr), fun j h1 h2 => (hb.block j (Nat.lt_of_lt_of_le h2 h.bel.size)).trans (h.more j h1 h2)⟩
theorem ButX.setCell {r o : Nat} {w W : World} (h : ButX r w W) (v : Value) : ButX r w (W.setCell ⟨r, o, none⟩ v) :=
  ⟨h.bel.setCell (p := ⟨r, o, none⟩) (Nat.le_refl _) v, fun j h1 h2 => (Below.heap_setCell _ _ _ j (show j ≠ r by omega)).trans (h.more j h1 h2)⟩
theorem ButX.grown {r : Nat} {w W W' : World} {row : Option Nat} (h : ButX r w W) (hrw : r < w.heap.size) (hg : W.grownBy W' row) (hr : ∀ k, row = some k → w.heap.size ≤ k) : ButX r w W' :=
  ⟨h.bel.grown hg (by have := h.bel.size; omega) (fun k e => by have := hr k e; omega), fun j h1 h2 => (hg.block j (by have := h.bel.size; omega) (fun e => by have := hr j e.symm; omega)).trans (h.more j h1 h2)⟩
theorem ButX.other {r : Nat} {w W : World} (h : ButX r w W) {b : Nat} (hne : b ≠ r) (hb : b < w.heap.size) : W.heap[b]? = w.heap[b]? := by
  by_cases e : b < r
  · exact h.bel.block b e
  · exact h.more b (by omega) hb
end Go.Proofs.YtmeldmmeaiiflaaDoor
