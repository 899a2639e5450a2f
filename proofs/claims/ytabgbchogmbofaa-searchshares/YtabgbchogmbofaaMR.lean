/-
  A row of ints that the call made, and lays number by number.
-/
import Derived.Test.YtabgbchogmbofaaVP
namespace Go.Proofs.Ytabgbchogmbofaa
open Go.ChangeShapes Go.WideShapes Go.ChangeAt Go.RowKit
set_option linter.unusedVariables false

/-- A row of n, of which the first p are told; all that was there at first is as it was. -/
def MRow (n r : Nat) (F : Nat → Int) (p : Nat) (w0 w : World) : Prop := ∃ Y, RowAt r n Y w ∧ (∀ j, j < p → Y j = F j) ∧ w0.heap.size ≤ r ∧ Below w0.heap.size w0 w
theorem MRow.start {n : Nat} {F : Nat → Int} {w0 w : World} (hb : Below w0.heap.size w0 w) : MRow n w.heap.size F 0 w0 (w.alloc (.cells (rowA n (fun _ => 0)) 3)) :=
  ⟨_, al_new w _, fun j hj => by omega, hb.size, hb.alloc hb.size _⟩
theorem MRow.to {n r : Nat} {F : Nat → Int} {p : Nat} {w0 w W : World} (h : MRow n r F p w0 w) (hb : Below w.heap.size w W) : MRow n r F p w0 W := by
  obtain ⟨Y, h2, h3, h4, h5⟩ := h
  exact ⟨Y, h2.below hb, h3, h4, below_then h5 hb⟩
theorem MRow.bel {n r : Nat} {F : Nat → Int} {p : Nat} {w0 w : World} (h : MRow n r F p w0 w) : Below w0.heap.size w0 w := by
  obtain ⟨Y, h2, h3, h4, h5⟩ := h; exact h5
theorem MRow.lt {n r : Nat} {F : Nat → Int} {p : Nat} {w0 w : World} (h : MRow n r F p w0 w) : r < w.heap.size := by
  obtain ⟨Y, h2, h3, h4, h5⟩ := h; exact h2.lt
theorem MRow.cell {n r : Nat} {F : Nat → Int} {p : Nat} {w0 w : World} (h : MRow n r F p w0 w) {j : Nat} (hj : j < n) : (∃ v : Int, w.cell? ⟨r, j, none⟩ = some (.int .i64 v)) ∧ w.frozen? ⟨r, j, none⟩ = false := by
  obtain ⟨Y, h2, h3, h4, h5⟩ := h
  exact ⟨⟨_, h2.get hj⟩, h2.frozen j⟩
theorem MRow.get {n r : Nat} {F : Nat → Int} {p : Nat} {w0 w : World} (h : MRow n r F p w0 w) {j : Nat} (hp : p ≤ n) (hj : j < p) : w.cell? ⟨r, j, none⟩ = some (.int .i64 (F j)) := by
  obtain ⟨Y, h2, h3, h4, h5⟩ := h
  rw [h2.get (by omega), h3 j hj]
theorem MRow.set {n r : Nat} {F : Nat → Int} {p : Nat} {w0 w : World} (h : MRow n r F p w0 w) (hp : p < n) {v : Int} (hv : v = F p) : MRow n r F (p + 1) w0 (w.setCell ⟨r, p, none⟩ (.int .i64 v)) := by
  obtain ⟨Y, h2, h3, h4, h5⟩ := h
  refine ⟨_, h2.set hp v, fun j hj => ?_, h4, h5.setCell h4 _⟩
  unfold upd
  by_cases e : j = p
  · rw [if_pos e, hv, e]
  · rw [if_neg e]; exact h3 j (by omega)
theorem MRow.drew {n r : Nat} {F : Nat → Int} {p : Nat} {w0 w : World} (h : MRow n r F p w0 w) : MRow n r F p w0 w.drew := h.to (Below.refl _ w).drew
theorem MRow.ints {n r : Nat} {F : Nat → Int} {w0 w : World} (h : MRow n r F n w0 w) (hn : n ≤ maxLen) : IsInts w (some ⟨r, 0, none⟩) n n F := by
  obtain ⟨Y, h2, h3, h4, h5⟩ := h
  exact (h2.congr h3).ints hn
theorem MRow.post {n r : Nat} {F : Nat → Int} {w0 w : World} (h : MRow n r F n w0 w) (hn : n ≤ 64) (b : Bool) : VPost n F b w0 (.returned (.tuple #[.slice (some ⟨r, 0, none⟩) n n, .bool b])) w := by
  have hi := h.ints (by unfold maxLen; omega)
  obtain ⟨Y, h2, h3, h4, h5⟩ := h
  exact ⟨_, _, rfl, hi, h5, fun x hx => by cases hx; exact h4⟩
end Go.Proofs.Ytabgbchogmbofaa
