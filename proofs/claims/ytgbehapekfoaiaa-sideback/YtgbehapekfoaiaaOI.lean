/-
  Rows of ints that grow by append: kept, one more, handed back.
-/
import Derived.Test.YtgbehapekfoaiaaIC
namespace Go.Proofs.Ytgbehapekfoaiaa
open Go.ChangeShapes Go.WideShapes Go.ChangeAt Go.RowKit
set_option linter.unusedVariables false

theorem wr_in {x : Int} (h1 : -9223372036854775808 ≤ x) (h2 : x ≤ 9223372036854775807) : wrap64 x = x := by unfold wrap64; omega
/-- A row of one's own is as it was, where nothing old has turned. -/
theorem owns_below {w w' : World} {B k sz : Nat} {t : TypeId} {v : Value} {l : List Value} (h : w.ownsRow B t sz v k l) (hb : Below w.heap.size w w') : w'.ownsRow B t sz v k l := by
  obtain ⟨h1, h2 | ⟨g, cap, cur, h2, h3, h4, h5⟩⟩ := h
  · exact ⟨h1, .inl h2⟩
  · exact ⟨h1, .inr ⟨g, cap, cur, h2, h3, (hb.block g (Array.getElem?_eq_some_iff.1 h4).1).trans h4, h5⟩⟩
/-- A list of one's own, and all that was there at first is as it was. -/
def OPost (n : Nat) (G : Nat → Int) (w : World) (e : Ending) (w' : World) : Prop := ∃ a cap, e = .returned (.slice a n cap) ∧ IsInts w' a n cap G ∧ Below w.heap.size w w' ∧ ∀ x, a = some x → w.heap.size ≤ x.block
/-- A row of one's own lies at or above its bound. -/
theorem own_new {B n k sz cap : Nat} {t : TypeId} {a : Option Addr} {l : List Value} {w : World} (h : w.ownsRow B t sz (.slice a n cap) k l) : ∀ x, a = some x → B ≤ x.block := by
  intro x hx
  obtain ⟨h1, ⟨e, _⟩ | ⟨g, cap', cur, e, h2, _⟩⟩ := h
  · cases e; cases hx
  · cases e; cases hx; exact h2
/-- One number is appended to a row of the call's own. -/
theorem oi_step {B k gg cap : Nat} {w1 wr w3 : World} {v : Value} {X : Nat → Int} {c : Int} (h : wr.ownsRow B 3 1 v k (intL k X)) (hb : Below B w1 wr) (hz : B ≤ wr.heap.size) (hc : c = X k)
    (hown : w3.ownsRow B 3 1 (.slice (some ⟨gg, 0, none⟩) (k + 1) cap) (k + 1) (intL k X ++ [.int .i64 c])) (hg : (wr.alloc (.cells #[.int .i64 c] 3)).grownBy w3 v.ownBlock) :
    w3.ownsRow B 3 1 (.slice (some ⟨gg, 0, none⟩) (k + 1) cap) (k + 1) (intL (k + 1) X) ∧ Below B w1 w3 ∧ B ≤ w3.heap.size := by
  subst hc
  have hs : (wr.alloc (.cells #[.int .i64 (X k)] 3)).heap.size = wr.heap.size + 1 := al_size _ _
  refine ⟨by rw [intL_snoc]; exact hown, ?_, by have := hg.size; omega⟩
  exact Below.grown (hb.alloc hz _) hg (by omega) (fun j hj => (h.lt j hj).1)
end Go.Proofs.Ytgbehapekfoaiaa
