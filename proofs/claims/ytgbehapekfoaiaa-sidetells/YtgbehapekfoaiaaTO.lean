/-
  Two rows of ints of the call's own, that grow by append.
-/
import Derived.Test.YtgbehapekfoaiaaIC
namespace Go.Proofs.Ytgbehapekfoaiaa
open Go.ChangeShapes Go.WideShapes Go.ChangeAt Go.RowKit
set_option linter.unusedVariables false

/-- Two rows of the call's own: ka numbers of X, kb of Y. -/
structure TwoOwn (B : Nat) (u v : Value) (ka kb : Nat) (X Y : Nat → Int) (w0 w : World) : Prop where
  a : w.ownsRow B 3 1 u ka (intL ka X)
  b : w.ownsRow B 3 1 v kb (intL kb Y)
  ne : u.ownBlock = none ∨ u.ownBlock ≠ v.ownBlock
  bel : Below B w0 w
  sz : B ≤ w.heap.size
theorem grown_undrew {W w3 : World} {row : Option Nat} (h : W.drew.grownBy w3 row) : W.grownBy w3 row := ⟨h.os, h.tape, h.output, h.size, h.block⟩
theorem two_a {B : Nat} {u v : Value} {ka kb : Nat} {X Y : Nat → Int} {w0 w w3 : World} {g cap : Nat} {o : Obj} {c : Int} (h : TwoOwn B u v ka kb X Y w0 w) (hc : c = X ka)
    (hown : w3.ownsRow B 3 1 (.slice (some ⟨g, 0, none⟩) (ka + 1) cap) (ka + 1) (intL ka X ++ [.int .i64 c])) (hg : (w.alloc o).grownBy w3 u.ownBlock)
    (hor : u.ownBlock = some g ∨ g = w.heap.size + 1) : TwoOwn B (.slice (some ⟨g, 0, none⟩) (ka + 1) cap) v (ka + 1) kb X Y w0 w3 := by
  subst hc
  have hs : (w.alloc o).heap.size = w.heap.size + 1 := al_size _ _
  refine ⟨by rw [intL_snoc]; exact hown, (h.b.alloc _).kept hg ?_, .inr ?_, Below.grown (h.bel.alloc h.sz _) hg (by have := h.sz; omega) (fun j hj => (h.a.lt j hj).1), by have := hg.size; have := h.sz; omega⟩
  · rcases h.ne with e | e
    · rw [e]; cases hv : v.ownBlock with
      | none => exact .inl rfl
      | some x => exact .inr (by simp)
    · exact .inr (fun e' => e e'.symm)
  · intro e
    have e : some g = v.ownBlock := e
    rcases hor with e2 | e2
    · rcases h.ne with e3 | e3
      · rw [e2] at e3; cases e3
      · exact e3 (e2.trans e)
    · have := (h.b.lt g e.symm).2
      omega
theorem two_b {B : Nat} {u v : Value} {ka kb : Nat} {X Y : Nat → Int} {w0 w w3 : World} {g cap : Nat} {o : Obj} {c : Int} (h : TwoOwn B u v ka kb X Y w0 w) (hc : c = Y kb)
    (hown : w3.ownsRow B 3 1 (.slice (some ⟨g, 0, none⟩) (kb + 1) cap) (kb + 1) (intL kb Y ++ [.int .i64 c])) (hg : (w.alloc o).grownBy w3 v.ownBlock)
    (hor : v.ownBlock = some g ∨ g = w.heap.size + 1) : TwoOwn B u (.slice (some ⟨g, 0, none⟩) (kb + 1) cap) ka (kb + 1) X Y w0 w3 := by
  subst hc
  have hs : (w.alloc o).heap.size = w.heap.size + 1 := al_size _ _
  refine ⟨(h.a.alloc _).kept hg h.ne, by rw [intL_snoc]; exact hown, ?_, Below.grown (h.bel.alloc h.sz _) hg (by have := h.sz; omega) (fun j hj => (h.b.lt j hj).1), by have := hg.size; have := h.sz; omega⟩
  rcases h.ne with e | e
  · exact .inl e
  · refine .inr (fun e1 => ?_)
    have e1 : u.ownBlock = some g := e1
    rcases hor with e2 | e2
    · exact e (e1.trans e2.symm)
    · have := (h.a.lt g e1).2
      omega
end Go.Proofs.Ytgbehapekfoaiaa
