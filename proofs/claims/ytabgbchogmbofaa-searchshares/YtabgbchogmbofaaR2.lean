/-
  Two rows of ints that the call made, and writes number by number.
-/
import Derived.Test.YtabgbchogmbofaaVP
namespace Go.Proofs.Ytabgbchogmbofaa
open Go.ChangeShapes Go.WideShapes Go.ChangeAt Go.RowKit
set_option linter.unusedVariables false

/-- Two rows of n, of blocks of their own; all that was there at first is as it was. -/
structure Rows2 (n r q : Nat) (Y Z : Nat → Int) (w0 w : World) : Prop where
  fst : RowAt r n Y w
  snd : RowAt q n Z w
  ne : r ≠ q
  r0 : w0.heap.size ≤ r
  q0 : w0.heap.size ≤ q
  bel : Below w0.heap.size w0 w
theorem Rows2.to {n r q : Nat} {Y Z : Nat → Int} {w0 w W : World} (h : Rows2 n r q Y Z w0 w) (hb : Below w.heap.size w W) : Rows2 n r q Y Z w0 W :=
  ⟨h.fst.below hb, h.snd.below hb, h.ne, h.r0, h.q0, below_then h.bel hb⟩
theorem Rows2.drew {n r q : Nat} {Y Z : Nat → Int} {w0 w : World} (h : Rows2 n r q Y Z w0 w) : Rows2 n r q Y Z w0 w.drew := h.to (Below.refl _ w).drew
theorem Rows2.cellL {n r q : Nat} {Y Z : Nat → Int} {w0 w : World} (h : Rows2 n r q Y Z w0 w) {j : Nat} (hj : j < n) : w.cell? ⟨r, j, none⟩ = some (.int .i64 (Y j)) := h.fst.get hj
theorem Rows2.cellR {n r q : Nat} {Y Z : Nat → Int} {w0 w : World} (h : Rows2 n r q Y Z w0 w) {j : Nat} (hj : j < n) : w.cell? ⟨q, j, none⟩ = some (.int .i64 (Z j)) := h.snd.get hj
theorem Rows2.froL {n r q : Nat} {Y Z : Nat → Int} {w0 w : World} (h : Rows2 n r q Y Z w0 w) (j : Nat) : w.frozen? ⟨r, j, none⟩ = false := IsAt.frozen h.fst j
theorem Rows2.froR {n r q : Nat} {Y Z : Nat → Int} {w0 w : World} (h : Rows2 n r q Y Z w0 w) (j : Nat) : w.frozen? ⟨q, j, none⟩ = false := IsAt.frozen h.snd j
theorem Rows2.setL {n r q : Nat} {Y Z : Nat → Int} {w0 w : World} (h : Rows2 n r q Y Z w0 w) {j : Nat} (hj : j < n) (v : Int) : Rows2 n r q (upd Y j v) Z w0 (w.setCell ⟨r, j, none⟩ (.int .i64 v)) :=
  ⟨h.fst.set hj v, IsAt.other h.snd (a := ⟨r, j, none⟩) (show q ≠ r from fun e => h.ne e.symm) _, h.ne, h.r0, h.q0, h.bel.setCell h.r0 _⟩
theorem Rows2.setR {n r q : Nat} {Y Z : Nat → Int} {w0 w : World} (h : Rows2 n r q Y Z w0 w) {j : Nat} (hj : j < n) (v : Int) : Rows2 n r q Y (upd Z j v) w0 (w.setCell ⟨q, j, none⟩ (.int .i64 v)) :=
  ⟨IsAt.other h.fst (a := ⟨q, j, none⟩) (show r ≠ q from h.ne) _, h.snd.set hj v, h.ne, h.r0, h.q0, h.bel.setCell h.q0 _⟩
theorem Rows2.congr {n r q : Nat} {Y Z Y' Z' : Nat → Int} {w0 w : World} (h : Rows2 n r q Y Z w0 w) (e : ∀ i, i < n → Y i = Y' i) (f : ∀ i, i < n → Z i = Z' i) : Rows2 n r q Y' Z' w0 w :=
  ⟨h.fst.congr e, h.snd.congr f, h.ne, h.r0, h.q0, h.bel⟩
theorem Rows2.post {n r q : Nat} {Y Z : Nat → Int} {w0 w : World} (h : Rows2 n r q Y Z w0 w) (hn : n ≤ 64) (b : Bool) : VPost n Y b w0 (.returned (.tuple #[.slice (some ⟨r, 0, none⟩) n n, .bool b])) w :=
  ⟨_, _, rfl, h.fst.ints (by unfold maxLen; omega), h.bel, fun x hx => by cases hx; exact h.r0⟩
theorem Rows2.start {n : Nat} {w0 w : World} (hb : Below w0.heap.size w0 w) :
    Rows2 n w.heap.size (w.heap.size + 1) (fun _ => 0) (fun _ => 0) w0 ((w.alloc (.cells (rowA n (fun _ => 0)) 3)).alloc (.cells (rowA n (fun _ => 0)) 3)) := by
  have e : (w.alloc (.cells (rowA n (fun _ => 0)) 3)).heap.size = w.heap.size + 1 := al_size _ _
  have h1 : RowAt w.heap.size n (fun _ => 0) (w.alloc (.cells (rowA n (fun _ => 0)) 3)) := al_new w _
  have h2 : RowAt (w.alloc (.cells (rowA n (fun _ => 0)) 3)).heap.size n (fun _ => 0) ((w.alloc (.cells (rowA n (fun _ => 0)) 3)).alloc (.cells (rowA n (fun _ => 0)) 3)) := al_new _ _
  rw [e] at h2
  have h3 := hb.size
  exact ⟨h1.below ((Below.refl _ _).alloc (Nat.le_refl _) _), h2, by omega, h3, by omega, (hb.alloc h3 _).alloc (by rw [e]; omega) _⟩
end Go.Proofs.Ytabgbchogmbofaa
