/-
  A list of two ints that is written out.
-/
import Derived.Test.YtgbehapekfoaiaaIC
namespace Go.Proofs.Ytgbehapekfoaiaa
open Go.ChangeShapes Go.WideShapes Go.ChangeAt Go.RowKit
set_option linter.unusedVariables false

def two2 (x y : Int) (i : Nat) : Int := if i = 0 then x else y
theorem two2_row (w : World) (x y : Int) : IsInts (w.alloc (.cells #[.int .i64 x, .int .i64 y] 3)) (some ⟨w.heap.size, 0, none⟩) 2 2 (two2 x y) := by
  have h : (rowA 2 (two2 x y)) = #[.int .i64 x, .int .i64 y] := rfl
  have h2 : RowAt w.heap.size 2 (two2 x y) (w.alloc (.cells (rowA 2 (two2 x y)) 3)) := al_new w _
  rw [h] at h2
  exact h2.ints (by decide)
theorem ret_bel {w : World} {o : Obj} {w' : World} (hb : Below (w.alloc o).heap.size (w.alloc o) w') : Below w.heap.size w w' :=
  ((Below.refl _ w).alloc (Nat.le_refl _) _).trans (hb.mono (by rw [al_size]; omega))
end Go.Proofs.Ytgbehapekfoaiaa
