/-
  Calls behind one another; arrays of eight that are handed in.
-/
import Derived.Test.YtjeglfhdgabdoaaDoorWI
import Derived.Test.YtjeglfhdgabdoaaDoorWJ
import Derived.Test.YtjeglfhdgabdoaaDoorWL
namespace Go.Proofs.YtjeglfhdgabdoaaDoor
open Go.ChangeShapes Go.WideShapes Go.ChangeAt Go.RowKit
set_option linter.unusedVariables false

theorem same_none (W : World) : Calls Tryd.prog 8 #[.slice none 0 0, .slice none 0 0] W fun e w' => e = .returned (.bool true) ∧ Below W.heap.size W w' :=
  same_yes none none 0 0 0 (fun _ => 0) (by omega) W (.inl rfl) (.inl rfl)
theorem wawake_to {w : World} (ht : STab w) : Hid (∀ W, Below w.heap.size w W → Calls Tryd.prog 6 #[] W fun e w' => e = .returned (.bool true) ∧ Below w.heap.size w w') :=
  fun W hW => (awake_any W (ht.below hW)).mono fun e w' ⟨he, hb⟩ => ⟨he, below_then hW hb⟩
theorem ArrAt.ints {r : Nat} {X : Nat → Int} {w : World} (h : ArrAt r X w) : IsInts w (some ⟨r, 0, none⟩) 8 8 X :=
  .inr ⟨r, 0, rfl, h.lt, Nat.le_refl _, by decide, fun i hi => by rw [Nat.zero_add]; exact h.get hi⟩
/-- The slope beside the document's, new. -/
theorem same_new {w : World} {a : Option Addr} (h : IsInts w a 8 8 wF) :
    Calls Tryd.prog 8 #[.slice a 8 8, .slice (some ⟨w.heap.size, 0, none⟩) 8 8] (w.alloc (.cells (rowA 8 wF) 3)) fun e w' => e = .returned (.bool true) ∧ Below w.heap.size w w' :=
  (same_yes a _ 8 8 8 wF (by omega) _ (h.below ((Below.refl _ w).alloc (Nat.le_refl _) _)) (RowAt.ints (al_new w _) (by decide))).mono fun e w' ⟨he, hb⟩ => ⟨he, below_then ((Below.refl _ w).alloc (Nat.le_refl _) _) hb⟩
/-- A new variable into which an array was laid. -/
theorem made_arr (X : Nat → Int) (w : World) : ArrAt w.heap.size X ((w.alloc (.cells #[Value.int .i64 0, Value.int .i64 0, Value.int .i64 0, Value.int .i64 0, Value.int .i64 0, Value.int .i64 0, Value.int .i64 0, Value.int .i64 0] 24)).setRow w.heap.size (rowA 8 X)) ∧ Below w.heap.size w ((w.alloc (.cells #[Value.int .i64 0, Value.int .i64 0, Value.int .i64 0, Value.int .i64 0, Value.int .i64 0, Value.int .i64 0, Value.int .i64 0, Value.int .i64 0] 24)).setRow w.heap.size (rowA 8 X)) :=
  ⟨(arr_new0 w).laid X, below_setRow ((Below.refl _ w).alloc (Nat.le_refl _) _) (Nat.le_refl _) _⟩
end Go.Proofs.YtjeglfhdgabdoaaDoor
