/-
  Calls behind one another; arrays of eight that are handed in.
-/
import Derived.Test.YtjeglfhdgabdoaaDoorWI
import Derived.Test.YtjeglfhdgabdoaaDoorWF
import Derived.Test.YtjeglfhdgabdoaaDoorWG
import Derived.Test.YtjeglfhdgabdoaaDoorWJ
import Derived.Test.YtjeglfhdgabdoaaDoorWL
import Derived.OpenShut
import Derived.ChangeKeysEq
namespace Go.Proofs.YtjeglfhdgabdoaaDoor
open Go.ChangeShapes Go.WideShapes Go.ChangeAt Go.RowKit
set_option linter.unusedVariables false

theorem same_none (W : World) : Calls Tryd.prog 8 #[.slice none 0 0, .slice none 0 0] W fun e w' => e = .returned (.bool true) ∧ Below W.heap.size W w' :=
  same_yes none none 0 0 0 (fun _ => 0) (by omega) W (.inl rfl) (.inl rfl)
theorem wawake_to {w : World} (ht : STab w) : Hid (∀ W, Below w.heap.size w W → Calls Tryd.prog 6 #[] W fun e w' => e = .returned (.bool true) ∧ Below w.heap.size w w') :=
  fun W hW => (awake_any W (ht.below hW)).mono fun e w' ⟨he, hb⟩ => ⟨he, below_then hW hb⟩
theorem ArrAt.ints {r : Nat} {X : Nat → Int} {w : World} (h : ArrAt r X w) : IsInts w (some ⟨r, 0, none⟩) 8 8 X :=
  .inr ⟨r, 0, rfl, h.lt, Nat.le_refl _, by decide, fun i hi => by rw [Nat.zero_add]; exact h.get hi⟩
/-- The slope beside the document's, new. -/
theorem same_new {w : World} {a : Option Addr} (h : IsInts w a 8 8 wF) :
    Calls Tryd.prog 8 #[.slice a 8 8, .slice (some ⟨w.heap.size, 0, none⟩) 8 8] (w.alloc (.cells (rowA 8 wF) 3)) fun e w' => e = .returned (.bool true) ∧ Below w.heap.size w w' :=
  (same_yes a _ 8 8 8 wF (by omega) _ (h.below ((Below.refl _ w).alloc (Nat.le_refl _) _)) (RowAt.ints (al_new w _) (by decide))).mono fun e w' ⟨he, hb⟩ => ⟨he, below_then ((Below.refl _ w).alloc (Nat.le_refl _) _) hb⟩
/-- A new variable into which an array was laid. -/
theorem made_arr (X : Nat → Int) (w : World) : ArrAt w.heap.size X ((w.alloc (.cells #[Value.int .i64 0, Value.int .i64 0, Value.int .i64 0, Value.int .i64 0, Value.int .i64 0, Value.int .i64 0, Value.int .i64 0, Value.int .i64 0] 24)).setRow w.heap.size (rowA 8 X)) ∧ Below w.heap.size w ((w.alloc (.cells #[Value.int .i64 0, Value.int .i64 0, Value.int .i64 0, Value.int .i64 0, Value.int .i64 0, Value.int .i64 0, Value.int .i64 0, Value.int .i64 0] 24)).setRow w.heap.size (rowA 8 X)) :=
  ⟨(arr_new0 w).laid X, below_setRow ((Below.refl _ w).alloc (Nat.le_refl _) _) (Nat.le_refl _) _⟩
section
variable {H : Type} {enc : TypeId × Value → H} {P : Program} {w : World} {base : Nat} {held : Bool}
/-- An array of integers that is handed in by value. -/
theorem open_arr {r : Reach} {t f : TypeId} {n : Nat} {k : IntKind} {v : Value} {d : DataW H} {p : List MemPlace} (ht : P.underlying t = some (.array n f)) (hf : P.underlying f = some (.int k)) (cf : P.cellsOf f = 1) (ct : P.cellsOf t = n)
    (hv : Value.okWide P w r base t v) (h : DataW.Trod enc P w 0 (fun _ => true) held t v d p) : ∃ X : Nat → Int, v = .agg (Array.ofFn (n := n) fun i => Value.int k (X i)) ∧ ∀ i, i < n → (Lit.int k (X i)).wf = true := by
  simp only [Value.okWide, ht] at hv
  obtain ⟨cs, rfl, _, _⟩ := hv
  obtain ⟨fuel, hf1⟩ := h
  obtain ⟨xs, m, hk, hxy, hcl, hxl, hf'⟩ := DataW.trod_array ht hf1
  have hl : cs.size = n := by
    rw [← ct]
    simpa [Value.cells] using hcl
  have hz : ∀ i, ∃ z : Int, i < n → cs[i]? = some (.int k z) ∧ (Lit.int k z).wf = true := by
    intro i
    by_cases hi : i < n
    · have g := hf' i hi
      rw [List.getElem?_eq_getElem (by omega)] at g
      obtain ⟨z, e, _, wz⟩ := DataW.trod_int hf g
      refine ⟨z, fun _ => ⟨?_, wz⟩⟩
      rw [cf, Nat.mul_one] at e
      exact getElem?_of_chunk (xs := cs) e
    · exact ⟨0, fun h => absurd h hi⟩
  obtain ⟨X, hX⟩ : ∃ X : Nat → Int, ∀ i, i < n → cs[i]? = some (.int k (X i)) ∧ (Lit.int k (X i)).wf = true := ⟨fun i => Classical.choose (hz i), fun i => Classical.choose_spec (hz i)⟩
  refine ⟨X, ?_, fun i hi => (hX i hi).2⟩
  congr 1
  refine Array.ext (by simp [hl]) (fun i h1 h2 => ?_)
  have hi : i < n := by omega
  have e := (hX i hi).1
  rw [Array.getElem?_eq_getElem h1] at e
  rw [Option.some.inj e, Array.getElem_ofFn]
end
end Go.Proofs.YtjeglfhdgabdoaaDoor
