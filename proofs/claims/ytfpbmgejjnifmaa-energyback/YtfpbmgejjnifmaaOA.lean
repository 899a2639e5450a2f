/-
  An array of integers that is handed in by value.
-/
import Derived.Test.YtfpbmgejjnifmaaIC
import Derived.OpenShut
import Derived.ChangeKeysEq
namespace Go.Proofs.Ytfpbmgejjnifmaa
open Go.ChangeShapes Go.WideShapes Go.ChangeAt Go.RowKit
set_option linter.unusedVariables false

section
variable {H : Type} {enc : TypeId × Value → H} {P : Program} {w : World} {base : Nat} {held : Bool}
/-- An array of integers that is handed in by value. -/
theorem open_arr {r : Reach} {t f : TypeId} {n : Nat} {k : IntKind} {v : Value} {d : DataW H} {p : List MemPlace} (ht : P.underlying t = some (.array n f)) (hf : P.underlying f = some (.int k)) (cf : P.cellsOf f = 1) (ct : P.cellsOf t = n)
    (hv : Value.okWide P w r base t v) (h : DataW.Trod enc P w 0 (fun _ => true) held t v d p) : ∃ X : Nat → Int, v = .agg (Array.ofFn (n := n) fun i => Value.int k (X i)) ∧ ∀ i, i < n → (Lit.int k (X i)).wf = true := by
  simp only [Value.okWide, ht] at hv
  obtain ⟨cs, rfl, _, _⟩ := hv
  obtain ⟨fuel, hf1⟩ := h
  obtain ⟨xs, m, hk, hxy, hcl, hxl, hf'⟩ := DataW.trod_array ht hf1
  have hl : cs.size = n := by
    rw [← ct]
    simpa [Value.cells] using hcl
  have hz : ∀ i, ∃ z : Int, i < n → cs[i]? = some (.int k z) ∧ (Lit.int k z).wf = true := by
    intro i
    by_cases hi : i < n
    · have g := hf' i hi
      rw [List.getElem?_eq_getElem (by omega)] at g
      obtain ⟨z, e, _, wz⟩ := DataW.trod_int hf g
      refine ⟨z, fun _ => ⟨?_, wz⟩⟩
      rw [cf, Nat.mul_one] at e
      exact getElem?_of_chunk (xs := cs) e
    · exact ⟨0, fun h => absurd h hi⟩
  obtain ⟨X, hX⟩ : ∃ X : Nat → Int, ∀ i, i < n → cs[i]? = some (.int k (X i)) ∧ (Lit.int k (X i)).wf = true := ⟨fun i => Classical.choose (hz i), fun i => Classical.choose_spec (hz i)⟩
  refine ⟨X, ?_, fun i hi => (hX i hi).2⟩
  congr 1
  refine Array.ext (by simp [hl]) (fun i h1 h2 => ?_)
  have hi : i < n := by omega
  have e := (hX i hi).1
  rw [Array.getElem?_eq_getElem h1] at e
  rw [Option.some.inj e, Array.getElem_ofFn]
end
end Go.Proofs.Ytfpbmgejjnifmaa
