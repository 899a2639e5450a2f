/-
  Ints that are handed in, with their bounds.
-/
import Derived.Test.YtfpbmgejjnifmaaIC
namespace Go.Proofs.Ytfpbmgejjnifmaa
open Go.ChangeShapes Go.WideShapes Go.ChangeAt Go.RowKit
set_option linter.unusedVariables false

section
variable {H : Type} {enc : TypeId × Value → H} {P : Program} {w : World} {base : Nat} {held : Bool}
theorem open_wints {t e : TypeId} {fuel : Nat} {a : Option Addr} {len cap : Nat} {x : DataW H × List MemPlace} (ht : P.underlying t = some (.slice e)) (he : P.underlying e = some (.int .i64)) (hc : P.cellsOf e = 1)
    (h : DataW.trod enc P w base (fun _ => true) held fuel t (Value.slice a len cap).cells.toList = some x) : ∃ X : Nat → Int, len ≤ maxLen ∧ (∀ i, i < len → -9223372036854775808 ≤ X i ∧ X i ≤ 9223372036854775807) ∧ IsInts w a len cap X := by
  rcases open_ints ht he hc h with ⟨hcs, _⟩ | ⟨y, l, c, zs, hcs, _, hl, hm, hz, _, hcell, hwf⟩
  · simp [Value.cells] at hcs
    obtain ⟨rfl, rfl, rfl⟩ := hcs
    exact ⟨fun _ => 0, Nat.zero_le _, fun i hi => by omega, .inl rfl⟩
  simp [Value.cells] at hcs
  obtain ⟨rfl, rfl, rfl⟩ := hcs
  have hz' : zs.length = cap := by simpa using hz
  refine ⟨fun i => zs.getD i 0, Nat.le_trans hl hm, fun i hi => ?_, ?_⟩
  · have h1 : zs.getD i 0 ∈ zs := by
      rw [List.getD_eq_getElem?_getD, List.getElem?_eq_getElem (show i < zs.length by omega)]
      exact List.getElem_mem _
    have := hwf _ h1
    simpa [Lit.wf, IntKind.min, IntKind.max, IntKind.signed, IntKind.bits] using this
  by_cases h0 : len = 0
  · exact .inl h0
  have h1 := hcell 0 (by omega)
  have e : y.add 0 = y := by simp [Addr.add]
  rw [e] at h1
  obtain ⟨b, off, rfl, hb'⟩ := addr_plainF h1
  exact .inr ⟨b, off, rfl, hb', hl, hm, fun i hi => by have h2 := hcell i (by omega); rwa [add_plain] at h2⟩
end
end Go.Proofs.Ytfpbmgejjnifmaa
