/-
  The contract of the document's Same.
-/
import Derived.Test.YtgbehapekfoaiaaIC
namespace Go.Proofs.Ytgbehapekfoaiaa
open Go.ChangeShapes Go.WideShapes Go.ChangeAt Go.RowKit
set_option linter.unusedVariables false

/-- The document's Same, of lists that are. -/
theorem same_yes (a c : Option Addr) (len cap cap' : Nat) (X : Nat → Int) (hl : len ≤ 64) (w : World) (h : IsInts w a len cap X) (h' : IsInts w c len cap' X) :
    Calls Try.prog 10 #[.slice a len cap, .slice c len cap'] w fun e w' => e = .returned (.bool true) ∧ Below w.heap.size w w' := by
  by_cases h0 : len = 0
  · subst h0
    go_enter Try.func10, Try.ntmps10
    go_wp2
    go_loop [5] (fun i => i = .int .i64 0) (fun i => 0)
    case atStart => rfl
    case round =>
      subst hrel
      go_wp2
      go_ret
      exact ⟨rfl, Below.refl _ _⟩
  · rcases h with e | ⟨b, off, rfl, h1, h2, h3, hc⟩
    · exact absurd e h0
    rcases h' with e | ⟨d, off', rfl, h1', h2', h3', hd⟩
    · exact absurd e h0
    have HC : Hid (∀ wr, Below w.heap.size w wr → ∀ i, i < len → wr.cell? ⟨b, off + i, none⟩ = some (.int .i64 (X i))) := fun wr hb i hi => by
      rw [hb.cell (p := ⟨b, off + i, none⟩) h1]; exact hc i hi
    have HD : Hid (∀ wr, Below w.heap.size w wr → ∀ i, i < len → wr.cell? ⟨d, off' + i, none⟩ = some (.int .i64 (X i))) := fun wr hb i hi => by
      rw [hb.cell (p := ⟨d, off' + i, none⟩) h1']; exact hd i hi
    clear h1 h2 h3 h1' h2' h3' hc hd
    go_enter Try.func10, Try.ntmps10
    go_wp2
    go_loopw [5] (fun i wr => ∃ k : Nat, k ≤ len ∧ i = .int .i64 k ∧ Hid (Below w.heap.size w wr)) (fun i _ => len - (intOf i).toNat)
    case atStart => exact ⟨0, Nat.zero_le _, rfl, Below.refl _ _⟩
    case round =>
      obtain ⟨k, hk, rfl, HB⟩ := hrel
      by_cases hlt : k < len
      · have hck := HC.out _ HB.out k hlt
        have hdk := HD.out _ HB.out k hlt
        go_wp2
        go_region
        go_wp2
        refine ⟨⟨k + 1, by omega, by go_num, HB.out.drew⟩, by simp [intOf]; omega⟩
      · go_wp2
        go_ret
        exact ⟨rfl, HB.out⟩
end Go.Proofs.Ytgbehapekfoaiaa
