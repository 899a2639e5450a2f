/-
  The contract of the document's SameAll, of lists of lists that are one.
-/
import Derived.Test.YtmeldmmeaiiflaaDoorSM
import Derived.Test.YtmeldmmeaiiflaaDoorRS
namespace Go.Proofs.YtmeldmmeaiiflaaDoor
open Go.ChangeShapes Go.WideShapes Go.ChangeAt Go.RowKit
set_option linter.unusedVariables false

theorem IsListsV.get {w : World} {a : Option Addr} {k cap : Nat} {N : Nat → Nat} {Y : Nat → Nat → Int} (h : IsListsV w a k cap N Y) (h1 : 1 ≤ k) :
    ∃ b off, a = some ⟨b, off, none⟩ ∧ b < w.heap.size ∧ ∀ i, i < k → ∃ ai ci, (∀ W, Below w.heap.size w W → W.cell? ⟨b, off + i, none⟩ = some (.slice ai (N i) ci)) ∧ ∀ W, Below w.heap.size w W → IsInts W ai (N i) ci (Y i) := by
  rcases h with h | ⟨b, off, rfl, hb, _, _, hc⟩
  · omega
  · refine ⟨b, off, rfl, hb, fun i hi => ?_⟩
    obtain ⟨ai, ci, hc', hI⟩ := hc i hi
    exact ⟨ai, ci, fun W hW => by rw [hW.cell (p := ⟨b, off + i, none⟩) hb]; exact hc', fun W hW => hI.below hW⟩
theorem sameall_yes (a c : Option Addr) (len cap cap' : Nat) (N : Nat → Nat) (Y : Nat → Nat → Int) (hl : len ≤ 64) (hN : ∀ i, i < len → N i ≤ 64) (w : World) (h : IsListsV w a len cap N Y) (h' : IsListsV w c len cap' N Y) :
    Calls Tryd.prog 12 #[.slice a len cap, .slice c len cap'] w fun e w' => e = .returned (.bool true) ∧ Below w.heap.size w w' := by
  by_cases h0 : len = 0
  · subst h0
    go_enter Tryd.func12, Tryd.ntmps12
    go_wp2
    go_loop [5] (fun i => i = .int .i64 0) (fun i => 0)
    case atStart => rfl
    case round =>
      subst hrel
      go_wp2
      go_ret
      exact ⟨rfl, Below.refl _ _⟩
  · obtain ⟨b, off, rfl, hb, hc⟩ := h.get (by omega)
    obtain ⟨d, off', rfl, hd, hc'⟩ := h'.get (by omega)
    have HC := hid hc
    have HC' := hid hc'
    have HN := hid hN
    clear h h' hc hc' hN hb hd
    go_enter Tryd.func12, Tryd.ntmps12
    go_wp2
    go_loopw [5] (fun i wr => ∃ k : Nat, k ≤ len ∧ i = .int .i64 k ∧ Hid (Below w.heap.size w wr)) (fun i _ => len - (intOf i).toNat)
    case atStart => exact ⟨0, Nat.zero_le _, rfl, Below.refl _ _⟩
    case round =>
      obtain ⟨k, hk, rfl, HB⟩ := hrel
      by_cases hlt : k < len
      · obtain ⟨ai, ci, c1, i1⟩ := HC.out k hlt
        obtain ⟨ai', ci', c2, i2⟩ := HC'.out k hlt
        have hca := fun V (hV : Below wr.heap.size wr V) => c1 V (below_then HB.out hV)
        have hcb := fun V (hV : Below wr.heap.size wr V) => c2 V (below_then HB.out hV)
        have hNk := HN.out k hlt
        have KS := fun V (hV : Below wr.heap.size wr V) => (same_yes ai ai' (N k) ci ci' (Y k) hNk V (i1 V (below_then HB.out hV)) (i2 V (below_then HB.out hV))).mono (fun e w' h => (⟨h.1, below_then hV h.2⟩ : e = .returned (.bool true) ∧ Below wr.heap.size wr w'))
        generalize N k = nk at *
        have HCA := hid hca
        have HCB := hid hcb
        have HKS := hid KS
        clear hca hcb KS c1 c2 i1 i2 hNk
        go_wp2
        refine region_below (by kernel_rfl) (by kernel_rfl) ?_
        repeat (go_big_quiet_step (first
          | (intro hq; rfl)
          | (intro hq; rw [HCA.out _ hq]; exact ⟨rfl, rfl⟩)
          | (intro hq; rw [HCB.out _ hq]; exact ⟨rfl, rfl⟩)
          | (intro hq; go_at_call 15; exact HKS.out _ hq)))
        refine wpQuiet_nil ?_
        intro w2 hq
        have HB2 := hid (below_then HB.out hq)
        clear HB hq HCA HCB HKS
        go_wp2
        exact ⟨⟨k + 1, by omega, by go_num, HB2⟩, by simp [intOf]; omega⟩
      · obtain rfl : k = len := by omega
        go_wp2
        go_ret
        exact ⟨rfl, HB.out⟩
end Go.Proofs.YtmeldmmeaiiflaaDoor
