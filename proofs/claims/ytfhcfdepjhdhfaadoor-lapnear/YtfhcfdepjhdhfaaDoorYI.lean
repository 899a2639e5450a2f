/-
  The law's own near.
-/
import Derived.Test.YtfhcfdepjhdhfaaDoorYB
import Derived.Test.YtfhcfdepjhdhfaaDoorZA
namespace Go.Proofs.YtfhcfdepjhdhfaaDoor
open Go.ChangeShapes Go.WideShapes Go.ChangeAt Go.RowKit
set_option linter.unusedVariables false

theorem near_yes (a a' : Option Addr) (len cap cap' : Nat) (O E : Nat → Int) (hl : len ≤ 64) (hO : ∀ i, i < len → -32768 ≤ O i ∧ O i ≤ 32767) (hE : ∀ i, i < len → -4503599627370496 ≤ E i ∧ E i ≤ 4503599627370496) (hn : ∀ i, i < len → -2 ≤ O i - satF (E i / 1048576) ∧ O i - satF (E i / 1048576) ≤ 2)
    (h1 : 1 ≤ len) (w : World) (h : IsInts w a len cap O) (h' : IsInts w a' len cap' E) :
    Calls Tryd.prog 19 #[.slice a len cap, .slice a' len cap'] w fun e w' => e = .returned (.bool true) ∧ Below w.heap.size w w' := by
  obtain ⟨b, off, rfl, hc⟩ := h.cells h1
  obtain ⟨b', off', rfl, hc'⟩ := h'.cells h1
  have HC := hid hc
  have HC' := hid hc'
  have HO := hid hO
  have HE := hid hE
  have HN := hid hn
  clear hc hc' h h' hO hE hn
  go_enter Tryd.func19, Tryd.ntmps19
  go_wp2
  go_loopw [5] (fun i wr => ∃ k : Nat, k ≤ len ∧ i = .int .i64 k ∧ Hid (Below w.heap.size w wr)) (fun i _ => len - (intOf i).toNat)
  case atStart => exact ⟨0, Nat.zero_le _, rfl, Below.refl _ _⟩
  case round =>
    obtain ⟨k, hk, rfl, HB⟩ := hrel
    by_cases hlt : k < len
    · have hck := HC.out _ HB.out k hlt
      have hdk := HC'.out _ HB.out k hlt
      have ho := HO.out k hlt
      have he := HE.out k hlt
      have hnn := HN.out k hlt
      generalize O k = o at *
      generalize E k = x at *
      have K1 := hid (fun W => rmod_in x 1048576 (by omega) (by omega) (by omega) W)
      generalize x / 1048576 = q at *
      generalize x % 1048576 = r at *
      have ks := fun W => satR_any q W
      generalize satF q = s at *
      have KS := hid ks
      have m1 : wrap64 (o - s) = o - s := wr_in (by omega) (by omega)
      have g1 : ¬ (2 < o - s) := by omega
      have g2 : ¬ (o - s < -2) := by omega
      have D1 : Hid (∀ W, Below wr.heap.size wr W → W.cell? ⟨b, off + k, none⟩ = some (.int .i64 o)) := fun W hW => by rw [hW.cell (p := ⟨b, off + k, none⟩) (block_lt_of_cell hck)]; exact hck
      have HS : Hid (∀ W w', Below W.heap.size W w' → Calls Tryd.prog 33 #[.int .i64 q] w' fun e w'' => e = .returned (.int .i64 s) ∧ Below W.heap.size W w'') := fun W w' hb => (KS.out w').mono (fun e w'' h => ⟨h.1, by rw [h.2]; exact hb⟩)
      clear ks ho he hnn KS
      go_wp2_with (first
        | (go_at_call 39; (with_reducible refine (K1.out _).mono ?_); rintro e w1 ⟨rfl, b1⟩; have hck := D1.out _ b1))
      have HB1 : Hid (Below w.heap.size w w1) := below_then HB.out b1
      have hca : ∀ W, Below w1.heap.size w1 W → W.cell? ⟨b, off + k, none⟩ = some (.int .i64 o) := fun W hW => by rw [hW.cell (p := ⟨b, off + k, none⟩) (block_lt_of_cell hck)]; exact hck
      clear HB b1 D1 hdk K1
      go_wp2
      refine region_below (by kernel_rfl) (by kernel_rfl) ?_
      repeat (go_big_quiet_step (first
        | (intro hq; rfl)
        | (intro hq; rw [hca _ hq]; exact ⟨rfl, rfl⟩)
        | (intro hq; go_at_call 33; exact HS.out _ _ hq)))
      refine wpQuiet_nil ?_
      intro w2 hq
      have HB2 : Hid (Below w.heap.size w w2) := below_then HB1.out hq
      clear HB1 hq hck hca HS HC HC' HO HE HN
      go_wp2
      refine ⟨⟨k + 1, by omega, by go_num, HB2⟩, by simp [intOf]; omega⟩
    · obtain rfl : k = len := by omega
      go_wp2
      go_ret
      exact ⟨rfl, HB.out⟩
end Go.Proofs.YtfhcfdepjhdhfaaDoor
