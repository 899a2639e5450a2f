/-
  Slices of ints; the contracts of fft.within and of the document's Within, Same and Right.
-/
import Derived.Test.YthkojbmfhaaiiaaDoorFA
namespace Go.Proofs.YthkojbmfhaaiiaaDoor
open Go.ChangeShapes Go.WideShapes Go.ChangeAt Go.RowKit
set_option linter.unusedVariables false

/-- A slice of len ints, those that X tells. -/
def IsInts (w : World) (a : Option Addr) (len cap : Nat) (X : Nat → Int) : Prop :=
  len = 0 ∨ ∃ b off, a = some ⟨b, off, none⟩ ∧ b < w.heap.size ∧ len ≤ cap ∧ cap ≤ maxLen ∧ ∀ i, i < len → w.cell? ⟨b, off + i, none⟩ = some (.int .i64 (X i))
theorem IsInts.frame {B : Nat} {w w' : World} {a : Option Addr} {len cap : Nat} {X : Nat → Int} (h : IsInts w a len cap X) (hb : Below B w w') (hB : ∀ x, a = some x → x.block < B) (hs : w.heap.size ≤ w'.heap.size) : IsInts w' a len cap X := by
  rcases h with h | ⟨b, off, e, h1, h2, h3, h4⟩
  · exact .inl h
  · refine .inr ⟨b, off, e, by omega, h2, h3, fun i hi => ?_⟩
    have hB := hB _ e
    rw [hb.cell (p := ⟨b, off + i, none⟩) hB]
    exact h4 i hi
theorem IsInts.below {w w' : World} {a : Option Addr} {len cap : Nat} {X : Nat → Int} (h : IsInts w a len cap X) (hb : Below w.heap.size w w') : IsInts w' a len cap X := by
  rcases h with h | ⟨b, off, e, h1, h2, h3, h4⟩
  · exact .inl h
  · have hs := hb.size
    refine .inr ⟨b, off, e, by omega, h2, h3, fun i hi => ?_⟩
    rw [hb.cell (p := ⟨b, off + i, none⟩) h1]
    exact h4 i hi
theorem IsInts.congr {w : World} {a : Option Addr} {len cap : Nat} {X Y : Nat → Int} (h : IsInts w a len cap X) (e : ∀ i, i < len → X i = Y i) : IsInts w a len cap Y := by
  rcases h with h | ⟨b, off, e', h1, h2, h3, h4⟩
  · exact .inl h
  · exact .inr ⟨b, off, e', h1, h2, h3, fun i hi => by rw [← e i hi]; exact h4 i hi⟩

abbrev okL (X : Nat → Int) (len : Nat) : Bool := allIn (-1048576) 1048576 X len
theorem fwithin_any (a : Option Addr) (len cap : Nat) (X : Nat → Int) (hl : len ≤ 64) (w : World) (h : IsInts w a len cap X) :
    Calls Tryd.prog 13 #[.slice a len cap] w fun e w' => e = .returned (.bool (okL X len)) ∧ w' = w := by
  rcases h with rfl | ⟨b, off, rfl, h1, h2, h3, hc⟩
  · go_enter Tryd.func13, Tryd.ntmps13
    go_wp2
    go_loop [7] (fun i => i = .int .i64 0) (fun i => 0)
    case atStart => rfl
    case round =>
      subst hrel
      go_wp2
      go_ret
      exact ⟨rfl, rfl⟩
  · clear h1 h2 h3
    go_enter Tryd.func13, Tryd.ntmps13
    go_wp2
    go_loop [7] (fun i => ∃ k : Nat, k ≤ len ∧ i = .int .i64 k ∧ okL X k = true) (fun i => len - (intOf i).toNat)
    case atStart => exact ⟨0, Nat.zero_le _, rfl, rfl⟩
    case round =>
      obtain ⟨k, hk, rfl, hall⟩ := hrel
      have HA : Hid (okL X k = true) := hall
      clear hall
      by_cases hlt : k < len
      · have hck := hc k hlt
        clear hc
        by_cases h1 : X k < -1048576
        · go_wp2
          go_ret
          exact ⟨ret_bool (allIn_no hlt (by omega)).symm, rfl⟩
        · by_cases h2 : 1048576 < X k
          · go_wp2
            go_ret
            exact ⟨ret_bool (allIn_no hlt (by omega)).symm, rfl⟩
          · go_wp2
            go_round
            case rel => exact ⟨k + 1, by omega, by go_num, by simp [allIn, HA.out]; omega⟩
            case measure => simp [intOf]; omega
      · clear hc
        go_wp2
        go_ret
        obtain rfl : k = len := by omega
        exact ⟨ret_bool HA.out.symm, rfl⟩
theorem rwithin_any (a : Option Addr) (len cap : Nat) (X : Nat → Int) (hl : len ≤ 64) (w : World) (h : IsInts w a len cap X) :
    Calls Tryd.prog 19 #[.slice a len cap, .int .i64 (-1048576), .int .i64 1048576] w fun e w' => e = .returned (.bool (okL X len)) ∧ w' = w := by
  rcases h with rfl | ⟨b, off, rfl, h1, h2, h3, hc⟩
  · go_enter Tryd.func19, Tryd.ntmps19
    go_wp2
    go_loop [7] (fun i => i = .int .i64 0) (fun i => 0)
    case atStart => rfl
    case round =>
      subst hrel
      go_wp2
      go_ret
      exact ⟨rfl, rfl⟩
  · clear h1 h2 h3
    go_enter Tryd.func19, Tryd.ntmps19
    go_wp2
    go_loop [7] (fun i => ∃ k : Nat, k ≤ len ∧ i = .int .i64 k ∧ okL X k = true) (fun i => len - (intOf i).toNat)
    case atStart => exact ⟨0, Nat.zero_le _, rfl, rfl⟩
    case round =>
      obtain ⟨k, hk, rfl, hall⟩ := hrel
      have HA : Hid (okL X k = true) := hall
      clear hall
      by_cases hlt : k < len
      · have hck := hc k hlt
        clear hc
        by_cases h1 : X k < -1048576
        · go_wp2
          go_ret
          exact ⟨ret_bool (allIn_no hlt (by omega)).symm, rfl⟩
        · by_cases h2 : 1048576 < X k
          · go_wp2
            go_ret
            exact ⟨ret_bool (allIn_no hlt (by omega)).symm, rfl⟩
          · go_wp2
            go_round
            case rel => exact ⟨k + 1, by omega, by go_num, by simp [allIn, HA.out]; omega⟩
            case measure => simp [intOf]; omega
      · clear hc
        go_wp2
        go_ret
        obtain rfl : k = len := by omega
        exact ⟨ret_bool HA.out.symm, rfl⟩
/-- The document's Same, of lists that are. -/
theorem same_yes (a c : Option Addr) (len cap cap' : Nat) (X : Nat → Int) (hl : len ≤ 64) (w : World) (h : IsInts w a len cap X) (h' : IsInts w c len cap' X) :
    Calls Tryd.prog 9 #[.slice a len cap, .slice c len cap'] w fun e w' => e = .returned (.bool true) ∧ Below w.heap.size w w' := by
  by_cases h0 : len = 0
  · subst h0
    go_enter Tryd.func9, Tryd.ntmps9
    go_wp2
    go_loop [5] (fun i => i = .int .i64 0) (fun i => 0)
    case atStart => rfl
    case round =>
      subst hrel
      go_wp2
      go_ret
      exact ⟨rfl, Below.refl _ _⟩
  · rcases h with e | ⟨b, off, rfl, h1, h2, h3, hc⟩
    · exact absurd e h0
    rcases h' with e | ⟨d, off', rfl, h1', h2', h3', hd⟩
    · exact absurd e h0
    have HC : Hid (∀ wr, Below w.heap.size w wr → ∀ i, i < len → wr.cell? ⟨b, off + i, none⟩ = some (.int .i64 (X i))) := fun wr hb i hi => by
      rw [hb.cell (p := ⟨b, off + i, none⟩) h1]; exact hc i hi
    have HD : Hid (∀ wr, Below w.heap.size w wr → ∀ i, i < len → wr.cell? ⟨d, off' + i, none⟩ = some (.int .i64 (X i))) := fun wr hb i hi => by
      rw [hb.cell (p := ⟨d, off' + i, none⟩) h1']; exact hd i hi
    clear h1 h2 h3 h1' h2' h3' hc hd
    go_enter Tryd.func9, Tryd.ntmps9
    go_wp2
    go_loopw [5] (fun i wr => ∃ k : Nat, k ≤ len ∧ i = .int .i64 k ∧ Hid (Below w.heap.size w wr)) (fun i _ => len - (intOf i).toNat)
    case atStart => exact ⟨0, Nat.zero_le _, rfl, Below.refl _ _⟩
    case round =>
      obtain ⟨k, hk, rfl, HB⟩ := hrel
      by_cases hlt : k < len
      · have hck := HC.out _ HB.out k hlt
        have hdk := HD.out _ HB.out k hlt
        go_wp2
        go_region
        go_wp2
        refine ⟨⟨k + 1, by omega, by go_num, HB.out.drew⟩, by simp [intOf]; omega⟩
      · go_wp2
        go_ret
        exact ⟨rfl, HB.out⟩
end Go.Proofs.YthkojbmfhaaiiaaDoor
