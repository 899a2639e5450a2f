/-
  The slope where it stands; the contracts of window.Slope, isBlock, within and facing.
-/
import Derived.Test.YtjeglfhdgabdoaaDoorAR
import Derived.Test.YtjeglfhdgabdoaaDoorWM
namespace Go.Proofs.YtjeglfhdgabdoaaDoor
open Go.ChangeShapes Go.WideShapes Go.ChangeAt Go.RowKit
set_option linter.unusedVariables false

/-- The package's slope stands where it was laid. -/
def STab (w : World) : Prop := ∃ t fr, w.heap[0]? = some (.cells (rowA 8 wF) t fr)
theorem STab.cell {w : World} (h : STab w) {j : Nat} (hj : j < 8) : w.cell? ⟨0, j, none⟩ = some (.int .i64 (wF j)) := by
  obtain ⟨t, fr, h⟩ := h
  rw [cell_of_row w _ j _ t fr h, rowA_get hj]
theorem STab.lt {w : World} (h : STab w) : 0 < w.heap.size := by
  obtain ⟨t, fr, h⟩ := h
  exact (Array.getElem?_eq_some_iff.1 h).1
theorem STab.frame {B : Nat} {w w' : World} (h : STab w) (hb : Below B w w') (hB : 0 < B) : STab w' := by
  obtain ⟨t, fr, h⟩ := h
  exact ⟨t, fr, (hb.block _ hB).trans h⟩
theorem STab.below {w w' : World} (h : STab w) (hb : Below w.heap.size w w') : STab w' := h.frame hb h.lt
theorem slope_any (w : World) (ht : STab w) : Calls Tryd.prog 7 #[] w fun e w' => e = .returned (arr8 wF) ∧ Below w.heap.size w w' := by
  obtain ⟨t, fr, ht1⟩ := ht
  have h1 := hid ((al_old (.cells #[Value.int .i64 0, Value.int .i64 0, Value.int .i64 0, Value.int .i64 0, Value.int .i64 0, Value.int .i64 0, Value.int .i64 0, Value.int .i64 0] 24) (Array.getElem?_eq_some_iff.1 ht1).1).trans ht1)
  clear ht1
  have h2 := hid (arr_new0 w)
  have h3 := hid (h2.out.laid wF)
  go_enter Tryd.func7, Tryd.ntmps7
  go_wp2_with (first | (refine wpList_load_row rfl 24 _ rfl 0 rfl t (rowA 8 wF) fr _ h1.out Tryd.underlying24 rfl (by rw [rowA_size]; exact info8) ?_) | (refine wp_store8 rfl rfl rfl rfl h2.out ?_))
  refine bodyPost_ret (ret8 rfl _ rfl h3.out) rfl ⟨rfl, ?_⟩
  exact below_setRow ((Below.refl _ w).alloc (Nat.le_refl _) _) (Nat.le_refl _) _
theorem isBlock_any (n : Int) (w : World) : Calls Tryd.prog 18 #[.int .i64 n] w fun e w' => e = .returned (.bool (n == 8 || n == 64)) ∧ w' = w := by
  by_cases h : n = 8
  · subst h
    go_enter Tryd.func18, Tryd.ntmps18
    go_wp2
    go_ret
    exact ⟨rfl, rfl⟩
  · have h1 : (n == 8) = false := by simpa using h
    rw [h1]
    go_enter Tryd.func18, Tryd.ntmps18
    go_wp2
    go_ret
    exact ⟨by simp, rfl⟩
theorem facing_any (k : Nat) (hk : k < 4) (w : World) : Calls Tryd.prog 21 #[.int .i64 (k : Int)] w fun e w' => e = .returned (.tuple #[.int .i64 ((3 - k : Nat) : Int), .int .i64 ((4 + k : Nat) : Int)]) ∧ w' = w := by
  go_enter Tryd.func21, Tryd.ntmps21
  go_wp2
  go_ret2
  exact ⟨ret_two ⟨by omega, by omega⟩, rfl⟩
/-- window.within. -/
theorem wwithin_any (B : Int) (hB : 0 ≤ B ∧ B ≤ 4611686018427387904) (a : Option Addr) (len cap : Nat) (X : Nat → Int) (hl : len ≤ 1000) (w : World) (h : IsInts w a len cap X) :
    Calls Tryd.prog 19 #[.int .i64 B, .slice a len cap] w fun e w' => e = .returned (.bool (allIn (-B) B X len)) ∧ w' = w := by
  rcases h with rfl | ⟨b, off, rfl, h1, h2, h3, hc⟩
  · go_enter Tryd.func19, Tryd.ntmps19
    go_wp2
    go_loop [9] (fun i => i = .int .i64 0) (fun i => 0)
    case atStart => rfl
    case round =>
      subst hrel
      go_wp2
      go_ret
      exact ⟨rfl, rfl⟩
  · clear h1 h2 h3
    obtain ⟨hB1, hB2⟩ := hB
    have hneg : wrap64 (-B) = -B := by unfold wrap64; omega
    go_enter Tryd.func19, Tryd.ntmps19
    go_wp2
    go_loop [9] (fun i => ∃ k : Nat, k ≤ len ∧ i = .int .i64 k ∧ allIn (-B) B X k = true) (fun i => len - (intOf i).toNat)
    case atStart => exact ⟨0, Nat.zero_le _, rfl, rfl⟩
    case round =>
      obtain ⟨k, hk, rfl, hall⟩ := hrel
      have HA : Hid (allIn (-B) B X k = true) := hall
      clear hall
      by_cases hlt : k < len
      · have hck := hc k hlt
        clear hc
        by_cases h1 : X k < -B
        · go_wp2
          go_ret
          exact ⟨ret_bool (allIn_no hlt (by omega)).symm, rfl⟩
        · by_cases h2 : B < X k
          · go_wp2
            go_ret
            exact ⟨ret_bool (allIn_no hlt (by omega)).symm, rfl⟩
          · go_wp2
            go_round
            case rel => exact ⟨k + 1, by omega, by go_num, by simp [allIn, HA.out]; omega⟩
            case measure => simp [intOf]; omega
      · clear hc
        go_wp2
        go_ret
        obtain rfl : k = len := by omega
        exact ⟨ret_bool HA.out.symm, rfl⟩
end Go.Proofs.YtjeglfhdgabdoaaDoor
