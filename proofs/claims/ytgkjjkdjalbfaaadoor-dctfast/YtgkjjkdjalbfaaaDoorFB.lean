/-
  Slices of ints; the contracts of fft.within and of the document's Within, Same and Right.
-/
import Derived.Test.YtgkjjkdjalbfaaaDoorFA
import Derived.Test.YtgkjjkdjalbfaaaDoorIS
namespace Go.Proofs.YtgkjjkdjalbfaaaDoor
open Go.ChangeShapes Go.WideShapes Go.ChangeAt Go.RowKit
set_option linter.unusedVariables false

abbrev okL (X : Nat → Int) (len : Nat) : Bool := allIn (-1048576) 1048576 X len
theorem fwithin_any (a : Option Addr) (len cap : Nat) (X : Nat → Int) (hl : len ≤ 64) (w : World) (h : IsInts w a len cap X) :
    Calls Tryd.prog 37 #[.slice a len cap] w fun e w' => e = .returned (.bool (okL X len)) ∧ w' = w := by
  rcases h with rfl | ⟨b, off, rfl, h1, h2, h3, hc⟩
  · go_enter Tryd.func37, Tryd.ntmps37
    go_wp2
    go_loop [7] (fun i => i = .int .i64 0) (fun i => 0)
    case atStart => rfl
    case round =>
      subst hrel
      go_wp2
      go_ret
      exact ⟨rfl, rfl⟩
  · clear h1 h2 h3
    go_enter Tryd.func37, Tryd.ntmps37
    go_wp2
    go_loop [7] (fun i => ∃ k : Nat, k ≤ len ∧ i = .int .i64 k ∧ okL X k = true) (fun i => len - (intOf i).toNat)
    case atStart => exact ⟨0, Nat.zero_le _, rfl, rfl⟩
    case round =>
      obtain ⟨k, hk, rfl, hall⟩ := hrel
      have HA : Hid (okL X k = true) := hall
      clear hall
      by_cases hlt : k < len
      · have hck := hc k hlt
        clear hc
        by_cases h1 : X k < -1048576
        · go_wp2
          go_ret
          exact ⟨ret_bool (allIn_no hlt (by omega)).symm, rfl⟩
        · by_cases h2 : 1048576 < X k
          · go_wp2
            go_ret
            exact ⟨ret_bool (allIn_no hlt (by omega)).symm, rfl⟩
          · go_wp2
            go_round
            case rel => exact ⟨k + 1, by omega, by go_num, by simp [allIn, HA.out]; omega⟩
            case measure => simp [intOf]; omega
      · clear hc
        go_wp2
        go_ret
        obtain rfl : k = len := by omega
        exact ⟨ret_bool HA.out.symm, rfl⟩
theorem rwithin_any (a : Option Addr) (len cap : Nat) (X : Nat → Int) (hl : len ≤ 64) (w : World) (h : IsInts w a len cap X) :
    Calls Tryd.prog 25 #[.slice a len cap, .int .i64 (-1048576), .int .i64 1048576] w fun e w' => e = .returned (.bool (okL X len)) ∧ w' = w :=
  rwithin_g (-1048576) 1048576 a len cap X (by omega) w h
end Go.Proofs.YtgkjjkdjalbfaaaDoor
