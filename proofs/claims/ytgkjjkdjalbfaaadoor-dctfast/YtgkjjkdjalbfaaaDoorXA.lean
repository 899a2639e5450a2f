/-
  The contracts of dct's small functions: step, angle, fits; the document's Right.
-/
import Derived.Test.YtgkjjkdjalbfaaaDoorXO
import Derived.Test.YtgkjjkdjalbfaaaDoorIS
namespace Go.Proofs.YtgkjjkdjalbfaaaDoor
open Go.ChangeShapes Go.WideShapes Go.ChangeAt Go.RowKit
set_option linter.unusedVariables false

theorem IsN.div {n : Nat} (h : IsN n) : ∃ a : Nat, 64 / n = a ∧ 1 ≤ a ∧ a ≤ 8 ∧ (64 : Int).tdiv (n : Int) = (a : Int) ∧ ((n : Int) == 0) = false := by
  rcases h with rfl | rfl
  · exact ⟨8, rfl, by decide, by decide, by decide, by decide⟩
  · exact ⟨1, rfl, by decide, by decide, by decide, by decide⟩
theorem step_any {n : Nat} (hn : IsN n) (w : World) :
    Calls Tryd.prog 35 #[.int .i64 n] w fun e w' => e = .returned (.int .i64 ((64 / n : Nat) : Int)) ∧ w' = w := by
  rcases hn with rfl | rfl
  all_goals
    go_enter Tryd.func35, Tryd.ntmps35
    go_wp2
    go_ret
    exact ⟨rfl, rfl⟩
theorem xang_bd {n i k : Nat} (hn : IsN n) (hi : i < 64) (hk : k < 64) : 0 ≤ xang n i k ∧ xang n i k ≤ 131072 := by
  obtain ⟨a, e, h1, h2, h3, h4⟩ := hn.div
  rw [xang, e]
  have h5 : a * (2 * i + 1) ≤ 8 * 127 := Nat.mul_le_mul h2 (by omega)
  have h6 : a * (2 * i + 1) * (2 * k + 1) ≤ (8 * 127) * 127 := Nat.mul_le_mul h5 (by omega)
  omega
theorem angle_any {n i k : Nat} (hn : IsN n) (hi : i < 64) (hk : k < 64) (w : World) :
    Calls Tryd.prog 30 #[.int .i64 n, .int .i64 i, .int .i64 k] w fun e w' => e = .returned (.int .i64 (xang n i k)) ∧ w' = w := by
  have HS : Hid (Calls Tryd.prog 35 #[.int .i64 n] w fun e w' => e = .returned (.int .i64 ((64 / n : Nat) : Int)) ∧ w' = w) := step_any hn w
  obtain ⟨a, e, h1, h2, h3, h4⟩ := hn.div
  have HX : Hid (xang n i k = ((a : Int) * (2 * (i : Int) + 1)) * (2 * (k : Int) + 1)) := by show _ = _; rw [xang, e]; simp
  rw [e] at HS
  have h5 : a * (2 * i + 1) ≤ 8 * 127 := Nat.mul_le_mul h2 (by omega)
  have h6 : a * (2 * i + 1) * (2 * k + 1) ≤ (8 * 127) * 127 := Nat.mul_le_mul h5 (by omega)
  have c1 : (a : Int) * (2 * (i : Int) + 1) = ((a * (2 * i + 1) : Nat) : Int) := by simp
  have c2 : ((a : Int) * (2 * (i : Int) + 1)) * (2 * (k : Int) + 1) = ((a * (2 * i + 1) * (2 * k + 1) : Nat) : Int) := by simp
  have q1 : wrap64 ((a : Int) * (2 * (i : Int) + 1)) = (a : Int) * (2 * (i : Int) + 1) := by rw [c1]; unfold wrap64; omega
  have q2 : wrap64 (((a : Int) * (2 * (i : Int) + 1)) * (2 * (k : Int) + 1)) = ((a : Int) * (2 * (i : Int) + 1)) * (2 * (k : Int) + 1) := by rw [c2]; unfold wrap64; omega
  clear c1 c2 h5 h6 e h3 h4 hn
  rw [HX.out]
  go_enter Tryd.func30, Tryd.ntmps30
  go_wp2_with (go_at_call 35; refine HS.out.mono ?_; rintro e w1 ⟨rfl, rfl⟩)
  go_ret
  exact ⟨ret_int q2, rfl⟩

/-- A block, of numbers that are not too great. -/
def rightF (X : Nat → Int) (len : Nat) (b : Int) : Bool := (decide (len = 8) || decide (len = 64)) && allIn (-b) b X len
theorem rightF_no {X : Nat → Int} {len : Nat} {b : Int} (h : ¬ IsN len) : rightF X len b = false := by
  unfold IsN at h
  rw [rightF, decide_eq_false (by omega), decide_eq_false (by omega)]; rfl
theorem rightF_is {X : Nat → Int} {len : Nat} {b : Int} (h : IsN len) : rightF X len b = allIn (-b) b X len := by
  unfold IsN at h
  rw [rightF, ← Bool.decide_or, decide_eq_true (by omega)]; rfl
theorem rightF_yes {X : Nat → Int} {len : Nat} {b : Int} (h : rightF X len b = true) : IsN len ∧ ∀ i, i < len → -b ≤ X i ∧ X i ≤ b := by
  by_cases hn : IsN len
  · rw [rightF_is hn, allIn_iff] at h
    exact ⟨hn, h⟩
  · rw [rightF_no hn] at h; cases h
theorem rightF_of {X : Nat → Int} {len : Nat} {b : Int} (hn : IsN len) (h : ∀ i, i < len → -b ≤ X i ∧ X i ≤ b) : rightF X len b = true := by
  rw [rightF_is hn, allIn_iff]; exact h
theorem xfits_any (b : Int) (hb : 0 ≤ b) (hb' : b ≤ 33554432) (a : Option Addr) (len cap : Nat) (X : Nat → Int) (hl : len ≤ maxLen) (w : World) (h : IsInts w a len cap X) :
    Calls Tryd.prog 16 #[.slice a len cap, .int .i64 b] w fun e w' => e = .returned (.bool (rightF X len b)) ∧ w' = w := by
  unfold maxLen at hl
  by_cases hn : IsN len
  · rw [rightF_is hn]
    rcases h with rfl | ⟨bb, off, rfl, h1, h2, h3, hc⟩
    · exact absurd hn (by unfold IsN; omega)
    clear h1 h2 h3
    rcases hn with rfl | rfl
    · clear hl
      go_enter Tryd.func16, Tryd.ntmps16
      go_wp2
      go_loop [6, 17] (fun _ i => ∃ k : Nat, k ≤ 8 ∧ i = .int .i64 k ∧ allIn (-b) b X k = true) (fun _ i => 8 - (intOf i).toNat)
      case atStart => exact ⟨0, Nat.zero_le _, rfl, rfl⟩
      case round =>
        obtain ⟨k, hk, rfl, hall⟩ := hrel
        have HA : Hid (allIn (-b) b X k = true) := hall
        clear hall
        by_cases hlt : k < 8
        · have hck := hc k hlt
          clear hc
          by_cases h1 : X k < -b
          · go_wp2
            go_ret
            exact ⟨ret_bool (allIn_no hlt (by omega)).symm, rfl⟩
          · by_cases h2 : b < X k
            · go_wp2
              go_ret
              exact ⟨ret_bool (allIn_no hlt (by omega)).symm, rfl⟩
            · go_wp2
              go_round
              case rel => exact ⟨k + 1, by omega, by go_num, by simp [allIn, HA.out]; omega⟩
              case measure => simp [intOf]; omega
        · clear hc
          go_wp2
          go_ret
          obtain rfl : k = 8 := by omega
          exact ⟨ret_bool HA.out.symm, rfl⟩
    · clear hl
      go_enter Tryd.func16, Tryd.ntmps16
      go_wp2
      go_loop [6, 17] (fun _ i => ∃ k : Nat, k ≤ 64 ∧ i = .int .i64 k ∧ allIn (-b) b X k = true) (fun _ i => 64 - (intOf i).toNat)
      case atStart => exact ⟨0, Nat.zero_le _, rfl, rfl⟩
      case round =>
        obtain ⟨k, hk, rfl, hall⟩ := hrel
        have HA : Hid (allIn (-b) b X k = true) := hall
        clear hall
        by_cases hlt : k < 64
        · have hck := hc k hlt
          clear hc
          by_cases h1 : X k < -b
          · go_wp2
            go_ret
            exact ⟨ret_bool (allIn_no hlt (by omega)).symm, rfl⟩
          · by_cases h2 : b < X k
            · go_wp2
              go_ret
              exact ⟨ret_bool (allIn_no hlt (by omega)).symm, rfl⟩
            · go_wp2
              go_round
              case rel => exact ⟨k + 1, by omega, by go_num, by simp [allIn, HA.out]; omega⟩
              case measure => simp [intOf]; omega
        · clear hc
          go_wp2
          go_ret
          obtain rfl : k = 64 := by omega
          exact ⟨ret_bool HA.out.symm, rfl⟩
  · rw [rightF_no hn]
    unfold IsN at hn
    have h8 : ((len : Int) != 8) = true := by simp; omega
    have h64 : ((len : Int) != 64) = true := by simp; omega
    clear h hn
    go_enter Tryd.func16, Tryd.ntmps16
    go_wp2
    go_ret
    exact ⟨rfl, rfl⟩
theorem xright_any (b : Int) (hb : 0 ≤ b) (hb' : b ≤ 33554432) (a : Option Addr) (len cap : Nat) (X : Nat → Int) (hl : len ≤ maxLen) (w : World) (h : IsInts w a len cap X) :
    Calls Tryd.prog 13 #[.slice a len cap, .int .i64 b] w fun e w' => e = .returned (.bool (rightF X len b)) ∧ w' = w := by
  unfold maxLen at hl
  by_cases hn : IsN len
  · rw [rightF_is hn]
    have HR : Hid (Calls Tryd.prog 25 #[.slice a len cap, .int .i64 (-b), .int .i64 b] w fun e w' => e = .returned (.bool (allIn (-b) b X len)) ∧ w' = w) :=
      rwithin_g (-b) b a len cap X (by have := hn.le; omega) w h
    generalize allIn (-b) b X len = q at *
    clear h hl
    rcases hn with rfl | rfl
    all_goals
      go_enter Tryd.func13, Tryd.ntmps13
      go_wp2_with (go_at_call 25; refine HR.out.mono ?_; rintro e w1 ⟨rfl, rfl⟩)
      go_ret
      exact ⟨rfl, rfl⟩
  · rw [rightF_no hn]
    unfold IsN at hn
    have h8 : ¬ len = 8 := by omega
    have h64 : ¬ len = 64 := by omega
    have g8 : ¬ (len : Int) = 8 := by omega
    have g64 : ¬ (len : Int) = 64 := by omega
    clear h hn
    go_enter Tryd.func13, Tryd.ntmps13
    go_wp2
    go_ret
    exact ⟨rfl, rfl⟩
end Go.Proofs.YtgkjjkdjalbfaaaDoor
