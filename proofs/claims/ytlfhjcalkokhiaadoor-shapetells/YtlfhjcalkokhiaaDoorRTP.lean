/-
  root.hasRoot, root.Sqrt.
-/
import Derived.Test.YtlfhjcalkokhiaaDoorN
import Derived.Test.YtlfhjcalkokhiaaDoorRTM
namespace Go.Proofs.YtlfhjcalkokhiaaDoor
open Go.ChangeShapes Go.WideShapes Go.ChangeAt Go.RowKit
set_option linter.unusedVariables false

/-- root.hasRoot. -/
def hasF (n : Int) : Bool := decide (0 ≤ n) && decide (n ≤ 1152921504606846976)
theorem has_any (n : Int) (w : World) :
    Calls Tryd.prog 37 #[.int .i64 n] w fun e w' => e = .returned (.bool (hasF n)) ∧ w' = w := by
  go_enter Tryd.func37, Tryd.ntmps37
  go_wp2
  all_goals (go_ret; exact ⟨ret_bool (by simp [hasF]; omega), rfl⟩)

/-- root.Sqrt, of any int. -/
theorem sqrt_any (n : Int) (w : World) :
    Calls Tryd.prog 19 #[.int .i64 n] w fun e w' => e = .returned (.int .i64 (rootF n)) ∧ w' = w := by
  by_cases hn : n < 0 ∨ 1152921504606846976 < n
  · have hb : hasF n = false := by simp [hasF]; omega
    have HE : Hid (rootF n = 0) := rootF_out hn
    clear hn
    go_enter Tryd.func19, Tryd.ntmps19
    go_wp2_with (go_at_call 37; refine (has_any _ _).mono ?_; rintro e w6 ⟨rfl, rfl⟩)
    go_ret
    exact ⟨ret_int HE.out.symm, rfl⟩
  · have hb : hasF n = true := by simp [hasF]; omega
    have h0 : 0 ≤ n := by omega
    have h1 : n ≤ 1152921504606846976 := by omega
    clear hn
    go_enter Tryd.func19, Tryd.ntmps19
    go_wp2_with (go_at_call 37; refine (has_any _ _).mono ?_; rintro e w6 ⟨rfl, rfl⟩)
    go_loop [9, 3] (fun i x => ∃ (k : Nat) (r : Int), i = .int .i64 k ∧ x = .int .i64 r ∧ k ≤ 31 ∧ 0 ≤ r ∧ r + 2 ^ (31 - k) ≤ 2147483648 ∧ r * r ≤ n ∧ n < (r + 2 ^ (31 - k)) * (r + 2 ^ (31 - k))) (fun i x => 31 - (intOf i).toNat)
    case atStart => exact ⟨0, 0, rfl, rfl, by omega, by omega, by decide, by omega, by show n < 4611686018427387904; omega⟩
    case round =>
      obtain ⟨k, r, rfl, rfl, hk, hr, hs, g1, g2⟩ := hrel
      by_cases hlt : k < 31
      · obtain ⟨d, hd⟩ : ∃ d : Int, d = 2 ^ (30 - k) := ⟨_, rfl⟩
        have hS : (1073741824 : Int) / 2 ^ k = d := by rw [hd]; exact shr_pow hlt
        have dp : 0 < d := by rw [hd]; exact Int.pow_pos (by omega)
        rw [half_pow hlt, ← hd] at hs g2
        have dk : d = 2 ^ (31 - (k + 1)) := by rw [hd, show 31 - (k + 1) = 30 - k by omega]
        have HD : Hid (d = 2 ^ (31 - (k + 1))) := dk
        clear hd dk
        have HW : Hid (wrap64 ((r + d) * (r + d)) = (r + d) * (r + d)) := sq_wrap (by omega) (by omega)
        go_wp2
        · rename_i hy
          rw [HW.out] at hy
          go_round
          case rel => exact ⟨k + 1, r + d, by go_num, rfl, by omega, by omega, by rw [← HD.out]; omega, hy, by rw [← HD.out, show r + d + d = r + 2 * d by omega]; exact g2⟩
          case measure => simp [intOf]; omega
        · rename_i hy
          rw [HW.out] at hy
          go_round
          case rel => exact ⟨k + 1, r, by go_num, rfl, by omega, by omega, by rw [← HD.out]; omega, g1, by rw [← HD.out]; exact hy⟩
          case measure => simp [intOf]; omega
      · obtain rfl : k = 31 := by omega
        have e : rootF n = r := rootF_eq hr g1 g2 h1
        have HE : Hid (rootF n = r) := e
        clear e g1 g2
        go_wp2
        go_ret
        exact ⟨ret_int HE.out.symm, rfl⟩

end Go.Proofs.YtlfhjcalkokhiaaDoor
