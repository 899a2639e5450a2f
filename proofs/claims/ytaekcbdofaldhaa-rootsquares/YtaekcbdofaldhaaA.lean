/-
  The contracts of package root's functions and of the document's own (splicerref06), each for every input, over the landed text.
-/
import Derived.Test.YtaekcbdofaldhaaRows
import Derived.Test.YtaekcbdofaldhaaM
import Derived.WalkKit
import Derived.ProofKit
import Derived.OpenShut
import Derived.Deep.QuietTactic
import Derived.BigQuiet
namespace Go.Proofs.Ytaekcbdofaldhaa
open Go.ChangeShapes Go.WideShapes Go.ChangeAt Go.RowKit
set_option linter.unusedVariables false

theorem ret_int {k : IntKind} {a b : Int} (h : a = b) : Ending.returned (.int k a) = .returned (.int k b) := by rw [h]
theorem ret_bool {a b : Bool} (h : a = b) : Ending.returned (.bool a) = .returned (.bool b) := by rw [h]

/-- root.hasRoot. -/
def hasF (n : Int) : Bool := decide (0 ≤ n) && decide (n ≤ 1152921504606846976)
theorem has_any (n : Int) (w : World) :
    Calls Try.prog 12 #[.int .i64 n] w fun e w' => e = .returned (.bool (hasF n)) ∧ w' = w := by
  go_enter Try.func12, Try.ntmps12
  go_wp2
  all_goals (go_ret; exact ⟨ret_bool (by simp [hasF]; omega), rfl⟩)

/-- root.Log, of any int. -/
theorem log_any (n : Int) (h : n ≤ 9223372036854775807) (w : World) :
    Calls Try.prog 7 #[.int .i64 n] w fun e w' => e = .returned (.int .i64 (logF n)) ∧ w' = w := by
  have hl := log_le h
  go_enter Try.func7, Try.ntmps7
  go_wp2
  go_loop [0, 3] (fun x k => ∃ m c : Int, x = .int .i64 m ∧ k = .int .i64 c ∧ m ≤ 9223372036854775807 ∧ 0 ≤ c ∧ c + logF m = logF n) (fun x k => (intOf x).toNat)
  case atStart => exact ⟨n, 0, rfl, rfl, h, by omega, by omega⟩
  case round =>
    obtain ⟨m, c, rfl, rfl, hm9, h0, hs⟩ := hrel
    by_cases hm : 1 < m
    · have hh := log_half hm
      have h2 := log_nonneg (m / 2)
      have HA : Hid (c + logF m = logF n) := hs
      have HB : Hid (logF m = logF (m / 2) + 1) := hh
      have hc : c ≤ 61 := by omega
      clear hs hh h2 hl
      go_wp2
      go_round
      case rel => exact ⟨m / 2, c + 1, rfl, rfl, by omega, by omega, by have := HA.out; have := HB.out; omega⟩
      case measure => simp [intOf]; omega
    · have e := log_low (n := m) (by omega)
      go_wp2
      go_ret
      exact ⟨ret_int (by omega), rfl⟩

/-- The document's Log, of any int. -/
theorem logR_any (n : Int) (h : n ≤ 9223372036854775807) (w : World) :
    Calls Try.prog 8 #[.int .i64 n] w fun e w' => e = .returned (.int .i64 (logF n)) ∧ w' = w := by
  have hl := log_le h
  go_enter Try.func8, Try.ntmps8
  go_wp2
  go_loop [0, 3] (fun x k => ∃ m c : Int, x = .int .i64 m ∧ k = .int .i64 c ∧ m ≤ 9223372036854775807 ∧ 0 ≤ c ∧ c + logF m = logF n) (fun x k => (intOf x).toNat)
  case atStart => exact ⟨n, 0, rfl, rfl, h, by omega, by omega⟩
  case round =>
    obtain ⟨m, c, rfl, rfl, hm9, h0, hs⟩ := hrel
    by_cases hm : 1 < m
    · have hh := log_half hm
      have h2 := log_nonneg (m / 2)
      have HA : Hid (c + logF m = logF n) := hs
      have HB : Hid (logF m = logF (m / 2) + 1) := hh
      have hc : c ≤ 61 := by omega
      clear hs hh h2 hl
      go_wp2
      go_round
      case rel => exact ⟨m / 2, c + 1, rfl, rfl, by omega, by omega, by have := HA.out; have := HB.out; omega⟩
      case measure => simp [intOf]; omega
    · have e := log_low (n := m) (by omega)
      go_wp2
      go_ret
      exact ⟨ret_int (by omega), rfl⟩

theorem sq_wrap {a : Int} (h0 : 0 ≤ a) (h1 : a ≤ 2147483648) : wrap64 (a * a) = a * a := by
  have g := sq_le h0 h1
  have p : 0 ≤ a * a := Int.mul_nonneg h0 h0
  generalize a * a = q at g p ⊢
  unfold wrap64; omega

/-- root.Sqrt, of any int. -/
theorem sqrt_any (n : Int) (w : World) :
    Calls Try.prog 5 #[.int .i64 n] w fun e w' => e = .returned (.int .i64 (rootF n)) ∧ w' = w := by
  by_cases hn : n < 0 ∨ 1152921504606846976 < n
  · have hb : hasF n = false := by simp [hasF]; omega
    have HE : Hid (rootF n = 0) := rootF_out hn
    clear hn
    go_enter Try.func5, Try.ntmps5
    go_wp2_with (go_at_call 12; refine (has_any _ _).mono ?_; rintro e w6 ⟨rfl, rfl⟩)
    go_ret
    exact ⟨ret_int HE.out.symm, rfl⟩
  · have hb : hasF n = true := by simp [hasF]; omega
    have h0 : 0 ≤ n := by omega
    have h1 : n ≤ 1152921504606846976 := by omega
    clear hn
    go_enter Try.func5, Try.ntmps5
    go_wp2_with (go_at_call 12; refine (has_any _ _).mono ?_; rintro e w6 ⟨rfl, rfl⟩)
    go_loop [9, 3] (fun i x => ∃ (k : Nat) (r : Int), i = .int .i64 k ∧ x = .int .i64 r ∧ k ≤ 31 ∧ 0 ≤ r ∧ r + 2 ^ (31 - k) ≤ 2147483648 ∧ r * r ≤ n ∧ n < (r + 2 ^ (31 - k)) * (r + 2 ^ (31 - k))) (fun i x => 31 - (intOf i).toNat)
    case atStart => exact ⟨0, 0, rfl, rfl, by omega, by omega, by decide, by omega, by show n < 4611686018427387904; omega⟩
    case round =>
      obtain ⟨k, r, rfl, rfl, hk, hr, hs, g1, g2⟩ := hrel
      by_cases hlt : k < 31
      · obtain ⟨d, hd⟩ : ∃ d : Int, d = 2 ^ (30 - k) := ⟨_, rfl⟩
        have hS : (1073741824 : Int) / 2 ^ k = d := by rw [hd]; exact shr_pow hlt
        have dp : 0 < d := by rw [hd]; exact Int.pow_pos (by omega)
        rw [half_pow hlt, ← hd] at hs g2
        have dk : d = 2 ^ (31 - (k + 1)) := by rw [hd, show 31 - (k + 1) = 30 - k by omega]
        have HD : Hid (d = 2 ^ (31 - (k + 1))) := dk
        clear hd dk
        have HW : Hid (wrap64 ((r + d) * (r + d)) = (r + d) * (r + d)) := sq_wrap (by omega) (by omega)
        go_wp2
        · rename_i hy
          rw [HW.out] at hy
          go_round
          case rel => exact ⟨k + 1, r + d, by go_num, rfl, by omega, by omega, by rw [← HD.out]; omega, hy, by rw [← HD.out, show r + d + d = r + 2 * d by omega]; exact g2⟩
          case measure => simp [intOf]; omega
        · rename_i hy
          rw [HW.out] at hy
          go_round
          case rel => exact ⟨k + 1, r, by go_num, rfl, by omega, by omega, by rw [← HD.out]; omega, g1, by rw [← HD.out]; exact hy⟩
          case measure => simp [intOf]; omega
      · obtain rfl : k = 31 := by omega
        have e : rootF n = r := rootF_eq hr g1 g2 h1
        have HE : Hid (rootF n = r) := e
        clear e g1 g2
        go_wp2
        go_ret
        exact ⟨ret_int HE.out.symm, rfl⟩

/-- The document's Sqrt, of any int. -/
theorem sqrtR_any (n : Int) (w : World) :
    Calls Try.prog 6 #[.int .i64 n] w fun e w' => e = .returned (.int .i64 (rootF n)) ∧ w' = w := by
  by_cases ha : n < 0
  · have HE : Hid (rootF n = 0) := rootF_out (.inl ha)
    go_enter Try.func6, Try.ntmps6
    go_wp2
    go_ret
    exact ⟨ret_int HE.out.symm, rfl⟩
  by_cases hb : 1152921504606846976 < n
  · have HE : Hid (rootF n = 0) := rootF_out (.inr hb)
    go_enter Try.func6, Try.ntmps6
    go_wp2
    go_ret
    exact ⟨ret_int HE.out.symm, rfl⟩
  go_enter Try.func6, Try.ntmps6
  go_wp2
  go_loop [3, 4] (fun x y => ∃ l h : Int, x = .int .i64 l ∧ y = .int .i64 h ∧ 0 ≤ l ∧ l < h ∧ h ≤ 1073741825 ∧ l * l ≤ n ∧ n < h * h) (fun x y => (intOf y - intOf x).toNat)
  case atStart => exact ⟨0, 1073741825, rfl, rfl, by omega, by omega, by omega, by omega, by show n < 1152921506754330625; omega⟩
  case round =>
    obtain ⟨l, h, rfl, rfl, h0, h1, h2, g1, g2⟩ := hrel
    by_cases hlt : 1 < h - l
    · have HW : Hid (wrap64 (((l + h) / 2) * ((l + h) / 2)) = ((l + h) / 2) * ((l + h) / 2)) := sq_wrap (by omega) (by omega)
      go_wp2
      · rename_i hy
        rw [HW.out] at hy
        go_round
        case rel => exact ⟨(l + h) / 2, h, rfl, rfl, by omega, by omega, by omega, hy, g2⟩
        case measure => simp [intOf]; omega
      · rename_i hy
        rw [HW.out] at hy
        go_round
        case rel => exact ⟨l, (l + h) / 2, rfl, rfl, by omega, by omega, by omega, g1, hy⟩
        case measure => simp [intOf]; omega
    · obtain rfl : h = l + 1 := by omega
      have HE : Hid (rootF n = l) := rootF_eq h0 g1 g2 (by omega)
      clear g1 g2
      go_wp2
      go_ret
      exact ⟨ret_int HE.out.symm, rfl⟩

/-- root.Near, of any int. -/
theorem near_any (n : Int) (w : World) :
    Calls Try.prog 9 #[.int .i64 n] w fun e w' => e = .returned (.int .i64 (nearF n)) ∧ w' = w := by
  by_cases hn : n < 0 ∨ 1152921504606846976 < n
  · have hb : hasF n = false := by simp [hasF]; omega
    have HE : Hid (nearF n = 0) := nearF_out hn
    clear hn
    go_enter Try.func9, Try.ntmps9
    go_wp2_with (go_at_call 12; refine (has_any _ _).mono ?_; rintro e w6 ⟨rfl, rfl⟩)
    go_ret
    exact ⟨ret_int HE.out.symm, rfl⟩
  · have hb : hasF n = true := by simp [hasF]; omega
    have h0 : 0 ≤ n := by omega
    have h1 : n ≤ 1152921504606846976 := by omega
    clear hn
    have HE : Hid (nearF n = if rootF n < n - rootF n * rootF n then rootF n + 1 else rootF n) := nearF_in h0 h1
    obtain ⟨r0, r1, r2, r3⟩ := rootF_facts h0 h1
    have HC : Hid (∀ w : World, Calls Try.prog 5 #[.int .i64 n] w fun e w' => e = .returned (.int .i64 (rootF n)) ∧ w' = w) := fun w => sqrt_any n w
    have hw : wrap64 (rootF n * rootF n) = rootF n * rootF n := sq_wrap r0 (by omega)
    have p : 0 ≤ rootF n * rootF n := Int.mul_nonneg r0 r0
    have HQ : Hid (n < (rootF n + 1) * (rootF n + 1)) := r3
    clear r3
    generalize rootF n = r at *
    by_cases hc : r < n - r * r
    · go_enter Try.func9, Try.ntmps9
      go_wp2_with (first | (go_at_call 12; refine (has_any _ _).mono ?_; rintro e w6 ⟨rfl, rfl⟩) | (go_at_call 5; refine (HC.out _).mono ?_; rintro e w7 ⟨rfl, rfl⟩))
      go_ret
      exact ⟨ret_int (by rw [HE.out, if_pos hc]), rfl⟩
    · go_enter Try.func9, Try.ntmps9
      go_wp2_with (first | (go_at_call 12; refine (has_any _ _).mono ?_; rintro e w6 ⟨rfl, rfl⟩) | (go_at_call 5; refine (HC.out _).mono ?_; rintro e w7 ⟨rfl, rfl⟩))
      go_ret
      exact ⟨ret_int (by rw [HE.out, if_neg (by omega)]), rfl⟩

/-- The document's Near, of any int. -/
theorem nearR_any (n : Int) (w : World) :
    Calls Try.prog 10 #[.int .i64 n] w fun e w' => e = .returned (.int .i64 (nearF n)) ∧ w' = w := by
  by_cases ha : n < 0
  · have HE : Hid (nearF n = 0) := nearF_out (.inl ha)
    go_enter Try.func10, Try.ntmps10
    go_wp2
    go_ret
    exact ⟨ret_int HE.out.symm, rfl⟩
  by_cases hb : 1152921504606846976 < n
  · have HE : Hid (nearF n = 0) := nearF_out (.inr hb)
    go_enter Try.func10, Try.ntmps10
    go_wp2
    go_ret
    exact ⟨ret_int HE.out.symm, rfl⟩
  have h0 : 0 ≤ n := by omega
  have h1 : n ≤ 1152921504606846976 := by omega
  clear ha hb
  have HE : Hid (nearF n = if rootF n < n - rootF n * rootF n then rootF n + 1 else rootF n) := nearF_in h0 h1
  obtain ⟨r0, r1, r2, r3⟩ := rootF_facts h0 h1
  have HC : Hid (∀ w : World, Calls Try.prog 6 #[.int .i64 n] w fun e w' => e = .returned (.int .i64 (rootF n)) ∧ w' = w) := fun w => sqrtR_any n w
  have hw : wrap64 (rootF n * rootF n) = rootF n * rootF n := sq_wrap r0 (by omega)
  have hw2 : wrap64 ((rootF n + 1) * (rootF n + 1)) = rootF n * rootF n + 2 * rootF n + 1 := (sq_wrap (by omega) (by omega)).trans (sqi_succ _)
  have p : 0 ≤ rootF n * rootF n := Int.mul_nonneg r0 r0
  rw [sqi_succ] at r3
  generalize rootF n = r at *
  by_cases hc : r < n - r * r
  · have hd : r * r + 2 * r + 1 - n < n - r * r := by omega
    go_enter Try.func10, Try.ntmps10
    go_wp2_with (go_at_call 6; refine (HC.out _).mono ?_; rintro e w7 ⟨rfl, rfl⟩)
    go_ret
    exact ⟨ret_int (by rw [HE.out, if_pos hc]), rfl⟩
  · have hd : ¬ r * r + 2 * r + 1 - n < n - r * r := by omega
    go_enter Try.func10, Try.ntmps10
    go_wp2_with (go_at_call 6; refine (HC.out _).mono ?_; rintro e w7 ⟨rfl, rfl⟩)
    go_ret
    exact ⟨ret_int (by rw [HE.out, if_neg (by omega)]), rfl⟩
end Go.Proofs.Ytaekcbdofaldhaa
