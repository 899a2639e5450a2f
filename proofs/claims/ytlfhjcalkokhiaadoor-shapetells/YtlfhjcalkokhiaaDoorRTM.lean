/-
  Roots and halvings over plain numbers: what the contracts of package root and of the document's own answer speak of. It imports nothing of the program.
-/
import Derived.Test.YtlfhjcalkokhiaaDoorN
namespace Go.Proofs.YtlfhjcalkokhiaaDoor
open Go.ChangeShapes Go.WideShapes Go.ChangeAt Go.RowKit
set_option linter.unusedVariables false

/-- The greatest number whose square is not above n. -/
def root : Nat → Nat
  | 0 => 0
  | n + 1 => if (root n + 1) * (root n + 1) ≤ n + 1 then root n + 1 else root n

theorem sq_succ (r : Nat) : (r + 1) * (r + 1) = r * r + 2 * r + 1 := by
  rw [Nat.add_mul, Nat.mul_add]; omega

theorem root_both (n : Nat) : root n * root n ≤ n ∧ n < (root n + 1) * (root n + 1) := by
  induction n with
  | zero => simp [root]
  | succ n ih =>
    obtain ⟨h1, h2⟩ := ih
    rw [root]
    by_cases h : (root n + 1) * (root n + 1) ≤ n + 1
    · rw [if_pos h]
      refine ⟨h, ?_⟩
      have e := sq_succ (root n + 1)
      omega
    · rw [if_neg h]; omega

theorem sq_lt {a b : Nat} (h : a * a < b * b) : a < b := by
  rcases Nat.lt_or_ge a b with k | k
  · exact k
  · have := Nat.mul_le_mul k k; omega

theorem root_eq {n r : Nat} (h1 : r * r ≤ n) (h2 : n < (r + 1) * (r + 1)) : root n = r := by
  obtain ⟨g1, g2⟩ := root_both n
  have a := sq_lt (a := root n) (b := r + 1) (by omega)
  have b := sq_lt (a := r) (b := root n + 1) (by omega)
  omega

theorem root_mono {a b : Nat} (h : a ≤ b) : root a ≤ root b := by
  obtain ⟨g1, g2⟩ := root_both a
  obtain ⟨k1, k2⟩ := root_both b
  have := sq_lt (a := root a) (b := root b + 1) (by omega)
  omega

theorem root_sq (r : Nat) : root (r * r) = r := root_eq (Nat.le_refl _) (by have := sq_succ r; omega)

theorem root_max {n : Nat} (h : n ≤ 1152921504606846976) : root n ≤ 1073741824 := by
  have := root_mono h
  have e : root 1152921504606846976 = 1073741824 := root_eq (by decide) (by decide)
  omega

/-- What Sqrt answers, of any number. -/
def rootF (n : Int) : Int := if 0 ≤ n ∧ n ≤ 1152921504606846976 then (root n.toNat : Nat) else 0
theorem rootF_in {n : Int} (h1 : 0 ≤ n) (h2 : n ≤ 1152921504606846976) : rootF n = (root n.toNat : Nat) := if_pos ⟨h1, h2⟩
theorem rootF_out {n : Int} (h : n < 0 ∨ 1152921504606846976 < n) : rootF n = 0 := if_neg (by omega)

/-- A root by its two squares, of whole numbers with a sign. -/
theorem rootF_eq {n r : Int} (h0 : 0 ≤ r) (h1 : r * r ≤ n) (h2 : n < (r + 1) * (r + 1)) (h3 : n ≤ 1152921504606846976) : rootF n = r := by
  obtain ⟨k, rfl⟩ := Int.eq_ofNat_of_zero_le h0
  have hp : (0 : Int) ≤ (k : Int) * k := Int.mul_nonneg h0 h0
  have hn : 0 ≤ n := by omega
  obtain ⟨m, rfl⟩ := Int.eq_ofNat_of_zero_le hn
  rw [rootF_in hn h3]
  have e := root_eq (n := m) (r := k) (by exact_mod_cast h1) (by exact_mod_cast h2)
  simp [e]

theorem rootF_facts {n : Int} (h1 : 0 ≤ n) (h2 : n ≤ 1152921504606846976) :
    0 ≤ rootF n ∧ rootF n ≤ 1073741824 ∧ rootF n * rootF n ≤ n ∧ n < (rootF n + 1) * (rootF n + 1) := by
  rw [rootF_in h1 h2]
  obtain ⟨m, rfl⟩ := Int.eq_ofNat_of_zero_le h1
  obtain ⟨g1, g2⟩ := root_both m
  have g3 := root_max (n := m) (by omega)
  simp only [Int.toNat_natCast]
  refine ⟨by omega, by omega, by exact_mod_cast g1, by exact_mod_cast g2⟩

theorem rootF_mono {a b : Int} (h1 : 0 ≤ a) (h2 : a ≤ b) (h3 : b ≤ 1152921504606846976) : rootF a ≤ rootF b := by
  rw [rootF_in h1 (by omega), rootF_in (by omega) h3]
  have := root_mono (a := a.toNat) (b := b.toNat) (by omega)
  omega

/-- What Near answers, of any number. -/
def nearF (n : Int) : Int := if 0 ≤ n ∧ n ≤ 1152921504606846976 then (if rootF n < n - rootF n * rootF n then rootF n + 1 else rootF n) else 0
theorem nearF_in {n : Int} (h1 : 0 ≤ n) (h2 : n ≤ 1152921504606846976) : nearF n = if rootF n < n - rootF n * rootF n then rootF n + 1 else rootF n := if_pos ⟨h1, h2⟩
theorem nearF_out {n : Int} (h : n < 0 ∨ 1152921504606846976 < n) : nearF n = 0 := if_neg (by omega)

/-- What Log answers, of any number. -/
def logF (n : Int) : Int := (Nat.log2 n.toNat : Nat)
theorem log_low {n : Int} (h : n ≤ 1) : logF n = 0 := by
  rw [logF, Nat.log2_def, if_neg (by omega)]; rfl
theorem log_half {n : Int} (h : 1 < n) : logF n = logF (n / 2) + 1 := by
  rw [logF, Nat.log2_def, if_pos (by omega), logF]
  have : n.toNat / 2 = (n / 2).toNat := by omega
  rw [this]; omega
theorem log_nonneg (n : Int) : 0 ≤ logF n := by unfold logF; omega
theorem log_pow {n : Int} (h : 0 < n) : (2 : Int) ^ (logF n).toNat ≤ n ∧ n < 2 ^ ((logF n).toNat + 1) := by
  unfold logF
  obtain ⟨m, rfl⟩ := Int.eq_ofNat_of_zero_le (show 0 ≤ n by omega)
  simp only [Int.toNat_natCast]
  have hm : m ≠ 0 := by omega
  have a := Nat.log2_self_le hm
  have b := @Nat.lt_log2_self m
  exact ⟨by exact_mod_cast a, by exact_mod_cast b⟩
theorem log_le {n : Int} (h : n ≤ 9223372036854775807) : logF n ≤ 62 := by
  by_cases h0 : 0 < n
  · obtain ⟨a, b⟩ := log_pow h0
    have hn := log_nonneg n
    rcases Int.lt_or_le 62 (logF n) with k | k
    · have : (2 : Int) ^ 63 ≤ 2 ^ (logF n).toNat := by
        have := Nat.pow_le_pow_right (n := 2) (by omega) (show 63 ≤ (logF n).toNat by omega)
        exact_mod_cast this
      omega
    · exact k
  · rw [log_low (by omega)]; omega
theorem log_le60 {n : Int} (h : n ≤ 1152921504606846976) : logF n ≤ 60 := by
  by_cases h0 : 0 < n
  · obtain ⟨a, b⟩ := log_pow h0
    have hn := log_nonneg n
    rcases Int.lt_or_le 60 (logF n) with k | k
    · have : (2 : Int) ^ 61 ≤ 2 ^ (logF n).toNat := by
        have := Nat.pow_le_pow_right (n := 2) (by omega) (show 61 ≤ (logF n).toNat by omega)
        exact_mod_cast this
      omega
    · exact k
  · rw [log_low (by omega)]; omega
/-- What is shifted by its halvings is 1. -/
theorem log_shift {n : Int} (h : 0 < n) : n / 2 ^ (logF n).toNat = 1 := by
  obtain ⟨a, b⟩ := log_pow h
  rw [Int.pow_succ] at b
  have p : (0 : Int) < 2 ^ (logF n).toNat := Int.pow_pos (by omega)
  apply Int.le_antisymm
  · have := Int.ediv_lt_of_lt_mul p (show n < 2 * 2 ^ (logF n).toNat by omega)
    omega
  · exact (Int.le_ediv_iff_mul_le p).2 (by omega)

theorem sq_le {a b : Int} (h0 : 0 ≤ a) (h : a ≤ b) : a * a ≤ b * b := by
  have := Int.mul_le_mul h h h0 (by omega); exact this
theorem sqi_succ (r : Int) : (r + 1) * (r + 1) = r * r + 2 * r + 1 := by
  rw [Int.add_mul, Int.mul_add]; omega
theorem half_pow {i : Nat} (h : i < 31) : (2 : Int) ^ (31 - i) = 2 * 2 ^ (30 - i) := by
  rw [show 31 - i = (30 - i) + 1 by omega, Int.pow_succ]; omega
theorem shr_pow {i : Nat} (h : i < 31) : (1073741824 : Int) / 2 ^ i = 2 ^ (30 - i) := by
  have e : (1073741824 : Int) = 2 ^ (30 - i) * 2 ^ i := by
    rw [← Int.pow_add, show 30 - i + i = 30 by omega]; rfl
  rw [e]
  exact Int.mul_ediv_cancel _ (by have : (0 : Int) < 2 ^ i := Int.pow_pos (by omega)
                                  omega)
theorem sq_wrap {a : Int} (h0 : 0 ≤ a) (h1 : a ≤ 2147483648) : wrap64 (a * a) = a * a := by
  have g := sq_le h0 h1
  have p : 0 ≤ a * a := Int.mul_nonneg h0 h0
  generalize a * a = q at g p ⊢
  unfold wrap64; omega

end Go.Proofs.YtlfhjcalkokhiaaDoor
