/-
  Package num over plain integers, and what its contracts lean on.
-/
import Derived.Test.YtgbehapekfoaiaaRows
import Derived.WalkKit
import Derived.ProofKit
import Derived.OpenShut
import Derived.Deep.QuietTactic
import Derived.BigQuiet
import Derived.Below
namespace Go.Proofs.Ytgbehapekfoaiaa
open Go.ChangeShapes Go.WideShapes Go.ChangeAt Go.RowKit
set_option linter.unusedVariables false

theorem ret_int {k : IntKind} {a b : Int} (h : a = b) : Ending.returned (.int k a) = .returned (.int k b) := by rw [h]

theorem ret_bool {a b : Bool} (h : a = b) : Ending.returned (.bool a) = .returned (.bool b) := by rw [h]

theorem below_drewN {B : Nat} {a w : World} (h : Below B a w) (n : Nat) : Below B a (w.drewN n) := by
  induction n generalizing w with
  | zero => exact h
  | succ n ih => exact (ih h).drew
/-- Two calls behind one another, each of which leaves what it found. -/
theorem below_then {a b c : World} (h : Below a.heap.size a b) (k : Below b.heap.size b c) : Below a.heap.size a c := h.trans (k.mono h.size)
theorem tdm (a b : Int) (hb : 1 ≤ b) (h0 : a < 0) : a.tdiv b * b + a.tmod b = a ∧ -b < a.tmod b ∧ a.tmod b ≤ 0 ∧ a ≤ a.tdiv b ∧ a.tdiv b ≤ 0 := by
  obtain ⟨c, rfl⟩ : ∃ c, a = -c := ⟨-a, by omega⟩
  have e1 : (-c).tdiv b = -(c / b) := by rw [Int.neg_tdiv, Int.tdiv_eq_ediv_of_nonneg (by omega)]
  have e2 : (-c).tmod b = -(c % b) := by rw [Int.neg_tmod, Int.tmod_eq_emod_of_nonneg (by omega)]
  have e3 := Int.mul_ediv_add_emod c b
  have e4 := Int.emod_nonneg c (show b ≠ 0 by omega)
  have e5 := Int.emod_lt_of_pos c (show 0 < b by omega)
  have e6 : c / b ≤ c := Int.ediv_le_self _ (by omega)
  have e7 : 0 ≤ c / b := Int.ediv_nonneg (by omega) (by omega)
  rw [e1, e2]
  refine ⟨?_, by omega, by omega, by omega, by omega⟩
  rw [Int.neg_mul, Int.mul_comm (c / b) b]; omega
theorem dm_of {a b q r : Int} (hb : 1 ≤ b) (h : q * b + r = a) (h1 : 0 ≤ r) (h2 : r < b) : q = a / b ∧ r = a % b := by
  have := (Int.ediv_emod_unique (a := a) (b := b) (r := r) (q := q) (by omega)).2 ⟨by rw [Int.mul_comm]; omega, h1, h2⟩
  exact ⟨this.1.symm, this.2.symm⟩
theorem ret_two {k : IntKind} {a b c d : Int} (h : a = c ∧ b = d) : Ending.returned (.tuple #[.int k a, .int k b]) = .returned (.tuple #[.int k c, .int k d]) := by rw [h.1, h.2]
theorem dm_step {a b q r : Int} (hb : 1 ≤ b) (h : q * b + r = a) (h1 : r < 0) (h2 : -b < r) : q - 1 = a / b ∧ r + b = a % b :=
  dm_of hb (by rw [Int.sub_mul]; omega) (by omega) (by omega)
theorem pow_le60 (n : Int) (h4 : n ≤ 60) : 1 ≤ (2 : Int) ^ n.toNat ∧ (2 : Int) ^ n.toNat ≤ 1152921504606846976 := by
  have h : n.toNat ≤ 60 := by omega
  have a := Nat.pow_le_pow_right (n := 2) (by omega) h
  have b := Nat.one_le_two_pow (n := n.toNat)
  have e : ((2 ^ n.toNat : Nat) : Int) = (2 : Int) ^ n.toNat := by simp
  rw [← e]
  omega
def shrF (x n : Int) : Int := if -2305843009213693952 ≤ x ∧ x ≤ 2305843009213693952 ∧ 0 ≤ n ∧ n ≤ 60 then (x + 2 ^ n.toNat / 2) / 2 ^ n.toNat else 0
def modQ (a b : Int) : Int := if b < 1 then 0 else a / b
def modR (a b : Int) : Int := if b < 1 then 0 else a % b
theorem modQ_of {a b : Int} (h : 1 ≤ b) : modQ a b = a / b := by rw [modQ, if_neg (by omega)]
theorem modR_of {a b : Int} (h : 1 ≤ b) : modR a b = a % b := by rw [modR, if_neg (by omega)]
def divF (a b : Int) : Int := if -1152921504606846976 ≤ a ∧ a ≤ 1152921504606846976 ∧ 1 ≤ b ∧ b ≤ 1152921504606846976 then (a + b / 2) / b else 0
/-! the document's own Div and Shr: of a fraction that is left of half and more, one more -/
theorem round_up {a b : Int} (hb : 1 ≤ b) (h : b ≤ 2 * (a % b)) : (a + b / 2) / b = a / b + 1 := by
  have e3 := Int.mul_ediv_add_emod a b
  have e5 := Int.emod_lt_of_pos a (show 0 < b by omega)
  have := dm_of (a := a + b / 2) (b := b) (q := a / b + 1) (r := a % b + b / 2 - b) hb (by rw [Int.add_mul, Int.mul_comm (a / b) b]; omega) (by omega) (by omega)
  exact this.1.symm
theorem round_down {a b : Int} (hb : 1 ≤ b) (h : 2 * (a % b) < b) : (a + b / 2) / b = a / b := by
  have e3 := Int.mul_ediv_add_emod a b
  have e4 := Int.emod_nonneg a (show b ≠ 0 by omega)
  have := dm_of (a := a + b / 2) (b := b) (q := a / b) (r := a % b + b / 2) hb (by rw [Int.mul_comm (a / b) b]; omega) (by omega) (by omega)
  exact this.1.symm
theorem quo_bd {a b : Int} (hb : 1 ≤ b) (h1 : -2305843009213693952 ≤ a) (h2 : a ≤ 2305843009213693952) : -2305843009213693952 ≤ a / b ∧ a / b ≤ 2305843009213693952 := by
  constructor
  · have := (Int.le_ediv_iff_mul_le (a := -2305843009213693952) (b := a) (c := b) (by omega)).2 (by
      have : -2305843009213693952 * b ≤ -2305843009213693952 * 1 := by omega
      omega)
    exact this
  · by_cases h0 : 0 ≤ a
    · have := Int.ediv_le_self (a := a) b h0; omega
    · have := Int.ediv_neg_of_neg_of_pos (a := a) (b := b) (by omega) (by omega); omega
def absF (x : Int) : Int := if -4611686018427387904 ≤ x ∧ x ≤ 4611686018427387904 then max x (-x) else 0
def satF (x : Int) : Int := max (-32768) (min x 32767)
theorem absF_nat {x : Int} (h : x.natAbs ≤ 4611686018427387904) : absF x = ((x.natAbs : Nat) : Int) := by
  rw [absF, if_pos (by omega)]; omega
end Go.Proofs.Ytgbehapekfoaiaa
