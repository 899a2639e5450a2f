/-
  Package num over plain integers, and what its contracts lean on.
-/
import Derived.Test.YtfhcfdepjhdhfaaDoorRows
import Derived.WalkKit
import Derived.ProofKit
import Derived.OpenShut
import Derived.Deep.QuietTactic
import Derived.BigQuiet
import Derived.Below
namespace Go.Proofs.YtfhcfdepjhdhfaaDoor
open Go.ChangeShapes Go.WideShapes Go.ChangeAt Go.RowKit
set_option linter.unusedVariables false

theorem ret_int {k : IntKind} {a b : Int} (h : a = b) : Ending.returned (.int k a) = .returned (.int k b) := by rw [h]

theorem ret_bool {a b : Bool} (h : a = b) : Ending.returned (.bool a) = .returned (.bool b) := by rw [h]

theorem below_drewN {B : Nat} {a w : World} (h : Below B a w) (n : Nat) : Below B a (w.drewN n) := by
  induction n generalizing w with
  | zero => exact h
  | succ n ih => exact (ih h).drew
/-- Two calls behind one another, each of which leaves what it found. -/
theorem below_then {a b c : World} (h : Below a.heap.size a b) (k : Below b.heap.size b c) : Below a.heap.size a c := h.trans (k.mono h.size)
theorem tdm (a b : Int) (hb : 1 ≤ b) (h0 : a < 0) : a.tdiv b * b + a.tmod b = a ∧ -b < a.tmod b ∧ a.tmod b ≤ 0 ∧ a ≤ a.tdiv b ∧ a.tdiv b ≤ 0 := by
  obtain ⟨c, rfl⟩ : ∃ c, a = -c := ⟨-a, by omega⟩
  have e1 : (-c).tdiv b = -(c / b) := by rw [Int.neg_tdiv, Int.tdiv_eq_ediv_of_nonneg (by omega)]
  have e2 : (-c).tmod b = -(c % b) := by rw [Int.neg_tmod, Int.tmod_eq_emod_of_nonneg (by omega)]
  have e3 := Int.mul_ediv_add_emod c b
  have e4 := Int.emod_nonneg c (show b ≠ 0 by omega)
  have e5 := Int.emod_lt_of_pos c (show 0 < b by omega)
  have e6 : c / b ≤ c := Int.ediv_le_self _ (by omega)
  have e7 : 0 ≤ c / b := Int.ediv_nonneg (by omega) (by omega)
  rw [e1, e2]
  refine ⟨?_, by omega, by omega, by omega, by omega⟩
  rw [Int.neg_mul, Int.mul_comm (c / b) b]; omega
theorem dm_of {a b q r : Int} (hb : 1 ≤ b) (h : q * b + r = a) (h1 : 0 ≤ r) (h2 : r < b) : q = a / b ∧ r = a % b := by
  have := (Int.ediv_emod_unique (a := a) (b := b) (r := r) (q := q) (by omega)).2 ⟨by rw [Int.mul_comm]; omega, h1, h2⟩
  exact ⟨this.1.symm, this.2.symm⟩
theorem ret_two {k : IntKind} {a b c d : Int} (h : a = c ∧ b = d) : Ending.returned (.tuple #[.int k a, .int k b]) = .returned (.tuple #[.int k c, .int k d]) := by rw [h.1, h.2]
theorem dm_step {a b q r : Int} (hb : 1 ≤ b) (h : q * b + r = a) (h1 : r < 0) (h2 : -b < r) : q - 1 = a / b ∧ r + b = a % b :=
  dm_of hb (by rw [Int.sub_mul]; omega) (by omega) (by omega)
theorem pow_le60 (n : Int) (h4 : n ≤ 60) : 1 ≤ (2 : Int) ^ n.toNat ∧ (2 : Int) ^ n.toNat ≤ 1152921504606846976 := by
  have h : n.toNat ≤ 60 := by omega
  have a := Nat.pow_le_pow_right (n := 2) (by omega) h
  have b := Nat.one_le_two_pow (n := n.toNat)
  have e : ((2 ^ n.toNat : Nat) : Int) = (2 : Int) ^ n.toNat := by simp
  rw [← e]
  omega
def shrF (x n : Int) : Int := if -2305843009213693952 ≤ x ∧ x ≤ 2305843009213693952 ∧ 0 ≤ n ∧ n ≤ 60 then (x + 2 ^ n.toNat / 2) / 2 ^ n.toNat else 0
def modQ (a b : Int) : Int := if b < 1 then 0 else a / b
def modR (a b : Int) : Int := if b < 1 then 0 else a % b
theorem modQ_of {a b : Int} (h : 1 ≤ b) : modQ a b = a / b := by rw [modQ, if_neg (by omega)]
theorem modR_of {a b : Int} (h : 1 ≤ b) : modR a b = a % b := by rw [modR, if_neg (by omega)]
def divF (a b : Int) : Int := if -1152921504606846976 ≤ a ∧ a ≤ 1152921504606846976 ∧ 1 ≤ b ∧ b ≤ 1152921504606846976 then (a + b / 2) / b else 0
/-! the document's own Div and Shr: of a fraction that is left of half and more, one more -/
theorem round_up {a b : Int} (hb : 1 ≤ b) (h : b ≤ 2 * (a % b)) : (a + b / 2) / b = a / b + 1 := by
  have e3 := Int.mul_ediv_add_emod a b
  have e5 := Int.emod_lt_of_pos a (show 0 < b by omega)
  have := dm_of (a := a + b / 2) (b := b) (q := a / b + 1) (r := a % b + b / 2 - b) hb (by rw [Int.add_mul, Int.mul_comm (a / b) b]; omega) (by omega) (by omega)
  exact this.1.symm
theorem round_down {a b : Int} (hb : 1 ≤ b) (h : 2 * (a % b) < b) : (a + b / 2) / b = a / b := by
  have e3 := Int.mul_ediv_add_emod a b
  have e4 := Int.emod_nonneg a (show b ≠ 0 by omega)
  have := dm_of (a := a + b / 2) (b := b) (q := a / b) (r := a % b + b / 2) hb (by rw [Int.mul_comm (a / b) b]; omega) (by omega) (by omega)
  exact this.1.symm
theorem quo_bd {a b : Int} (hb : 1 ≤ b) (h1 : -2305843009213693952 ≤ a) (h2 : a ≤ 2305843009213693952) : -2305843009213693952 ≤ a / b ∧ a / b ≤ 2305843009213693952 := by
  constructor
  · have := (Int.le_ediv_iff_mul_le (a := -2305843009213693952) (b := a) (c := b) (by omega)).2 (by
      have : -2305843009213693952 * b ≤ -2305843009213693952 * 1 := by omega
      omega)
    exact this
  · by_cases h0 : 0 ≤ a
    · have := Int.ediv_le_self (a := a) b h0; omega
    · have := Int.ediv_neg_of_neg_of_pos (a := a) (b := b) (by omega) (by omega); omega
end Go.Proofs.YtfhcfdepjhdhfaaDoor
/-
  num.within.
-/
namespace Go.Proofs.YtfhcfdepjhdhfaaDoor
open Go.ChangeShapes Go.WideShapes Go.ChangeAt Go.RowKit
set_option linter.unusedVariables false

/-- Do all of the first n numbers lie from lo to hi? -/
def allIn (lo hi : Int) (f : Nat → Int) : Nat → Bool
  | 0 => true
  | n + 1 => allIn lo hi f n && decide (lo ≤ f n) && decide (f n ≤ hi)
theorem allIn_iff (lo hi : Int) (f : Nat → Int) (n : Nat) : allIn lo hi f n = true ↔ ∀ i, i < n → lo ≤ f i ∧ f i ≤ hi := by
  induction n with
  | zero => simp [allIn]
  | succ n ih =>
    simp only [allIn, Bool.and_eq_true, decide_eq_true_eq, ih]
    constructor
    · rintro ⟨⟨h, h1⟩, h2⟩ i hi
      by_cases e : i = n
      · subst e; exact ⟨h1, h2⟩
      · exact h i (by omega)
    · intro h
      exact ⟨⟨fun i hi => h i (by omega), (h n (by omega)).1⟩, (h n (by omega)).2⟩
theorem allIn_no {lo hi : Int} {f : Nat → Int} {n k : Nat} (h : k < n) (h1 : ¬ (lo ≤ f k ∧ f k ≤ hi)) : allIn lo hi f n = false := by
  cases e : allIn lo hi f n with
  | false => rfl
  | true => exact (h1 ((allIn_iff lo hi f n).1 e k h)).elim

/-- num.within: every number of a slice lies from low to high. -/
theorem within_any (lo hi : Int) (b n : Nat) (f : Nat → Int) (hn : n ≤ 1000) (w : World) (hc : ∀ i, i < n → w.cell? ⟨b, i, none⟩ = some (.int .i64 (f i))) :
    Calls Tryd.prog 63 #[.int .i64 lo, .int .i64 hi, .slice (some ⟨b, 0, none⟩) n n] w fun e w' => e = .returned (.bool (allIn lo hi f n)) ∧ w' = w := by
  go_enter Tryd.func63, Tryd.ntmps63
  go_wp2
  go_loop [11] (fun i => ∃ k : Nat, k ≤ n ∧ i = .int .i64 k ∧ allIn lo hi f k = true) (fun i => n - (intOf i).toNat)
  case atStart => exact ⟨0, Nat.zero_le _, rfl, rfl⟩
  case round =>
    obtain ⟨k, hk, rfl, hall⟩ := hrel
    have HA : Hid (allIn lo hi f k = true) := hall
    clear hall
    by_cases hlt : k < n
    · have hck := hc k hlt
      clear hc
      by_cases h1 : f k < lo
      · go_wp2
        go_ret
        exact ⟨ret_bool (allIn_no hlt (by omega)).symm, rfl⟩
      · by_cases h2 : hi < f k
        · go_wp2
          go_ret
          exact ⟨ret_bool (allIn_no hlt (by omega)).symm, rfl⟩
        · go_wp2
          go_round
          case rel => exact ⟨k + 1, by omega, by go_num, by simp [allIn, HA.out]; omega⟩
          case measure => simp [intOf]; omega
    · clear hc
      go_wp2
      go_ret
      obtain rfl : k = n := by omega
      exact ⟨ret_bool HA.out.symm, rfl⟩

def in1 (lo hi x : Int) : Bool := decide (lo ≤ x) && decide (x ≤ hi)
theorem within1 (lo hi x : Int) (w : World) (b : Nat) (hc : w.cell? ⟨b, 0, none⟩ = some (.int .i64 x)) :
    Calls Tryd.prog 63 #[.int .i64 lo, .int .i64 hi, .slice (some ⟨b, 0, none⟩) 1 1] w fun e w' => e = .returned (.bool (in1 lo hi x)) ∧ w' = w := by
  have h := within_any lo hi b 1 (fun _ => x) (by omega) w (by intro i hi; obtain rfl : i = 0 := by omega
                                                               exact hc)
  simpa [allIn, in1] using h
theorem within2 (lo hi x y : Int) (w : World) (b : Nat) (hc : w.cell? ⟨b, 0, none⟩ = some (.int .i64 x)) (hd : w.cell? ⟨b, 1, none⟩ = some (.int .i64 y)) :
    Calls Tryd.prog 63 #[.int .i64 lo, .int .i64 hi, .slice (some ⟨b, 0, none⟩) 2 2] w fun e w' => e = .returned (.bool (in1 lo hi x && in1 lo hi y)) ∧ w' = w := by
  have h := within_any lo hi b 2 (fun i => if i = 0 then x else y) (by omega) w (by
    intro i hi
    by_cases e : i = 0
    · subst e; simpa using hc
    · obtain rfl : i = 1 := by omega
      simpa using hd)
  simpa [allIn, in1, Bool.and_assoc] using h
theorem within_new (lo hi x : Int) (w : World) (b : Nat) (hb : b = w.heap.size) :
    Calls Tryd.prog 63 #[.int .i64 lo, .int .i64 hi, .slice (some ⟨b, 0, none⟩) 1 1] (w.alloc (.cells #[.int .i64 x] 3)) fun e w' => e = .returned (.bool (in1 lo hi x)) ∧ w' = w.alloc (.cells #[.int .i64 x] 3) := by
  subst hb
  exact within1 lo hi x _ _ (by go_simp)
theorem in1_yes {lo hi x : Int} (h1 : lo ≤ x) (h2 : x ≤ hi) : in1 lo hi x = true := by simp [in1, h1, h2]
theorem in1_no {lo hi x : Int} (h : x < lo ∨ hi < x) : in1 lo hi x = false := by simp [in1]; omega

end Go.Proofs.YtfhcfdepjhdhfaaDoor
/-
  num.Mod.
-/
namespace Go.Proofs.YtfhcfdepjhdhfaaDoor
open Go.ChangeShapes Go.WideShapes Go.ChangeAt Go.RowKit
set_option linter.unusedVariables false

theorem mod_no (a b : Int) (hb : b < 1) (w : World) :
    Calls Tryd.prog 87 #[.int .i64 a, .int .i64 b] w fun e w' => e = .returned (.tuple #[.int .i64 0, .int .i64 0]) ∧ w' = w := by
  go_enter Tryd.func87, Tryd.ntmps87
  go_wp2
  go_ret2
  exact ⟨rfl, rfl⟩
theorem mod_pos (a b : Int) (hb : 1 ≤ b) (h0 : 0 ≤ a) (ha : a ≤ 9223372036854775807) (hb' : b ≤ 9223372036854775807) (w : World) :
    Calls Tryd.prog 87 #[.int .i64 a, .int .i64 b] w fun e w' => e = .returned (.tuple #[.int .i64 (a / b), .int .i64 (a % b)]) ∧ Below w.heap.size w w' := by
  have hm : 0 ≤ a % b := Int.emod_nonneg _ (by omega)
  go_enter Tryd.func87, Tryd.ntmps87
  go_wp2
  go_quiet (fail)
  go_wp2
  go_ret2
  exact ⟨rfl, below_drewN (Below.refl _ _) _⟩
theorem mod_neg (a b : Int) (hb : 1 ≤ b) (h0 : a < 0) (ha : -9223372036854775808 ≤ a) (hb' : b ≤ 9223372036854775807) (w : World) :
    Calls Tryd.prog 87 #[.int .i64 a, .int .i64 b] w fun e w' => e = .returned (.tuple #[.int .i64 (a / b), .int .i64 (a % b)]) ∧ Below w.heap.size w w' := by
  obtain ⟨f1, f2, f3, f4, f5⟩ := tdm a b hb h0
  have F1 : Hid (a.tdiv b * b + a.tmod b = a) := f1
  clear f1
  by_cases h : a.tmod b < 0
  · by_cases hb2 : b = 1
    · exfalso; subst hb2; omega
    have hq : -9223372036854775808 ≤ a.tdiv b - 1 := by
      have := F1.out
      by_cases hc : a.tdiv b = -9223372036854775808
      · rw [hc] at this; omega
      · omega
    go_enter Tryd.func87, Tryd.ntmps87
    go_wp2
    go_quiet (fail)
    go_wp2
    go_ret2
    exact ⟨ret_two (dm_step hb F1.out h f2), below_drewN (Below.refl _ _) _⟩
  · go_enter Tryd.func87, Tryd.ntmps87
    go_wp2
    go_quiet (fail)
    go_wp2
    go_ret2
    exact ⟨ret_two (dm_of hb F1.out (by omega) (by omega)), below_drewN (Below.refl _ _) _⟩
theorem mod_any (a b : Int) (ha : -9223372036854775808 ≤ a ∧ a ≤ 9223372036854775807) (hb' : b ≤ 9223372036854775807) (w : World) :
    Calls Tryd.prog 87 #[.int .i64 a, .int .i64 b] w fun e w' => e = .returned (.tuple #[.int .i64 (modQ a b), .int .i64 (modR a b)]) ∧ Below w.heap.size w w' := by
  by_cases hb : b < 1
  · refine (mod_no a b hb w).mono ?_
    rintro e w' ⟨rfl, rfl⟩
    exact ⟨by simp [modQ, modR, hb], Below.refl _ _⟩
  · have e1 : modQ a b = a / b := by rw [modQ, if_neg hb]
    have e2 : modR a b = a % b := by rw [modR, if_neg hb]
    rw [e1, e2]
    by_cases h0 : 0 ≤ a
    · exact mod_pos a b (by omega) h0 ha.2 hb' w
    · exact mod_neg a b (by omega) (by omega) ha.1 hb' w

end Go.Proofs.YtfhcfdepjhdhfaaDoor
/-
  num.Shr.
-/
namespace Go.Proofs.YtfhcfdepjhdhfaaDoor
open Go.ChangeShapes Go.WideShapes Go.ChangeAt Go.RowKit
set_option linter.unusedVariables false

theorem shr_any (x n : Int) (w : World) :
    Calls Tryd.prog 47 #[.int .i64 x, .int .i64 n] w fun e w' => e = .returned (.int .i64 (shrF x n)) ∧ Below w.heap.size w w' := by
  by_cases h : -2305843009213693952 ≤ x ∧ x ≤ 2305843009213693952
  · by_cases h' : 0 ≤ n ∧ n ≤ 60
    · obtain ⟨h1, h2⟩ := h
      obtain ⟨h3, h4⟩ := h'
      have hb := in1_yes h1 h2
      have hc := in1_yes h3 h4
      obtain ⟨p1, p2⟩ := pow_le60 n h4
      go_enter Tryd.func47, Tryd.ntmps47
      go_wp2_with (go_at_call 63; refine (within_new _ _ _ _ _ (by simp)).mono ?_; rintro e w' ⟨rfl, rfl⟩)
      go_ret
      exact ⟨ret_int (by rw [shrF, if_pos ⟨h1, h2, h3, h4⟩]), ((Below.refl _ _).alloc (Nat.le_refl _) _).alloc (by simp) _⟩
    · obtain ⟨h1, h2⟩ := h
      have hb := in1_yes h1 h2
      have hc := in1_no (lo := 0) (hi := 60) (x := n) (by omega)
      go_enter Tryd.func47, Tryd.ntmps47
      go_wp2_with (go_at_call 63; refine (within_new _ _ _ _ _ (by simp)).mono ?_; rintro e w' ⟨rfl, rfl⟩)
      go_ret
      exact ⟨ret_int (by rw [shrF, if_neg (by omega)]), ((Below.refl _ _).alloc (Nat.le_refl _) _).alloc (by simp) _⟩
  · have hb := in1_no (lo := -2305843009213693952) (hi := 2305843009213693952) (x := x) (by omega)
    go_enter Tryd.func47, Tryd.ntmps47
    go_wp2_with (go_at_call 63; (refine (within1 _ _ x _ _ (by go_simp)).mono ?_; rintro e w' ⟨rfl, rfl⟩))
    go_ret
    exact ⟨ret_int (by rw [shrF, if_neg (by omega)]), ((Below.refl _ _).alloc (Nat.le_refl _) _)⟩

end Go.Proofs.YtfhcfdepjhdhfaaDoor
/-
  num.Sat.
-/
namespace Go.Proofs.YtfhcfdepjhdhfaaDoor
open Go.ChangeShapes Go.WideShapes Go.ChangeAt Go.RowKit
set_option linter.unusedVariables false

def satF (x : Int) : Int := max (-32768) (min x 32767)
theorem sat_any (x : Int) (w : World) :
    Calls Tryd.prog 50 #[.int .i64 x] w fun e w' => e = .returned (.int .i64 (satF x)) ∧ w' = w := by
  go_enter Tryd.func50, Tryd.ntmps50
  go_wp2
  all_goals (go_ret; exact ⟨ret_int (by unfold satF; omega), rfl⟩)
end Go.Proofs.YtfhcfdepjhdhfaaDoor
/-
  The document's Mod.
-/
namespace Go.Proofs.YtfhcfdepjhdhfaaDoor
open Go.ChangeShapes Go.WideShapes Go.ChangeAt Go.RowKit
set_option linter.unusedVariables false

theorem modR_no (a b : Int) (hb : b < 1) (w : World) :
    Calls Tryd.prog 39 #[.int .i64 a, .int .i64 b] w fun e w' => e = .returned (.tuple #[.int .i64 0, .int .i64 0]) ∧ w' = w := by
  go_enter Tryd.func39, Tryd.ntmps39
  go_wp2
  go_ret2
  exact ⟨rfl, rfl⟩
theorem modR_pos (a b : Int) (hb : 1 ≤ b) (h0 : 0 ≤ a) (ha : a ≤ 9223372036854775807) (hb' : b ≤ 9223372036854775807) (w : World) :
    Calls Tryd.prog 39 #[.int .i64 a, .int .i64 b] w fun e w' => e = .returned (.tuple #[.int .i64 (a / b), .int .i64 (a % b)]) ∧ Below w.heap.size w w' := by
  have hm : 0 ≤ a % b := Int.emod_nonneg _ (by omega)
  go_enter Tryd.func39, Tryd.ntmps39
  go_wp2
  go_quiet (fail)
  go_wp2
  go_ret2
  exact ⟨rfl, below_drewN (Below.refl _ _) _⟩
theorem modR_neg (a b : Int) (hb : 1 ≤ b) (h0 : a < 0) (ha : -9223372036854775808 ≤ a) (hb' : b ≤ 9223372036854775807) (w : World) :
    Calls Tryd.prog 39 #[.int .i64 a, .int .i64 b] w fun e w' => e = .returned (.tuple #[.int .i64 (a / b), .int .i64 (a % b)]) ∧ Below w.heap.size w w' := by
  obtain ⟨f1, f2, f3, f4, f5⟩ := tdm a b hb h0
  have F1 : Hid (a.tdiv b * b + a.tmod b = a) := f1
  clear f1
  by_cases h : a.tmod b < 0
  · by_cases hb2 : b = 1
    · exfalso; subst hb2; omega
    have hq : -9223372036854775808 ≤ a.tdiv b - 1 := by
      have := F1.out
      by_cases hc : a.tdiv b = -9223372036854775808
      · rw [hc] at this; omega
      · omega
    go_enter Tryd.func39, Tryd.ntmps39
    go_wp2
    go_quiet (fail)
    go_wp2
    go_ret2
    exact ⟨ret_two (dm_step hb F1.out h f2), below_drewN (Below.refl _ _) _⟩
  · go_enter Tryd.func39, Tryd.ntmps39
    go_wp2
    go_quiet (fail)
    go_wp2
    go_ret2
    exact ⟨ret_two (dm_of hb F1.out (by omega) (by omega)), below_drewN (Below.refl _ _) _⟩
theorem modr_any (a b : Int) (ha : -9223372036854775808 ≤ a ∧ a ≤ 9223372036854775807) (hb' : b ≤ 9223372036854775807) (w : World) :
    Calls Tryd.prog 39 #[.int .i64 a, .int .i64 b] w fun e w' => e = .returned (.tuple #[.int .i64 (modQ a b), .int .i64 (modR a b)]) ∧ Below w.heap.size w w' := by
  by_cases hb : b < 1
  · refine (modR_no a b hb w).mono ?_
    rintro e w' ⟨rfl, rfl⟩
    exact ⟨by simp [modQ, modR, hb], Below.refl _ _⟩
  · have e1 : modQ a b = a / b := by rw [modQ, if_neg hb]
    have e2 : modR a b = a % b := by rw [modR, if_neg hb]
    rw [e1, e2]
    by_cases h0 : 0 ≤ a
    · exact modR_pos a b (by omega) h0 ha.2 hb' w
    · exact modR_neg a b (by omega) (by omega) ha.1 hb' w

end Go.Proofs.YtfhcfdepjhdhfaaDoor
/-
  The document's Shr.
-/
namespace Go.Proofs.YtfhcfdepjhdhfaaDoor
open Go.ChangeShapes Go.WideShapes Go.ChangeAt Go.RowKit
set_option linter.unusedVariables false

theorem shrR_any (a n : Int) (w : World) :
    Calls Tryd.prog 52 #[.int .i64 a, .int .i64 n] w fun e w' => e = .returned (.int .i64 (shrF a n)) ∧ Below w.heap.size w w' := by
  by_cases h1 : a < -2305843009213693952
  · go_enter Tryd.func52, Tryd.ntmps52
    go_wp2
    go_ret
    exact ⟨ret_int (by rw [shrF, if_neg (by omega)]), Below.refl _ _⟩
  by_cases h2 : 2305843009213693952 < a
  · go_enter Tryd.func52, Tryd.ntmps52
    go_wp2
    go_ret
    exact ⟨ret_int (by rw [shrF, if_neg (by omega)]), Below.refl _ _⟩
  by_cases h3 : n < 0
  · go_enter Tryd.func52, Tryd.ntmps52
    go_wp2
    go_ret
    exact ⟨ret_int (by rw [shrF, if_neg (by omega)]), Below.refl _ _⟩
  by_cases h4 : 60 < n
  · go_enter Tryd.func52, Tryd.ntmps52
    go_wp2
    go_ret
    exact ⟨ret_int (by rw [shrF, if_neg (by omega)]), Below.refl _ _⟩
  obtain ⟨p1, p2⟩ := pow_le60 n (by omega)
  obtain ⟨q1, q2⟩ := quo_bd (a := a) p1 (by omega) (by omega)
  have e4 := Int.emod_nonneg a (show (2 : Int) ^ n.toNat ≠ 0 by omega)
  have e5 := Int.emod_lt_of_pos a (show 0 < (2 : Int) ^ n.toNat by omega)
  have HQ : Hid (modQ a (2 ^ n.toNat) = a / 2 ^ n.toNat) := modQ_of p1
  have HR : Hid (modR a (2 ^ n.toNat) = a % 2 ^ n.toNat) := modR_of p1
  have q1' : -2305843009213693952 ≤ modQ a (2 ^ n.toNat) := by rw [HQ.out]; exact q1
  have q2' : modQ a (2 ^ n.toNat) ≤ 2305843009213693952 := by rw [HQ.out]; exact q2
  have e4' : 0 ≤ modR a (2 ^ n.toNat) := by rw [HR.out]; exact e4
  have e5' : modR a (2 ^ n.toNat) < 2 ^ n.toNat := by rw [HR.out]; exact e5
  clear q1 q2 e4 e5
  by_cases h : 2 ^ n.toNat ≤ 2 * modR a (2 ^ n.toNat)
  · go_enter Tryd.func52, Tryd.ntmps52
    go_wp2_with (go_at_call 39; refine (modr_any a (2 ^ n.toNat) (by omega) (by omega) _).mono ?_; rintro e w' ⟨rfl, hg⟩)
    go_ret
    exact ⟨ret_int (by rw [shrF, if_pos (by omega), round_up p1 (by rw [← HR.out]; exact h), HQ.out]), hg⟩
  · go_enter Tryd.func52, Tryd.ntmps52
    go_wp2_with (go_at_call 39; refine (modr_any a (2 ^ n.toNat) (by omega) (by omega) _).mono ?_; rintro e w' ⟨rfl, hg⟩)
    go_ret
    exact ⟨ret_int (by rw [shrF, if_pos (by omega), round_down p1 (by rw [← HR.out]; omega), HQ.out]), hg⟩

end Go.Proofs.YtfhcfdepjhdhfaaDoor
/-
  The document's Sat.
-/
namespace Go.Proofs.YtfhcfdepjhdhfaaDoor
open Go.ChangeShapes Go.WideShapes Go.ChangeAt Go.RowKit
set_option linter.unusedVariables false

theorem satR_any (x : Int) (w : World) :
    Calls Tryd.prog 33 #[.int .i64 x] w fun e w' => e = .returned (.int .i64 (satF x)) ∧ w' = w := by
  go_enter Tryd.func33, Tryd.ntmps33
  go_wp2
  all_goals (go_ret; exact ⟨ret_int (by unfold satF; omega), rfl⟩)

end Go.Proofs.YtfhcfdepjhdhfaaDoor
