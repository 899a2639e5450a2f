/-
  The contracts of package num's functions and of the document's own (splicerref01), each for every input, over the landed text.
-/
import Derived.Test.YtgkclhjijcjadaaRows
import Derived.WalkKit
import Derived.ProofKit
import Derived.OpenShut
import Derived.Deep.QuietTactic
import Derived.BigQuiet
namespace Go.Proofs.Ytgkclhjijcjadaa
open Go.ChangeShapes Go.WideShapes Go.ChangeAt Go.RowKit
set_option linter.unusedVariables false

theorem grown_trans {a b c : World} (h : Grown a b) (k : Grown b c) : Grown a c :=
  ⟨World.keptBut_trans h.1 k.1, fun x => (k.2.1 x).trans (h.2.1 x), Nat.le_trans h.2.2 k.2.2⟩

theorem ret_int {k : IntKind} {a b : Int} (h : a = b) : Ending.returned (.int k a) = .returned (.int k b) := by rw [h]

theorem ret_bool {a b : Bool} (h : a = b) : Ending.returned (.bool a) = .returned (.bool b) := by rw [h]

/-- Do all of the first n numbers lie from lo to hi? -/
def allIn (lo hi : Int) (f : Nat → Int) : Nat → Bool
  | 0 => true
  | n + 1 => allIn lo hi f n && decide (lo ≤ f n) && decide (f n ≤ hi)
theorem allIn_iff (lo hi : Int) (f : Nat → Int) (n : Nat) : allIn lo hi f n = true ↔ ∀ i, i < n → lo ≤ f i ∧ f i ≤ hi := by
  induction n with
  | zero => simp [allIn]
  | succ n ih =>
    simp only [allIn, Bool.and_eq_true, decide_eq_true_eq, ih]
    constructor
    · rintro ⟨⟨h, h1⟩, h2⟩ i hi
      by_cases e : i = n
      · subst e; exact ⟨h1, h2⟩
      · exact h i (by omega)
    · intro h
      exact ⟨⟨fun i hi => h i (by omega), (h n (by omega)).1⟩, (h n (by omega)).2⟩
theorem allIn_no {lo hi : Int} {f : Nat → Int} {n k : Nat} (h : k < n) (h1 : ¬ (lo ≤ f k ∧ f k ≤ hi)) : allIn lo hi f n = false := by
  cases e : allIn lo hi f n with
  | false => rfl
  | true => exact (h1 ((allIn_iff lo hi f n).1 e k h)).elim

/-- num.within: every number of a slice lies from low to high. -/
theorem within_any (lo hi : Int) (b n : Nat) (f : Nat → Int) (hn : n ≤ 1000) (w : World) (hc : ∀ i, i < n → w.cell? ⟨b, i, none⟩ = some (.int .i64 (f i))) :
    Calls Try.prog 17 #[.int .i64 lo, .int .i64 hi, .slice (some ⟨b, 0, none⟩) n n] w fun e w' => e = .returned (.bool (allIn lo hi f n)) ∧ w' = w := by
  go_enter Try.func17, Try.ntmps17
  go_wp2
  go_loop [11] (fun i => ∃ k : Nat, k ≤ n ∧ i = .int .i64 k ∧ allIn lo hi f k = true) (fun i => n - (intOf i).toNat)
  case atStart => exact ⟨0, Nat.zero_le _, rfl, rfl⟩
  case round =>
    obtain ⟨k, hk, rfl, hall⟩ := hrel
    have HA : Hid (allIn lo hi f k = true) := hall
    clear hall
    by_cases hlt : k < n
    · have hck := hc k hlt
      clear hc
      by_cases h1 : f k < lo
      · go_wp2
        go_ret
        exact ⟨ret_bool (allIn_no hlt (by omega)).symm, rfl⟩
      · by_cases h2 : hi < f k
        · go_wp2
          go_ret
          exact ⟨ret_bool (allIn_no hlt (by omega)).symm, rfl⟩
        · go_wp2
          go_round
          case rel => exact ⟨k + 1, by omega, by go_num, by simp [allIn, HA.out]; omega⟩
          case measure => simp [intOf]; omega
    · clear hc
      go_wp2
      go_ret
      obtain rfl : k = n := by omega
      exact ⟨ret_bool HA.out.symm, rfl⟩

def in1 (lo hi x : Int) : Bool := decide (lo ≤ x) && decide (x ≤ hi)
theorem within1 (lo hi x : Int) (w : World) (b : Nat) (hc : w.cell? ⟨b, 0, none⟩ = some (.int .i64 x)) :
    Calls Try.prog 17 #[.int .i64 lo, .int .i64 hi, .slice (some ⟨b, 0, none⟩) 1 1] w fun e w' => e = .returned (.bool (in1 lo hi x)) ∧ w' = w := by
  have h := within_any lo hi b 1 (fun _ => x) (by omega) w (by intro i hi; obtain rfl : i = 0 := by omega
                                                               exact hc)
  simpa [allIn, in1] using h
theorem within2 (lo hi x y : Int) (w : World) (b : Nat) (hc : w.cell? ⟨b, 0, none⟩ = some (.int .i64 x)) (hd : w.cell? ⟨b, 1, none⟩ = some (.int .i64 y)) :
    Calls Try.prog 17 #[.int .i64 lo, .int .i64 hi, .slice (some ⟨b, 0, none⟩) 2 2] w fun e w' => e = .returned (.bool (in1 lo hi x && in1 lo hi y)) ∧ w' = w := by
  have h := within_any lo hi b 2 (fun i => if i = 0 then x else y) (by omega) w (by
    intro i hi
    by_cases e : i = 0
    · subst e; simpa using hc
    · obtain rfl : i = 1 := by omega
      simpa using hd)
  simpa [allIn, in1, Bool.and_assoc] using h
theorem within_new (lo hi x : Int) (w : World) (b : Nat) (hb : b = w.heap.size) :
    Calls Try.prog 17 #[.int .i64 lo, .int .i64 hi, .slice (some ⟨b, 0, none⟩) 1 1] (w.alloc (.cells #[.int .i64 x] 3)) fun e w' => e = .returned (.bool (in1 lo hi x)) ∧ w' = w.alloc (.cells #[.int .i64 x] 3) := by
  subst hb
  exact within1 lo hi x _ _ (by go_simp)
theorem in1_yes {lo hi x : Int} (h1 : lo ≤ x) (h2 : x ≤ hi) : in1 lo hi x = true := by simp [in1, h1, h2]
theorem in1_no {lo hi x : Int} (h : x < lo ∨ hi < x) : in1 lo hi x = false := by simp [in1]; omega

def absF (x : Int) : Int := if -4611686018427387904 ≤ x ∧ x ≤ 4611686018427387904 then max x (-x) else 0
theorem abs_any (x : Int) (w : World) :
    Calls Try.prog 14 #[.int .i64 x] w fun e w' => e = .returned (.int .i64 (absF x)) ∧ Grown w w' := by
  by_cases h : -4611686018427387904 ≤ x ∧ x ≤ 4611686018427387904
  · have hb := in1_yes h.1 h.2
    obtain ⟨h1, h2⟩ := h
    go_enter Try.func14, Try.ntmps14
    go_wp2_with (go_at_call 17; refine (within1 _ _ x _ _ (by go_simp)).mono ?_; rintro e w' ⟨rfl, rfl⟩)
    all_goals go_ret
    · exact ⟨ret_int (by rw [absF, if_pos ⟨h1, h2⟩]; omega), (Grown.refl _).alloc _ _⟩
    · exact ⟨ret_int (by rw [absF, if_pos ⟨h1, h2⟩]; omega), (Grown.refl _).alloc _ _⟩
  · have hb := in1_no (lo := -4611686018427387904) (hi := 4611686018427387904) (x := x) (by omega)
    go_enter Try.func14, Try.ntmps14
    go_wp2_with (go_at_call 17; refine (within1 _ _ x _ _ (by go_simp)).mono ?_; rintro e w' ⟨rfl, rfl⟩)
    go_ret
    exact ⟨ret_int (by rw [absF, if_neg h]), (Grown.refl _).alloc _ _⟩

theorem absR_any (x : Int) (w : World) :
    Calls Try.prog 15 #[.int .i64 x] w fun e w' => e = .returned (.int .i64 (absF x)) ∧ w' = w := by
  by_cases h1 : x < -4611686018427387904
  · go_enter Try.func15, Try.ntmps15
    go_wp2
    go_ret
    exact ⟨ret_int (by rw [absF, if_neg (by omega)]), rfl⟩
  · by_cases h2 : 4611686018427387904 < x
    · go_enter Try.func15, Try.ntmps15
      go_wp2
      go_ret
      exact ⟨ret_int (by rw [absF, if_neg (by omega)]), rfl⟩
    · go_enter Try.func15, Try.ntmps15
      go_wp2
      all_goals go_ret
      · exact ⟨ret_int (by rw [absF, if_pos (by omega)]; omega), rfl⟩
      · exact ⟨ret_int (by rw [absF, if_pos (by omega)]; omega), rfl⟩

def satF (x : Int) : Int := max (-32768) (min x 32767)
theorem sat_any (x : Int) (w : World) :
    Calls Try.prog 8 #[.int .i64 x] w fun e w' => e = .returned (.int .i64 (satF x)) ∧ w' = w := by
  go_enter Try.func8, Try.ntmps8
  go_wp2
  all_goals (go_ret; exact ⟨ret_int (by unfold satF; omega), rfl⟩)
theorem satR_any (x : Int) (w : World) :
    Calls Try.prog 9 #[.int .i64 x] w fun e w' => e = .returned (.int .i64 (satF x)) ∧ w' = w := by
  go_enter Try.func9, Try.ntmps9
  go_wp2
  all_goals (go_ret; exact ⟨ret_int (by unfold satF; omega), rfl⟩)

theorem mod_no (a b : Int) (hb : b < 1) (w : World) :
    Calls Try.prog 6 #[.int .i64 a, .int .i64 b] w fun e w' => e = .returned (.tuple #[.int .i64 0, .int .i64 0]) ∧ w' = w := by
  go_enter Try.func6, Try.ntmps6
  go_wp2
  go_ret2
  exact ⟨rfl, rfl⟩
theorem grown_drewN (w : World) (n : Nat) : Grown w (w.drewN n) := by
  induction n generalizing w with
  | zero => exact Grown.refl _
  | succ n ih => exact grown_trans (Grown.drew (Grown.refl _)) (ih _)
theorem tdm (a b : Int) (hb : 1 ≤ b) (h0 : a < 0) : a.tdiv b * b + a.tmod b = a ∧ -b < a.tmod b ∧ a.tmod b ≤ 0 ∧ a ≤ a.tdiv b ∧ a.tdiv b ≤ 0 := by
  obtain ⟨c, rfl⟩ : ∃ c, a = -c := ⟨-a, by omega⟩
  have e1 : (-c).tdiv b = -(c / b) := by rw [Int.neg_tdiv, Int.tdiv_eq_ediv_of_nonneg (by omega)]
  have e2 : (-c).tmod b = -(c % b) := by rw [Int.neg_tmod, Int.tmod_eq_emod_of_nonneg (by omega)]
  have e3 := Int.mul_ediv_add_emod c b
  have e4 := Int.emod_nonneg c (show b ≠ 0 by omega)
  have e5 := Int.emod_lt_of_pos c (show 0 < b by omega)
  have e6 : c / b ≤ c := Int.ediv_le_self _ (by omega)
  have e7 : 0 ≤ c / b := Int.ediv_nonneg (by omega) (by omega)
  rw [e1, e2]
  refine ⟨?_, by omega, by omega, by omega, by omega⟩
  rw [Int.neg_mul, Int.mul_comm (c / b) b]; omega
theorem dm_of {a b q r : Int} (hb : 1 ≤ b) (h : q * b + r = a) (h1 : 0 ≤ r) (h2 : r < b) : q = a / b ∧ r = a % b := by
  have := (Int.ediv_emod_unique (a := a) (b := b) (r := r) (q := q) (by omega)).2 ⟨by rw [Int.mul_comm]; omega, h1, h2⟩
  exact ⟨this.1.symm, this.2.symm⟩
theorem ret_two {k : IntKind} {a b c d : Int} (h : a = c ∧ b = d) : Ending.returned (.tuple #[.int k a, .int k b]) = .returned (.tuple #[.int k c, .int k d]) := by rw [h.1, h.2]
theorem dm_step {a b q r : Int} (hb : 1 ≤ b) (h : q * b + r = a) (h1 : r < 0) (h2 : -b < r) : q - 1 = a / b ∧ r + b = a % b :=
  dm_of hb (by rw [Int.sub_mul]; omega) (by omega) (by omega)
theorem mod_pos (a b : Int) (hb : 1 ≤ b) (h0 : 0 ≤ a) (ha : a ≤ 9223372036854775807) (hb' : b ≤ 9223372036854775807) (w : World) :
    Calls Try.prog 6 #[.int .i64 a, .int .i64 b] w fun e w' => e = .returned (.tuple #[.int .i64 (a / b), .int .i64 (a % b)]) ∧ Grown w w' := by
  have hm : 0 ≤ a % b := Int.emod_nonneg _ (by omega)
  go_enter Try.func6, Try.ntmps6
  go_wp2
  go_quiet (fail)
  go_wp2
  go_ret2
  exact ⟨rfl, grown_drewN _ _⟩
theorem mod_neg (a b : Int) (hb : 1 ≤ b) (h0 : a < 0) (ha : -9223372036854775808 ≤ a) (hb' : b ≤ 9223372036854775807) (w : World) :
    Calls Try.prog 6 #[.int .i64 a, .int .i64 b] w fun e w' => e = .returned (.tuple #[.int .i64 (a / b), .int .i64 (a % b)]) ∧ Grown w w' := by
  obtain ⟨f1, f2, f3, f4, f5⟩ := tdm a b hb h0
  have F1 : Hid (a.tdiv b * b + a.tmod b = a) := f1
  clear f1
  by_cases h : a.tmod b < 0
  · by_cases hb2 : b = 1
    · exfalso; subst hb2; omega
    have hq : -9223372036854775808 ≤ a.tdiv b - 1 := by
      have := F1.out
      by_cases hc : a.tdiv b = -9223372036854775808
      · rw [hc] at this; omega
      · omega
    go_enter Try.func6, Try.ntmps6
    go_wp2
    go_quiet (fail)
    go_wp2
    go_ret2
    exact ⟨ret_two (dm_step hb F1.out h f2), grown_drewN _ _⟩
  · go_enter Try.func6, Try.ntmps6
    go_wp2
    go_quiet (fail)
    go_wp2
    go_ret2
    exact ⟨ret_two (dm_of hb F1.out (by omega) (by omega)), grown_drewN _ _⟩
theorem pow_le60 (n : Int) (h4 : n ≤ 60) : 1 ≤ (2 : Int) ^ n.toNat ∧ (2 : Int) ^ n.toNat ≤ 1152921504606846976 := by
  have h : n.toNat ≤ 60 := by omega
  have a := Nat.pow_le_pow_right (n := 2) (by omega) h
  have b := Nat.one_le_two_pow (n := n.toNat)
  have e : ((2 ^ n.toNat : Nat) : Int) = (2 : Int) ^ n.toNat := by simp
  rw [← e]
  omega
def shrF (x n : Int) : Int := if -2305843009213693952 ≤ x ∧ x ≤ 2305843009213693952 ∧ 0 ≤ n ∧ n ≤ 60 then (x + 2 ^ n.toNat / 2) / 2 ^ n.toNat else 0
theorem shr_any (x n : Int) (w : World) :
    Calls Try.prog 10 #[.int .i64 x, .int .i64 n] w fun e w' => e = .returned (.int .i64 (shrF x n)) ∧ Grown w w' := by
  by_cases h : -2305843009213693952 ≤ x ∧ x ≤ 2305843009213693952
  · by_cases h' : 0 ≤ n ∧ n ≤ 60
    · obtain ⟨h1, h2⟩ := h
      obtain ⟨h3, h4⟩ := h'
      have hb := in1_yes h1 h2
      have hc := in1_yes h3 h4
      obtain ⟨p1, p2⟩ := pow_le60 n h4
      go_enter Try.func10, Try.ntmps10
      go_wp2_with (go_at_call 17; refine (within_new _ _ _ _ _ (by simp)).mono ?_; rintro e w' ⟨rfl, rfl⟩)
      go_ret
      exact ⟨ret_int (by rw [shrF, if_pos ⟨h1, h2, h3, h4⟩]), ((Grown.refl _).alloc _ _).alloc _ _⟩
    · obtain ⟨h1, h2⟩ := h
      have hb := in1_yes h1 h2
      have hc := in1_no (lo := 0) (hi := 60) (x := n) (by omega)
      go_enter Try.func10, Try.ntmps10
      go_wp2_with (go_at_call 17; refine (within_new _ _ _ _ _ (by simp)).mono ?_; rintro e w' ⟨rfl, rfl⟩)
      go_ret
      exact ⟨ret_int (by rw [shrF, if_neg (by omega)]), ((Grown.refl _).alloc _ _).alloc _ _⟩
  · have hb := in1_no (lo := -2305843009213693952) (hi := 2305843009213693952) (x := x) (by omega)
    go_enter Try.func10, Try.ntmps10
    go_wp2_with (go_at_call 17; (refine (within1 _ _ x _ _ (by go_simp)).mono ?_; rintro e w' ⟨rfl, rfl⟩))
    go_ret
    exact ⟨ret_int (by rw [shrF, if_neg (by omega)]), ((Grown.refl _).alloc _ _)⟩

def modQ (a b : Int) : Int := if b < 1 then 0 else a / b
def modR (a b : Int) : Int := if b < 1 then 0 else a % b
theorem mod_any (a b : Int) (ha : -9223372036854775808 ≤ a ∧ a ≤ 9223372036854775807) (hb' : b ≤ 9223372036854775807) (w : World) :
    Calls Try.prog 6 #[.int .i64 a, .int .i64 b] w fun e w' => e = .returned (.tuple #[.int .i64 (modQ a b), .int .i64 (modR a b)]) ∧ Grown w w' := by
  by_cases hb : b < 1
  · refine (mod_no a b hb w).mono ?_
    rintro e w' ⟨rfl, rfl⟩
    exact ⟨by simp [modQ, modR, hb], Grown.refl _⟩
  · have e1 : modQ a b = a / b := by rw [modQ, if_neg hb]
    have e2 : modR a b = a % b := by rw [modR, if_neg hb]
    rw [e1, e2]
    by_cases h0 : 0 ≤ a
    · exact mod_pos a b (by omega) h0 ha.2 hb' w
    · exact mod_neg a b (by omega) (by omega) ha.1 hb' w

theorem modR_no (a b : Int) (hb : b < 1) (w : World) :
    Calls Try.prog 7 #[.int .i64 a, .int .i64 b] w fun e w' => e = .returned (.tuple #[.int .i64 0, .int .i64 0]) ∧ w' = w := by
  go_enter Try.func7, Try.ntmps7
  go_wp2
  go_ret2
  exact ⟨rfl, rfl⟩
theorem modR_pos (a b : Int) (hb : 1 ≤ b) (h0 : 0 ≤ a) (ha : a ≤ 9223372036854775807) (hb' : b ≤ 9223372036854775807) (w : World) :
    Calls Try.prog 7 #[.int .i64 a, .int .i64 b] w fun e w' => e = .returned (.tuple #[.int .i64 (a / b), .int .i64 (a % b)]) ∧ Grown w w' := by
  have hm : 0 ≤ a % b := Int.emod_nonneg _ (by omega)
  go_enter Try.func7, Try.ntmps7
  go_wp2
  go_quiet (fail)
  go_wp2
  go_ret2
  exact ⟨rfl, grown_drewN _ _⟩
theorem modR_neg (a b : Int) (hb : 1 ≤ b) (h0 : a < 0) (ha : -9223372036854775808 ≤ a) (hb' : b ≤ 9223372036854775807) (w : World) :
    Calls Try.prog 7 #[.int .i64 a, .int .i64 b] w fun e w' => e = .returned (.tuple #[.int .i64 (a / b), .int .i64 (a % b)]) ∧ Grown w w' := by
  obtain ⟨f1, f2, f3, f4, f5⟩ := tdm a b hb h0
  have F1 : Hid (a.tdiv b * b + a.tmod b = a) := f1
  clear f1
  by_cases h : a.tmod b < 0
  · by_cases hb2 : b = 1
    · exfalso; subst hb2; omega
    have hq : -9223372036854775808 ≤ a.tdiv b - 1 := by
      have := F1.out
      by_cases hc : a.tdiv b = -9223372036854775808
      · rw [hc] at this; omega
      · omega
    go_enter Try.func7, Try.ntmps7
    go_wp2
    go_quiet (fail)
    go_wp2
    go_ret2
    exact ⟨ret_two (dm_step hb F1.out h f2), grown_drewN _ _⟩
  · go_enter Try.func7, Try.ntmps7
    go_wp2
    go_quiet (fail)
    go_wp2
    go_ret2
    exact ⟨ret_two (dm_of hb F1.out (by omega) (by omega)), grown_drewN _ _⟩
theorem modr_any (a b : Int) (ha : -9223372036854775808 ≤ a ∧ a ≤ 9223372036854775807) (hb' : b ≤ 9223372036854775807) (w : World) :
    Calls Try.prog 7 #[.int .i64 a, .int .i64 b] w fun e w' => e = .returned (.tuple #[.int .i64 (modQ a b), .int .i64 (modR a b)]) ∧ Grown w w' := by
  by_cases hb : b < 1
  · refine (modR_no a b hb w).mono ?_
    rintro e w' ⟨rfl, rfl⟩
    exact ⟨by simp [modQ, modR, hb], Grown.refl _⟩
  · have e1 : modQ a b = a / b := by rw [modQ, if_neg hb]
    have e2 : modR a b = a % b := by rw [modR, if_neg hb]
    rw [e1, e2]
    by_cases h0 : 0 ≤ a
    · exact modR_pos a b (by omega) h0 ha.2 hb' w
    · exact modR_neg a b (by omega) (by omega) ha.1 hb' w

def divF (a b : Int) : Int := if -1152921504606846976 ≤ a ∧ a ≤ 1152921504606846976 ∧ 1 ≤ b ∧ b ≤ 1152921504606846976 then (a + b / 2) / b else 0
theorem modQ_of {a b : Int} (h : 1 ≤ b) : modQ a b = a / b := by rw [modQ, if_neg (by omega)]
theorem modR_of {a b : Int} (h : 1 ≤ b) : modR a b = a % b := by rw [modR, if_neg (by omega)]
theorem div_any (a b : Int) (w : World) :
    Calls Try.prog 12 #[.int .i64 a, .int .i64 b] w fun e w' => e = .returned (.int .i64 (divF a b)) ∧ Grown w w' := by
  by_cases hb : b < 1
  · go_enter Try.func12, Try.ntmps12
    go_wp2
    go_ret
    exact ⟨ret_int (by rw [divF, if_neg (by omega)]), Grown.refl _⟩
  · by_cases h : -1152921504606846976 ≤ a ∧ a ≤ 1152921504606846976 ∧ b ≤ 1152921504606846976
    · obtain ⟨h1, h2, h3⟩ := h
      have ha := in1_yes h1 h2
      have hc := in1_yes (lo := -1152921504606846976) (show -1152921504606846976 ≤ b by omega) h3
      go_enter Try.func12, Try.ntmps12
      go_wp2_with (first
        | (go_at_call 17; refine (within2 _ _ a b _ _ (by go_simp) (by go_simp)).mono ?_; rintro e w' ⟨rfl, rfl⟩)
        | (go_at_call 6; refine (mod_any (a + b / 2) b (by omega) (by omega) _).mono ?_; rintro e w' ⟨rfl, hg⟩))
      go_ret
      exact ⟨ret_int (by rw [modQ_of hb, divF, if_pos ⟨h1, h2, hb, h3⟩]), grown_trans ((Grown.refl _).alloc _ _) hg⟩
    · have ha : (in1 (-1152921504606846976) 1152921504606846976 a && in1 (-1152921504606846976) 1152921504606846976 b) = false := by
        simp [in1]; omega
      go_enter Try.func12, Try.ntmps12
      go_wp2_with (first
        | (go_at_call 17; refine (within2 _ _ a b _ _ (by go_simp) (by go_simp)).mono ?_; rintro e w' ⟨rfl, rfl⟩))
      go_ret
      exact ⟨ret_int (by rw [divF, if_neg (by omega)]), (Grown.refl _).alloc _ _⟩

/-! the document's own Div and Shr: of a fraction that is left of half and more, one more -/
theorem round_up {a b : Int} (hb : 1 ≤ b) (h : b ≤ 2 * (a % b)) : (a + b / 2) / b = a / b + 1 := by
  have e3 := Int.mul_ediv_add_emod a b
  have e5 := Int.emod_lt_of_pos a (show 0 < b by omega)
  have := dm_of (a := a + b / 2) (b := b) (q := a / b + 1) (r := a % b + b / 2 - b) hb (by rw [Int.add_mul, Int.mul_comm (a / b) b]; omega) (by omega) (by omega)
  exact this.1.symm
theorem round_down {a b : Int} (hb : 1 ≤ b) (h : 2 * (a % b) < b) : (a + b / 2) / b = a / b := by
  have e3 := Int.mul_ediv_add_emod a b
  have e4 := Int.emod_nonneg a (show b ≠ 0 by omega)
  have := dm_of (a := a + b / 2) (b := b) (q := a / b) (r := a % b + b / 2) hb (by rw [Int.mul_comm (a / b) b]; omega) (by omega) (by omega)
  exact this.1.symm
theorem quo_bd {a b : Int} (hb : 1 ≤ b) (h1 : -2305843009213693952 ≤ a) (h2 : a ≤ 2305843009213693952) : -2305843009213693952 ≤ a / b ∧ a / b ≤ 2305843009213693952 := by
  constructor
  · have := (Int.le_ediv_iff_mul_le (a := -2305843009213693952) (b := a) (c := b) (by omega)).2 (by
      have : -2305843009213693952 * b ≤ -2305843009213693952 * 1 := by omega
      omega)
    exact this
  · by_cases h0 : 0 ≤ a
    · have := Int.ediv_le_self (a := a) b h0; omega
    · have := Int.ediv_neg_of_neg_of_pos (a := a) (b := b) (by omega) (by omega); omega
theorem divR_any (a b : Int) (w : World) :
    Calls Try.prog 13 #[.int .i64 a, .int .i64 b] w fun e w' => e = .returned (.int .i64 (divF a b)) ∧ Grown w w' := by
  by_cases h1 : a < -1152921504606846976
  · go_enter Try.func13, Try.ntmps13
    go_wp2
    go_ret
    exact ⟨ret_int (by rw [divF, if_neg (by omega)]), Grown.refl _⟩
  by_cases h2 : 1152921504606846976 < a
  · go_enter Try.func13, Try.ntmps13
    go_wp2
    go_ret
    exact ⟨ret_int (by rw [divF, if_neg (by omega)]), Grown.refl _⟩
  by_cases h3 : b < 1
  · go_enter Try.func13, Try.ntmps13
    go_wp2
    go_ret
    exact ⟨ret_int (by rw [divF, if_neg (by omega)]), Grown.refl _⟩
  by_cases h4 : 1152921504606846976 < b
  · go_enter Try.func13, Try.ntmps13
    go_wp2
    go_ret
    exact ⟨ret_int (by rw [divF, if_neg (by omega)]), Grown.refl _⟩
  have hb : 1 ≤ b := by omega
  obtain ⟨q1, q2⟩ := quo_bd (a := a) hb (by omega) (by omega)
  have e4 := Int.emod_nonneg a (show b ≠ 0 by omega)
  have e5 := Int.emod_lt_of_pos a (show 0 < b by omega)
  have HQ : Hid (modQ a b = a / b) := modQ_of hb
  have HR : Hid (modR a b = a % b) := modR_of hb
  have q1' : -2305843009213693952 ≤ modQ a b := by rw [HQ.out]; exact q1
  have q2' : modQ a b ≤ 2305843009213693952 := by rw [HQ.out]; exact q2
  have e4' : 0 ≤ modR a b := by rw [HR.out]; exact e4
  have e5' : modR a b < b := by rw [HR.out]; exact e5
  clear q1 q2 e4 e5
  by_cases h : b ≤ 2 * modR a b
  · go_enter Try.func13, Try.ntmps13
    go_wp2_with (go_at_call 7; refine (modr_any a b (by omega) (by omega) _).mono ?_; rintro e w' ⟨rfl, hg⟩)
    go_ret
    exact ⟨ret_int (by rw [divF, if_pos (by omega), round_up hb (by rw [← HR.out]; exact h), HQ.out]), hg⟩
  · go_enter Try.func13, Try.ntmps13
    go_wp2_with (go_at_call 7; refine (modr_any a b (by omega) (by omega) _).mono ?_; rintro e w' ⟨rfl, hg⟩)
    go_ret
    exact ⟨ret_int (by rw [divF, if_pos (by omega), round_down hb (by rw [← HR.out]; omega), HQ.out]), hg⟩
theorem shrR_any (a n : Int) (w : World) :
    Calls Try.prog 11 #[.int .i64 a, .int .i64 n] w fun e w' => e = .returned (.int .i64 (shrF a n)) ∧ Grown w w' := by
  by_cases h1 : a < -2305843009213693952
  · go_enter Try.func11, Try.ntmps11
    go_wp2
    go_ret
    exact ⟨ret_int (by rw [shrF, if_neg (by omega)]), Grown.refl _⟩
  by_cases h2 : 2305843009213693952 < a
  · go_enter Try.func11, Try.ntmps11
    go_wp2
    go_ret
    exact ⟨ret_int (by rw [shrF, if_neg (by omega)]), Grown.refl _⟩
  by_cases h3 : n < 0
  · go_enter Try.func11, Try.ntmps11
    go_wp2
    go_ret
    exact ⟨ret_int (by rw [shrF, if_neg (by omega)]), Grown.refl _⟩
  by_cases h4 : 60 < n
  · go_enter Try.func11, Try.ntmps11
    go_wp2
    go_ret
    exact ⟨ret_int (by rw [shrF, if_neg (by omega)]), Grown.refl _⟩
  obtain ⟨p1, p2⟩ := pow_le60 n (by omega)
  obtain ⟨q1, q2⟩ := quo_bd (a := a) p1 (by omega) (by omega)
  have e4 := Int.emod_nonneg a (show (2 : Int) ^ n.toNat ≠ 0 by omega)
  have e5 := Int.emod_lt_of_pos a (show 0 < (2 : Int) ^ n.toNat by omega)
  have HQ : Hid (modQ a (2 ^ n.toNat) = a / 2 ^ n.toNat) := modQ_of p1
  have HR : Hid (modR a (2 ^ n.toNat) = a % 2 ^ n.toNat) := modR_of p1
  have q1' : -2305843009213693952 ≤ modQ a (2 ^ n.toNat) := by rw [HQ.out]; exact q1
  have q2' : modQ a (2 ^ n.toNat) ≤ 2305843009213693952 := by rw [HQ.out]; exact q2
  have e4' : 0 ≤ modR a (2 ^ n.toNat) := by rw [HR.out]; exact e4
  have e5' : modR a (2 ^ n.toNat) < 2 ^ n.toNat := by rw [HR.out]; exact e5
  clear q1 q2 e4 e5
  by_cases h : 2 ^ n.toNat ≤ 2 * modR a (2 ^ n.toNat)
  · go_enter Try.func11, Try.ntmps11
    go_wp2_with (go_at_call 7; refine (modr_any a (2 ^ n.toNat) (by omega) (by omega) _).mono ?_; rintro e w' ⟨rfl, hg⟩)
    go_ret
    exact ⟨ret_int (by rw [shrF, if_pos (by omega), round_up p1 (by rw [← HR.out]; exact h), HQ.out]), hg⟩
  · go_enter Try.func11, Try.ntmps11
    go_wp2_with (go_at_call 7; refine (modr_any a (2 ^ n.toNat) (by omega) (by omega) _).mono ?_; rintro e w' ⟨rfl, hg⟩)
    go_ret
    exact ⟨ret_int (by rw [shrF, if_pos (by omega), round_down p1 (by rw [← HR.out]; omega), HQ.out]), hg⟩

/-- The chapter's examples. -/
theorem awake_any (w : World) : Calls Try.prog 16 #[] w fun e w' => e = .returned (.bool true) ∧ Grown w w' := by
  have m1 : modQ (-1) 4 = -1 := by decide
  have m2 : modR (-1) 4 = 3 := by decide
  have s1 : shrF 3 1 = 2 := by decide
  have s2 : shrF (-3) 1 = -1 := by decide
  have d1 : divF (-5) 10 = 0 := by decide
  have t1 : satF 40000 = 32767 := by decide
  have a1 : absF (-3) = 3 := by decide
  go_enter Try.func16, Try.ntmps16
  go_wp2_with (first
    | (go_at_call 6; refine (mod_any _ _ (by omega) (by omega) _).mono ?_; rintro e w1 ⟨rfl, hg1⟩)
    | (go_at_call 10; refine (shr_any _ _ _).mono ?_; rintro e w2 ⟨rfl, hg2⟩)
    | (go_at_call 12; refine (div_any _ _ _).mono ?_; rintro e w3 ⟨rfl, hg3⟩)
    | (go_at_call 8; refine (sat_any _ _).mono ?_; rintro e w4 ⟨rfl, rfl⟩)
    | (go_at_call 14; refine (abs_any _ _).mono ?_; rintro e w5 ⟨rfl, hg5⟩))
  go_ret
  exact ⟨rfl, by repeat (first | assumption | refine grown_trans ?_ (by assumption))⟩
end Go.Proofs.Ytgkclhjijcjadaa
