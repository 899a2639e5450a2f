/-
  Plain numbers, nothing of the program: a step of CRC-32, steps behind one another, an octet that comes to a number, texts as numbers; turned bits.
-/
namespace Go.Proofs.Ytlggckfjhfbjkaa

/-- A step. -/
def stp (n : Nat) : Nat := if n % 2 = 1 then n / 2 ^^^ 3988292384 else n / 2
/-- Steps behind one another. -/
def stps : Nat → Nat → Nat
  | 0, n => n
  | k + 1, n => stp (stps k n)

theorem stp_odd (n : Nat) (h : n % 2 = 1) : stp n = n / 2 ^^^ 3988292384 := by rw [stp, if_pos h]
theorem stp_even (n : Nat) (h : n % 2 = 0) : stp n = n / 2 := by rw [stp, if_neg (by omega)]
theorem stp_lt (n : Nat) (h : n < 4294967296) : stp n < 4294967296 := by
  unfold stp
  split
  · have := Nat.xor_lt_two_pow (x := n / 2) (y := 3988292384) (n := 32) (by omega) (by omega)
    omega
  · omega
theorem stps_lt (k n : Nat) (h : n < 4294967296) : stps k n < 4294967296 := by
  induction k with
  | zero => exact h
  | succ k ih => exact stp_lt _ ih
theorem xor_swap (a b c d : Nat) : (a ^^^ b) ^^^ (c ^^^ d) = (a ^^^ c) ^^^ (b ^^^ d) := by
  rw [Nat.xor_assoc, Nat.xor_assoc, ← Nat.xor_assoc b c d, Nat.xor_comm b c, Nat.xor_assoc c b d]
theorem xor_half (a b : Nat) : (a ^^^ b) / 2 = a / 2 ^^^ b / 2 := by
  have := Nat.xor_div_two_pow (a := a) (b := b) (n := 1)
  simpa using this
theorem xor_low (a b : Nat) : (a ^^^ b) % 2 = (a + b) % 2 := by
  have h := Nat.xor_mod_two_pow (a := a) (b := b) (n := 1)
  rw [Nat.pow_one] at h
  rcases Nat.mod_two_eq_zero_or_one a with ha | ha <;> rcases Nat.mod_two_eq_zero_or_one b with hb | hb <;> rw [ha, hb] at h
  · have : (0 ^^^ 0 : Nat) = 0 := rfl
    omega
  · have : (0 ^^^ 1 : Nat) = 1 := rfl
    omega
  · have : (1 ^^^ 0 : Nat) = 1 := rfl
    omega
  · have : (1 ^^^ 1 : Nat) = 0 := rfl
    omega
theorem stp_xor (a b : Nat) : stp (a ^^^ b) = stp a ^^^ stp b := by
  have h := xor_low a b
  rcases Nat.mod_two_eq_zero_or_one a with ha | ha <;> rcases Nat.mod_two_eq_zero_or_one b with hb | hb
  · rw [stp_even _ (by omega), stp_even _ ha, stp_even _ hb, xor_half]
  · rw [stp_odd _ (by omega), stp_even _ ha, stp_odd _ hb, xor_half, Nat.xor_assoc]
  · rw [stp_odd _ (by omega), stp_odd _ ha, stp_even _ hb, xor_half, Nat.xor_assoc, Nat.xor_assoc, Nat.xor_comm (b / 2)]
  · rw [stp_even _ (by omega), stp_odd _ ha, stp_odd _ hb, xor_half, xor_swap, Nat.xor_self, Nat.xor_zero]
theorem stps_xor (k a b : Nat) : stps k (a ^^^ b) = stps k a ^^^ stps k b := by
  induction k with
  | zero => rfl
  | succ k ih => show stp _ = stp _ ^^^ stp _; rw [ih, stp_xor]
theorem stps_add (j k n : Nat) : stps (j + k) n = stps j (stps k n) := by
  induction j with
  | zero => rw [Nat.zero_add]; rfl
  | succ j ih => rw [Nat.succ_add]; show stp _ = stp _; rw [ih]
theorem stps_stp (k n : Nat) : stps k (stp n) = stps (k + 1) n := (stps_add k 1 n).symm
theorem stps_pow (k a : Nat) : stps k (2 ^ k * a) = a := by
  induction k with
  | zero => simp [stps]
  | succ k ih =>
    rw [← stps_stp, stp_even _ (by rw [Nat.pow_succ, Nat.mul_right_comm]; exact Nat.mul_mod_left _ _), Nat.pow_succ, Nat.mul_right_comm, Nat.mul_div_cancel _ (by decide)]
    exact ih
theorem stp_zero (n : Nat) (h : n < 4294967296) (hz : stp n = 0) : n = 0 := by
  rcases Nat.mod_two_eq_zero_or_one n with hn | hn
  · rw [stp_even _ hn] at hz; omega
  · rw [stp_odd _ hn] at hz
    have : n / 2 = 3988292384 := by
      rw [← Nat.xor_zero (n / 2), ← Nat.xor_self 3988292384, ← Nat.xor_assoc, hz, Nat.zero_xor]
    omega
theorem stps_zero (k n : Nat) (h : n < 4294967296) (hz : stps k n = 0) : n = 0 := by
  induction k with
  | zero => exact hz
  | succ k ih => exact ih (stp_zero _ (stps_lt k n h) hz)
theorem stps_of_zero (k : Nat) : stps k 0 = 0 := by
  induction k with
  | zero => rfl
  | succ k ih => show stp _ = 0; rw [ih]; rfl

/-- A number's upper and lower part. -/
theorem parted (k a b : Nat) (h : b < 2 ^ k) : 2 ^ k * a + b = 2 ^ k * a ^^^ b := by
  apply Nat.eq_of_testBit_eq
  intro i
  rw [Nat.testBit_xor, Nat.testBit_two_pow_mul_add a h, Nat.testBit_two_pow_mul]
  by_cases hi : i < k
  · simp [hi, Nat.not_le.2 hi]
  · have : b.testBit i = false := Nat.testBit_lt_two_pow (Nat.lt_of_lt_of_le h (Nat.pow_le_pow_right (by decide) (by omega)))
    simp [hi, this, Nat.not_lt.1 hi]
theorem pow_xor (k a b : Nat) : 2 ^ k * (a ^^^ b) = 2 ^ k * a ^^^ 2 ^ k * b := by
  apply Nat.eq_of_testBit_eq
  intro i
  rw [Nat.testBit_xor, Nat.testBit_two_pow_mul, Nat.testBit_two_pow_mul, Nat.testBit_two_pow_mul, Nat.testBit_xor]
  cases decide (i ≥ k) <;> simp
theorem byte_lt (a b : Nat) (ha : a < 256) (hb : b < 256) : a ^^^ b < 256 := Nat.xor_lt_two_pow (n := 8) ha hb
/-- An octet that comes to a number, by the table. -/
theorem comes (n b : Nat) : stps 8 (n ^^^ b) = n / 256 ^^^ stps 8 (n % 256 ^^^ b) := by
  have h : n = 2 ^ 8 * (n / 256) ^^^ n % 256 := by
    rw [← parted 8 _ _ (by omega)]; omega
  have h2 : n ^^^ b = 2 ^ 8 * (n / 256) ^^^ (n % 256 ^^^ b) := by
    rw [← Nat.xor_assoc, ← h]
  rw [h2, stps_xor, stps_pow]

/-- Octets come to a number. -/
def run (n : Nat) (l : List UInt8) : Nat := l.foldl (fun n c => stps 8 (n ^^^ c.toNat)) n
theorem run_nil (n : Nat) : run n [] = n := rfl
theorem run_snoc (n : Nat) (l : List UInt8) (c : UInt8) : run n (l ++ [c]) = stps 8 (run n l ^^^ c.toNat) := by
  simp [run, List.foldl_append]
theorem run_append (n : Nat) (l m : List UInt8) : run n (l ++ m) = run (run n l) m := by
  simp [run, List.foldl_append]
theorem u8_lt (c : UInt8) : c.toNat < 256 := by have := c.toNat_lt; omega
theorem run_lt (n : Nat) (l : List UInt8) (h : n < 4294967296) : run n l < 4294967296 := by
  induction l generalizing n with
  | nil => exact h
  | cons c l ih =>
    show run _ l < _
    have := u8_lt c
    have h' := Nat.xor_lt_two_pow (x := n) (y := c.toNat) (n := 32) (by omega) (by omega)
    exact ih _ (stps_lt 8 _ (by omega))
/-- All bits turned. -/
def neg (n : Nat) : Nat := 4294967295 - n
theorem neg_lt (n : Nat) : neg n < 4294967296 := by unfold neg; omega
theorem neg_neg (n : Nat) (h : n < 4294967296) : neg (neg n) = n := by unfold neg; omega
theorem neg_inj (a b : Nat) (ha : a < 4294967296) (hb : b < 4294967296) : neg a = neg b ↔ a = b := by unfold neg; omega
theorem xor_ones (b : Nat) (hb : b < 4294967296) : 4294967295 ^^^ b = neg b := by
  apply Nat.eq_of_testBit_eq
  intro i
  rw [neg, Nat.testBit_xor, show 4294967295 = 2 ^ 32 - 1 by decide, Nat.testBit_two_pow_sub_one, show 2 ^ 32 - 1 - b = 2 ^ 32 - (b + 1) by omega, Nat.testBit_two_pow_sub_succ (by omega)]
  by_cases hi : i < 32
  · simp [hi]
  · have : b.testBit i = false := Nat.testBit_lt_two_pow (Nat.lt_of_lt_of_le (show b < 2 ^ 32 by omega) (Nat.pow_le_pow_right (by decide) (by omega)))
    simp [hi, this]
/-- The sum of octets behind another sum. -/
def more (sum : Nat) (l : List UInt8) : Nat := neg (run (neg sum) l)
theorem more_lt (sum : Nat) (l : List UInt8) : more sum l < 4294967296 := neg_lt _
theorem more_nil (sum : Nat) (h : sum < 4294967296) : more sum [] = sum := neg_neg sum h
theorem more_append (sum : Nat) (l m : List UInt8) : more (more sum l) m = more sum (l ++ m) := by
  rw [more, more, more, neg_neg _ (run_lt _ _ (neg_lt _)), run_append]

/-- A text as one number. -/
def num : List UInt8 → Nat
  | [] => 0
  | c :: l => c.toNat ^^^ 2 ^ 8 * num l
theorem run_num (l : List UInt8) (n : Nat) : run n l = stps (8 * l.length) (n ^^^ num l) := by
  induction l generalizing n with
  | nil => simp [run, num, stps]
  | cons c l ih =>
    show run (stps 8 (n ^^^ c.toNat)) l = stps (8 * (l.length + 1)) (n ^^^ (c.toNat ^^^ 2 ^ 8 * num l))
    rw [ih, Nat.mul_add, Nat.mul_one, stps_add, ← Nat.xor_assoc, stps_xor 8 (n ^^^ c.toNat), stps_pow]
theorem num_set (l : List UInt8) (i : Nat) (c m : UInt8) (h : l[i]? = some c) : num (l.set i (c ^^^ m)) = num l ^^^ 2 ^ (8 * i) * m.toNat := by
  induction l generalizing i with
  | nil => simp at h
  | cons d l ih =>
    cases i with
    | zero =>
      simp at h
      subst h
      simp only [List.set_cons_zero, num, UInt8.toNat_xor, Nat.mul_zero, Nat.pow_zero, Nat.one_mul]
      rw [Nat.xor_assoc, Nat.xor_assoc, Nat.xor_comm m.toNat]
    | succ i =>
      simp at h
      simp only [List.set_cons_succ, num]
      rw [ih i h, pow_xor, ← Nat.xor_assoc, ← Nat.mul_assoc, ← Nat.pow_add, show 8 + 8 * i = 8 * (i + 1) by omega]
/-- Two texts of one length whose numbers differ in bits from the first-th on. -/
theorem turned_sum (l m : List UInt8) (first E : Nat) (hl : m.length = l.length) (hf : first ≤ 8 * l.length) (hE : E < 4294967296) (h : num m = num l ^^^ 2 ^ first * E) :
    more 0 m = more 0 l ↔ E = 0 := by
  have hr : run (neg 0) m = run (neg 0) l ^^^ stps (8 * l.length - first) E := by
    rw [run_num, run_num, hl, h, ← Nat.xor_assoc, stps_xor (8 * l.length) (neg 0 ^^^ num l)]
    congr 1
    rw [show 8 * l.length = (8 * l.length - first) + first by omega, stps_add, stps_pow, Nat.add_sub_cancel]
  rw [more, more, neg_inj _ _ (run_lt _ _ (neg_lt _)) (run_lt _ _ (neg_lt _)), hr]
  constructor
  · intro e
    have : run (neg 0) l ^^^ (run (neg 0) l ^^^ stps (8 * l.length - first) E) = run (neg 0) l ^^^ run (neg 0) l := by rw [e]
    rw [← Nat.xor_assoc, Nat.xor_self, Nat.zero_xor] at this
    exact stps_zero _ _ hE this
  · intro e
    rw [e, stps_of_zero, Nat.xor_zero]
theorem mod_succ (b k : Nat) : b % 2 ^ (k + 1) = 2 ^ k * (b / 2 ^ k % 2) ^^^ b % 2 ^ k := by
  rw [← parted k _ _ (Nat.mod_lt _ (Nat.two_pow_pos k)), Nat.mod_pow_succ, Nat.add_comm]
end Go.Proofs.Ytlggckfjhfbjkaa
