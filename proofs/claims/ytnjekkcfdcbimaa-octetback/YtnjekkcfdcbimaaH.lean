/-
  Plain laws: what is written is read again.
-/
import Derived.Test.YtnjekkcfdcbimaaG
namespace Go.Proofs.Ytnjekkcfdcbimaa
open Go.ChangeShapes Go.WideShapes Go.ChangeAt Go.RowKit
set_option linter.unusedVariables false

theorem beVal_cons (c : UInt8) (l : List UInt8) : beVal (c :: l) = c.toNat * 256 ^ l.length + beVal l := by
  have h : ∀ (l : List UInt8) (a : Nat), l.foldl (fun n o => n * 256 + o.toNat) a = a * 256 ^ l.length + beVal l := by
    intro l
    induction l with
    | nil => intro a; simp [beVal]
    | cons c l ih =>
      intro a
      simp only [List.foldl_cons, List.length_cons, Nat.pow_succ]
      rw [ih]
      have : beVal (c :: l) = c.toNat * 256 ^ l.length + beVal l := by
        show l.foldl (fun n o => n * 256 + o.toNat) (0 * 256 + c.toNat) = _
        rw [ih]; simp
      rw [this, Nat.add_mul, Nat.mul_assoc, Nat.mul_comm 256]
      omega
  show l.foldl (fun n o => n * 256 + o.toNat) (0 * 256 + c.toNat) = _
  rw [h]; simp
theorem beVal_octs (n k : Nat) : beVal (octs n k) = n % 256 ^ k := by
  induction k with
  | zero => simp [octs, beVal, Nat.mod_one]
  | succ k ih =>
    rw [octs, beVal_cons, octs_length, ih]
    have e1 : (UInt8.ofNat (n / 256 ^ k)).toNat = n / 256 ^ k % 256 := by simp
    rw [e1, Nat.pow_succ]
    have e2 : n % (256 ^ k * 256) = n % 256 ^ k + 256 ^ k * (n / 256 ^ k % 256) := Nat.mod_mul
    rw [e2, Nat.mul_comm (n / 256 ^ k % 256)]
    omega

/-- How many octets the i-th number has; the number itself; all that is written of the first j. -/
def wid (j : Nat) : Nat := 1 + j % 7
def nth (z : Nat → Nat) (j : Nat) : Nat := z j % 256 ^ wid j
def wl (z : Nat → Nat) : Nat → List UInt8
  | 0 => []
  | j + 1 => wl z j ++ octs (nth z j) (wid j)
theorem wl_len (z : Nat → Nat) (j : Nat) : (wl z j).length ≤ 7 * j := by
  induction j with
  | zero => simp [wl]
  | succ j ih => simp only [wl, List.length_append, octs_length, wid]; omega
theorem wl_succ_len (z : Nat → Nat) (j : Nat) : (wl z (j + 1)).length = (wl z j).length + wid j := by simp [wl, octs_length]
theorem wl_pre (z : Nat → Nat) (j n : Nat) (h : j ≤ n) : ∃ r, wl z n = wl z j ++ r := by
  induction n with
  | zero => obtain rfl : j = 0 := by omega
            exact ⟨[], by simp⟩
  | succ n ih =>
    by_cases e : j = n + 1
    · subst e; exact ⟨[], by simp⟩
    · obtain ⟨r, hr⟩ := ih (by omega)
      exact ⟨r ++ octs (nth z n) (wid n), by rw [wl, hr, List.append_assoc]⟩
theorem wl_extract (z : Nat → Nat) (j n : Nat) (h : j < n) :
    (⟨(wl z n).toArray⟩ : ByteArray).extract (wl z j).length ((wl z j).length + wid j) = ⟨(octs (nth z j) (wid j)).toArray⟩ := by
  obtain ⟨r, hr⟩ := wl_pre z (j + 1) n h
  rw [ByteArray.extract_mk, hr, wl, List.append_assoc, List.drop_left, Nat.add_sub_cancel_left]
  rw [List.take_append_of_le_length (by rw [octs_length]; omega), List.take_of_length_le (by rw [octs_length]; omega)]
theorem wl_fits (z : Nat → Nat) (j n : Nat) (h : j < n) : (wl z j).length + wid j ≤ (wl z n).length := by
  obtain ⟨r, hr⟩ := wl_pre z (j + 1) n h
  rw [hr, List.length_append, wl_succ_len]
  omega
theorem size_wl (z : Nat → Nat) (n : Nat) : (⟨(wl z n).toArray⟩ : ByteArray).size = (wl z n).length := by simp [ByteArray.size]
theorem back_num (z : Nat → Nat) (j n : Nat) (h : j < n) : numV ⟨(wl z n).toArray⟩ (some (wl z j).length) (wid j : Nat) = (nth z j : Nat) := by
  have hw : 1 ≤ wid j ∧ wid j ≤ 7 := by unfold wid; omega
  rw [numV, if_pos (by omega)]
  have hf := fits_nat ⟨(wl z n).toArray⟩ (wl z j).length (wid j) (by rw [size_wl]; exact wl_fits z j n h)
  simp only [txt, hf, if_true, Int.toNat_natCast]
  rw [wl_extract z j n h]
  simp only [beVal_octs, nth, Nat.mod_mod]
theorem back_nxt (z : Nat → Nat) (j n : Nat) (h : j < n) : numN ⟨(wl z n).toArray⟩ (some (wl z j).length) (wid j : Nat) = some (wl z (j + 1)).length := by
  have hw : 1 ≤ wid j ∧ wid j ≤ 7 := by unfold wid; omega
  rw [numN, if_pos (by omega)]
  have hf := fits_nat ⟨(wl z n).toArray⟩ (wl z j).length (wid j) (by rw [size_wl]; exact wl_fits z j n h)
  simp only [nxt, hf, if_true, Int.toNat_natCast]
  rw [wl_succ_len]
theorem wl_ok (z : Nat → Nat) (j n : Nat) (h : j ≤ n) (hn : n ≤ 30) : StOk ⟨(wl z n).toArray⟩ (some (wl z j).length) := by
  refine ⟨by rw [size_wl]; have := wl_len z n; omega, fun k hk => ?_⟩
  cases hk
  rw [size_wl]
  obtain ⟨r, hr⟩ := wl_pre z j n h
  rw [hr, List.length_append]
  omega
/-- What the law hands to Num. -/
theorem back_out (z : Nat → Nat) (j : Nat) : outF ((nth z j : Nat) : Int) ((wid j : Nat) : Int) = octs (nth z j) (wid j) := by
  have hw : 1 ≤ wid j ∧ wid j ≤ 7 := by unfold wid; omega
  have hlt : nth z j < 256 ^ wid j := Nat.mod_lt _ (Nat.pos_of_ne_zero (by simp))
  rw [outF, if_pos]
  · simp
  · refine ⟨by omega, by omega, by omega, ?_⟩
    have e : (8 * ((wid j : Nat) : Int)).toNat = 8 * wid j := by omega
    rw [e]
    have e2 : (256 : Nat) ^ wid j = 2 ^ (8 * wid j) := by rw [Nat.pow_mul]
    rw [e2] at hlt
    exact_mod_cast hlt
end Go.Proofs.Ytnjekkcfdcbimaa
