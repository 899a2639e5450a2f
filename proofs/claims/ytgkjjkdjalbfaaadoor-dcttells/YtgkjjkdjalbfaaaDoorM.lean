/-
  Cosines in parts of 2^24 over plain integers: the quarter, the full turn, what is turned.
-/
namespace Go.Proofs.YtgkjjkdjalbfaaaDoor
set_option linter.unusedVariables false

/-- The cosines of 0 to 128 parts. -/
def qL : List Int := [
  16777216, 16775953, 16772163, 16765847, 16757007, 16745643, 16731757, 16715352,
  16696429, 16674992, 16651044, 16624588, 16595628, 16564169, 16530216, 16493773,
  16454846, 16413442, 16369565, 16323224, 16274424, 16223173, 16169479, 16113350,
  16054795, 15993821, 15930439, 15864658, 15796488, 15725939, 15653022, 15577747,
  15500126, 15420172, 15337895, 15253308, 15166424, 15077256, 14985817, 14892122,
  14796184, 14698017, 14597637, 14495059, 14390298, 14283370, 14174291, 14063077,
  13949745, 13834313, 13716797, 13597215, 13475586, 13351928, 13226258, 13098597,
  12968963, 12837376, 12703856, 12568423, 12431097, 12291899, 12150850, 12007971,
  11863283, 11716809, 11568571, 11418590, 11266890, 11113493, 10958422, 10801701,
  10643353, 10483403, 10321873, 10158790, 9994176, 9828057, 9660458, 9491405,
  9320922, 9149035, 8975771, 8801154, 8625213, 8447972, 8269459, 8089701,
  7908725, 7726557, 7543226, 7358759, 7173184, 6986529, 6798821, 6610090,
  6420363, 6229669, 6038037, 5845495, 5652074, 5457801, 5262706, 5066819,
  4870169, 4672785, 4474698, 4275936, 4076531, 3876512, 3675909, 3474752,
  3273072, 3070900, 2868265, 2665197, 2461729, 2257890, 2053710, 1849222,
  1644455, 1439440, 1234209, 1028791, 823219, 617523, 411733, 205882,
  0]
theorem qL_len : qL.length = 129 := by decide +kernel
def qd (i : Nat) : Int := qL.getD i 0
theorem qL_get {i : Nat} (h : i < 129) : qL[i]? = some (qd i) := by
  have h' : i < qL.length := by rw [qL_len]; exact h
  rw [qd, List.getD_eq_getElem?_getD, List.getElem?_eq_getElem h']
  rfl
/-- The cosine of 0 to 511 parts. -/
def cosT (m : Nat) : Int := if m ≤ 128 then qd m else if m ≤ 256 then - qd (256 - m) else if m < 384 then - qd (m - 256) else qd (512 - m)
/-- The cosine of any parts. -/
def cosI (k : Int) : Int := cosT (k % 512).toNat
def sinI (k : Int) : Int := cosI (k - 128)

def all512 (p : Nat → Bool) : Bool := (List.range 512).all p
theorem all512_at {p : Nat → Bool} (h : all512 p = true) {m : Nat} (hm : m < 512) : p m = true :=
  List.all_eq_true.1 h m (List.mem_range.2 hm)

theorem bd_all : all512 (fun m => decide (-16777216 ≤ cosT m) && decide (cosT m ≤ 16777216)) = true := by decide +kernel
theorem sq_all : all512 (fun m => decide (-33554432 ≤ cosT m * cosT m + cosT ((m + 384) % 512) * cosT ((m + 384) % 512) - 281474976710656) &&
    decide (cosT m * cosT m + cosT ((m + 384) % 512) * cosT ((m + 384) % 512) - 281474976710656 ≤ 33554432)) = true := by decide +kernel
theorem neg_all : all512 (fun m => decide (cosT ((512 - m) % 512) = cosT m)) = true := by decide +kernel
theorem half_all : all512 (fun m => decide (cosT ((m + 256) % 512) = - cosT m)) = true := by decide +kernel

theorem mod_lt (k : Int) : (k % 512).toNat < 512 := by omega
theorem cosI_bd (k : Int) : -16777216 ≤ cosI k ∧ cosI k ≤ 16777216 := by
  have h := all512_at bd_all (mod_lt k)
  simp only [Bool.and_eq_true, decide_eq_true_eq] at h
  exact h
theorem sinI_bd (k : Int) : -16777216 ≤ sinI k ∧ sinI k ≤ 16777216 := cosI_bd _
theorem cosI_of {a b : Int} (h : a % 512 = b % 512) : cosI a = cosI b := by rw [cosI, cosI, h]
theorem cosI_mod (k : Int) : cosI (k % 512) = cosI k := cosI_of (by omega)
theorem sinI_mod (k : Int) : cosI (k % 512 - 128) = sinI k := cosI_of (by omega)
theorem cosI_neg (k : Int) : cosI (-k) = cosI k := by
  have h := all512_at neg_all (mod_lt k)
  simp only [decide_eq_true_eq] at h
  rw [cosI, cosI, ← h]
  congr 1
  omega
theorem cosI_half (k : Int) : cosI (k + 256) = - cosI k := by
  have h := all512_at half_all (mod_lt k)
  simp only [decide_eq_true_eq] at h
  rw [cosI, cosI, ← h]
  congr 1
  omega
theorem cosI_full (k : Int) : cosI (k + 512) = cosI k := cosI_of (by omega)
theorem sinI_neg (k : Int) : sinI (-k) = - sinI k := by
  have h1 : sinI (-k) = cosI (k + 128) := by rw [sinI, ← cosI_neg]; congr 1; omega
  have h2 := cosI_half (k - 128)
  rw [h1, sinI, ← h2]; congr 1; omega
theorem sinI_half (k : Int) : sinI (k + 256) = - sinI k := by
  rw [sinI, sinI, ← cosI_half]; congr 1; omega
theorem squares (k : Int) : -33554432 ≤ cosI k * cosI k + sinI k * sinI k - 281474976710656 ∧ cosI k * cosI k + sinI k * sinI k - 281474976710656 ≤ 33554432 := by
  have h := all512_at sq_all (mod_lt k)
  have e : sinI k = cosT (((k % 512).toNat + 384) % 512) := by rw [sinI, cosI]; congr 1; omega
  simp only [Bool.and_eq_true, decide_eq_true_eq] at h
  rw [e, cosI]
  exact h

/-- Parts within the bounds. -/
def cosF (k : Int) : Int := if -1152921504606846976 ≤ k ∧ k ≤ 1152921504606846976 then cosI k else 0
def sinF (k : Int) : Int := if -1152921504606846976 ≤ k ∧ k ≤ 1152921504606846976 then sinI k else 0
theorem cosF_in {k : Int} (h : -1152921504606846976 ≤ k) (h' : k ≤ 1152921504606846976) : cosF k = cosI k := if_pos ⟨h, h'⟩
theorem sinF_in {k : Int} (h : -1152921504606846976 ≤ k) (h' : k ≤ 1152921504606846976) : sinF k = sinI k := if_pos ⟨h, h'⟩
theorem cosF_out {k : Int} (h : k < -1152921504606846976 ∨ 1152921504606846976 < k) : cosF k = 0 := if_neg (by omega)
theorem sinF_out {k : Int} (h : k < -1152921504606846976 ∨ 1152921504606846976 < k) : sinF k = 0 := if_neg (by omega)

theorem mul_bd {x y a b : Int} (h1 : -a ≤ x) (h2 : x ≤ a) (h3 : -b ≤ y) (h4 : y ≤ b) : -(a * b) ≤ x * y ∧ x * y ≤ a * b := by
  have ha : 0 ≤ a := by omega
  have hb : 0 ≤ b := by omega
  have p1 : 0 ≤ (a - x) * (b + y) := Int.mul_nonneg (by omega) (by omega)
  have p2 : 0 ≤ (a + x) * (b - y) := Int.mul_nonneg (by omega) (by omega)
  have p3 : 0 ≤ (a - x) * (b - y) := Int.mul_nonneg (by omega) (by omega)
  have p4 : 0 ≤ (a + x) * (b + y) := Int.mul_nonneg (by omega) (by omega)
  simp only [Int.sub_mul, Int.add_mul, Int.mul_add, Int.mul_sub] at p1 p2 p3 p4
  constructor <;> omega
theorem turn_bd {x y c s B : Int} (hx : -B ≤ x) (hx' : x ≤ B) (hy : -B ≤ y) (hy' : y ≤ B) (hc : -16777216 ≤ c ∧ c ≤ 16777216) (hs : -16777216 ≤ s ∧ s ≤ 16777216) :
    (-(B * 16777216) ≤ x * c ∧ x * c ≤ B * 16777216) ∧ (-(B * 16777216) ≤ y * s ∧ y * s ≤ B * 16777216) := ⟨mul_bd hx hx' hc.1 hc.2, mul_bd hy hy' hs.1 hs.2⟩
/-- A sum, told in parts of 2^24 to the nearest. -/
def shr24 (x : Int) : Int := (x + 8388608) / 16777216
theorem shr24_near (x : Int) : -8388608 ≤ 16777216 * shr24 x - x ∧ 16777216 * shr24 x - x ≤ 8388608 := by unfold shr24; omega
theorem shr24_mul (x : Int) : shr24 (x * 16777216) = x := by unfold shr24; omega
theorem shr24_bd {x B : Int} (h1 : -(B * 16777216) ≤ x) (h2 : x ≤ B * 16777216) : -B ≤ shr24 x ∧ shr24 x ≤ B := by unfold shr24; omega

/-- What is turned, of numbers that may be. -/
def turnRe (re im k : Int) : Int := shr24 (re * cosI k + im * sinI k)
def turnIm (re im k : Int) : Int := shr24 (im * cosI k - re * sinI k)
theorem turnRe_bd {re im k B : Int} (hx : -B ≤ re) (hx' : re ≤ B) (hy : -B ≤ im) (hy' : im ≤ B) : -(2 * B) ≤ turnRe re im k ∧ turnRe re im k ≤ 2 * B := by
  have h := turn_bd hx hx' hy hy' (cosI_bd k) (sinI_bd k)
  exact shr24_bd (by omega) (by omega)
theorem turnIm_bd {re im k B : Int} (hx : -B ≤ re) (hx' : re ≤ B) (hy : -B ≤ im) (hy' : im ≤ B) : -(2 * B) ≤ turnIm re im k ∧ turnIm re im k ≤ 2 * B := by
  have h := turn_bd hy hy' hx hx' (cosI_bd k) (sinI_bd k)
  exact shr24_bd (by omega) (by omega)
theorem cos0 : cosI 0 = 16777216 := by decide
theorem sin0 : sinI 0 = 0 := by decide
theorem cos128 : cosI 128 = 0 := by decide
theorem sin128 : sinI 128 = 16777216 := by decide
theorem cos256 : cosI 256 = -16777216 := by decide
theorem turn0_re (re im : Int) : turnRe re im 0 = re := by rw [turnRe, cos0, sin0, show re * 16777216 + im * 0 = re * 16777216 by omega, shr24_mul]
theorem turn0_im (re im : Int) : turnIm re im 0 = im := by rw [turnIm, cos0, sin0, show im * 16777216 - re * 0 = im * 16777216 by omega, shr24_mul]
theorem turn128_re (re im : Int) : turnRe re im 128 = im := by rw [turnRe, cos128, sin128, show re * 0 + im * 16777216 = im * 16777216 by omega, shr24_mul]
theorem turn128_im (re im : Int) : turnIm re im 128 = -re := by rw [turnIm, cos128, sin128, show im * 0 - re * 16777216 = (-re) * 16777216 by omega, shr24_mul]

/-- There and back again: one of the two parts. -/
theorem back_one {x c s P Q e f r off : Int} (hc : -16777216 ≤ c ∧ c ≤ 16777216) (hs : -16777216 ≤ s ∧ s ≤ 16777216)
    (h1 : -8388608 ≤ 16777216 * e - P ∧ 16777216 * e - P ≤ 8388608) (h2 : -8388608 ≤ 16777216 * f - Q ∧ 16777216 * f - Q ≤ 8388608)
    (hr : -8388608 ≤ 16777216 * r - (e * c + f * s) ∧ 16777216 * r - (e * c + f * s) ≤ 8388608)
    (hoff : -33554432 ≤ off ∧ off ≤ 33554432) (hsum : P * c + Q * s = x * off + x * 281474976710656) {X : Int} (hx : -X ≤ x) (hx' : x ≤ X) :
    -(X * 33554432 + 422212465065984) ≤ 281474976710656 * (r - x) ∧ 281474976710656 * (r - x) ≤ X * 33554432 + 422212465065984 := by
  have a := mul_bd (a := 8388608) (b := 16777216) h1.1 h1.2 hc.1 hc.2
  have b := mul_bd (a := 8388608) (b := 16777216) h2.1 h2.2 hs.1 hs.2
  have c' := mul_bd hx hx' hoff.1 hoff.2
  simp only [Int.sub_mul, Int.mul_assoc] at a b
  omega
theorem near_le {x y r X d : Int} (hX : x ≤ X) (hX' : -x ≤ X) (hY : 0 ≤ y) (h : -(X * 33554432 + 422212465065984) ≤ 281474976710656 * d ∧ 281474976710656 * d ≤ X * 33554432 + 422212465065984) :
    d ≤ (X + y) / 1048576 + 2 ∧ -d ≤ (X + y) / 1048576 + 2 := by omega
theorem back_re (re im k : Int) {X y : Int} (hx : -X ≤ re) (hx' : re ≤ X) (hy : 0 ≤ y) :
    turnRe (turnRe re im k) (turnIm re im k) (-k) - re ≤ (X + y) / 1048576 + 2 ∧ re - turnRe (turnRe re im k) (turnIm re im k) (-k) ≤ (X + y) / 1048576 + 2 := by
  have h3 := shr24_near (turnRe re im k * cosI (-k) + turnIm re im k * sinI (-k))
  have h := back_one (x := re) (c := cosI k) (s := - sinI k) (P := re * cosI k + im * sinI k) (Q := im * cosI k - re * sinI k) (e := turnRe re im k) (f := turnIm re im k)
    (r := turnRe (turnRe re im k) (turnIm re im k) (-k)) (off := cosI k * cosI k + sinI k * sinI k - 281474976710656)
    (cosI_bd k) (by have := sinI_bd k; omega) (shr24_near _) (shr24_near _) (by rw [cosI_neg, sinI_neg] at h3; rw [turnRe, cosI_neg, sinI_neg]; exact h3) (squares k)
    (by
      simp only [Int.add_mul, Int.sub_mul, Int.mul_add, Int.mul_sub, Int.mul_neg, Int.mul_assoc]
      have e1 : im * (sinI k * cosI k) = im * (cosI k * sinI k) := by rw [Int.mul_comm (sinI k)]
      omega) hx hx'
  have := near_le (x := re) (y := y) (r := 0) hx' (by omega) hy h
  omega
theorem back_im (re im k : Int) {Y x : Int} (hy : -Y ≤ im) (hy' : im ≤ Y) (hx : 0 ≤ x) :
    turnIm (turnRe re im k) (turnIm re im k) (-k) - im ≤ (x + Y) / 1048576 + 2 ∧ im - turnIm (turnRe re im k) (turnIm re im k) (-k) ≤ (x + Y) / 1048576 + 2 := by
  have h3 := shr24_near (turnIm re im k * cosI (-k) - turnRe re im k * sinI (-k))
  have h := back_one (x := im) (c := cosI k) (s := sinI k) (P := im * cosI k - re * sinI k) (Q := re * cosI k + im * sinI k) (e := turnIm re im k) (f := turnRe re im k)
    (r := turnIm (turnRe re im k) (turnIm re im k) (-k)) (off := cosI k * cosI k + sinI k * sinI k - 281474976710656)
    (cosI_bd k) (sinI_bd k) (shr24_near _) (shr24_near _) (by
      rw [cosI_neg, sinI_neg, Int.mul_neg] at h3; rw [turnIm, cosI_neg, sinI_neg, Int.mul_neg]
      omega) (squares k)
    (by
      simp only [Int.add_mul, Int.sub_mul, Int.mul_add, Int.mul_sub, Int.mul_assoc]
      have e1 : re * (sinI k * cosI k) = re * (cosI k * sinI k) := by rw [Int.mul_comm (sinI k)]
      omega) hy hy'
  have := near_le (x := im) (y := x) (r := 0) hy' (by omega) hx h
  rw [show x + Y = Y + x by omega]
  omega
end Go.Proofs.YtgkjjkdjalbfaaaDoor
