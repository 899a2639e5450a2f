/-
  Spectra and blocks over plain integers: sums, opposites, there and back; what is fast is near.
-/
import Derived.Test.YtgkjjkdjalbfaaaDoorXM
import Derived.Test.YtgkjjkdjalbfaaaDoorFO
namespace Go.Proofs.YtgkjjkdjalbfaaaDoor
set_option linter.unusedVariables false

/-- The angle of places i and k among n. -/
def xang (n i k : Nat) : Int := ((64 / n * (2 * i + 1) * (2 * k + 1) : Nat) : Int)
theorem xang_comm (n i k : Nat) : xang n i k = xang n k i := by rw [xang, xang, Nat.mul_right_comm]
def xsum (n : Nat) (U : Nat → Int) (k : Nat) : Int := sumN n (fun i => U i * cosI (xang n i k))
/-- The spectrum of a block. -/
def fourF (n : Nat) (U : Nat → Int) (k : Nat) : Int := shr24 (xsum n U k)
def shrB (n : Nat) (x : Int) : Int := if n = 64 then (x + 268435456) / 536870912 else (x + 33554432) / 67108864
/-- The block of a spectrum. -/
def backF (n : Nat) (X : Nat → Int) (i : Nat) : Int := shrB n (xsum n X i)
def IsN (n : Nat) : Prop := n = 8 ∨ n = 64
theorem IsN.le {n : Nat} (h : IsN n) : n ≤ 64 := by unfold IsN at h; omega
theorem IsN.ge {n : Nat} (h : IsN n) : 8 ≤ n := by unfold IsN at h; omega
theorem xsum_bd {n : Nat} {U : Nat → Int} {B : Int} (hU : ∀ i, i < n → -B ≤ U i ∧ U i ≤ B) (k : Nat) : -(n * (B * 16777216)) ≤ xsum n U k ∧ xsum n U k ≤ n * (B * 16777216) :=
  sumN_bd n (fun i hi => mul_bd (hU i hi).1 (hU i hi).2 (cosI_bd _).1 (cosI_bd _).2)
theorem xsum_congr {n : Nat} {U V : Nat → Int} (h : ∀ i, i < n → U i = V i) (k : Nat) : xsum n U k = xsum n V k := sumN_congr n (fun i hi => by rw [h i hi])
theorem xsum_add (n : Nat) (U V : Nat → Int) (k : Nat) : xsum n (fun i => U i + V i) k = xsum n U k + xsum n V k := by
  rw [xsum, xsum, xsum, ← sumN_add]; exact sumN_congr n (fun i _ => Int.add_mul _ _ _)
theorem xsum_neg (n : Nat) (U : Nat → Int) (k : Nat) : xsum n (fun i => - U i) k = - xsum n U k := by
  rw [xsum, xsum, ← sumN_neg]; exact sumN_congr n (fun i _ => Int.neg_mul _ _)
/-- THE SPECTRUM OF A SUM. -/
theorem four_add (n : Nat) (U V : Nat → Int) (k : Nat) : -1 ≤ fourF n (fun i => U i + V i) k - fourF n U k - fourF n V k ∧ fourF n (fun i => U i + V i) k - fourF n U k - fourF n V k ≤ 1 := by
  rw [fourF, fourF, fourF, xsum_add]
  have a := shr24_near (xsum n U k + xsum n V k)
  have b := shr24_near (xsum n U k)
  have c := shr24_near (xsum n V k)
  omega
theorem four_neg (n : Nat) (U : Nat → Int) (k : Nat) : -1 ≤ fourF n (fun i => - U i) k + fourF n U k ∧ fourF n (fun i => - U i) k + fourF n U k ≤ 1 := by
  rw [fourF, fourF, xsum_neg]
  have a := shr24_near (- xsum n U k)
  have b := shr24_near (xsum n U k)
  omega
theorem four_bd {n : Nat} (hn : IsN n) {U : Nat → Int} {B : Int} (hU : ∀ i, i < n → -B ≤ U i ∧ U i ≤ B) (k : Nat) : -(64 * B) ≤ fourF n U k ∧ fourF n U k ≤ 64 * B := by
  have h0 := (hU 0 (by have := hn.ge; omega))
  have h := xsum_bd hU k
  have e : (n : Int) * (B * 16777216) ≤ 64 * (B * 16777216) := Int.mul_le_mul_of_nonneg_right (by have := hn.le; omega) (by omega)
  rw [fourF]
  exact shr24_bd (by omega) (by omega)

/-- The cosines of an odd number's multiples that have a place in common cancel. -/
def zsum (n p : Nat) : Int := sumN n (fun k => cosI ((64 / n * (2 * k + 1) * (2 * p) : Nat) : Int))
theorem z_all8 : (List.range 15).all (fun p => decide (zsum 8 (p + 1) = 0)) = true := by decide +kernel
set_option maxRecDepth 100000 in
theorem z_all64 : (List.range 127).all (fun p => decide (zsum 64 (p + 1) = 0)) = true := by decide +kernel
theorem z_zero {n : Nat} (hn : IsN n) {p : Nat} (h1 : 1 ≤ p) (h2 : p < 2 * n) : zsum n p = 0 := by
  rcases hn with rfl | rfl
  · have := of_decide_eq_true (List.all_eq_true.1 z_all8 (p - 1) (List.mem_range.2 (by omega)))
    rwa [Nat.sub_add_cancel h1] at this
  · have := of_decide_eq_true (List.all_eq_true.1 z_all64 (p - 1) (List.mem_range.2 (by omega)))
    rwa [Nat.sub_add_cancel h1] at this
theorem sumN_const (c : Int) : ∀ n : Nat, sumN n (fun _ => c) = n * c
  | 0 => by simp [sumN]
  | n + 1 => by rw [sumN, sumN_const c n, Int.natCast_add, Int.add_mul]; simp
theorem z_none (n : Nat) : zsum n 0 = n * 16777216 := by
  rw [zsum, ← sumN_const]
  exact sumN_congr n (fun k _ => by rw [Nat.mul_zero]; exact cos0)
/-- The rows of cosines, one times the other. -/
def xdot (n j i : Nat) : Int := sumN n (fun k => cosI (xang n j k) * cosI (xang n k i))
theorem cos_mul (a b : Int) : 2 * (cosI a * cosI b) = 16777216 * (cosI (a + b) + cosI (a - b)) - (dfcI a b + dfcI a (-b)) := by
  rw [dfcI, dfcI, cosI_neg, sinI_neg, show a + -b = a - b by omega, Int.mul_comm (cosI b), Int.neg_mul]
  omega
theorem dot_near {n : Nat} (hn : IsN n) {j i : Nat} (hj : j < n) (hi : i < n) :
    (2 * xdot n j i - (if j = i then (n : Int) * 281474976710656 else 0)).natAbs ≤ n * 79035556 := by
  have e : 2 * xdot n j i = 16777216 * (zsum n (j + i + 1) + zsum n (if i ≤ j then j - i else i - j)) - sumN n (fun k => dfcI (xang n j k) (xang n k i) + dfcI (xang n j k) (-(xang n k i))) := by
    rw [xdot, ← sumN_mul, zsum, zsum, ← sumN_add, ← sumN_mul, Int.sub_eq_add_neg, ← sumN_neg, ← sumN_add]
    refine sumN_congr n (fun k _ => ?_)
    rw [cos_mul, Int.sub_eq_add_neg]
    congr 1
    congr 1
    congr 1
    · congr 1
      rw [xang, xang]
      rw [← Int.natCast_add, Nat.mul_right_comm (64 / n) (2 * j + 1), ← Nat.mul_add]
      congr 2; omega
    · by_cases h : i ≤ j
      · rw [if_pos h, xang, xang, Nat.mul_right_comm (64 / n) (2 * j + 1)]
        generalize 64 / n * (2 * k + 1) = z
        rw [show 2 * j + 1 = 2 * (j - i) + (2 * i + 1) by omega, Nat.mul_add, Int.natCast_add]
        congr 1; omega
      · rw [if_neg h, xang, xang, Nat.mul_right_comm (64 / n) (2 * j + 1)]
        generalize 64 / n * (2 * k + 1) = z
        have e : z * (2 * i + 1) = z * (2 * (i - j)) + z * (2 * j + 1) := by rw [← Nat.mul_add]; congr 1; omega
        rw [← cosI_neg, e, Int.natCast_add]
        congr 1; omega
  have hz1 := z_zero hn (p := j + i + 1) (by omega) (by omega)
  have hs := sumN_abs (B := 79035556) n (g := fun k => dfcI (xang n j k) (xang n k i) + dfcI (xang n j k) (-(xang n k i))) (fun k _ => by
    have h1 := df_any (xang n j k) (xang n k i)
    have h2 := df_any (xang n j k) (-(xang n k i))
    omega)
  rw [e, hz1]
  by_cases h : j = i
  · subst h
    rw [if_pos rfl, if_pos (Nat.le_refl _), Nat.sub_self, z_none]
    omega
  · rw [if_neg h]
    have hz2 : zsum n (if i ≤ j then j - i else i - j) = 0 := by
      by_cases h' : i ≤ j
      · rw [if_pos h']; exact z_zero hn (by omega) (by omega)
      · rw [if_neg h']; exact z_zero hn (by omega) (by omega)
    rw [hz2]
    omega
theorem sumN_delta : ∀ (n : Nat) (f : Nat → Int) (i : Nat), i < n → sumN n (fun j => if j = i then f j else 0) = f i
  | 0, f, i, h => by omega
  | n + 1, f, i, h => by
    rw [sumN]
    by_cases e : n = i
    · subst e
      rw [if_pos rfl, sumN_congr n (g := fun _ => 0) (fun j hj => if_neg (by omega)), sumN_zero]; omega
    · rw [if_neg e, sumN_delta n f i (by omega)]; omega
theorem back_sum {n : Nat} (hn : IsN n) {U : Nat → Int} (hU : ∀ i, i < n → -131072 ≤ U i ∧ U i ≤ 131072) {i : Nat} (hi : i < n) :
    (33554432 * xsum n (fourF n U) i - n * 281474976710656 * U i).natAbs ≤ n * (131072 * (n * 79035556)) + n * 281474976710656 := by
  have e1 : 33554432 * xsum n (fourF n U) i = sumN n (fun k => 2 * (xsum n U k * cosI (xang n k i))) + sumN n (fun k => 2 * ((16777216 * fourF n U k - xsum n U k) * cosI (xang n k i))) := by
    rw [xsum, ← sumN_mul, ← sumN_add]
    exact sumN_congr n (fun k _ => by rw [Int.sub_mul, Int.mul_assoc 16777216]; omega)
  have e2 : sumN n (fun k => 2 * (xsum n U k * cosI (xang n k i))) = sumN n (fun j => U j * (2 * xdot n j i)) := by
    have : ∀ k, 2 * (xsum n U k * cosI (xang n k i)) = sumN n (fun j => U j * (2 * (cosI (xang n j k) * cosI (xang n k i)))) := fun k => by
      rw [xsum, ← sumN_mulr, ← sumN_mul]
      exact sumN_congr n (fun j _ => by rw [Int.mul_assoc, Int.mul_left_comm])
    rw [sumN_congr n (fun k _ => this k), sumN_swap]
    refine sumN_congr n (fun j _ => ?_)
    rw [xdot, ← sumN_mul, ← sumN_mul]
  have e3 : sumN n (fun j => U j * (2 * xdot n j i)) = n * 281474976710656 * U i + sumN n (fun j => U j * (2 * xdot n j i - (if j = i then (n : Int) * 281474976710656 else 0))) := by
    have h := sumN_delta n (fun j => (n : Int) * 281474976710656 * U j) i hi
    rw [← h, ← sumN_add]
    refine sumN_congr n (fun j _ => ?_)
    rw [Int.mul_sub]
    by_cases h : j = i
    · rw [if_pos h, if_pos h, Int.mul_comm (U j) ((n : Int) * 281474976710656)]; omega
    · rw [if_neg h, if_neg h]; omega
  have b1 := sumN_abs (B := 131072 * (n * 79035556)) n (g := fun j => U j * (2 * xdot n j i - (if j = i then (n : Int) * 281474976710656 else 0))) (fun j hj => mul_abs (by have := hU j hj; omega) (dot_near hn hj hi))
  have b2 := sumN_abs (B := 281474976710656) n (g := fun k => 2 * ((16777216 * fourF n U k - xsum n U k) * cosI (xang n k i))) (fun k _ => by
    have h := shr24_near (xsum n U k)
    have h2 := cosI_bd (xang n k i)
    have := mul_abs (x := 16777216 * fourF n U k - xsum n U k) (y := cosI (xang n k i)) (a := 8388608) (b := 16777216) (by rw [fourF]; omega) (by omega)
    omega)
  rw [e1, e2, e3]
  omega
/-- A BLOCK COMES BACK, but for 3. -/
theorem back_near {n : Nat} (hn : IsN n) {U : Nat → Int} (hU : ∀ i, i < n → -131072 ≤ U i ∧ U i ≤ 131072) {i : Nat} (hi : i < n) :
    -8 ≤ backF n (fourF n U) i - U i ∧ backF n (fourF n U) i - U i ≤ 8 := by
  have h := back_sum hn hU hi
  rw [backF]
  rcases hn with rfl | rfl
  · rw [shrB, if_neg (by decide)]
    generalize xsum 8 (fourF 8 U) i = y at *
    omega
  · rw [shrB, if_pos rfl]
    generalize xsum 64 (fourF 64 U) i = y at *
    omega
end Go.Proofs.YtgkjjkdjalbfaaaDoor
