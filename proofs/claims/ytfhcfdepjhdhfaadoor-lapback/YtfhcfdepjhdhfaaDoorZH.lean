/-
  Spectra and blocks over plain integers: sums, opposites, there and back; what is fast is near.
-/
import Derived.Test.YtfhcfdepjhdhfaaDoorZO
import Derived.Test.YtfhcfdepjhdhfaaDoorZE
namespace Go.Proofs.YtfhcfdepjhdhfaaDoor
set_option linter.unusedVariables false

/-- The angle of places i and k among n. -/
def xang (n i k : Nat) : Int := ((64 / n * (2 * i + 1) * (2 * k + 1) : Nat) : Int)
theorem xang_comm (n i k : Nat) : xang n i k = xang n k i := by rw [xang, xang, Nat.mul_right_comm]
def xsum (n : Nat) (U : Nat → Int) (k : Nat) : Int := sumN n (fun i => U i * cosI (xang n i k))
/-- The spectrum of a block. -/
def fourF (n : Nat) (U : Nat → Int) (k : Nat) : Int := shr24 (xsum n U k)
def shrB (n : Nat) (x : Int) : Int := if n = 64 then (x + 268435456) / 536870912 else (x + 33554432) / 67108864
/-- The block of a spectrum. -/
def backF (n : Nat) (X : Nat → Int) (i : Nat) : Int := shrB n (xsum n X i)
def IsN (n : Nat) : Prop := n = 8 ∨ n = 64
theorem IsN.le {n : Nat} (h : IsN n) : n ≤ 64 := by unfold IsN at h; omega
theorem IsN.ge {n : Nat} (h : IsN n) : 8 ≤ n := by unfold IsN at h; omega
theorem xsum_bd {n : Nat} {U : Nat → Int} {B : Int} (hU : ∀ i, i < n → -B ≤ U i ∧ U i ≤ B) (k : Nat) : -(n * (B * 16777216)) ≤ xsum n U k ∧ xsum n U k ≤ n * (B * 16777216) :=
  sumN_bd n (fun i hi => mul_bd (hU i hi).1 (hU i hi).2 (cosI_bd _).1 (cosI_bd _).2)
theorem xsum_congr {n : Nat} {U V : Nat → Int} (h : ∀ i, i < n → U i = V i) (k : Nat) : xsum n U k = xsum n V k := sumN_congr n (fun i hi => by rw [h i hi])
theorem xsum_add (n : Nat) (U V : Nat → Int) (k : Nat) : xsum n (fun i => U i + V i) k = xsum n U k + xsum n V k := by
  rw [xsum, xsum, xsum, ← sumN_add]; exact sumN_congr n (fun i _ => Int.add_mul _ _ _)
theorem xsum_neg (n : Nat) (U : Nat → Int) (k : Nat) : xsum n (fun i => - U i) k = - xsum n U k := by
  rw [xsum, xsum, ← sumN_neg]; exact sumN_congr n (fun i _ => Int.neg_mul _ _)
/-- THE SPECTRUM OF A SUM. -/
theorem four_add (n : Nat) (U V : Nat → Int) (k : Nat) : -1 ≤ fourF n (fun i => U i + V i) k - fourF n U k - fourF n V k ∧ fourF n (fun i => U i + V i) k - fourF n U k - fourF n V k ≤ 1 := by
  rw [fourF, fourF, fourF, xsum_add]
  have a := shr24_near (xsum n U k + xsum n V k)
  have b := shr24_near (xsum n U k)
  have c := shr24_near (xsum n V k)
  omega
theorem four_neg (n : Nat) (U : Nat → Int) (k : Nat) : -1 ≤ fourF n (fun i => - U i) k + fourF n U k ∧ fourF n (fun i => - U i) k + fourF n U k ≤ 1 := by
  rw [fourF, fourF, xsum_neg]
  have a := shr24_near (- xsum n U k)
  have b := shr24_near (xsum n U k)
  omega
theorem four_bd {n : Nat} (hn : IsN n) {U : Nat → Int} {B : Int} (hU : ∀ i, i < n → -B ≤ U i ∧ U i ≤ B) (k : Nat) : -(64 * B) ≤ fourF n U k ∧ fourF n U k ≤ 64 * B := by
  have h0 := (hU 0 (by have := hn.ge; omega))
  have h := xsum_bd hU k
  have e : (n : Int) * (B * 16777216) ≤ 64 * (B * 16777216) := Int.mul_le_mul_of_nonneg_right (by have := hn.le; omega) (by omega)
  rw [fourF]
  exact shr24_bd (by omega) (by omega)

/-- The cosines of an odd number's multiples that have a place in common cancel. -/
def zsum (n p : Nat) : Int := sumN n (fun k => cosI ((64 / n * (2 * k + 1) * (2 * p) : Nat) : Int))
theorem z_all8 : (List.range 15).all (fun p => decide (zsum 8 (p + 1) = 0)) = true := by decide +kernel
set_option maxRecDepth 100000 in
theorem z_all64 : (List.range 127).all (fun p => decide (zsum 64 (p + 1) = 0)) = true := by decide +kernel
theorem z_zero {n : Nat} (hn : IsN n) {p : Nat} (h1 : 1 ≤ p) (h2 : p < 2 * n) : zsum n p = 0 := by
  rcases hn with rfl | rfl
  · have := of_decide_eq_true (List.all_eq_true.1 z_all8 (p - 1) (List.mem_range.2 (by omega)))
    rwa [Nat.sub_add_cancel h1] at this
  · have := of_decide_eq_true (List.all_eq_true.1 z_all64 (p - 1) (List.mem_range.2 (by omega)))
    rwa [Nat.sub_add_cancel h1] at this
theorem sumN_const (c : Int) : ∀ n : Nat, sumN n (fun _ => c) = n * c
  | 0 => by simp [sumN]
  | n + 1 => by rw [sumN, sumN_const c n, Int.natCast_add, Int.add_mul]; simp
theorem z_none (n : Nat) : zsum n 0 = n * 16777216 := by
  rw [zsum, ← sumN_const]
  exact sumN_congr n (fun k _ => by rw [Nat.mul_zero]; exact cos0)
/-- The rows of cosines, one times the other. -/
def xdot (n j i : Nat) : Int := sumN n (fun k => cosI (xang n j k) * cosI (xang n k i))
theorem cos_mul (a b : Int) : 2 * (cosI a * cosI b) = 16777216 * (cosI (a + b) + cosI (a - b)) - (dfcI a b + dfcI a (-b)) := by
  rw [dfcI, dfcI, cosI_neg, sinI_neg, show a + -b = a - b by omega, Int.mul_comm (cosI b), Int.neg_mul]
  omega
theorem dot_near {n : Nat} (hn : IsN n) {j i : Nat} (hj : j < n) (hi : i < n) :
    (2 * xdot n j i - (if j = i then (n : Int) * 281474976710656 else 0)).natAbs ≤ n * 79035556 := by
  have e : 2 * xdot n j i = 16777216 * (zsum n (j + i + 1) + zsum n (if i ≤ j then j - i else i - j)) - sumN n (fun k => dfcI (xang n j k) (xang n k i) + dfcI (xang n j k) (-(xang n k i))) := by
    rw [xdot, ← sumN_mul, zsum, zsum, ← sumN_add, ← sumN_mul, Int.sub_eq_add_neg, ← sumN_neg, ← sumN_add]
    refine sumN_congr n (fun k _ => ?_)
    rw [cos_mul, Int.sub_eq_add_neg]
    congr 1
    congr 1
    congr 1
    · congr 1
      rw [xang, xang]
      rw [← Int.natCast_add, Nat.mul_right_comm (64 / n) (2 * j + 1), ← Nat.mul_add]
      congr 2; omega
    · by_cases h : i ≤ j
      · rw [if_pos h, xang, xang, Nat.mul_right_comm (64 / n) (2 * j + 1)]
        generalize 64 / n * (2 * k + 1) = z
        rw [show 2 * j + 1 = 2 * (j - i) + (2 * i + 1) by omega, Nat.mul_add, Int.natCast_add]
        congr 1; omega
      · rw [if_neg h, xang, xang, Nat.mul_right_comm (64 / n) (2 * j + 1)]
        generalize 64 / n * (2 * k + 1) = z
        have e : z * (2 * i + 1) = z * (2 * (i - j)) + z * (2 * j + 1) := by rw [← Nat.mul_add]; congr 1; omega
        rw [← cosI_neg, e, Int.natCast_add]
        congr 1; omega
  have hz1 := z_zero hn (p := j + i + 1) (by omega) (by omega)
  have hs := sumN_abs (B := 79035556) n (g := fun k => dfcI (xang n j k) (xang n k i) + dfcI (xang n j k) (-(xang n k i))) (fun k _ => by
    have h1 := df_any (xang n j k) (xang n k i)
    have h2 := df_any (xang n j k) (-(xang n k i))
    omega)
  rw [e, hz1]
  by_cases h : j = i
  · subst h
    rw [if_pos rfl, if_pos (Nat.le_refl _), Nat.sub_self, z_none]
    omega
  · rw [if_neg h]
    have hz2 : zsum n (if i ≤ j then j - i else i - j) = 0 := by
      by_cases h' : i ≤ j
      · rw [if_pos h']; exact z_zero hn (by omega) (by omega)
      · rw [if_neg h']; exact z_zero hn (by omega) (by omega)
    rw [hz2]
    omega
theorem sumN_delta : ∀ (n : Nat) (f : Nat → Int) (i : Nat), i < n → sumN n (fun j => if j = i then f j else 0) = f i
  | 0, f, i, h => by omega
  | n + 1, f, i, h => by
    rw [sumN]
    by_cases e : n = i
    · subst e
      rw [if_pos rfl, sumN_congr n (g := fun _ => 0) (fun j hj => if_neg (by omega)), sumN_zero]; omega
    · rw [if_neg e, sumN_delta n f i (by omega)]; omega
theorem back_sum {n : Nat} (hn : IsN n) {U : Nat → Int} (hU : ∀ i, i < n → -131072 ≤ U i ∧ U i ≤ 131072) {i : Nat} (hi : i < n) :
    (33554432 * xsum n (fourF n U) i - n * 281474976710656 * U i).natAbs ≤ n * (131072 * (n * 79035556)) + n * 281474976710656 := by
  have e1 : 33554432 * xsum n (fourF n U) i = sumN n (fun k => 2 * (xsum n U k * cosI (xang n k i))) + sumN n (fun k => 2 * ((16777216 * fourF n U k - xsum n U k) * cosI (xang n k i))) := by
    rw [xsum, ← sumN_mul, ← sumN_add]
    exact sumN_congr n (fun k _ => by rw [Int.sub_mul, Int.mul_assoc 16777216]; omega)
  have e2 : sumN n (fun k => 2 * (xsum n U k * cosI (xang n k i))) = sumN n (fun j => U j * (2 * xdot n j i)) := by
    have : ∀ k, 2 * (xsum n U k * cosI (xang n k i)) = sumN n (fun j => U j * (2 * (cosI (xang n j k) * cosI (xang n k i)))) := fun k => by
      rw [xsum, ← sumN_mulr, ← sumN_mul]
      exact sumN_congr n (fun j _ => by rw [Int.mul_assoc, Int.mul_left_comm])
    rw [sumN_congr n (fun k _ => this k), sumN_swap]
    refine sumN_congr n (fun j _ => ?_)
    rw [xdot, ← sumN_mul, ← sumN_mul]
  have e3 : sumN n (fun j => U j * (2 * xdot n j i)) = n * 281474976710656 * U i + sumN n (fun j => U j * (2 * xdot n j i - (if j = i then (n : Int) * 281474976710656 else 0))) := by
    have h := sumN_delta n (fun j => (n : Int) * 281474976710656 * U j) i hi
    rw [← h, ← sumN_add]
    refine sumN_congr n (fun j _ => ?_)
    rw [Int.mul_sub]
    by_cases h : j = i
    · rw [if_pos h, if_pos h, Int.mul_comm (U j) ((n : Int) * 281474976710656)]; omega
    · rw [if_neg h, if_neg h]; omega
  have b1 := sumN_abs (B := 131072 * (n * 79035556)) n (g := fun j => U j * (2 * xdot n j i - (if j = i then (n : Int) * 281474976710656 else 0))) (fun j hj => mul_abs (by have := hU j hj; omega) (dot_near hn hj hi))
  have b2 := sumN_abs (B := 281474976710656) n (g := fun k => 2 * ((16777216 * fourF n U k - xsum n U k) * cosI (xang n k i))) (fun k _ => by
    have h := shr24_near (xsum n U k)
    have h2 := cosI_bd (xang n k i)
    have := mul_abs (x := 16777216 * fourF n U k - xsum n U k) (y := cosI (xang n k i)) (a := 8388608) (b := 16777216) (by rw [fourF]; omega) (by omega)
    omega)
  rw [e1, e2, e3]
  omega
/-- A BLOCK COMES BACK, but for 3. -/
theorem back_near {n : Nat} (hn : IsN n) {U : Nat → Int} (hU : ∀ i, i < n → -131072 ≤ U i ∧ U i ≤ 131072) {i : Nat} (hi : i < n) :
    -8 ≤ backF n (fourF n U) i - U i ∧ backF n (fourF n U) i - U i ≤ 8 := by
  have h := back_sum hn hU hi
  rw [backF]
  rcases hn with rfl | rfl
  · rw [shrB, if_neg (by decide)]
    generalize xsum 8 (fourF 8 U) i = y at *
    omega
  · rw [shrB, if_pos rfl]
    generalize xsum 64 (fourF 64 U) i = y at *
    omega
end Go.Proofs.YtfhcfdepjhdhfaaDoor
/-
  What is fast is near: half as many numbers of two parts, turned ahead of their waves and behind them, are the spectrum, but for 58.
-/
namespace Go.Proofs.YtfhcfdepjhdhfaaDoor
set_option linter.unusedVariables false

/-- A block of 2 * 2^m numbers; a: the parts' step. -/
structure Blk (n m a : Nat) : Prop where
  hn : n = 2 * 2 ^ m
  ha : 64 / n = a
  h128 : a * (2 * n) = 128
  hp : 2 ^ (9 - m) = 16 * a
  hm : m ≤ 5
  hN : IsN n
  tot : 0 ≤ eb m ∧ (eb m * 23726566 + 140737488355328 : Int) + (2 ^ m : Nat) * (524288 * 39517778) + (2 ^ m : Nat) * (262144 * 39517778 + 8388608 * 23726566) ≤ 59 * 281474976710656 + 140737488355328
theorem blk8 : Blk 8 2 8 := ⟨rfl, rfl, rfl, rfl, by decide, .inl rfl, by decide +kernel⟩
theorem blk64 : Blk 64 5 1 := ⟨rfl, rfl, rfl, rfl, by decide, .inr rfl, by decide +kernel⟩
theorem blk_of {n : Nat} (h : IsN n) : ∃ m a, Blk n m a := by
  rcases h with rfl | rfl
  · exact ⟨2, 8, blk8⟩
  · exact ⟨5, 1, blk64⟩

/-- The number of two parts that is made of the i-th from both ends. -/
def zP (n : Nat) (U : Nat → Int) (i : Nat) : P2 := (U (2 * i), U (n - 1 - 2 * i))
/-- The same, turned ahead of its wave. -/
def wP (n : Nat) (U : Nat → Int) (i : Nat) : P2 := twd (zP n U i) ((64 / n * (4 * i + 1) : Nat) : Int)
/-- The wave, turned behind it. -/
def tP (n m : Nat) (U : Nat → Int) (k : Nat) : P2 := twd (wav m (wP n U) k) ((4 * (64 / n) * k : Nat) : Int)
/-- The fast spectrum. -/
def fastF (n m : Nat) (U : Nat → Int) (x : Nat) : Int := if x % 2 = 0 then (tP n m U (x / 2)).1 else - (tP n m U ((n - 1 - x) / 2)).2

theorem comp_re (p : P2) (g b : Int) : cRe p b * cosI g + cIm p b * sinI g = 16777216 * cRe p (b + g) - (p.1 * dfcI g b + p.2 * dfsI g b) := by
  unfold cRe cIm dfcI dfsI
  rw [Int.add_comm g b]
  generalize cosI (b + g) = c1; generalize sinI (b + g) = s1; generalize cosI g = c2; generalize cosI b = c3; generalize sinI g = s2; generalize sinI b = s3
  grind
theorem comp_im (p : P2) (g b : Int) : cIm p b * cosI g - cRe p b * sinI g = 16777216 * cIm p (b + g) - (p.2 * dfcI g b - p.1 * dfsI g b) := by
  unfold cRe cIm dfcI dfsI
  rw [Int.add_comm g b]
  generalize cosI (b + g) = c1; generalize sinI (b + g) = s1; generalize cosI g = c2; generalize cosI b = c3; generalize sinI g = s2; generalize sinI b = s3
  grind
/-- What is turned, and rounded, and turned on: near what is turned by both. -/
theorem turned_re {p : P2} (hp : Bd 262144 p) (a t : Int) :
    -(262144 * 39517778 + 8388608 * 23726566) ≤ 16777216 * cRe (twd p a) t - 16777216 * cRe p (a + t) ∧ 16777216 * cRe (twd p a) t - 16777216 * cRe p (a + t) ≤ 262144 * 39517778 + 8388608 * 23726566 := by
  have h1 := shr24_near (cRe p a)
  have h2 := shr24_near (cIm p a)
  have e1 : (twd p a).1 = shr24 (cRe p a) := rfl
  have e2 : (twd p a).2 = shr24 (cIm p a) := rfl
  have b1 := two_bd hp.1.1 hp.1.2 hp.2.1 hp.2.2 (df_any t a)
  have b2 := two_bd (e := 8388608) h1.1 h1.2 h2.1 h2.2 (cs_bd t)
  have c := comp_re p t a
  have e3 : 16777216 * cRe (twd p a) t = (cRe p a * cosI t + cIm p a * sinI t) + ((16777216 * shr24 (cRe p a) - cRe p a) * cosI t + (16777216 * shr24 (cIm p a) - cIm p a) * sinI t) := by
    rw [cRe, e1, e2]
    generalize shr24 (cRe p a) = u; generalize shr24 (cIm p a) = v; generalize cosI t = c'; generalize sinI t = s'
    grind
  rw [e3, c]
  omega
theorem turned_im {p : P2} (hp : Bd 262144 p) (a t : Int) :
    -(262144 * 39517778 + 8388608 * 23726566) ≤ 16777216 * cIm (twd p a) t - 16777216 * cIm p (a + t) ∧ 16777216 * cIm (twd p a) t - 16777216 * cIm p (a + t) ≤ 262144 * 39517778 + 8388608 * 23726566 := by
  have h1 := shr24_near (cRe p a)
  have h2 := shr24_near (cIm p a)
  have e1 : (twd p a).1 = shr24 (cRe p a) := rfl
  have e2 : (twd p a).2 = shr24 (cIm p a) := rfl
  have b1 := two_bd' hp.1.1 hp.1.2 hp.2.1 hp.2.2 (df_any t a)
  have b2 := two_bd' (e := 8388608) h1.1 h1.2 h2.1 h2.2 (cs_bd t)
  have c := comp_im p t a
  have e3 : 16777216 * cIm (twd p a) t = (cIm p a * cosI t - cRe p a * sinI t) + ((16777216 * shr24 (cIm p a) - cIm p a) * cosI t - (16777216 * shr24 (cRe p a) - cRe p a) * sinI t) := by
    rw [cIm, e1, e2]
    generalize shr24 (cRe p a) = u; generalize shr24 (cIm p a) = v; generalize cosI t = c'; generalize sinI t = s'
    grind
  rw [e3, c]
  omega
theorem Bd.wide {B B' : Int} {p : P2} (h : Bd B p) (hB : B ≤ B') : Bd B' p := by
  obtain ⟨⟨a, b⟩, ⟨c, d⟩⟩ := h
  exact ⟨⟨by omega, by omega⟩, ⟨by omega, by omega⟩⟩
theorem sumN_sub (n : Nat) (f g : Nat → Int) : sumN n (fun i => f i - g i) = sumN n f - sumN n g := by
  have h := sumN_add n f (fun i => - g i)
  rw [sumN_neg] at h
  rw [show (fun i => f i - g i) = (fun i => f i + - g i) from funext fun i => by omega, h]; omega
/-- The waves' sums, turned on. -/
theorem late_re {m : Nat} {f : Nat → P2} (hf : ∀ i, i < 2 ^ m → Bd 524288 (f i)) (k : Nat) (g : Int) :
    -((2 ^ m : Nat) * (524288 * 39517778)) ≤ dRe m f k * cosI g + dIm m f k * sinI g - sumN (2 ^ m) (fun i => 16777216 * cRe (f i) (((2 ^ (9 - m) * i * k : Nat) : Int) + g)) ∧
    dRe m f k * cosI g + dIm m f k * sinI g - sumN (2 ^ m) (fun i => 16777216 * cRe (f i) (((2 ^ (9 - m) * i * k : Nat) : Int) + g)) ≤ (2 ^ m : Nat) * (524288 * 39517778) := by
  rw [dRe, dIm, ← sumN_mulr, ← sumN_mulr, ← sumN_add, ← sumN_sub]
  refine sumN_bd _ (fun i hi => ?_)
  rw [comp_re]
  have h := hf i hi
  have b := two_bd h.1.1 h.1.2 h.2.1 h.2.2 (df_any g ((2 ^ (9 - m) * i * k : Nat) : Int))
  omega
theorem late_im {m : Nat} {f : Nat → P2} (hf : ∀ i, i < 2 ^ m → Bd 524288 (f i)) (k : Nat) (g : Int) :
    -((2 ^ m : Nat) * (524288 * 39517778)) ≤ dIm m f k * cosI g - dRe m f k * sinI g - sumN (2 ^ m) (fun i => 16777216 * cIm (f i) (((2 ^ (9 - m) * i * k : Nat) : Int) + g)) ∧
    dIm m f k * cosI g - dRe m f k * sinI g - sumN (2 ^ m) (fun i => 16777216 * cIm (f i) (((2 ^ (9 - m) * i * k : Nat) : Int) + g)) ≤ (2 ^ m : Nat) * (524288 * 39517778) := by
  rw [dRe, dIm, ← sumN_mulr, ← sumN_mulr, ← sumN_sub, ← sumN_sub]
  refine sumN_bd _ (fun i hi => ?_)
  rw [comp_im]
  have h := hf i hi
  have b := two_bd' h.1.1 h.1.2 h.2.1 h.2.2 (df_any g ((2 ^ (9 - m) * i * k : Nat) : Int))
  omega
/-- All angles together. -/
theorem all_ang {n m a : Nat} (hb : Blk n m a) (i k : Nat) : ((64 / n * (4 * i + 1) : Nat) : Int) + (((2 ^ (9 - m) * i * k : Nat) : Int) + ((4 * (64 / n) * k : Nat) : Int)) = xang n (2 * i) (2 * k) := by
  rw [xang, hb.ha, hb.hp, ← Int.natCast_add, ← Int.natCast_add]
  congr 1
  grind
theorem ang_far {n m a : Nat} (hb : Blk n m a) {i k : Nat} (hi : 2 * i + 1 ≤ n) : cosI (xang n (n - 1 - 2 * i) (2 * k)) = sinI (xang n (2 * i) (2 * k)) := by
  have e : (xang n (n - 1 - 2 * i) (2 * k)) = 128 * (2 * (2 * k) + 1 : Nat) - xang n (2 * i) (2 * k) := by
    have h1 : 2 * (n - 1 - 2 * i) + 1 + (2 * (2 * i) + 1) = 2 * n := by omega
    have h2 : a * (2 * (n - 1 - 2 * i) + 1) * (2 * (2 * k) + 1) + a * (2 * (2 * i) + 1) * (2 * (2 * k) + 1) = 128 * (2 * (2 * k) + 1) := by
      rw [← Nat.add_mul, ← Nat.mul_add, h1, hb.h128]
    rw [xang, xang, hb.ha]
    omega
  rw [e, sinI, ← cosI_neg]
  exact cosI_of (by omega)
theorem ang_far2 {n m a : Nat} (hb : Blk n m a) {i k : Nat} (hk : 2 * k + 1 ≤ n) : cosI (xang n (2 * i) (n - 1 - 2 * k)) = sinI (xang n (2 * i) (2 * k)) := by
  rw [xang_comm, ang_far hb hk, xang_comm]
theorem ang_both {n m a : Nat} (hb : Blk n m a) {i k : Nat} (hi : 2 * i + 1 ≤ n) (hk : 2 * k + 1 ≤ n) : cosI (xang n (n - 1 - 2 * i) (n - 1 - 2 * k)) = - cosI (xang n (2 * i) (2 * k)) := by
  have e : xang n (n - 1 - 2 * i) (n - 1 - 2 * k) + 128 * (2 * (2 * i) + 1 : Nat) + 128 * (2 * (2 * k) + 1 : Nat) = 256 * n + xang n (2 * i) (2 * k) := by
    have h1 : 2 * (n - 1 - 2 * i) + 1 + (2 * (2 * i) + 1) = 2 * n := by omega
    have h3 : 2 * (n - 1 - 2 * k) + 1 + (2 * (2 * k) + 1) = 2 * n := by omega
    rw [xang, xang, hb.ha]
    have ha := hb.h128
    generalize 2 * (n - 1 - 2 * i) + 1 = x at *
    generalize 2 * (n - 1 - 2 * k) + 1 = y at *
    generalize 2 * (2 * i) + 1 = u at *
    generalize 2 * (2 * k) + 1 = v at *
    have h4 : a * x * y + 128 * u + 128 * v = 256 * n + a * u * v := by
      have e1 : 128 * u = a * (x + u) * u := by rw [h1, ha]
      have e2 : 128 * v = a * (y + v) * v := by rw [h3, ha]
      have e3 : 256 * n = a * (x + u) * (y + v) := by rw [h1, h3, ha]; omega
      have e4 : x + u = y + v := by omega
      rw [e1, e2, e3]
      obtain rfl : x = y + v - u := by omega
      have : u ≤ y + v := by omega
      obtain ⟨d, hd⟩ : ∃ d, y + v = u + d := ⟨y + v - u, by omega⟩
      rw [hd, Nat.add_sub_cancel_left]
      grind
    omega
  have hn : (n : Int) % 2 = 0 := by have := hb.hn; omega
  rw [← cosI_half]
  exact cosI_of (by omega)
theorem sum_re {n m a : Nat} (hb : Blk n m a) (U : Nat → Int) (k : Nat) : sumN (2 ^ m) (fun i => cRe (zP n U i) (xang n (2 * i) (2 * k))) = xsum n U (2 * k) := by
  rw [xsum]
  have h := sumN_ends (2 ^ m) (fun i => U i * cosI (xang n i (2 * k)))
  rw [← hb.hn] at h
  rw [← h]
  refine sumN_congr _ (fun i hi => ?_)
  have := hb.hn
  rw [cRe, ang_far hb (by omega)]
  rfl
theorem sum_im {n m a : Nat} (hb : Blk n m a) (U : Nat → Int) {k : Nat} (hk : 2 * k + 1 ≤ n) : sumN (2 ^ m) (fun i => cIm (zP n U i) (xang n (2 * i) (2 * k))) = - xsum n U (n - 1 - 2 * k) := by
  rw [xsum]
  have h := sumN_ends (2 ^ m) (fun i => U i * cosI (xang n i (n - 1 - 2 * k)))
  rw [← hb.hn] at h
  rw [← h, ← sumN_neg]
  refine sumN_congr _ (fun i hi => ?_)
  have := hb.hn
  rw [cIm, ang_far2 hb hk, ang_both hb (by omega) hk, Int.mul_neg]
  show U (n - 1 - 2 * i) * _ - U (2 * i) * _ = _
  omega
theorem zP_bd {n m a : Nat} (hb : Blk n m a) {U : Nat → Int} (hU : ∀ i, i < n → -262144 ≤ U i ∧ U i ≤ 262144) {i : Nat} (hi : i < 2 ^ m) : Bd 262144 (zP n U i) := by
  have := hb.hn
  exact ⟨hU _ (by omega), hU _ (by omega)⟩
theorem wP_bd {n m a : Nat} (hb : Blk n m a) {U : Nat → Int} (hU : ∀ i, i < n → -262144 ≤ U i ∧ U i ≤ 262144) {i : Nat} (hi : i < 2 ^ m) : Bd 524288 (wP n U i) := (zP_bd hb hU hi).twd _
/-- Those of a block alone, none else. -/
def cutP (m : Nat) (f : Nat → P2) (i : Nat) : P2 := if i < 2 ^ m then f i else (0, 0)
theorem cutP_bd {m : Nat} {f : Nat → P2} {B : Int} (hB : 0 ≤ B) (h : ∀ i, i < 2 ^ m → Bd B (f i)) (i : Nat) : Bd B (cutP m f i) := by
  unfold cutP
  split
  · exact h i (by assumption)
  · exact ⟨⟨by simpa using hB, hB⟩, ⟨by simpa using hB, hB⟩⟩
theorem cutP_wav (m : Nat) (f : Nat → P2) {k : Nat} (hk : k < 2 ^ m) : wav m (cutP m f) k = wav m f k := wav_congr m (fun i hi => if_pos hi) hk
theorem cutP_dRe (m : Nat) (f : Nat → P2) (k : Nat) : dRe m (cutP m f) k = dRe m f k := sumN_congr _ (fun i hi => by rw [cutP, if_pos hi])
theorem cutP_dIm (m : Nat) (f : Nat → P2) (k : Nat) : dIm m (cutP m f) k = dIm m f k := sumN_congr _ (fun i hi => by rw [cutP, if_pos hi])
theorem fast_pair {n m a : Nat} (hb : Blk n m a) {U : Nat → Int} (hU : ∀ i, i < n → -262144 ≤ U i ∧ U i ≤ 262144) {k : Nat} (hk : k < 2 ^ m) :
    ((tP n m U k).1 - fourF n U (2 * k) ≤ 64 ∧ fourF n U (2 * k) - (tP n m U k).1 ≤ 64) ∧ (-(tP n m U k).2 - fourF n U (n - 1 - 2 * k) ≤ 64 ∧ fourF n U (n - 1 - 2 * k) - -(tP n m U k).2 ≤ 64) := by
  have hm := hb.hm
  have hn := hb.hn
  obtain ⟨e0, tot⟩ := hb.tot
  have n1 := near_all m (by omega) (cutP m (wP n U)) (cutP_bd (by decide) (fun i hi => (wP_bd hb hU hi).wide (by decide))) k hk
  rw [cutP_wav m _ hk, cutP_dRe, cutP_dIm] at n1
  obtain ⟨⟨n1, n2⟩, ⟨n3, n4⟩⟩ := n1
  obtain ⟨g, hg⟩ : ∃ g : Int, ((4 * (64 / n) * k : Nat) : Int) = g := ⟨_, rfl⟩
  have l1 := late_re (fun i hi => wP_bd hb hU hi) k g
  have l2 := late_im (fun i hi => wP_bd hb hU hi) k g
  have t1 := two_bd n1 n2 n3 n4 (cs_bd g)
  have t2 := two_bd' n1 n2 n3 n4 (cs_bd g)
  have r1 := shr24_near (cRe (wav m (wP n U) k) g)
  have r2 := shr24_near (cIm (wav m (wP n U) k) g)
  have e1 : (tP n m U k).1 = shr24 (cRe (wav m (wP n U) k) g) := by rw [← hg]; rfl
  have e2 : (tP n m U k).2 = shr24 (cIm (wav m (wP n U) k) g) := by rw [← hg]; rfl
  have s1 : -((2 ^ m : Nat) * (262144 * 39517778 + 8388608 * 23726566)) ≤ sumN (2 ^ m) (fun i => 16777216 * cRe (wP n U i) (((2 ^ (9 - m) * i * k : Nat) : Int) + g)) - 16777216 * xsum n U (2 * k) ∧
      sumN (2 ^ m) (fun i => 16777216 * cRe (wP n U i) (((2 ^ (9 - m) * i * k : Nat) : Int) + g)) - 16777216 * xsum n U (2 * k) ≤ (2 ^ m : Nat) * (262144 * 39517778 + 8388608 * 23726566) := by
    rw [← sum_re hb, ← sumN_mul, ← sumN_sub]
    refine sumN_bd _ (fun i hi => ?_)
    rw [← all_ang hb i k, hg]
    exact turned_re (zP_bd hb hU hi) _ _
  have s2 : -((2 ^ m : Nat) * (262144 * 39517778 + 8388608 * 23726566)) ≤ sumN (2 ^ m) (fun i => 16777216 * cIm (wP n U i) (((2 ^ (9 - m) * i * k : Nat) : Int) + g)) - 16777216 * - xsum n U (n - 1 - 2 * k) ∧
      sumN (2 ^ m) (fun i => 16777216 * cIm (wP n U i) (((2 ^ (9 - m) * i * k : Nat) : Int) + g)) - 16777216 * - xsum n U (n - 1 - 2 * k) ≤ (2 ^ m : Nat) * (262144 * 39517778 + 8388608 * 23726566) := by
    rw [← sum_im hb U (k := k) (by omega), ← sumN_mul, ← sumN_sub]
    refine sumN_bd _ (fun i hi => ?_)
    rw [← all_ang hb i k, hg]
    exact turned_im (zP_bd hb hU hi) _ _
  have f1 := shr24_near (xsum n U (2 * k))
  have f2 := shr24_near (xsum n U (n - 1 - 2 * k))
  rw [fourF, fourF, e1, e2]
  generalize shr24 (xsum n U (2 * k)) = F1 at *
  generalize shr24 (xsum n U (n - 1 - 2 * k)) = F2 at *
  generalize xsum n U (2 * k) = Y1 at *
  generalize xsum n U (n - 1 - 2 * k) = Y2 at *
  generalize sumN (2 ^ m) (fun i => 16777216 * cRe (wP n U i) (((2 ^ (9 - m) * i * k : Nat) : Int) + g)) = S1 at *
  generalize sumN (2 ^ m) (fun i => 16777216 * cIm (wP n U i) (((2 ^ (9 - m) * i * k : Nat) : Int) + g)) = S2 at *
  generalize ((2 ^ m : Nat) : Int) * (262144 * 39517778 + 8388608 * 23726566) = Z1 at *
  generalize ((2 ^ m : Nat) : Int) * (524288 * 39517778) = Z2 at *
  generalize hq1 : shr24 (cRe (wav m (wP n U) k) g) = q1 at *
  generalize hq2 : shr24 (cIm (wav m (wP n U) k) g) = q2 at *
  rw [cRe] at r1
  rw [cIm] at r2
  simp only [Int.sub_mul, Int.mul_assoc] at t1 t2
  generalize dRe m (wP n U) k * cosI g = d1 at *
  generalize dIm m (wP n U) k * sinI g = d2 at *
  generalize dIm m (wP n U) k * cosI g = d3 at *
  generalize dRe m (wP n U) k * sinI g = d4 at *
  generalize (wav m (wP n U) k).1 * cosI g = v1 at *
  generalize (wav m (wP n U) k).2 * sinI g = v2 at *
  generalize (wav m (wP n U) k).2 * cosI g = v3 at *
  generalize (wav m (wP n U) k).1 * sinI g = v4 at *
  generalize eb m * (23726566 : Nat) = Z3 at *
  clear n1 n2 n3 n4 hq1 hq2 e1 e2 hg hU e0
  constructor <;> constructor <;> omega
/-- WHAT IS FAST IS NEAR. -/
theorem fast_near {n m a : Nat} (hb : Blk n m a) {U : Nat → Int} (hU : ∀ i, i < n → -262144 ≤ U i ∧ U i ≤ 262144) {x : Nat} (hx : x < n) :
    fastF n m U x - fourF n U x ≤ 64 ∧ fourF n U x - fastF n m U x ≤ 64 := by
  have hn := hb.hn
  rw [fastF]
  by_cases h : x % 2 = 0
  · rw [if_pos h]
    have := (fast_pair hb hU (k := x / 2) (by omega)).1
    rwa [show 2 * (x / 2) = x by omega] at this
  · rw [if_neg h]
    have := (fast_pair hb hU (k := (n - 1 - x) / 2) (by omega)).2
    rwa [show n - 1 - 2 * ((n - 1 - x) / 2) = x by omega] at this
end Go.Proofs.YtfhcfdepjhdhfaaDoor
