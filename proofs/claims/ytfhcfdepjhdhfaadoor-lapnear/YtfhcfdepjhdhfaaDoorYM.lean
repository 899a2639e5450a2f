/-
  What was taken fast comes back near: each rounding is turned back where it was made, so that none of them grows. Plain numbers.
-/
import Derived.Test.YtfhcfdepjhdhfaaDoorZH
namespace Go.Proofs.YtfhcfdepjhdhfaaDoor
set_option linter.unusedVariables false

/-- By how much a number of parts up to B, turned and turned on, is off (in parts of 2^48). -/
def offT (B : Int) : Int := B * 39517778 + 8388608 * 23726566
theorem turnedB_re {B : Int} {p : P2} (hp : Bd B p) (a t : Int) :
    -(offT B) ≤ 16777216 * cRe (twd p a) t - 16777216 * cRe p (a + t) ∧ 16777216 * cRe (twd p a) t - 16777216 * cRe p (a + t) ≤ offT B := by
  have h1 := shr24_near (cRe p a)
  have h2 := shr24_near (cIm p a)
  have e1 : (twd p a).1 = shr24 (cRe p a) := rfl
  have e2 : (twd p a).2 = shr24 (cIm p a) := rfl
  have b1 := two_bd hp.1.1 hp.1.2 hp.2.1 hp.2.2 (df_any t a)
  have b2 := two_bd (e := 8388608) h1.1 h1.2 h2.1 h2.2 (cs_bd t)
  have c := comp_re p t a
  have e3 : 16777216 * cRe (twd p a) t = (cRe p a * cosI t + cIm p a * sinI t) + ((16777216 * shr24 (cRe p a) - cRe p a) * cosI t + (16777216 * shr24 (cIm p a) - cIm p a) * sinI t) := by
    rw [cRe, e1, e2]
    generalize shr24 (cRe p a) = u; generalize shr24 (cIm p a) = v; generalize cosI t = c'; generalize sinI t = s'
    grind
  rw [e3, c]
  unfold offT
  omega
theorem turnedB_im {B : Int} {p : P2} (hp : Bd B p) (a t : Int) :
    -(offT B) ≤ 16777216 * cIm (twd p a) t - 16777216 * cIm p (a + t) ∧ 16777216 * cIm (twd p a) t - 16777216 * cIm p (a + t) ≤ offT B := by
  have h1 := shr24_near (cRe p a)
  have h2 := shr24_near (cIm p a)
  have e1 : (twd p a).1 = shr24 (cRe p a) := rfl
  have e2 : (twd p a).2 = shr24 (cIm p a) := rfl
  have b1 := two_bd' hp.1.1 hp.1.2 hp.2.1 hp.2.2 (df_any t a)
  have b2 := two_bd' (e := 8388608) h1.1 h1.2 h2.1 h2.2 (cs_bd t)
  have c := comp_im p t a
  have e3 : 16777216 * cIm (twd p a) t = (cIm p a * cosI t - cRe p a * sinI t) + ((16777216 * shr24 (cIm p a) - cIm p a) * cosI t - (16777216 * shr24 (cRe p a) - cRe p a) * sinI t) := by
    rw [cIm, e1, e2]
    generalize shr24 (cRe p a) = u; generalize shr24 (cIm p a) = v; generalize cosI t = c'; generalize sinI t = s'
    grind
  rw [e3, c]
  unfold offT
  omega
theorem cRe_add (p q : P2) (a : Int) : cRe (addP p q) a = cRe p a + cRe q a := by unfold cRe addP; simp only; grind
theorem cIm_add (p q : P2) (a : Int) : cIm (addP p q) a = cIm p a + cIm q a := by unfold cIm addP; simp only; grind
theorem cRe_sub (p q : P2) (a : Int) : cRe (subP p q) a = cRe p a - cRe q a := by unfold cRe subP; simp only; grind
theorem cIm_sub (p q : P2) (a : Int) : cIm (subP p q) a = cIm p a - cIm q a := by unfold cIm subP; simp only; grind
/-- Bounds of waves of numbers up to B. -/
def bndB (B : Int) (m : Nat) : Int := ((3 ^ m : Nat) : Int) * B
theorem bndB_succ (B : Int) (m : Nat) : bndB B (m + 1) = 3 * bndB B m := by
  unfold bndB; rw [Nat.pow_succ, Int.natCast_mul, Int.mul_comm _ ((3 : Nat) : Int), Int.mul_assoc]; rfl
theorem wav_bdB {B : Int} : ∀ (m : Nat) (f : Nat → P2) (h : ∀ i, Bd B (f i)) (k : Nat), Bd (bndB B m) (wav m f k)
  | 0, f, h, k => by simpa [bndB, wav] using h 0
  | m + 1, f, h, k => by
    rw [bndB_succ, wav]
    split
    · exact (wav_bdB m _ (fun i => h _) _).add ((wav_bdB m _ (fun i => h _) _).twd _)
    · exact (wav_bdB m _ (fun i => h _) _).sub ((wav_bdB m _ (fun i => h _) _).twd _)
/-- All waves turned back, at i, and by p besides. -/
def iRe (m : Nat) (y : Nat → P2) (i : Nat) (p : Int) : Int := sumN (2 ^ m) fun k => cRe (y k) (-((2 ^ (9 - m) * i * k : Nat) : Int) - p)
def iIm (m : Nat) (y : Nat → P2) (i : Nat) (p : Int) : Int := sumN (2 ^ m) fun k => cIm (y k) (-((2 ^ (9 - m) * i * k : Nat) : Int) - p)
/-- The errors of m stages. -/
def offS (B : Int) : Nat → Int
  | 0 => 0
  | m + 1 => offS B m + offT (bndB B m)
theorem pow_eight {m : Nat} (hm : m ≤ 8) : 2 ^ (9 - (m + 1)) = 2 ^ (8 - m) ∧ 2 ^ (9 - m) = 2 * 2 ^ (8 - m) ∧ 2 ^ (8 - m) * 2 ^ m = 256 := by
  have h : ∀ m, m < 9 → 2 ^ (9 - (m + 1)) = 2 ^ (8 - m) ∧ 2 ^ (9 - m) = 2 * 2 ^ (8 - m) ∧ 2 ^ (8 - m) * 2 ^ m = 256 := by decide
  exact h m (by omega)
theorem sumN_two_halves (h : Nat) (g : Nat → Int) : sumN (2 * h) g = sumN h (fun i => g i + g (h + i)) := (sumN_halves g h).symm
/-- An even place: twice the even numbers' waves. -/
theorem i_even {m : Nat} (hm : m ≤ 8) (f : Nat → P2) (j : Nat) (p : Int) : iRe (m + 1) (wav (m + 1) f) (2 * j) p = 2 * iRe m (wav m fun i => f (2 * i)) j p ∧ iIm (m + 1) (wav (m + 1) f) (2 * j) p = 2 * iIm m (wav m fun i => f (2 * i)) j p := by
  obtain ⟨h1, h2, h3⟩ := pow_eight hm
  have e2 : 2 ^ (m + 1) = 2 * 2 ^ m := by rw [Nat.pow_succ]; omega
  have ha : ∀ k, (-((2 ^ (9 - (m + 1)) * (2 * j) * (2 ^ m + k) : Nat) : Int) - p) % 512 = (-((2 ^ (9 - m) * j * k : Nat) : Int) - p) % 512 := fun k => by
    have e : 2 ^ (9 - (m + 1)) * (2 * j) * (2 ^ m + k) = 512 * j + 2 ^ (9 - m) * j * k := by
      rw [h1, h2, Nat.mul_add]
      have : 2 ^ (8 - m) * (2 * j) * 2 ^ m = (2 ^ (8 - m) * 2 ^ m) * (2 * j) := by rw [Nat.mul_right_comm]
      rw [this, h3]
      have : 2 ^ (8 - m) * (2 * j) * k = 2 * 2 ^ (8 - m) * j * k := by generalize 2 ^ (8 - m) = A; grind
      omega
    rw [e]; omega
  have hb : ∀ k, -((2 ^ (9 - (m + 1)) * (2 * j) * k : Nat) : Int) - p = -((2 ^ (9 - m) * j * k : Nat) : Int) - p := fun k => by
    have : 2 ^ (9 - (m + 1)) * (2 * j) * k = 2 ^ (9 - m) * j * k := by rw [h1, h2]; generalize 2 ^ (8 - m) = A; grind
    rw [this]
  unfold iRe iIm
  rw [e2, sumN_two_halves, sumN_two_halves, ← sumN_mul, ← sumN_mul]
  constructor
  · refine sumN_congr _ (fun k hk => ?_)
    rw [hb k, cRe_of _ (ha k), wav, if_pos hk, wav, if_neg (by omega), show 2 ^ m + k - 2 ^ m = k by omega, cRe_add, cRe_sub]
    omega
  · refine sumN_congr _ (fun k hk => ?_)
    rw [hb k, cIm_of _ (ha k), wav, if_pos hk, wav, if_neg (by omega), show 2 ^ m + k - 2 ^ m = k by omega, cIm_add, cIm_sub]
    omega
/-- An odd one: twice the odd numbers' waves, each turned. -/
theorem i_odd {m : Nat} (hm : m ≤ 8) (f : Nat → P2) (j : Nat) (p : Int) :
    iRe (m + 1) (wav (m + 1) f) (2 * j + 1) p = 2 * sumN (2 ^ m) (fun k => cRe (twd (wav m (fun i => f (2 * i + 1)) k) (ang m k)) (-((2 ^ (8 - m) * (2 * j + 1) * k : Nat) : Int) - p)) ∧
    iIm (m + 1) (wav (m + 1) f) (2 * j + 1) p = 2 * sumN (2 ^ m) (fun k => cIm (twd (wav m (fun i => f (2 * i + 1)) k) (ang m k)) (-((2 ^ (8 - m) * (2 * j + 1) * k : Nat) : Int) - p)) := by
  obtain ⟨h1, h2, h3⟩ := pow_eight hm
  have e2 : 2 ^ (m + 1) = 2 * 2 ^ m := by rw [Nat.pow_succ]; omega
  have ha : ∀ k, (-((2 ^ (9 - (m + 1)) * (2 * j + 1) * (2 ^ m + k) : Nat) : Int) - p) % 512 = ((-((2 ^ (8 - m) * (2 * j + 1) * k : Nat) : Int) - p) + 256) % 512 := fun k => by
    have e : 2 ^ (9 - (m + 1)) * (2 * j + 1) * (2 ^ m + k) = 512 * j + 256 + 2 ^ (8 - m) * (2 * j + 1) * k := by
      rw [h1, Nat.mul_add]
      have : 2 ^ (8 - m) * (2 * j + 1) * 2 ^ m = (2 ^ (8 - m) * 2 ^ m) * (2 * j + 1) := by rw [Nat.mul_right_comm]
      rw [this, h3]
      omega
    rw [e]; omega
  unfold iRe iIm
  rw [e2, sumN_two_halves, sumN_two_halves, ← sumN_mul, ← sumN_mul]
  constructor
  · refine sumN_congr _ (fun k hk => ?_)
    rw [cRe_of _ (ha k), cRe_half, h1, wav, if_pos hk, wav, if_neg (by omega), show 2 ^ m + k - 2 ^ m = k by omega, cRe_add, cRe_sub]
    omega
  · refine sumN_congr _ (fun k hk => ?_)
    rw [cIm_of _ (ha k), cIm_half, h1, wav, if_pos hk, wav, if_neg (by omega), show 2 ^ m + k - 2 ^ m = k by omega, cIm_add, cIm_sub]
    omega
/-- The waves turned back are the numbers, 2^m times, but for the errors. -/
theorem waves_back {B : Int} : ∀ (m : Nat), m ≤ 8 → ∀ (f : Nat → P2) (h : ∀ i, Bd B (f i)) (i : Nat) (hi : i < 2 ^ m) (p : Int),
    (-((2 ^ m : Nat) * offS B m) ≤ 16777216 * iRe m (wav m f) i p - 16777216 * ((2 ^ m : Nat) * cRe (f i) (-p)) ∧ 16777216 * iRe m (wav m f) i p - 16777216 * ((2 ^ m : Nat) * cRe (f i) (-p)) ≤ (2 ^ m : Nat) * offS B m) ∧
    (-((2 ^ m : Nat) * offS B m) ≤ 16777216 * iIm m (wav m f) i p - 16777216 * ((2 ^ m : Nat) * cIm (f i) (-p)) ∧ 16777216 * iIm m (wav m f) i p - 16777216 * ((2 ^ m : Nat) * cIm (f i) (-p)) ≤ (2 ^ m : Nat) * offS B m)
  | 0, _, f, h, i, hi, p => by
    obtain rfl : i = 0 := by simpa using hi
    have e1 : iRe 0 (wav 0 f) 0 p = cRe (f 0) (-p) := by simp [iRe, sumN, wav]
    have e2 : iIm 0 (wav 0 f) 0 p = cIm (f 0) (-p) := by simp [iIm, sumN, wav]
    rw [e1, e2]
    simp [offS]
  | m + 1, hm, f, h, i, hi, p => by
    have e2 : 2 ^ (m + 1) = 2 * 2 ^ m := by rw [Nat.pow_succ]; omega
    have hT : 0 ≤ offT (bndB B m) := by
      have hB : 0 ≤ B := by have := (h 0).1; omega
      have : 0 ≤ bndB B m := Int.mul_nonneg (Int.natCast_nonneg _) hB
      unfold offT
      omega
    have hT2 : 0 ≤ ((2 ^ m : Nat) : Int) * offT (bndB B m) := Int.mul_nonneg (Int.natCast_nonneg _) hT
    have eS : ((2 ^ (m + 1) : Nat) : Int) * offS B (m + 1) = 2 * (((2 ^ m : Nat) : Int) * offS B m) + 2 * (((2 ^ m : Nat) : Int) * offT (bndB B m)) := by
      rw [e2, offS, Int.natCast_mul, Int.mul_assoc, Int.mul_add, Int.mul_add]; rfl
    have eC : ∀ c : Int, ((2 ^ (m + 1) : Nat) : Int) * c = 2 * (((2 ^ m : Nat) : Int) * c) := fun c => by rw [e2, Int.natCast_mul, Int.mul_assoc]; rfl
    rw [eS, eC, eC]
    obtain ⟨j, hj | hj⟩ : ∃ j, i = 2 * j ∨ i = 2 * j + 1 := ⟨i / 2, by omega⟩
    · subst hj
      obtain ⟨a, b⟩ := waves_back m (by omega) (fun i => f (2 * i)) (fun i => h _) j (by omega) p
      obtain ⟨c, d⟩ := i_even (m := m) (by omega) f j p
      rw [c, d]
      omega
    · subst hj
      obtain ⟨a, b⟩ := waves_back m (by omega) (fun i => f (2 * i + 1)) (fun i => h _) j (by omega) p
      obtain ⟨c, d⟩ := i_odd (m := m) (by omega) f j p
      have hw := fun k => wav_bdB m (fun i => f (2 * i + 1)) (fun i => h _) k
      have hang : ∀ k, ang m k + (-((2 ^ (8 - m) * (2 * j + 1) * k : Nat) : Int) - p) = -((2 ^ (9 - m) * j * k : Nat) : Int) - p := fun k => by
        have e : 2 ^ (8 - m) * (2 * j + 1) * k = 2 ^ (9 - m) * j * k + 2 ^ (8 - m) * k := by
          rw [(pow_eight (show m ≤ 8 by omega)).2.1]; generalize 2 ^ (8 - m) = A; grind
        rw [ang, e]; omega
      have s1 : -((2 ^ m : Nat) * offT (bndB B m)) ≤ 16777216 * sumN (2 ^ m) (fun k => cRe (twd (wav m (fun i => f (2 * i + 1)) k) (ang m k)) (-((2 ^ (8 - m) * (2 * j + 1) * k : Nat) : Int) - p)) - 16777216 * iRe m (wav m fun i => f (2 * i + 1)) j p ∧
          16777216 * sumN (2 ^ m) (fun k => cRe (twd (wav m (fun i => f (2 * i + 1)) k) (ang m k)) (-((2 ^ (8 - m) * (2 * j + 1) * k : Nat) : Int) - p)) - 16777216 * iRe m (wav m fun i => f (2 * i + 1)) j p ≤ (2 ^ m : Nat) * offT (bndB B m) := by
        rw [iRe, ← sumN_mul, ← sumN_mul, ← sumN_sub]
        refine sumN_bd _ (fun k hk => ?_)
        rw [← hang k]
        exact turnedB_re (hw k) _ _
      have s2 : -((2 ^ m : Nat) * offT (bndB B m)) ≤ 16777216 * sumN (2 ^ m) (fun k => cIm (twd (wav m (fun i => f (2 * i + 1)) k) (ang m k)) (-((2 ^ (8 - m) * (2 * j + 1) * k : Nat) : Int) - p)) - 16777216 * iIm m (wav m fun i => f (2 * i + 1)) j p ∧
          16777216 * sumN (2 ^ m) (fun k => cIm (twd (wav m (fun i => f (2 * i + 1)) k) (ang m k)) (-((2 ^ (8 - m) * (2 * j + 1) * k : Nat) : Int) - p)) - 16777216 * iIm m (wav m fun i => f (2 * i + 1)) j p ≤ (2 ^ m : Nat) * offT (bndB B m) := by
        rw [iIm, ← sumN_mul, ← sumN_mul, ← sumN_sub]
        refine sumN_bd _ (fun k hk => ?_)
        rw [← hang k]
        exact turnedB_im (hw k) _ _
      rw [c, d]
      omega
end Go.Proofs.YtfhcfdepjhdhfaaDoor
