/-
  EACH WAVE IS NEAR ITS SUM: the error of each stage, and of all.
-/
import Derived.Test.YtgkjjkdjalbfaaaDoorFN
namespace Go.Proofs.YtgkjjkdjalbfaaaDoor
set_option linter.unusedVariables false

theorem two_bd {x y c s e : Int} {H : Nat} (h1 : -e ≤ x) (h2 : x ≤ e) (h3 : -e ≤ y) (h4 : y ≤ e) (h : c.natAbs + s.natAbs ≤ H) :
    -(e * H) ≤ x * c + y * s ∧ x * c + y * s ≤ e * H := by
  have a := mul_bd (b := (c.natAbs : Int)) h1 h2 (show _ ≤ c by omega) (show c ≤ _ by omega)
  have b := mul_bd (b := (s.natAbs : Int)) h3 h4 (show _ ≤ s by omega) (show s ≤ _ by omega)
  have d : e * ((c.natAbs : Int) + s.natAbs) ≤ e * H := Int.mul_le_mul_of_nonneg_left (by omega) (by omega)
  rw [Int.mul_add] at d
  omega
theorem two_bd' {x y c s e : Int} {H : Nat} (h1 : -e ≤ x) (h2 : x ≤ e) (h3 : -e ≤ y) (h4 : y ≤ e) (h : c.natAbs + s.natAbs ≤ H) :
    -(e * H) ≤ y * c - x * s ∧ y * c - x * s ≤ e * H := by
  have a := two_bd (x := y) (y := x) (s := -s) h3 h4 h1 h2 (H := H) (c := c) (by omega)
  rw [Int.mul_neg] at a
  omega
theorem sumN_lin (c s : Int) : ∀ (n : Nat) (g u v : Nat → Int),
    sumN n (fun i => 16777216 * g i - (u i * c + v i * s)) = 16777216 * sumN n g - (sumN n u * c + sumN n v * s)
  | 0, g, u, v => by simp [sumN]
  | n + 1, g, u, v => by
    simp only [sumN]; rw [sumN_lin c s n g u v, Int.add_mul, Int.add_mul]; omega
theorem pow_parts {m : Nat} (hm : m ≤ 5) : 2 ^ (8 - m) = 8 * 2 ^ (5 - m) ∧ 2 ^ (9 - m) = 8 * 2 ^ (6 - m) ∧ 2 ^ (6 - m) = 2 * 2 ^ (5 - m) := by
  have h : ∀ m, m < 6 → 2 ^ (8 - m) = 8 * 2 ^ (5 - m) ∧ 2 ^ (9 - m) = 8 * 2 ^ (6 - m) ∧ 2 ^ (6 - m) = 2 * 2 ^ (5 - m) := by decide
  exact h m (by omega)
theorem term_re (p : P2) (a b : Nat) : 16777216 * cRe p ((8 * (a + b) : Nat) : Int) - (cRe p ((8 * b : Nat) : Int) * cosI ((8 * a : Nat) : Int) + cIm p ((8 * b : Nat) : Int) * sinI ((8 * a : Nat) : Int)) = p.1 * dfc a b + p.2 * dfs a b := by
  unfold cRe cIm dfc dfs
  simp only [← c8_eq, ← c8_sin]
  generalize c8 (a + b) = c1; generalize c8 (a + b + 48) = s1; generalize c8 a = c2; generalize c8 b = c3; generalize c8 (a + 48) = s2; generalize c8 (b + 48) = s3
  grind
theorem term_im (p : P2) (a b : Nat) : 16777216 * cIm p ((8 * (a + b) : Nat) : Int) - (cIm p ((8 * b : Nat) : Int) * cosI ((8 * a : Nat) : Int) + cRe p ((8 * b : Nat) : Int) * (- sinI ((8 * a : Nat) : Int))) = p.2 * dfc a b - p.1 * dfs a b := by
  unfold cRe cIm dfc dfs
  simp only [← c8_eq, ← c8_sin]
  generalize c8 (a + b) = c1; generalize c8 (a + b + 48) = s1; generalize c8 a = c2; generalize c8 b = c3; generalize c8 (a + 48) = s2; generalize c8 (b + 48) = s3
  grind
theorem ang8 {m : Nat} (hm : m ≤ 5) (k i : Nat) : ang m k = ((8 * (2 ^ (5 - m) * k) : Nat) : Int) ∧ 2 ^ (9 - m) * i * k = 8 * (2 ^ (6 - m) * i * k) ∧ 2 ^ (8 - m) * (2 * i + 1) * k = 8 * (2 ^ (5 - m) * k + 2 ^ (6 - m) * i * k) := by
  obtain ⟨h1, h2, h3⟩ := pow_parts hm
  refine ⟨?_, ?_, ?_⟩
  · rw [ang, h1, Nat.mul_assoc]
  · rw [h2, Nat.mul_assoc, Nat.mul_assoc, ← Nat.mul_assoc (2 ^ (6 - m))]
  · rw [h1, h3]; generalize 2 ^ (5 - m) = z; grind
/-- Those at odd places, and their waves turned by the way of their first. -/
theorem odd_re {m : Nat} (hm : m ≤ 5) {f : Nat → P2} (h : ∀ i, Bd 1048576 (f i)) (k : Nat) :
    -((2 ^ m : Nat) * 35184372088832) ≤ 16777216 * oRe m f k - (dRe m f k * cosI (ang m k) + dIm m f k * sinI (ang m k)) ∧
    16777216 * oRe m f k - (dRe m f k * cosI (ang m k) + dIm m f k * sinI (ang m k)) ≤ (2 ^ m : Nat) * 35184372088832 := by
  rw [oRe, dRe, dIm, ← sumN_lin]
  refine sumN_bd _ (fun i hi => ?_)
  obtain ⟨a1, a2, a3⟩ := ang8 hm k i
  rw [a1, a2, a3, term_re]
  have t := two_bd (h i).1.1 (h i).1.2 (h i).2.1 (h i).2.2 (df_bd (2 ^ (5 - m) * k) (2 ^ (6 - m) * i * k))
  omega
theorem odd_im {m : Nat} (hm : m ≤ 5) {f : Nat → P2} (h : ∀ i, Bd 1048576 (f i)) (k : Nat) :
    -((2 ^ m : Nat) * 35184372088832) ≤ 16777216 * oIm m f k - (dIm m f k * cosI (ang m k) - dRe m f k * sinI (ang m k)) ∧
    16777216 * oIm m f k - (dIm m f k * cosI (ang m k) - dRe m f k * sinI (ang m k)) ≤ (2 ^ m : Nat) * 35184372088832 := by
  rw [show dIm m f k * cosI (ang m k) - dRe m f k * sinI (ang m k) = dIm m f k * cosI (ang m k) + dRe m f k * (- sinI (ang m k)) by rw [Int.mul_neg]; omega]
  rw [oIm, dRe, dIm, ← sumN_lin]
  refine sumN_bd _ (fun i hi => ?_)
  obtain ⟨a1, a2, a3⟩ := ang8 hm k i
  rw [a1, a2, a3, term_im]
  have t := two_bd' (h i).1.1 (h i).1.2 (h i).2.1 (h i).2.2 (df_bd (2 ^ (5 - m) * k) (2 ^ (6 - m) * i * k))
  omega
theorem twd_re (o : P2) (k : Int) : (twd o k).1 = turnRe o.1 o.2 k := rfl
theorem twd_im (o : P2) (k : Int) : (twd o k).2 = turnIm o.1 o.2 k := rfl
/-- What a stage adds, and what all stages up to one do. -/
def eX (m : Nat) (e : Int) : Int := if m = 0 then e else (140737488355328 + e * 23726566 + (2 ^ m : Nat) * 35184372088832) / 16777216 + 1
def eb : Nat → Int
  | 0 => 0
  | m + 1 => eb m + eX m (eb m)
theorem eb_pos : ∀ m, m < 7 → 0 ≤ eb m ∧ eb m + 8388608 < 101 * 16777216 := by decide +kernel
theorem stage_re {m : Nat} (hm : m ≤ 5) {f : Nat → P2} (h : ∀ i, Bd 1048576 (f i)) {k : Nat} (hk : k < 2 ^ m) {o : P2} {e : Int}
    (n1 : -e ≤ 16777216 * o.1 - dRe m f k ∧ 16777216 * o.1 - dRe m f k ≤ e) (n2 : -e ≤ 16777216 * o.2 - dIm m f k ∧ 16777216 * o.2 - dIm m f k ≤ e) :
    -(eX m e) ≤ 16777216 * (twd o (ang m k)).1 - oRe m f k ∧ 16777216 * (twd o (ang m k)).1 - oRe m f k ≤ eX m e := by
  by_cases h0 : m = 0
  · subst h0
    have : k = 0 := by simpa using hk
    subst this
    rw [eX, if_pos rfl]
    have e1 : oRe 0 f 0 = dRe 0 f 0 := by simp [oRe, dRe]
    rw [e1, show ang 0 0 = 0 by decide]
    rw [twd_re, turn0_re]
    exact n1
  · rw [eX, if_neg h0]
    have a := odd_re hm h k
    have r := shr24_near (o.1 * cosI (ang m k) + o.2 * sinI (ang m k))
    have b := two_bd n1.1 n1.2 n2.1 n2.2 (cs_bd (ang m k))
    rw [twd_re, turnRe]
    generalize shr24 (o.1 * cosI (ang m k) + o.2 * sinI (ang m k)) = t at *
    generalize cosI (ang m k) = c at *
    generalize sinI (ang m k) = s at *
    simp only [Int.sub_mul, Int.mul_assoc] at b
    generalize dRe m f k * c = z1 at *
    generalize dIm m f k * s = z2 at *
    generalize o.1 * c = z3 at *
    generalize o.2 * s = z4 at *
    generalize ((2 ^ m : Nat) : Int) * 35184372088832 = z5 at *
    generalize oRe m f k = z6 at *
    omega
theorem stage_im {m : Nat} (hm : m ≤ 5) {f : Nat → P2} (h : ∀ i, Bd 1048576 (f i)) {k : Nat} (hk : k < 2 ^ m) {o : P2} {e : Int}
    (n1 : -e ≤ 16777216 * o.1 - dRe m f k ∧ 16777216 * o.1 - dRe m f k ≤ e) (n2 : -e ≤ 16777216 * o.2 - dIm m f k ∧ 16777216 * o.2 - dIm m f k ≤ e) :
    -(eX m e) ≤ 16777216 * (twd o (ang m k)).2 - oIm m f k ∧ 16777216 * (twd o (ang m k)).2 - oIm m f k ≤ eX m e := by
  by_cases h0 : m = 0
  · subst h0
    have : k = 0 := by simpa using hk
    subst this
    rw [eX, if_pos rfl]
    have e1 : oIm 0 f 0 = dIm 0 f 0 := by simp [oIm, dIm]
    rw [e1, show ang 0 0 = 0 by decide]
    rw [twd_im, turn0_im]
    exact n2
  · rw [eX, if_neg h0]
    have a := odd_im hm h k
    have r := shr24_near (o.2 * cosI (ang m k) - o.1 * sinI (ang m k))
    have b := two_bd' n1.1 n1.2 n2.1 n2.2 (cs_bd (ang m k))
    rw [twd_im, turnIm]
    generalize shr24 (o.2 * cosI (ang m k) - o.1 * sinI (ang m k)) = t at *
    generalize cosI (ang m k) = c at *
    generalize sinI (ang m k) = s at *
    simp only [Int.sub_mul, Int.mul_assoc] at b
    generalize dIm m f k * c = z1 at *
    generalize dRe m f k * s = z2 at *
    generalize o.2 * c = z3 at *
    generalize o.1 * s = z4 at *
    generalize ((2 ^ m : Nat) : Int) * 35184372088832 = z5 at *
    generalize oIm m f k = z6 at *
    omega
theorem near_all : ∀ (m : Nat) (hm : m ≤ 6) (f : Nat → P2) (h : ∀ i, Bd 1048576 (f i)) (k : Nat) (hk : k < 2 ^ m),
    (-(eb m) ≤ 16777216 * (wav m f k).1 - dRe m f k ∧ 16777216 * (wav m f k).1 - dRe m f k ≤ eb m) ∧
    (-(eb m) ≤ 16777216 * (wav m f k).2 - dIm m f k ∧ 16777216 * (wav m f k).2 - dIm m f k ≤ eb m)
  | 0, hm, f, h, k, hk => by
    have : k = 0 := by simpa using hk
    subst this
    have c0 := cos0
    have s0 := sin0
    simp [eb, wav, dRe, dIm, sumN, cRe, cIm, c0, s0]
    omega
  | m + 1, hm, f, h, k, hk => by
    have e2 : 2 ^ (m + 1) = 2 * 2 ^ m := by rw [Nat.pow_succ]; omega
    have ih0 := near_all m (by omega) (fun i => f (2 * i)) (fun i => h _)
    have ih1 := near_all m (by omega) (fun i => f (2 * i + 1)) (fun i => h _)
    have key : ∀ q, q < 2 ^ m → _ := fun q hq => And.intro (stage_re (by omega) (fun i => h (2 * i + 1)) hq (ih1 q hq).1 (ih1 q hq).2) (stage_im (by omega) (fun i => h (2 * i + 1)) hq (ih1 q hq).1 (ih1 q hq).2)
    by_cases hh : k < 2 ^ m
    · have k1 := key k hh
      have k0 := ih0 k hh
      rw [wav, if_pos hh, dRe_lo (by omega), dIm_lo (by omega), eb]
      simp only [addP]
      omega
    · obtain ⟨q, rfl⟩ : ∃ q, k = q + 2 ^ m := ⟨k - 2 ^ m, by omega⟩
      have hq : q < 2 ^ m := by omega
      have k1 := key q hq
      have k0 := ih0 q hq
      rw [wav, if_neg hh, dRe_hi (by omega), dIm_hi (by omega), eb, show q + 2 ^ m - 2 ^ m = q by omega]
      simp only [subP]
      omega
/-- EACH WAVE IS NEAR ITS SUM, rounded once: off by 100 at most. -/
theorem near_sum {m : Nat} (hm : m ≤ 6) {f : Nat → P2} (h : ∀ i, Bd 1048576 (f i)) {k : Nat} (hk : k < 2 ^ m) :
    ((wav m f k).1 - shr24 (dRe m f k) ≤ 100 ∧ shr24 (dRe m f k) - (wav m f k).1 ≤ 100) ∧ ((wav m f k).2 - shr24 (dIm m f k) ≤ 100 ∧ shr24 (dIm m f k) - (wav m f k).2 ≤ 100) := by
  have a := near_all m hm f h k hk
  have b := eb_pos m (by omega)
  have r1 := shr24_near (dRe m f k)
  have r2 := shr24_near (dIm m f k)
  omega
/-- Sums up to any place stay far within. -/
theorem cRe_bd {p : P2} (h : Bd 1048576 p) (k : Int) : -35184372088832 ≤ cRe p k ∧ cRe p k ≤ 35184372088832 := by
  have a := mul_bd h.1.1 h.1.2 (cosI_bd k).1 (cosI_bd k).2
  have b := mul_bd h.2.1 h.2.2 (sinI_bd k).1 (sinI_bd k).2
  unfold cRe; omega
theorem cIm_bd {p : P2} (h : Bd 1048576 p) (k : Int) : -35184372088832 ≤ cIm p k ∧ cIm p k ≤ 35184372088832 := by
  have a := mul_bd h.2.1 h.2.2 (cosI_bd k).1 (cosI_bd k).2
  have b := mul_bd h.1.1 h.1.2 (sinI_bd k).1 (sinI_bd k).2
  unfold cIm; omega
end Go.Proofs.YtgkjjkdjalbfaaaDoor
