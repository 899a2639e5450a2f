/-
  Pulses as coefficients: plain numbers. The power of coefficients is as loud as the band.
-/
import Derived.Test.YtlfhjcalkokhiaaDoorRTM
import Derived.Test.YtlfhjcalkokhiaaDoorLM
import Derived.Test.YtlfhjcalkokhiaaDoorPVA
namespace Go.Proofs.YtlfhjcalkokhiaaDoor
set_option linter.unusedVariables false

/-- The sum of the squares of the first n; of products. -/
def sqS (X : Nat → Int) : Nat → Int
  | 0 => 0
  | i + 1 => sqS X i + X i * X i
def dotS (X Y : Nat → Int) : Nat → Int
  | 0 => 0
  | i + 1 => dotS X Y i + X i * Y i
theorem sq_nn (a : Int) : 0 ≤ a * a := by
  rcases Int.le_total 0 a with h | h
  · exact Int.mul_nonneg h h
  · exact Int.mul_nonneg_of_nonpos_of_nonpos h h
theorem sqS_nn (X : Nat → Int) : ∀ n, 0 ≤ sqS X n
  | 0 => Int.le_refl _
  | n + 1 => by have := sqS_nn X n; have := sq_nn (X n); rw [sqS]; omega
theorem le_of_sq {a b : Int} (hb : 0 ≤ b) (h : a * a ≤ b * b) : a ≤ b := by
  rcases Int.lt_or_le b a with h1 | h1
  · have h2 := Int.mul_le_mul (show b + 1 ≤ a from h1) (show b + 1 ≤ a from h1) (by omega) (by omega)
    have h3 : (b + 1) * (b + 1) = b * b + 2 * b + 1 := by grind
    omega
  · exact h1
theorem lt_of_sq {a b : Int} (hb : 0 ≤ b) (h : a * a < b * b) : a < b := by
  rcases Int.lt_or_le a b with h1 | h1
  · exact h1
  · have := Int.mul_le_mul h1 h1 hb (by omega); omega
theorem sqS_le {f g : Nat → Int} : ∀ n, (∀ i, i < n → 0 ≤ f i ∧ f i ≤ g i) → sqS f n ≤ sqS g n
  | 0, _ => Int.le_refl _
  | n + 1, h => by
    have h1 := sqS_le n (fun i hi => h i (by omega))
    obtain ⟨h2, h3⟩ := h n (by omega)
    have := Int.mul_le_mul h3 h3 h2 (by omega)
    rw [sqS, sqS]; omega
theorem sqS_congr {f g : Nat → Int} : ∀ n, (∀ i, i < n → f i * f i = g i * g i) → sqS f n = sqS g n
  | 0, _ => rfl
  | n + 1, h => by rw [sqS, sqS, sqS_congr n (fun i hi => h i (by omega)), h n (by omega)]
theorem sqS_at (X : Nat → Int) : ∀ n i, i < n → X i * X i ≤ sqS X n
  | 0, i, h => by omega
  | n + 1, i, h => by
    rw [sqS]
    by_cases e : i = n
    · subst e; have := sqS_nn X i; omega
    · have := sqS_at X n i (by omega); have := sq_nn (X n); omega
theorem sqS_mul (c : Int) (X : Nat → Int) : ∀ n, sqS (fun i => c * X i) n = c * c * sqS X n
  | 0 => by simp [sqS]
  | n + 1 => by rw [sqS, sqS_mul c X n, sqS]; grind
theorem sqS_add (c r : Int) (X : Nat → Int) : ∀ n, sqS (fun i => c * X i + r) n = c * c * sqS X n + 2 * c * r * dotS X (fun _ => 1) n + (n : Int) * (r * r)
  | 0 => by simp [sqS, dotS]
  | n + 1 => by rw [sqS, sqS_add c r X n, sqS, dotS]; push_cast; grind
theorem sqS_one : ∀ n, sqS (fun _ => 1) n = (n : Int)
  | 0 => rfl
  | n + 1 => by rw [sqS, sqS_one n]; push_cast; omega
/-- The square of a sum of products is not above the product of the sums of squares. -/
theorem cauchy_step {A B C x y : Int} (hA : 0 ≤ A) (hB : 0 ≤ B) (h : C * C ≤ A * B) : (C + x * y) * (C + x * y) ≤ (A + x * x) * (B + y * y) := by
  have hP : 0 ≤ A * (y * y) + x * x * B := by
    have := Int.mul_nonneg hA (sq_nn y); have := Int.mul_nonneg (sq_nn x) hB; omega
  have h1 : (2 * (C * x * y)) * (2 * (C * x * y)) ≤ (A * (y * y) + x * x * B) * (A * (y * y) + x * x * B) := by
    have e1 : (2 * (C * x * y)) * (2 * (C * x * y)) = 4 * (C * C) * ((x * x) * (y * y)) := by grind
    have e2 : (A * (y * y) + x * x * B) * (A * (y * y) + x * x * B) = 4 * (A * B) * ((x * x) * (y * y)) + (A * (y * y) - x * x * B) * (A * (y * y) - x * x * B) := by grind
    have h2 := sq_nn (A * (y * y) - x * x * B)
    have h3 : 4 * (C * C) * ((x * x) * (y * y)) ≤ 4 * (A * B) * ((x * x) * (y * y)) := Int.mul_le_mul_of_nonneg_right (by omega) (Int.mul_nonneg (sq_nn x) (sq_nn y))
    rw [e1, e2]; omega
  have h2 := le_of_sq hP h1
  grind
theorem cauchy (X Y : Nat → Int) : ∀ n, dotS X Y n * dotS X Y n ≤ sqS X n * sqS Y n
  | 0 => Int.le_refl _
  | n + 1 => cauchy_step (sqS_nn X n) (sqS_nn Y n) (cauchy X Y n)
theorem dotS_nn {X Y : Nat → Int} : ∀ n, (∀ i, i < n → 0 ≤ X i ∧ 0 ≤ Y i) → 0 ≤ dotS X Y n
  | 0, _ => Int.le_refl _
  | n + 1, h => by
    have h1 := dotS_nn n (fun i hi => h i (by omega))
    obtain ⟨h2, h3⟩ := h n (by omega)
    have := Int.mul_nonneg h2 h3
    rw [dotS]; omega
theorem dotS_ge {W U : Nat → Int} {c r : Int} : ∀ n, (∀ i, i < n → 0 ≤ U i ∧ c * U i - r ≤ 2 * r * W i) → c * sqS U n - r * dotS U (fun _ => 1) n ≤ 2 * r * dotS W U n
  | 0, _ => by simp [sqS, dotS]
  | n + 1, h => by
    have h1 := dotS_ge n (fun i hi => h i (by omega))
    obtain ⟨h2, h3⟩ := h n (by omega)
    have h4 := Int.mul_le_mul_of_nonneg_right h3 h2
    rw [dotS, dotS, sqS]
    grind
/-- Upwards: a is as loud as the band, r the root, T the coefficients' squares. -/
theorem loud_up {a r T S K n N N2 : Int} (ha : 0 ≤ a) (hr : 1024 ≤ r) (hn : 1 ≤ n) (hK : 0 ≤ K) (hN : N = n + N2) (h2 : a + 1 ≤ 1000 * N2) (h1 : 1048576 * S < (r + 1) * (r + 1)) (hC : K * K ≤ n * S) (hS : 0 ≤ S)
    (hT : 4 * (r * r) * T ≤ 4194304 * (a * a) * S + 4096 * a * r * K + n * (r * r)) : T ≤ (a + N) * (a + N) := by
  have hN2 : 1 ≤ N2 := by omega
  -- how many in all, held
  have k1 : 1024 * K ≤ n * (r + 1) := by
    refine le_of_sq (Int.mul_nonneg (by omega) (by omega)) ?_
    have e1 : (1024 * K) * (1024 * K) = 1048576 * (K * K) := by grind
    have e2 : (n * (r + 1)) * (n * (r + 1)) = n * (n * ((r + 1) * (r + 1))) := by grind
    have b1 : 1048576 * (K * K) ≤ n * (1048576 * S) := by
      have e : n * (1048576 * S) = 1048576 * (n * S) := by grind
      omega
    have b2 : n * (1048576 * S) ≤ n * ((r + 1) * (r + 1)) := Int.mul_le_mul_of_nonneg_left (by omega) (by omega)
    have b3 : n * ((r + 1) * (r + 1)) ≤ n * (n * ((r + 1) * (r + 1))) := by
      have h0 : 0 ≤ n * ((r + 1) * (r + 1)) := Int.mul_nonneg (by omega) (sq_nn _)
      have := Int.mul_le_mul_of_nonneg_right hn h0
      omega
    omega
  have t1 : 4194304 * (a * a) * S ≤ 4 * (a * a) * ((r + 1) * (r + 1)) := by
    have h0 := Int.mul_le_mul_of_nonneg_left (Int.le_of_lt h1) (show 0 ≤ 4 * (a * a) by have := sq_nn a; omega)
    have e : 4 * (a * a) * (1048576 * S) = 4194304 * (a * a) * S := by grind
    omega
  have har : 0 ≤ a * r := Int.mul_nonneg ha (by omega)
  have t2 : 4096 * a * r * K ≤ 8 * (r * r) * a * n := by
    have h0 := Int.mul_le_mul_of_nonneg_left k1 (show 0 ≤ 4 * (a * r) by omega)
    have h3 : n * (r + 1) ≤ n * (2 * r) := Int.mul_le_mul_of_nonneg_left (by omega) (by omega)
    have h4 := Int.mul_le_mul_of_nonneg_left h3 (show 0 ≤ 4 * (a * r) by omega)
    have e1 : 4 * (a * r) * (1024 * K) = 4096 * a * r * K := by grind
    have e2 : 4 * (a * r) * (n * (2 * r)) = 8 * (r * r) * a * n := by grind
    omega
  have t3 : n * (r * r) ≤ 4 * (r * r) * (N * N) := by
    have h0 : n ≤ N * N := by
      have := Int.mul_le_mul (show n ≤ N by omega) (show (1 : Int) ≤ N by omega) (by omega) (by omega)
      omega
    have h3 := Int.mul_le_mul_of_nonneg_right h0 (sq_nn r)
    have h4 := Int.mul_nonneg (sq_nn N) (sq_nn r)
    have e : 4 * (r * r) * (N * N) = 4 * (N * N * (r * r)) := by grind
    omega
  have t4 : 8 * (a * a) * r + 4 * (a * a) ≤ 8 * (r * r) * a * N2 := by
    have h0 : 8 * a * r + 4 * a ≤ 8 * (r * r) * N2 := by
      have g1 : r * (a + 1) ≤ r * (1000 * N2) := Int.mul_le_mul_of_nonneg_left h2 (by omega)
      have g2 : 1024 * (r * N2) ≤ r * (r * N2) := Int.mul_le_mul_of_nonneg_right hr (Int.mul_nonneg (by omega) (by omega))
      have g3 : 1024 * a ≤ r * a := Int.mul_le_mul_of_nonneg_right hr ha
      have e1 : r * (a + 1) = r * a + r := by grind
      have e2 : r * (1000 * N2) = 1000 * (r * N2) := by grind
      have e3 : 8 * (r * r) * N2 = 8 * (r * (r * N2)) := by grind
      have e4 : 8 * a * r = 8 * (r * a) := by grind
      omega
    have h3 := Int.mul_le_mul_of_nonneg_left h0 ha
    have e1 : a * (8 * a * r + 4 * a) = 8 * (a * a) * r + 4 * (a * a) := by grind
    have e2 : a * (8 * (r * r) * N2) = 8 * (r * r) * a * N2 := by grind
    omega
  have e5 : 4 * (a * a) * ((r + 1) * (r + 1)) = 4 * (r * r) * (a * a) + (8 * (a * a) * r + 4 * (a * a)) := by grind
  have e6 : 4 * (r * r) * ((a + N) * (a + N)) = 4 * (r * r) * (a * a) + 8 * (r * r) * a * n + 8 * (r * r) * a * N2 + 4 * (r * r) * (N * N) := by rw [hN]; grind
  have hf : 4 * (r * r) * T ≤ 4 * (r * r) * ((a + N) * (a + N)) := by omega
  have hr0 : 0 < 4 * (r * r) := by have := Int.mul_le_mul hr hr (by omega) (by omega); omega
  exact Int.le_of_mul_le_mul_left hf hr0
/-- Downwards. -/
theorem loud_down {a r T S K n N P : Int} (ha : N ≤ a) (hr : 1024 ≤ r) (hn : 1 ≤ n) (hK : 0 ≤ K) (hN : n ≤ N) (h1 : r * r ≤ 1048576 * S) (hC : K * K ≤ n * S) (hS : 1 ≤ S) (hP : P * P ≤ T * S) (hP0 : 0 ≤ P)
    (hZ : 2048 * a * S - r * K ≤ 2 * r * P) : (a - N) * (a - N) ≤ T := by
  have k1 : r * K ≤ 1024 * n * S := by
    refine le_of_sq (Int.mul_nonneg (by omega) (by omega)) ?_
    have e1 : (r * K) * (r * K) = (r * r) * (K * K) := by grind
    have e2 : (1024 * n * S) * (1024 * n * S) = n * ((1048576 * S) * (n * S)) := by grind
    have b1 : (r * r) * (K * K) ≤ (1048576 * S) * (n * S) := Int.mul_le_mul h1 hC (sq_nn K) (by omega)
    have b2 : (1048576 * S) * (n * S) ≤ n * ((1048576 * S) * (n * S)) := by
      have h0 : 0 ≤ (1048576 * S) * (n * S) := Int.mul_nonneg (by omega) (Int.mul_nonneg (by omega) (by omega))
      have := Int.mul_le_mul_of_nonneg_right hn h0
      omega
    omega
  have k2 : 2048 * S * (a - N) ≤ 2 * r * P := by
    have h0 : n * S ≤ N * S := Int.mul_le_mul_of_nonneg_right hN (by omega)
    have h3 : 0 ≤ N * S := Int.mul_nonneg (by omega) (by omega)
    have e1 : 2048 * S * (a - N) = 2048 * a * S - 2048 * (N * S) := by grind
    have e2 : 1024 * n * S = 1024 * (n * S) := by grind
    omega
  have h0 : 0 ≤ 2048 * S * (a - N) := Int.mul_nonneg (by omega) (by omega)
  have h3 := Int.mul_le_mul k2 k2 h0 (by omega)
  have e1 : (2 * r * P) * (2 * r * P) = 4 * (r * r) * (P * P) := by grind
  have e2 : (2048 * S * (a - N)) * (2048 * S * (a - N)) = 4 * S * (1048576 * S) * ((a - N) * (a - N)) := by grind
  have b1 : 4 * (r * r) * (P * P) ≤ 4 * (r * r) * (T * S) := Int.mul_le_mul_of_nonneg_left hP (by have := sq_nn r; omega)
  have b2 : 4 * S * (r * r) * ((a - N) * (a - N)) ≤ 4 * S * (1048576 * S) * ((a - N) * (a - N)) :=
    Int.mul_le_mul_of_nonneg_right (Int.mul_le_mul_of_nonneg_left h1 (by omega)) (sq_nn _)
  have e3 : 4 * S * (r * r) * ((a - N) * (a - N)) = 4 * S * (r * r) * ((a - N) * (a - N)) := rfl
  have e4 : 4 * (r * r) * (T * S) = 4 * S * (r * r) * T := by grind
  have hf : 4 * S * (r * r) * ((a - N) * (a - N)) ≤ 4 * S * (r * r) * T := by omega
  have hr0 : 1 ≤ r * r := by have := Int.mul_le_mul hr hr (by omega) (by omega); omega
  have hp : 0 < 4 * S * (r * r) := by
    have := Int.mul_le_mul (show 1 ≤ 4 * S by omega) hr0 (by omega) (by omega); omega
  exact Int.le_of_mul_le_mul_left hf hp
end Go.Proofs.YtlfhjcalkokhiaaDoor
