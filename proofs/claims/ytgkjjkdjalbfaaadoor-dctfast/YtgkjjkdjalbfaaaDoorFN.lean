/-
  How near waves are to the sums of all numbers, each turned by its place times k, that are rounded once: over plain integers.
-/
import Derived.Test.YtgkjjkdjalbfaaaDoorFM
namespace Go.Proofs.YtgkjjkdjalbfaaaDoor
set_option linter.unusedVariables false

def sumN : Nat → (Nat → Int) → Int
  | 0, _ => 0
  | n + 1, g => sumN n g + g n
theorem sumN_congr : ∀ (n : Nat) {f g : Nat → Int} (h : ∀ i, i < n → f i = g i), sumN n f = sumN n g
  | 0, _, _, _ => rfl
  | n + 1, f, g, h => by rw [sumN, sumN, sumN_congr n (fun i hi => h i (by omega)), h n (by omega)]
theorem sumN_two : ∀ (n : Nat) (g : Nat → Int), sumN (2 * n) g = sumN n (fun i => g (2 * i)) + sumN n (fun i => g (2 * i + 1))
  | 0, g => by simp [sumN]
  | n + 1, g => by
    rw [show 2 * (n + 1) = (2 * n + 1) + 1 by omega, sumN, sumN, sumN_two n g, sumN, sumN]; omega
theorem sumN_neg : ∀ (n : Nat) (g : Nat → Int), sumN n (fun i => - g i) = - sumN n g
  | 0, g => by simp [sumN]
  | n + 1, g => by rw [sumN, sumN, sumN_neg n g]; omega
theorem sumN_bd {B : Int} : ∀ (n : Nat) {g : Nat → Int} (h : ∀ i, i < n → -B ≤ g i ∧ g i ≤ B), -(n * B) ≤ sumN n g ∧ sumN n g ≤ n * B
  | 0, g, h => by simp [sumN]
  | n + 1, g, h => by
    have a := sumN_bd n (g := g) (fun i hi => h i (by omega))
    have b := h n (by omega)
    rw [sumN, show ((n + 1 : Nat) : Int) * B = n * B + B by rw [Int.natCast_add]; simp [Int.add_mul]]
    omega

/-- A number of two parts turned back by k parts, not rounded: in parts of 2^24. -/
def cRe (p : P2) (k : Int) : Int := p.1 * cosI k + p.2 * sinI k
def cIm (p : P2) (k : Int) : Int := p.2 * cosI k - p.1 * sinI k
/-- The sum of all, each turned by its place times k. -/
def dRe (m : Nat) (f : Nat → P2) (k : Nat) : Int := sumN (2 ^ m) (fun i => cRe (f i) ((2 ^ (9 - m) * i * k : Nat) : Int))
def dIm (m : Nat) (f : Nat → P2) (k : Nat) : Int := sumN (2 ^ m) (fun i => cIm (f i) ((2 ^ (9 - m) * i * k : Nat) : Int))
/-- Those at odd places, turned by theirs. -/
def oRe (m : Nat) (f : Nat → P2) (k : Nat) : Int := sumN (2 ^ m) (fun i => cRe (f i) ((2 ^ (8 - m) * (2 * i + 1) * k : Nat) : Int))
def oIm (m : Nat) (f : Nat → P2) (k : Nat) : Int := sumN (2 ^ m) (fun i => cIm (f i) ((2 ^ (8 - m) * (2 * i + 1) * k : Nat) : Int))

theorem cRe_of (p : P2) {a b : Int} (h : a % 512 = b % 512) : cRe p a = cRe p b := by
  rw [cRe, cRe, cosI_of h, sinI, sinI, cosI_of (show (a - 128) % 512 = (b - 128) % 512 by omega)]
theorem cIm_of (p : P2) {a b : Int} (h : a % 512 = b % 512) : cIm p a = cIm p b := by
  rw [cIm, cIm, cosI_of h, sinI, sinI, cosI_of (show (a - 128) % 512 = (b - 128) % 512 by omega)]
theorem cRe_half (p : P2) (a : Int) : cRe p (a + 256) = - cRe p a := by
  rw [cRe, cRe, cosI_half, sinI_half, Int.mul_neg, Int.mul_neg]; omega
theorem cIm_half (p : P2) (a : Int) : cIm p (a + 256) = - cIm p a := by
  rw [cIm, cIm, cosI_half, sinI_half, Int.mul_neg, Int.mul_neg]; omega

theorem dRe_lo {m : Nat} (hm : m ≤ 8) (f : Nat → P2) (k : Nat) : dRe (m + 1) f k = dRe m (fun i => f (2 * i)) k + oRe m (fun i => f (2 * i + 1)) k := by
  rw [dRe, Nat.pow_succ, Nat.mul_comm (2 ^ m) 2, sumN_two, dRe, oRe, show 9 - (m + 1) = 8 - m by omega]
  congr 1
  exact sumN_congr _ (fun i _ => by rw [show 9 - m = (8 - m) + 1 by omega, Nat.pow_succ, ← Nat.mul_assoc])
theorem dIm_lo {m : Nat} (hm : m ≤ 8) (f : Nat → P2) (k : Nat) : dIm (m + 1) f k = dIm m (fun i => f (2 * i)) k + oIm m (fun i => f (2 * i + 1)) k := by
  rw [dIm, Nat.pow_succ, Nat.mul_comm (2 ^ m) 2, sumN_two, dIm, oIm, show 9 - (m + 1) = 8 - m by omega]
  congr 1
  exact sumN_congr _ (fun i _ => by rw [show 9 - m = (8 - m) + 1 by omega, Nat.pow_succ, ← Nat.mul_assoc])
theorem pow_nine {m : Nat} (hm : m ≤ 8) : 2 ^ (9 - m) * 2 ^ m = 512 ∧ 2 ^ (8 - m) * 2 ^ m = 256 := by
  have h : ∀ m, m < 9 → 2 ^ (9 - m) * 2 ^ m = 512 ∧ 2 ^ (8 - m) * 2 ^ m = 256 := by decide
  exact h m (by omega)
/-- Half of all further on: those at odd places are opposite. -/
theorem ang_e {m : Nat} (hm : m ≤ 8) (i k : Nat) : ((2 ^ (9 - m) * i * (k + 2 ^ m) : Nat) : Int) % 512 = ((2 ^ (9 - m) * i * k : Nat) : Int) % 512 := by
  have h : 2 ^ (9 - m) * i * (k + 2 ^ m) = 2 ^ (9 - m) * i * k + 512 * i := by
    rw [Nat.mul_add, ← (pow_nine hm).1]; congr 1
    rw [Nat.mul_right_comm]
  rw [h]; omega
theorem ang_o {m : Nat} (hm : m ≤ 8) (i k : Nat) : ((2 ^ (8 - m) * (2 * i + 1) * (k + 2 ^ m) : Nat) : Int) % 512 = (((2 ^ (8 - m) * (2 * i + 1) * k : Nat) : Int) + 256) % 512 := by
  have h : 2 ^ (8 - m) * (2 * i + 1) * (k + 2 ^ m) = 2 ^ (8 - m) * (2 * i + 1) * k + 256 * (2 * i + 1) := by
    rw [Nat.mul_add, ← (pow_nine hm).2]; congr 1
    rw [Nat.mul_right_comm]
  rw [h]; omega
theorem dRe_hi {m : Nat} (hm : m ≤ 8) (f : Nat → P2) (k : Nat) : dRe (m + 1) f (k + 2 ^ m) = dRe m (fun i => f (2 * i)) k - oRe m (fun i => f (2 * i + 1)) k := by
  rw [dRe_lo hm, Int.sub_eq_add_neg]
  congr 1
  · exact sumN_congr _ (fun i _ => cRe_of _ (ang_e hm i k))
  · rw [oRe, oRe, ← sumN_neg]
    exact sumN_congr _ (fun i _ => by rw [cRe_of _ (ang_o hm i k), cRe_half])
theorem dIm_hi {m : Nat} (hm : m ≤ 8) (f : Nat → P2) (k : Nat) : dIm (m + 1) f (k + 2 ^ m) = dIm m (fun i => f (2 * i)) k - oIm m (fun i => f (2 * i + 1)) k := by
  rw [dIm_lo hm, Int.sub_eq_add_neg]
  congr 1
  · exact sumN_congr _ (fun i _ => cIm_of _ (ang_e hm i k))
  · rw [oIm, oIm, ← sumN_neg]
    exact sumN_congr _ (fun i _ => by rw [cIm_of _ (ang_o hm i k), cIm_half])

/-- Two turns are one, but for what cosines are rounded by: of multiples of eight parts. -/
def c8L : List Int := (List.range 64).map (fun i => cosT (8 * i))
def c8 (i : Nat) : Int := c8L.getD (i % 64) 0
theorem c8_all : (List.range 64).all (fun i => decide (c8 i = cosT (8 * i))) = true := by decide +kernel
theorem c8_eq (i : Nat) : c8 i = cosI ((8 * i : Nat) : Int) := by
  have h := List.all_eq_true.1 c8_all (i % 64) (List.mem_range.2 (Nat.mod_lt _ (by omega)))
  have h2 := of_decide_eq_true h
  rw [show c8 i = c8 (i % 64) by unfold c8; rw [Nat.mod_mod], h2, cosI]
  congr 1; omega
theorem c8_sin (i : Nat) : c8 (i + 48) = sinI ((8 * i : Nat) : Int) := by
  rw [c8_eq, sinI]; exact cosI_of (by omega)
def dfc (a b : Nat) : Int := 16777216 * c8 (a + b) - c8 b * c8 a + c8 (b + 48) * c8 (a + 48)
def dfs (a b : Nat) : Int := 16777216 * c8 (a + b + 48) - c8 (b + 48) * c8 a - c8 b * c8 (a + 48)
theorem df_all : (List.range 64).all (fun a => (List.range 64).all (fun b => decide ((dfc a b).natAbs + (dfs a b).natAbs ≤ 33554432))) = true := by decide +kernel
theorem cs_all : all512 (fun m => decide ((cosT m).natAbs + (cosT ((m + 384) % 512)).natAbs ≤ 23726566)) = true := by decide +kernel
theorem c8_mod (i j : Nat) (h : i % 64 = j % 64) : c8 i = c8 j := by rw [c8, c8, h]
theorem df_bd (a b : Nat) : (dfc a b).natAbs + (dfs a b).natAbs ≤ 33554432 := by
  have h := List.all_eq_true.1 df_all (a % 64) (List.mem_range.2 (Nat.mod_lt _ (by omega)))
  have h2 := of_decide_eq_true (List.all_eq_true.1 h (b % 64) (List.mem_range.2 (Nat.mod_lt _ (by omega))))
  have e1 : dfc (a % 64) (b % 64) = dfc a b := by
    unfold dfc; rw [c8_mod (a % 64 + b % 64) (a + b) (by omega), c8_mod (a % 64) a (by omega), c8_mod (b % 64) b (by omega), c8_mod (b % 64 + 48) (b + 48) (by omega), c8_mod (a % 64 + 48) (a + 48) (by omega)]
  have e2 : dfs (a % 64) (b % 64) = dfs a b := by
    unfold dfs; rw [c8_mod (a % 64 + b % 64 + 48) (a + b + 48) (by omega), c8_mod (a % 64) a (by omega), c8_mod (b % 64) b (by omega), c8_mod (b % 64 + 48) (b + 48) (by omega), c8_mod (a % 64 + 48) (a + 48) (by omega)]
  rwa [e1, e2] at h2
theorem cs_bd (k : Int) : (cosI k).natAbs + (sinI k).natAbs ≤ 23726566 := by
  have h := of_decide_eq_true (all512_at cs_all (mod_lt k))
  rwa [show cosT (((k % 512).toNat + 384) % 512) = sinI k by rw [sinI, cosI]; congr 1; omega] at h
end Go.Proofs.YtgkjjkdjalbfaaaDoor
