/-
  What was taken fast and put back is as it was, but for 12. Plain numbers.
-/
import Derived.Test.YtfhcfdepjhdhfaaDoorYM
namespace Go.Proofs.YtfhcfdepjhdhfaaDoor
set_option linter.unusedVariables false

theorem cRe_conj (t : P2) (a : Int) : cRe (t.1, -t.2) a = cRe t (-a) := by
  unfold cRe
  simp only [cosI_neg, sinI_neg]
  grind
theorem cIm_conj (t : P2) (a : Int) : cIm (t.1, -t.2) a = -cIm t (-a) := by
  unfold cIm
  simp only [cosI_neg, sinI_neg]
  grind
theorem cRe_zero (t : P2) : cRe t 0 = 16777216 * t.1 := by
  have h1 : cosI 0 = 16777216 := by decide
  have h2 : sinI 0 = 0 := by decide
  rw [cRe, h1, h2]; omega
theorem cIm_zero (t : P2) : cIm t 0 = 16777216 * t.2 := by
  have h1 : cosI 0 = 16777216 := by decide
  have h2 : sinI 0 = 0 := by decide
  rw [cIm, h1, h2]; omega
theorem zP_fast {n m a : Nat} (hb : Blk n m a) (U : Nat → Int) {k : Nat} (hk : k < 2 ^ m) : zP n (fastF n m U) k = ((tP n m U k).1, -(tP n m U k).2) := by
  have hn := hb.hn
  unfold zP
  congr 1
  · rw [fastF, if_pos (by omega), show 2 * k / 2 = k by omega]
  · rw [fastF, if_neg (by omega), show (n - 1 - (n - 1 - 2 * k)) / 2 = k by omega]
/-- The errors of all steps (in parts of 2^48). -/
def offF (m : Nat) : Int := offT (bndB 131072 m) + offS 131072 m + offT 65536
theorem zP_bd16 {n m a : Nat} (hb : Blk n m a) {U : Nat → Int} (hU : ∀ i, i < n → -65536 ≤ U i ∧ U i ≤ 65536) {i : Nat} (hi : i < 2 ^ m) : Bd 65536 (zP n U i) :=
  ⟨hU _ (by have := hb.hn; omega), hU _ (by have := hb.hn; omega)⟩
theorem wP_bd17 {n m a : Nat} (hb : Blk n m a) {U : Nat → Int} (hU : ∀ i, i < n → -65536 ≤ U i ∧ U i ≤ 65536) {i : Nat} (hi : i < 2 ^ m) : Bd 131072 (wP n U i) := (zP_bd16 hb hU hi).twd _
theorem back_fast_sum {n m a : Nat} (hb : Blk n m a) {U : Nat → Int} (hU : ∀ i, i < n → -65536 ≤ U i ∧ U i ≤ 65536) {i : Nat} (hi : i < 2 ^ m) :
    (-((2 ^ m : Nat) * offF m) ≤ 16777216 * xsum n (fastF n m U) (2 * i) - 281474976710656 * ((2 ^ m : Nat) * U (2 * i)) ∧ 16777216 * xsum n (fastF n m U) (2 * i) - 281474976710656 * ((2 ^ m : Nat) * U (2 * i)) ≤ (2 ^ m : Nat) * offF m) ∧
    (-((2 ^ m : Nat) * offF m) ≤ 16777216 * xsum n (fastF n m U) (n - 1 - 2 * i) - 281474976710656 * ((2 ^ m : Nat) * U (n - 1 - 2 * i)) ∧ 16777216 * xsum n (fastF n m U) (n - 1 - 2 * i) - 281474976710656 * ((2 ^ m : Nat) * U (n - 1 - 2 * i)) ≤ (2 ^ m : Nat) * offF m) := by
  have hm := hb.hm
  have hn := hb.hn
  obtain ⟨g, hg⟩ : ∃ g : Int, ((64 / n * (4 * i + 1) : Nat) : Int) = g := ⟨_, rfl⟩
  have hf : ∀ j, Bd 131072 (cutP m (wP n U) j) := cutP_bd (by decide) (fun j hj => wP_bd17 hb hU hj)
  have e1 : xsum n (fastF n m U) (2 * i) = sumN (2 ^ m) (fun k => cRe (tP n m U k) (-xang n (2 * i) (2 * k))) := by
    rw [← sum_re hb]
    exact sumN_congr _ (fun k hk => by rw [zP_fast hb U hk, cRe_conj, xang_comm])
  have e2 : xsum n (fastF n m U) (n - 1 - 2 * i) = sumN (2 ^ m) (fun k => cIm (tP n m U k) (-xang n (2 * i) (2 * k))) := by
    have h := sum_im hb (fastF n m U) (k := i) (by omega)
    have h2 : sumN (2 ^ m) (fun k => cIm (zP n (fastF n m U) k) (xang n (2 * k) (2 * i))) = -sumN (2 ^ m) (fun k => cIm (tP n m U k) (-xang n (2 * i) (2 * k))) := by
      rw [← sumN_neg]
      exact sumN_congr _ (fun k hk => by rw [zP_fast hb U hk, cIm_conj, xang_comm])
    rw [h2] at h
    omega
  have hang : ∀ k, ((4 * (64 / n) * k : Nat) : Int) + -xang n (2 * i) (2 * k) = -((2 ^ (9 - m) * i * k : Nat) : Int) - g := fun k => by
    rw [← all_ang hb i k, hg]; omega
  have s1 : -((2 ^ m : Nat) * offT (bndB 131072 m)) ≤ 16777216 * xsum n (fastF n m U) (2 * i) - 16777216 * iRe m (wav m (cutP m (wP n U))) i g ∧ 16777216 * xsum n (fastF n m U) (2 * i) - 16777216 * iRe m (wav m (cutP m (wP n U))) i g ≤ (2 ^ m : Nat) * offT (bndB 131072 m) := by
    rw [e1, iRe, ← sumN_mul, ← sumN_mul, ← sumN_sub]
    refine sumN_bd _ (fun k hk => ?_)
    rw [← hang k, cutP_wav m _ hk]
    have h := wav_bdB m (cutP m (wP n U)) hf k
    rw [cutP_wav m _ hk] at h
    exact turnedB_re h _ _
  have s2 : -((2 ^ m : Nat) * offT (bndB 131072 m)) ≤ 16777216 * xsum n (fastF n m U) (n - 1 - 2 * i) - 16777216 * iIm m (wav m (cutP m (wP n U))) i g ∧ 16777216 * xsum n (fastF n m U) (n - 1 - 2 * i) - 16777216 * iIm m (wav m (cutP m (wP n U))) i g ≤ (2 ^ m : Nat) * offT (bndB 131072 m) := by
    rw [e2, iIm, ← sumN_mul, ← sumN_mul, ← sumN_sub]
    refine sumN_bd _ (fun k hk => ?_)
    rw [← hang k, cutP_wav m _ hk]
    have h := wav_bdB m (cutP m (wP n U)) hf k
    rw [cutP_wav m _ hk] at h
    exact turnedB_im h _ _
  have w := waves_back m (by omega) (cutP m (wP n U)) hf i hi g
  rw [show cutP m (wP n U) i = wP n U i from if_pos hi] at w
  have t1 := turnedB_re (zP_bd16 hb hU hi) g (-g)
  have t2 := turnedB_im (zP_bd16 hb hU hi) g (-g)
  rw [show twd (zP n U i) g = wP n U i by rw [← hg]; rfl, show g + -g = 0 by omega, cRe_zero] at t1
  rw [show twd (zP n U i) g = wP n U i by rw [← hg]; rfl, show g + -g = 0 by omega, cIm_zero] at t2
  rw [show (zP n U i).1 = U (2 * i) from rfl] at t1
  rw [show (zP n U i).2 = U (n - 1 - 2 * i) from rfl] at t2
  have hN : (0 : Int) ≤ ((2 ^ m : Nat) : Int) := Int.natCast_nonneg _
  have mulN : ∀ {x y : Int}, x ≤ y → ((2 ^ m : Nat) : Int) * x ≤ ((2 ^ m : Nat) : Int) * y := fun h => Int.mul_le_mul_of_nonneg_left h hN
  have p1 := mulN t1.1
  have p2 := mulN t1.2
  have p3 := mulN t2.1
  have p4 := mulN t2.2
  unfold offF
  generalize ((2 ^ m : Nat) : Int) = N at *
  generalize cRe (wP n U i) (-g) = c1 at *
  generalize cIm (wP n U i) (-g) = c2 at *
  generalize U (2 * i) = u1 at *
  generalize U (n - 1 - 2 * i) = u2 at *
  generalize offT (bndB 131072 m) = o1 at *
  generalize offS 131072 m = o2 at *
  generalize offT 65536 = o3 at *
  have q1 : N * (16777216 * c1 - 16777216 * (16777216 * u1)) = 16777216 * (N * c1) - 281474976710656 * (N * u1) := by grind
  have q2 : N * (16777216 * c2 - 16777216 * (16777216 * u2)) = 16777216 * (N * c2) - 281474976710656 * (N * u2) := by grind
  have q3 : N * (o1 + o2 + o3) = N * o1 + N * o2 + N * o3 := by grind
  rw [q1, Int.mul_neg] at p1
  rw [q1] at p2
  rw [q2, Int.mul_neg] at p3
  rw [q2] at p4
  rw [q3]
  omega
theorem offF_all : offF 2 < 3518437208883200 ∧ offF 5 < 3518437208883200 := by decide
/-- What was taken fast comes back, but for 12. -/
theorem back_fast {n m a : Nat} (hb : Blk n m a) {U : Nat → Int} (hU : ∀ i, i < n → -65536 ≤ U i ∧ U i ≤ 65536) {x : Nat} (hx : x < n) :
    -12 ≤ backF n (fastF n m U) x - U x ∧ backF n (fastF n m U) x - U x ≤ 12 := by
  have hn := hb.hn
  have key : ∀ y, y < n → (-((2 ^ m : Nat) * offF m) ≤ 16777216 * xsum n (fastF n m U) y - 281474976710656 * ((2 ^ m : Nat) * U y) ∧ 16777216 * xsum n (fastF n m U) y - 281474976710656 * ((2 ^ m : Nat) * U y) ≤ (2 ^ m : Nat) * offF m) := by
    intro y hy
    rcases Nat.mod_two_eq_zero_or_one y with h | h
    · have := (back_fast_sum hb hU (i := y / 2) (by omega)).1
      rwa [show 2 * (y / 2) = y by omega] at this
    · have := (back_fast_sum hb hU (i := (n - 1 - y) / 2) (by omega)).2
      rwa [show n - 1 - 2 * ((n - 1 - y) / 2) = y by omega] at this
  have k := key x hx
  unfold backF shrB
  generalize xsum n (fastF n m U) x = s at *
  have hN := hb.hN
  have o := offF_all
  rcases hN with rfl | rfl
  · obtain rfl : m = 2 := by
      have h : ∀ m, m ≤ 5 → 8 = 2 * 2 ^ m → m = 2 := by decide
      exact h m hb.hm hn
    rw [if_neg (by decide)]
    have e : ((2 ^ 2 : Nat) : Int) = 4 := rfl
    rw [e] at k
    omega
  · obtain rfl : m = 5 := by
      have h : ∀ m, m ≤ 5 → 64 = 2 * 2 ^ m → m = 5 := by decide
      exact h m hb.hm hn
    rw [if_pos rfl]
    have e : ((2 ^ 5 : Nat) : Int) = 32 := rfl
    rw [e] at k
    omega
end Go.Proofs.YtfhcfdepjhdhfaaDoor
