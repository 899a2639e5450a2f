/-
  Pulses, their number, and back. Plain numbers.
-/
import Derived.Test.YtabgbchogmbofaaN
namespace Go.Proofs.Ytabgbchogmbofaa
set_option linter.unusedVariables false

/-- The sum of f at k - 1, k - 2 and so on, j of them. -/
def pvSum (f : Nat → Nat) (k : Nat) : Nat → Nat
  | 0 => 0
  | j + 1 => pvSum f k j + f (k - (j + 1))
def pvNext (f : Nat → Nat) (k : Nat) : Nat := f k + 2 * pvSum f k k
/-- How many pulses of n numbers are k from 0 in all. -/
def pvC : Nat → Nat → Nat
  | 0 => fun k => if k = 0 then 1 else 0
  | n + 1 => pvNext (pvC n)
/-- How many have one of the first o numbers (0, 1, -1, 2, ..) as their first one, where f tells how many the rest are. -/
def pvA (f : Nat → Nat) (k : Nat) : Nat → Nat
  | 0 => 0
  | o + 1 => pvA f k o + f (k - (o + 1) / 2)
theorem pvA_odd (f : Nat → Nat) (k : Nat) : ∀ j, pvA f k (2 * j + 1) = f k + 2 * pvSum f k j
  | 0 => by simp [pvA, pvSum]
  | j + 1 => by
    have h := pvA_odd f k j
    have e1 : (2 * j + 1 + 1) / 2 = j + 1 := by omega
    have e2 : (2 * j + 1 + 1 + 1) / 2 = j + 1 := by omega
    show pvA f k (2 * j + 1 + 1 + 1) = _
    rw [pvA, pvA, h, e1, e2, pvSum]
    omega
theorem pvC_all (n k : Nat) : pvC (n + 1) k = pvA (pvC n) k (2 * k + 1) := (pvA_odd (pvC n) k k).symm
theorem pvA_mono (f : Nat → Nat) (k : Nat) {a b : Nat} (h : a ≤ b) : pvA f k a ≤ pvA f k b := by
  obtain ⟨d, rfl⟩ := Nat.le.dest h
  induction d with
  | zero => exact Nat.le_refl _
  | succ d ih => exact Nat.le_trans (ih (by omega)) (Nat.le_add_right _ _)
/-- The same by three neighbours. -/
theorem pvSum_succ (f : Nat → Nat) (k : Nat) : ∀ j, pvSum f (k + 1) (j + 1) = f k + pvSum f k j
  | 0 => by simp [pvSum]
  | j + 1 => by
    have h := pvSum_succ f k j
    have e : k + 1 - (j + 1 + 1) = k - (j + 1) := by omega
    rw [pvSum, h, e, pvSum]
    omega
theorem pvC_three (n k : Nat) : pvC (n + 1) (k + 1) = pvC (n + 1) k + pvC n k + pvC n (k + 1) := by
  show pvNext (pvC n) (k + 1) = pvNext (pvC n) k + _ + _
  rw [pvNext, pvNext, pvSum_succ]
  omega
theorem pvC_zero : ∀ n, pvC n 0 = 1
  | 0 => rfl
  | n + 1 => by
    have h := pvC_zero n
    show pvNext (pvC n) 0 = 1
    rw [pvNext, h]
    simp [pvSum]
theorem pvC_none {k : Nat} (h : 1 ≤ k) : pvC 0 k = 0 := if_neg (by omega)
theorem pvC_pos (n k : Nat) : 1 ≤ pvC (n + 1) k := by
  show 1 ≤ pvNext (pvC n) k
  have h := pvC_zero n
  cases k with
  | zero => rw [pvNext, h]; omega
  | succ k =>
    have : pvSum (pvC n) (k + 1) (k + 1) = pvSum (pvC n) (k + 1) k + pvC n 0 := by rw [pvSum, Nat.sub_self]
    rw [pvNext, this, h]; omega
theorem pvSum_le {f : Nat → Nat} {k B : Nat} (h : ∀ x, x ≤ k → f x ≤ B) : ∀ j, pvSum f k j ≤ j * B
  | 0 => by simp [pvSum]
  | j + 1 => by
    have h1 := pvSum_le h j
    have h2 := h (k - (j + 1)) (by omega)
    rw [pvSum, Nat.succ_mul]; omega
theorem pvC_le : ∀ n k, k ≤ 24 → pvC n k ≤ 49 ^ n
  | 0, k, _ => by show (if k = 0 then 1 else 0) ≤ 1; split <;> omega
  | n + 1, k, hk => by
    have h := fun x (hx : x ≤ k) => pvC_le n x (by omega)
    have h1 := pvSum_le h k
    have h2 := h k (Nat.le_refl _)
    have h3 : k * 49 ^ n ≤ 24 * 49 ^ n := Nat.mul_le_mul_right _ hk
    show pvNext (pvC n) k ≤ _
    rw [pvNext, Nat.pow_succ]; omega
theorem pvC_bd {n k : Nat} (hn : n ≤ 8) (hk : k ≤ 24) : pvC n k ≤ 33232930569601 :=
  Nat.le_trans (pvC_le n k hk) (Nat.le_trans (Nat.pow_le_pow_right (by omega) hn) (by decide))
theorem pvA_bd {n k o : Nat} (hn : n < 8) (hk : k ≤ 24) (ho : o ≤ 2 * k + 1) : pvA (pvC n) k o ≤ 33232930569601 := by
  have h := pvA_mono (pvC n) k ho
  rw [← pvC_all] at h
  exact Nat.le_trans h (pvC_bd (by omega) hk)
/-- The number at place o of 0, 1, -1, 2, -2 and so on; a number's place. -/
def pvV (o : Nat) : Int := if o % 2 = 1 then (((o + 1) / 2 : Nat) : Int) else -((o / 2 : Nat) : Int)
def pvP (x : Int) : Nat := if 0 < x then 2 * x.natAbs - 1 else 2 * x.natAbs
theorem pvV_abs (o : Nat) : (pvV o).natAbs = (o + 1) / 2 := by unfold pvV; split <;> omega
theorem pvP_half (x : Int) : (pvP x + 1) / 2 = x.natAbs := by unfold pvP; split <;> omega
theorem pvV_pos (x : Int) : pvV (pvP x) = x := by
  unfold pvV pvP
  by_cases h : 0 < x
  · rw [if_pos h, if_pos (by omega)]; omega
  · rw [if_neg h, if_neg (by omega)]; omega
theorem pvP_val (o : Nat) : pvP (pvV o) = o := by
  unfold pvV
  by_cases h : o % 2 = 1
  · rw [if_pos h]; unfold pvP; rw [if_pos (by omega)]; omega
  · rw [if_neg h]; unfold pvP; rw [if_neg (by omega)]; omega
theorem pvP_inj {x y : Int} (h : pvP x = pvP y) : x = y := by rw [← pvV_pos x, ← pvV_pos y, h]
theorem pvP_le {x : Int} {k : Nat} (h : x.natAbs ≤ k) : pvP x ≤ 2 * k := by unfold pvP; split <;> omega
/-- Whose first number stands ahead. -/
theorem pvP_lt (x y : Int) : pvP x < pvP y ↔ (x.natAbs < y.natAbs ∨ x.natAbs = y.natAbs ∧ y < x) := by
  unfold pvP; split <;> split <;> omega

/-- The last m of n numbers: how far they are from 0 in all; their number. -/
def pvK (X : Nat → Int) (n : Nat) : Nat → Nat
  | 0 => 0
  | m + 1 => (X (n - 1 - m)).natAbs + pvK X n m
def pvI (X : Nat → Int) (n : Nat) : Nat → Nat
  | 0 => 0
  | m + 1 => pvA (pvC m) (pvK X n (m + 1)) (pvP (X (n - 1 - m))) + pvI X n m
theorem pvK_sub (X : Nat → Int) (n m : Nat) : pvK X n (m + 1) - (X (n - 1 - m)).natAbs = pvK X n m := by rw [pvK]; omega
theorem pvK_le (X : Nat → Int) (n : Nat) {m m' : Nat} (h : m ≤ m') : pvK X n m ≤ pvK X n m' := by
  obtain ⟨d, rfl⟩ := Nat.le.dest h
  induction d with
  | zero => exact Nat.le_refl _
  | succ d ih => exact Nat.le_trans (ih (by omega)) (by rw [show m + (d + 1) = (m + d) + 1 from rfl, pvK]; omega)
theorem pvK_at (X : Nat → Int) {n p : Nat} (hp : p < n) : (X p).natAbs ≤ pvK X n n := by
  have h := pvK_le X n (show (n - 1 - p) + 1 ≤ n by omega)
  rw [pvK, show n - 1 - (n - 1 - p) = p by omega] at h
  omega
theorem pvK_congr {X Y : Nat → Int} {n : Nat} : ∀ m, m ≤ n → (∀ p, n - m ≤ p → p < n → X p = Y p) → pvK X n m = pvK Y n m
  | 0, _, _ => rfl
  | m + 1, hm, h => by
    rw [pvK, pvK, pvK_congr m (by omega) (fun p h1 h2 => h p (by omega) h2), h (n - 1 - m) (by omega) (by omega)]
theorem pvI_congr {X Y : Nat → Int} {n : Nat} : ∀ m, m ≤ n → (∀ p, n - m ≤ p → p < n → X p = Y p) → pvI X n m = pvI Y n m
  | 0, _, _ => rfl
  | m + 1, hm, h => by
    rw [pvI, pvI, pvK_congr (m + 1) hm h, pvI_congr m (by omega) (fun p h1 h2 => h p (by omega) h2), h (n - 1 - m) (by omega) (by omega)]
/-- A number is below how many there are. -/
theorem pvI_step (X : Nat → Int) (n m : Nat) (h : pvI X n m < pvC m (pvK X n m)) : pvI X n (m + 1) < pvA (pvC m) (pvK X n (m + 1)) (pvP (X (n - 1 - m)) + 1) := by
  rw [pvI, pvA, pvP_half, pvK_sub]; omega
theorem pvI_lt (X : Nat → Int) (n : Nat) : ∀ m, pvI X n m < pvC m (pvK X n m)
  | 0 => by show 0 < pvC 0 0; rw [pvC_zero]; omega
  | m + 1 => by
    refine Nat.lt_of_lt_of_le (pvI_step X n m (pvI_lt X n m)) ?_
    rw [pvC_all]
    refine pvA_mono _ _ ?_
    have := pvP_le (x := X (n - 1 - m)) (k := pvK X n (m + 1)) (by rw [pvK]; omega)
    omega
/-- The order: by the first number that differs. -/
def pvLess (X Y : Nat → Int) (n : Nat) : Nat → Bool
  | 0 => false
  | m + 1 => if X (n - 1 - m) = Y (n - 1 - m) then pvLess X Y n m else decide (pvP (X (n - 1 - m)) < pvP (Y (n - 1 - m)))
theorem pvI_ahead {X Y : Nat → Int} {n m : Nat} (hk : pvK X n (m + 1) = pvK Y n (m + 1)) (h : pvP (X (n - 1 - m)) < pvP (Y (n - 1 - m))) : pvI X n (m + 1) < pvI Y n (m + 1) := by
  have h1 := pvI_step X n m (pvI_lt X n m)
  rw [hk] at h1
  have h2 := pvA_mono (pvC m) (pvK Y n (m + 1)) (show pvP (X (n - 1 - m)) + 1 ≤ pvP (Y (n - 1 - m)) from h)
  have h3 : pvA (pvC m) (pvK Y n (m + 1)) (pvP (Y (n - 1 - m))) ≤ pvI Y n (m + 1) := by rw [pvI]; omega
  omega
theorem pv_order {X Y : Nat → Int} {n : Nat} : ∀ m, pvK X n m = pvK Y n m → (pvLess X Y n m = true ↔ pvI X n m < pvI Y n m)
  | 0, _ => by simp [pvLess, pvI]
  | m + 1, hk => by
    by_cases e : X (n - 1 - m) = Y (n - 1 - m)
    · have hk' : pvK X n m = pvK Y n m := by rw [pvK, pvK, e] at hk; omega
      rw [pvLess, if_pos e, pv_order m hk', pvI, pvI, hk, e]
      omega
    · rw [pvLess, if_neg e, decide_eq_true_iff]
      constructor
      · exact pvI_ahead hk
      · intro h
        rcases Nat.lt_trichotomy (pvP (X (n - 1 - m))) (pvP (Y (n - 1 - m))) with h1 | h1 | h1
        · exact h1
        · exact absurd (pvP_inj h1) e
        · have := pvI_ahead hk.symm h1; omega
theorem pv_same {X Y : Nat → Int} {n : Nat} : ∀ m, m ≤ n → pvK X n m = pvK Y n m → pvI X n m = pvI Y n m → ∀ p, n - m ≤ p → p < n → X p = Y p
  | 0, _, _, _, p, h1, h2 => by omega
  | m + 1, hm, hk, hi, p, h1, h2 => by
    have e : X (n - 1 - m) = Y (n - 1 - m) := by
      rcases Nat.lt_trichotomy (pvP (X (n - 1 - m))) (pvP (Y (n - 1 - m))) with h1 | h1 | h1
      · have := pvI_ahead hk h1; omega
      · exact pvP_inj h1
      · have := pvI_ahead hk.symm h1; omega
    have hk' : pvK X n m = pvK Y n m := by rw [pvK, pvK, e] at hk; omega
    have hi' : pvI X n m = pvI Y n m := by rw [pvI, pvI, hk, e] at hi; omega
    by_cases ep : p = n - 1 - m
    · rw [ep]; exact e
    · exact pv_same m (by omega) hk' hi' p (by omega) h2

/-- The greatest place up to b whose pulses begin at or ahead of i. -/
def pvO (f : Nat → Nat) (k i : Nat) : Nat → Nat
  | 0 => 0
  | b + 1 => if pvA f k (b + 1) ≤ i then b + 1 else pvO f k i b
theorem pvO_le (f : Nat → Nat) (k i : Nat) : ∀ b, pvO f k i b ≤ b
  | 0 => Nat.le_refl _
  | b + 1 => by rw [pvO]; split
                · exact Nat.le_refl _
                · exact Nat.le_succ_of_le (pvO_le f k i b)
theorem pvO_at (f : Nat → Nat) (k i : Nat) : ∀ b, pvA f k (pvO f k i b) ≤ i
  | 0 => Nat.zero_le _
  | b + 1 => by
    rw [pvO]
    by_cases h : pvA f k (b + 1) ≤ i
    · rw [if_pos h]; exact h
    · rw [if_neg h]; exact pvO_at f k i b
theorem pvO_next (f : Nat → Nat) (k i : Nat) : ∀ b, i < pvA f k (b + 1) → i < pvA f k (pvO f k i b + 1)
  | 0, h => h
  | b + 1, h => by
    rw [pvO]
    by_cases h1 : pvA f k (b + 1) ≤ i
    · rw [if_pos h1]; exact h
    · rw [if_neg h1]; exact pvO_next f k i b (by omega)
/-- Whether the search goes on. -/
theorem pvO_iff {f : Nat → Nat} {k i b : Nat} (hb : i < pvA f k (b + 1)) (o : Nat) : o < pvO f k i b ↔ pvA f k (o + 1) ≤ i := by
  constructor
  · intro h; exact Nat.le_trans (pvA_mono f k h) (pvO_at f k i b)
  · intro h
    by_cases h1 : o < pvO f k i b
    · exact h1
    · have := pvO_next f k i b hb
      have := pvA_mono f k (show pvO f k i b + 1 ≤ o + 1 by omega)
      omega
/-- How far from 0, and which number, the pulses behind the first p are. -/
def pvS (n k i : Nat) : Nat → Nat × Nat
  | 0 => (k, i)
  | p + 1 => ((pvS n k i p).1 - (pvO (pvC (n - 1 - p)) (pvS n k i p).1 (pvS n k i p).2 (2 * (pvS n k i p).1) + 1) / 2,
      (pvS n k i p).2 - pvA (pvC (n - 1 - p)) (pvS n k i p).1 (pvO (pvC (n - 1 - p)) (pvS n k i p).1 (pvS n k i p).2 (2 * (pvS n k i p).1)))
def pvOrd (n k i p : Nat) : Nat := pvO (pvC (n - 1 - p)) (pvS n k i p).1 (pvS n k i p).2 (2 * (pvS n k i p).1)
/-- The pulses of the number i. -/
def pvVec (n k i p : Nat) : Int := pvV (pvOrd n k i p)
theorem pvS_succ (n k i p : Nat) : pvS n k i (p + 1) = ((pvS n k i p).1 - (pvOrd n k i p + 1) / 2, (pvS n k i p).2 - pvA (pvC (n - 1 - p)) (pvS n k i p).1 (pvOrd n k i p)) := rfl
theorem pvOrd_le (n k i p : Nat) : pvOrd n k i p ≤ 2 * (pvS n k i p).1 := pvO_le _ _ _ _
theorem pvOrd_at (n k i p : Nat) : pvA (pvC (n - 1 - p)) (pvS n k i p).1 (pvOrd n k i p) ≤ (pvS n k i p).2 := pvO_at _ _ _ _
theorem pvS_top {n k i p : Nat} (hp : p < n) (h : (pvS n k i p).2 < pvC (n - p) (pvS n k i p).1) : (pvS n k i p).2 < pvA (pvC (n - 1 - p)) (pvS n k i p).1 (2 * (pvS n k i p).1 + 1) := by
  rw [show n - p = (n - 1 - p) + 1 by omega, pvC_all] at h; exact h
theorem pvS_in {n k i : Nat} (h : i < pvC n k) : ∀ p, p ≤ n → (pvS n k i p).2 < pvC (n - p) (pvS n k i p).1
  | 0, _ => h
  | p + 1, hp => by
    have h1 := pvS_top (show p < n by omega) (pvS_in h p (by omega))
    have h2 : (pvS n k i p).2 < pvA (pvC (n - 1 - p)) (pvS n k i p).1 (pvOrd n k i p + 1) := pvO_next _ _ _ _ h1
    have h3 := pvOrd_at n k i p
    rw [pvS_succ]
    rw [pvA] at h2
    show (pvS n k i p).2 - pvA (pvC (n - 1 - p)) (pvS n k i p).1 (pvOrd n k i p) < pvC (n - (p + 1)) ((pvS n k i p).1 - (pvOrd n k i p + 1) / 2)
    rw [show n - (p + 1) = n - 1 - p by omega]
    omega
theorem pvS_le (n k i : Nat) : ∀ p, (pvS n k i p).1 ≤ k
  | 0 => Nat.le_refl _
  | p + 1 => by rw [pvS_succ]; have := pvS_le n k i p; show _ - _ ≤ k; omega
theorem pvS_last {n k i : Nat} (h : i < pvC n k) : pvS n k i n = (0, 0) := by
  have h1 := pvS_in h n (Nat.le_refl _)
  rw [Nat.sub_self] at h1
  by_cases h2 : (pvS n k i n).1 = 0
  · rw [h2, pvC_zero] at h1
    exact Prod.ext h2 (by show (pvS n k i n).2 = 0; omega)
  · rw [pvC_none (by omega)] at h1; omega
theorem pv_back {n k i : Nat} (h : i < pvC n k) : ∀ m, m ≤ n → pvK (pvVec n k i) n m = (pvS n k i (n - m)).1 ∧ pvI (pvVec n k i) n m = (pvS n k i (n - m)).2
  | 0, _ => by rw [Nat.sub_zero, pvS_last h]; exact ⟨rfl, rfl⟩
  | m + 1, hm => by
    obtain ⟨h1, h2⟩ := pv_back h m (by omega)
    obtain ⟨p, hp⟩ : ∃ p, p = n - 1 - m := ⟨_, rfl⟩
    have e1 : n - (m + 1) = p := by omega
    have e2 : n - m = p + 1 := by omega
    have e3 : n - 1 - p = m := by omega
    rw [e2, pvS_succ] at h1 h2
    have h3 := pvOrd_le n k i p
    have h4 := pvOrd_at n k i p
    have h5 : (pvVec n k i p).natAbs = (pvOrd n k i p + 1) / 2 := pvV_abs _
    have hK : pvK (pvVec n k i) n (m + 1) = (pvS n k i p).1 := by
      rw [pvK, ← hp, h1, h5]
      show _ + (_ - _) = _
      omega
    rw [e1]
    refine ⟨hK, ?_⟩
    rw [pvI, hK, ← hp, h2]
    show pvA (pvC m) _ (pvP (pvV (pvOrd n k i p))) + _ = _
    rw [pvP_val, ← e3]
    show _ + (_ - _) = _
    omega
theorem pv_far {n k i : Nat} (h : i < pvC n k) : pvK (pvVec n k i) n n = k := by
  have := (pv_back h n (Nat.le_refl _)).1
  rwa [Nat.sub_self] at this
theorem pv_num {n k i : Nat} (h : i < pvC n k) : pvI (pvVec n k i) n n = i := by
  have := (pv_back h n (Nat.le_refl _)).2
  rwa [Nat.sub_self] at this
/-- Pulses come back from their number. -/
theorem pv_there {n : Nat} (X : Nat → Int) : ∀ p, p < n → pvVec n (pvK X n n) (pvI X n n) p = X p := by
  have h := pvI_lt X n n
  intro p hp
  exact pv_same n (Nat.le_refl _) (pv_far h) (pv_num h) p (by omega) hp

/-- How far a number is from 0; 25: too far. The sum of the first i. -/
def pvD (x : Int) : Nat := if 24 < x.natAbs then 25 else x.natAbs
def pvF (X : Nat → Int) : Nat → Nat
  | 0 => 0
  | i + 1 => pvF X i + pvD (X i)
theorem pvD_le (x : Int) : pvD x ≤ 25 := by unfold pvD; split <;> omega
theorem pvF_le (X : Nat → Int) : ∀ i, pvF X i ≤ 25 * i
  | 0 => Nat.le_refl _
  | i + 1 => by have := pvF_le X i; have := pvD_le (X i); rw [pvF]; omega
theorem pvF_mono (X : Nat → Int) {a b : Nat} (h : a ≤ b) : pvF X a ≤ pvF X b := by
  obtain ⟨d, rfl⟩ := Nat.le.dest h
  induction d with
  | zero => exact Nat.le_refl _
  | succ d ih => exact Nat.le_trans (ih (by omega)) (by rw [show a + (d + 1) = (a + d) + 1 from rfl, pvF]; omega)
theorem pvF_at {X : Nat → Int} {n : Nat} (h : pvF X n ≤ 24) {p : Nat} (hp : p < n) : (X p).natAbs ≤ 24 ∧ pvD (X p) = (X p).natAbs := by
  have h1 := pvF_mono X (show p + 1 ≤ n by omega)
  rw [pvF] at h1
  have h2 : pvD (X p) ≤ 24 := by omega
  unfold pvD at h2 ⊢
  split at h2
  · omega
  · rename_i h3; exact ⟨by omega, if_neg h3⟩
theorem pvF_rest {X : Nat → Int} {n : Nat} (h : pvF X n ≤ 24) : ∀ m, m ≤ n → pvF X (n - m) + pvK X n m = pvF X n
  | 0, _ => by rw [Nat.sub_zero]; rfl
  | m + 1, hm => by
    have h1 := pvF_rest h m (by omega)
    have e : n - m = (n - 1 - m) + 1 := by omega
    rw [e, pvF, (pvF_at h (show n - 1 - m < n by omega)).2] at h1
    rw [pvK, show n - (m + 1) = n - 1 - m by omega]
    omega
theorem pvF_all {X : Nat → Int} {n : Nat} (h : pvF X n ≤ 24) : pvK X n n = pvF X n := by
  have := pvF_rest h n (Nat.le_refl _)
  rw [Nat.sub_self] at this
  show _ = _
  have e : pvF X 0 = 0 := rfl
  omega
theorem pvF_of {X : Nat → Int} {n : Nat} (h : pvK X n n ≤ 24) : pvF X n = pvK X n n := by
  have key : ∀ m, m ≤ n → pvF X (n - m) + pvK X n m = pvF X (n - m) + pvK X n m := fun _ _ => rfl
  have hd : ∀ p, p < n → pvD (X p) = (X p).natAbs := fun p hp => if_neg (by have := pvK_at X hp; omega)
  have hs : ∀ m, m ≤ n → pvF X n = pvF X (n - m) + pvK X n m := by
    intro m
    induction m with
    | zero => intro _; rw [Nat.sub_zero]; rfl
    | succ m ih =>
      intro hm
      have h1 := ih (by omega)
      have e : n - m = (n - 1 - m) + 1 := by omega
      rw [e, pvF, hd _ (show n - 1 - m < n by omega)] at h1
      rw [pvK, show n - (m + 1) = n - 1 - m by omega]
      omega
  have := hs n (Nat.le_refl _)
  rw [Nat.sub_self] at this
  have e : pvF X 0 = 0 := rfl
  omega
/-- Are n numbers pulses? -/
def pvOk (n : Nat) (X : Nat → Int) : Bool := decide (1 ≤ n) && decide (n ≤ 8) && decide (pvF X n ≤ 24)
/-- Count of any numbers. -/
def pvCnt (n k : Int) : Int := if 0 ≤ n ∧ n ≤ 8 ∧ 0 ≤ k ∧ k ≤ 24 then ((pvC n.toNat k.toNat : Nat) : Int) else 0
theorem pvCnt_nat {n k : Nat} (hn : n ≤ 8) (hk : k ≤ 24) : pvCnt (n : Int) (k : Int) = ((pvC n k : Nat) : Int) := by
  rw [pvCnt, if_pos ⟨by omega, by omega, by omega, by omega⟩]; rfl
theorem pvA_two (f : Nat → Nat) (k j : Nat) (h : 1 ≤ j) : pvA f k (2 * (j + 1) - 1) = pvA f k (2 * j - 1) + f (k - j) + f (k - j) := by
  obtain ⟨i, rfl⟩ : ∃ i, j = i + 1 := ⟨j - 1, by omega⟩
  rw [show 2 * (i + 1 + 1) - 1 = 2 * i + 1 + 1 + 1 by omega, show 2 * (i + 1) - 1 = 2 * i + 1 by omega, pvA, pvA]
  rw [show (2 * i + 1 + 1) / 2 = i + 1 by omega, show (2 * i + 1 + 1 + 1) / 2 = i + 1 by omega]
theorem pvA_one (f : Nat → Nat) (k : Nat) : pvA f k (2 * (0 + 1) - 1) = pvA f k (2 * 0 - 1) + f (k - 0) := by
  show pvA f k 0 + f (k - (0 + 1) / 2) = pvA f k 0 + f (k - 0)
  rfl
theorem pvA_minus (f : Nat → Nat) (k j : Nat) (h : 1 ≤ j) : pvA f k (2 * j) = pvA f k (2 * j - 1) + f (k - j) := by
  obtain ⟨i, rfl⟩ : ∃ i, j = i + 1 := ⟨j - 1, by omega⟩
  rw [show 2 * (i + 1) = 2 * i + 1 + 1 by omega, show 2 * i + 1 + 1 - 1 = 2 * i + 1 by omega, pvA, show (2 * i + 1 + 1) / 2 = i + 1 by omega]
end Go.Proofs.Ytabgbchogmbofaa
