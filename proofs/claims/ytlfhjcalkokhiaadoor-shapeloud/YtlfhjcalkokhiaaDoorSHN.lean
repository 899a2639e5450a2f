/-
  A band's coefficients: plain numbers.
-/
import Derived.Test.YtlfhjcalkokhiaaDoorSHM
namespace Go.Proofs.YtlfhjcalkokhiaaDoor
set_option linter.unusedVariables false

def shW (a r x : Int) : Int := divF (a * ((x.natAbs : Nat) : Int) * 1024) r
def shSide (x w : Int) : Int := if x < 0 then -w else w
/-- A band's coefficients. -/
def shV (n : Nat) (X : Nat → Int) (c f : Int) (i : Nat) : Int :=
  if pvF X n = 0 ∨ c = 0 then 0 else shSide (X i) (shW (ampF c f) (rootF (sqS X n * 1048576)) (X i))
theorem div_facts {A r : Int} (h0 : 0 ≤ A) (h1 : A ≤ 1152921504606846976) (h2 : 1 ≤ r) (h3 : r ≤ 1152921504606846976) : 0 ≤ divF A r ∧ 2 * (r * divF A r) ≤ 2 * A + r ∧ 2 * A - r ≤ 2 * (r * divF A r) := by
  rw [divF, if_pos ⟨by omega, h1, h2, h3⟩]
  have e := Int.mul_ediv_add_emod (A + r / 2) r
  have b1 := Int.emod_nonneg (A + r / 2) (show r ≠ 0 by omega)
  have b2 := Int.emod_lt_of_pos (A + r / 2) (show 0 < r by omega)
  have b3 : 0 ≤ (A + r / 2) / r := Int.ediv_nonneg (by omega) (by omega)
  generalize (A + r / 2) / r = q at *
  generalize r * q = z at *
  omega
theorem div_mono {A B r : Int} (h0 : 0 ≤ A) (hAB : A ≤ B) (h1 : B ≤ 1152921504606846976) (h2 : 1 ≤ r) (h3 : r ≤ 1152921504606846976) : divF A r ≤ divF B r := by
  rw [divF, if_pos ⟨by omega, by omega, h2, h3⟩, divF, if_pos ⟨by omega, h1, h2, h3⟩]
  exact Int.ediv_le_ediv (by omega) (by omega)
theorem div_zero {r : Int} (h2 : 1 ≤ r) (h3 : r ≤ 1152921504606846976) : divF 0 r = 0 := by
  rw [divF, if_pos ⟨by omega, by omega, h2, h3⟩]
  exact Int.ediv_eq_zero_of_lt (by omega) (by omega)
theorem abs_sq (x : Int) : ((x.natAbs : Nat) : Int) * ((x.natAbs : Nat) : Int) = x * x := Int.natAbs_mul_self' x
theorem shSide_sq (x w : Int) : shSide x w * shSide x w = w * w := by unfold shSide; split; exact Int.neg_mul_neg w w; rfl
theorem shSide_abs {x w : Int} (h : 0 ≤ w) : (((shSide x w).natAbs : Nat) : Int) = w := by unfold shSide; split <;> omega
/-- What holds of pulses of which some are not 0. -/
structure ShIn (n : Nat) (X : Nat → Int) (c f : Int) : Prop where
  n1 : 1 ≤ n
  n8 : n ≤ 8
  k1 : 1 ≤ pvF X n
  k24 : pvF X n ≤ 24
  c1 : 1 ≤ c
  c23 : c ≤ 23
  f0 : 0 ≤ f
  f3 : f ≤ 3
theorem sq_small {x : Int} (h : x.natAbs ≤ 24) : 0 ≤ x * x ∧ x * x ≤ 576 := by
  have := abs_sq x
  have h2 := Int.mul_le_mul (show ((x.natAbs : Nat) : Int) ≤ 24 by omega) (show ((x.natAbs : Nat) : Int) ≤ 24 by omega) (by omega) (by omega)
  have := sq_nn x
  omega
theorem sqS_small {X : Nat → Int} : ∀ n, (∀ p, p < n → (X p).natAbs ≤ 24) → sqS X n ≤ 576 * n
  | 0, _ => Int.le_refl _
  | n + 1, h => by
    have h1 := sqS_small n (fun p hp => h p (by omega))
    have h2 := sq_small (h n (by omega))
    rw [sqS]; omega
theorem sqS_pos {X : Nat → Int} : ∀ n, 1 ≤ pvF X n → pvF X n ≤ 24 → 1 ≤ sqS X n
  | 0, h, _ => by simp [pvF] at h
  | n + 1, h, h24 => by
    rw [pvF] at h h24
    rw [sqS]
    have h0 := sqS_nn X n
    by_cases e : X n = 0
    · have e2 : pvD (X n) = 0 := by rw [e]; rfl
      have := sqS_pos (X := X) n (by omega) (by omega)
      rw [e]; omega
    · have h1 := Int.mul_le_mul (show 1 ≤ (((X n).natAbs : Nat) : Int) by omega) (show 1 ≤ (((X n).natAbs : Nat) : Int) by omega) (by omega) (by omega)
      rw [abs_sq] at h1
      omega
theorem ShIn.root {n : Nat} {X : Nat → Int} {c f : Int} (h : ShIn n X c f) : 1 ≤ sqS X n ∧ sqS X n ≤ 4608 ∧ 1024 ≤ rootF (sqS X n * 1048576) ∧ rootF (sqS X n * 1048576) ≤ 1073741824 ∧
    rootF (sqS X n * 1048576) * rootF (sqS X n * 1048576) ≤ 1048576 * sqS X n ∧ 1048576 * sqS X n < (rootF (sqS X n * 1048576) + 1) * (rootF (sqS X n * 1048576) + 1) := by
  have h1 := sqS_pos n h.k1 h.k24
  have h2 := sqS_small (X := X) n (fun p hp => (pvF_at h.k24 hp).1)
  have := h.n8
  obtain ⟨r1, r2, r3, r4⟩ := rootF_facts (n := sqS X n * 1048576) (by omega) (by omega)
  refine ⟨h1, by omega, ?_, by omega, by omega, by omega⟩
  have := lt_of_sq (a := 1024) (b := rootF (sqS X n * 1048576) + 1) (by omega) (by omega)
  omega
theorem ShIn.amp {n : Nat} {X : Nat → Int} {c f : Int} (h : ShIn n X c f) : 2 ≤ ampF c f ∧ ampF c f ≤ 16777216 := ⟨amp_ge2 h.c1 h.c23 h.f0 h.f3, (amp_any c f).2⟩
theorem ShIn.top {n : Nat} {X : Nat → Int} {c f : Int} (h : ShIn n X c f) {x : Int} (hx : x.natAbs ≤ 24) : 0 ≤ ampF c f * ((x.natAbs : Nat) : Int) ∧ ampF c f * ((x.natAbs : Nat) : Int) ≤ 402653184 := by
  obtain ⟨a1, a2⟩ := h.amp
  have h1 : 0 ≤ ampF c f * ((x.natAbs : Nat) : Int) := Int.mul_nonneg (by omega) (by omega)
  have h2 := Int.mul_le_mul a2 (show ((x.natAbs : Nat) : Int) ≤ 24 by omega) (by omega) (by omega)
  omega
/-- One coefficient. -/
theorem ShIn.one {n : Nat} {X : Nat → Int} {c f : Int} (h : ShIn n X c f) {x : Int} (hx : x.natAbs ≤ 24) :
    0 ≤ shW (ampF c f) (rootF (sqS X n * 1048576)) x ∧ 2 * (rootF (sqS X n * 1048576) * shW (ampF c f) (rootF (sqS X n * 1048576)) x) ≤ 2 * (ampF c f * ((x.natAbs : Nat) : Int) * 1024) + rootF (sqS X n * 1048576) ∧
      2 * (ampF c f * ((x.natAbs : Nat) : Int) * 1024) - rootF (sqS X n * 1048576) ≤ 2 * (rootF (sqS X n * 1048576) * shW (ampF c f) (rootF (sqS X n * 1048576)) x) := by
  obtain ⟨_, _, r1, r2, _, _⟩ := h.root
  obtain ⟨t1, t2⟩ := h.top hx
  exact div_facts (by omega) (by omega) (by omega) (by omega)
theorem ShIn.at {n : Nat} {X : Nat → Int} {c f : Int} (h : ShIn n X c f) (i : Nat) : shV n X c f i = shSide (X i) (shW (ampF c f) (rootF (sqS X n * 1048576)) (X i)) := by
  have := h.k1; have := h.c1
  rw [shV, if_neg (by omega)]
/-- The coefficients' squares. -/
theorem ShIn.sum {n : Nat} {X : Nat → Int} {c f : Int} (h : ShIn n X c f) : sqS (shV n X c f) n = sqS (fun i => shW (ampF c f) (rootF (sqS X n * 1048576)) (X i)) n :=
  sqS_congr n (fun i _ => by rw [h.at i, shSide_sq])
theorem ShIn.both {n : Nat} {X : Nat → Int} {c f : Int} (h : ShIn n X c f) :
    sqS (shV n X c f) n ≤ (ampF c f + ((n : Int) + 1 + ampF c f / 1000)) * (ampF c f + ((n : Int) + 1 + ampF c f / 1000)) ∧
      ((n : Int) + 1 + ampF c f / 1000 ≤ ampF c f → (ampF c f - ((n : Int) + 1 + ampF c f / 1000)) * (ampF c f - ((n : Int) + 1 + ampF c f / 1000)) ≤ sqS (shV n X c f) n) := by
  obtain ⟨s1, s2, r1, r2, r3, r4⟩ := h.root
  obtain ⟨a1, a2⟩ := h.amp
  have n1 := h.n1
  have H1 := fun i (hi : i < n) => h.one (pvF_at h.k24 hi).1
  rw [h.sum]
  have hU : sqS (fun i => (((X i).natAbs : Nat) : Int)) n = sqS X n := sqS_congr n (fun i _ => abs_sq (X i))
  have hC := cauchy (fun i => (((X i).natAbs : Nat) : Int)) (fun _ => 1) n
  rw [hU, sqS_one, Int.mul_comm (sqS X n)] at hC
  have hK := dotS_nn (X := fun i => (((X i).natAbs : Nat) : Int)) (Y := fun _ => 1) n (fun i _ => ⟨by omega, by omega⟩)
  have hP := cauchy (fun i => shW (ampF c f) (rootF (sqS X n * 1048576)) (X i)) (fun i => (((X i).natAbs : Nat) : Int)) n
  rw [hU] at hP
  have hP0 := dotS_nn (X := fun i => shW (ampF c f) (rootF (sqS X n * 1048576)) (X i)) (Y := fun i => (((X i).natAbs : Nat) : Int)) n (fun i hi => ⟨(H1 i hi).1, by omega⟩)
  have hZ := dotS_ge (W := fun i => shW (ampF c f) (rootF (sqS X n * 1048576)) (X i)) (U := fun i => (((X i).natAbs : Nat) : Int)) (c := 2048 * ampF c f) (r := rootF (sqS X n * 1048576)) n (fun i hi => ⟨by omega, by
    have := (H1 i hi).2.2
    have e1 : 2048 * ampF c f * (((X i).natAbs : Nat) : Int) = 2 * (ampF c f * (((X i).natAbs : Nat) : Int) * 1024) := by grind
    have e2 : 2 * rootF (sqS X n * 1048576) * shW (ampF c f) (rootF (sqS X n * 1048576)) (X i) = 2 * (rootF (sqS X n * 1048576) * shW (ampF c f) (rootF (sqS X n * 1048576)) (X i)) := by grind
    rw [e1, e2]; omega⟩)
  rw [hU] at hZ
  have hT := sqS_le (f := fun i => 2 * rootF (sqS X n * 1048576) * shW (ampF c f) (rootF (sqS X n * 1048576)) (X i)) (g := fun i => 2048 * ampF c f * (((X i).natAbs : Nat) : Int) + rootF (sqS X n * 1048576)) n (fun i hi => by
    obtain ⟨b0, b1, _⟩ := H1 i hi
    have e1 : 2048 * ampF c f * (((X i).natAbs : Nat) : Int) = 2 * (ampF c f * (((X i).natAbs : Nat) : Int) * 1024) := by grind
    have e2 : 2 * rootF (sqS X n * 1048576) * shW (ampF c f) (rootF (sqS X n * 1048576)) (X i) = 2 * (rootF (sqS X n * 1048576) * shW (ampF c f) (rootF (sqS X n * 1048576)) (X i)) := by grind
    have b3 := Int.mul_nonneg (show 0 ≤ rootF (sqS X n * 1048576) by omega) b0
    exact ⟨by omega, by omega⟩)
  rw [sqS_mul, sqS_add, hU] at hT
  generalize sqS (fun i => shW (ampF c f) (rootF (sqS X n * 1048576)) (X i)) n = T at *
  generalize dotS (fun i => shW (ampF c f) (rootF (sqS X n * 1048576)) (X i)) (fun i => (((X i).natAbs : Nat) : Int)) n = P at *
  generalize dotS (fun i => (((X i).natAbs : Nat) : Int)) (fun _ => 1) n = K at *
  clear H1 hU
  generalize rootF (sqS X n * 1048576) = r at *
  generalize sqS X n = S at *
  generalize ampF c f = a at *
  refine ⟨loud_up (r := r) (S := S) (K := K) (n := n) (N2 := 1 + a / 1000) (by omega) r1 (by omega) hK (by omega) (by omega) r4 hC (by omega) ?_, fun hle => loud_down (r := r) (S := S) (K := K) (n := n) (P := P) hle r1 (by omega) hK (by omega) r3 hC s1 hP hP0 hZ⟩
  grind
/-- The power of coefficients is as loud as the band. -/
theorem ShIn.loud {n : Nat} {X : Nat → Int} {c f : Int} (h : ShIn n X c f) :
    rootF (sqS (shV n X c f) n) - ampF c f ≤ (n : Int) + 1 + ampF c f / 1000 ∧ -((n : Int) + 1 + ampF c f / 1000) ≤ rootF (sqS (shV n X c f) n) - ampF c f ∧ sqS (shV n X c f) n ≤ 4503599627370496 := by
  obtain ⟨h1, h2⟩ := h.both
  obtain ⟨a1, a2⟩ := h.amp
  have n8 := h.n8
  have h0 := sqS_nn (shV n X c f) n
  generalize sqS (shV n X c f) n = T at *
  generalize hN : (n : Int) + 1 + ampF c f / 1000 = N at *
  generalize ampF c f = a at *
  have hb := Int.mul_le_mul (show a + N ≤ 16794016 by omega) (show a + N ≤ 16794016 by omega) (by omega) (by omega)
  obtain ⟨p0, p1, p2, p3⟩ := rootF_facts (n := T) (by omega) (by omega)
  refine ⟨?_, ?_, by omega⟩
  · have := le_of_sq (a := rootF T) (b := a + N) (by omega) (by omega); omega
  · by_cases hle : N ≤ a
    · have := lt_of_sq (a := a - N) (b := rootF T + 1) (by omega) (by have := h2 hle; omega)
      omega
    · omega
theorem ShIn.bound {n : Nat} {X : Nat → Int} {c f : Int} (h : ShIn n X c f) {i : Nat} (hi : i < n) : -67108864 ≤ shV n X c f i ∧ shV n X c f i ≤ 67108864 := by
  have h1 := h.loud.2.2
  have h2 := sqS_at (shV n X c f) n i hi
  have h3 := le_of_sq (a := shV n X c f i) (b := 67108864) (by omega) (by omega)
  have h4 := le_of_sq (a := -shV n X c f i) (b := 67108864) (by omega) (by rw [Int.neg_mul_neg]; omega)
  omega
/-- Its side, and who has more. -/
theorem ShIn.side {n : Nat} {X : Nat → Int} {c f : Int} (h : ShIn n X c f) {i : Nat} (hi : i < n) : (0 < X i → 0 ≤ shV n X c f i) ∧ (X i < 0 → shV n X c f i ≤ 0) ∧ (X i = 0 → shV n X c f i = 0) := by
  have h1 := (h.one (pvF_at h.k24 hi).1).1
  rw [h.at i]
  refine ⟨fun hx => ?_, fun hx => ?_, fun hx => ?_⟩
  · rw [shSide, if_neg (by omega)]; exact h1
  · rw [shSide, if_pos hx]; omega
  · obtain ⟨_, _, r1, r2, _, _⟩ := h.root
    rw [shSide, if_neg (by omega), hx, shW]
    simp only [Int.natAbs_zero, Int.ofNat_zero, Int.mul_zero, Int.zero_mul]
    exact div_zero (by omega) (by omega)
theorem ShIn.more {n : Nat} {X : Nat → Int} {c f : Int} (h : ShIn n X c f) {i j : Nat} (hi : i < n) (hj : j < n) (hx : (X i).natAbs ≤ (X j).natAbs) : (shV n X c f i).natAbs ≤ (shV n X c f j).natAbs := by
  have h1 := (h.one (pvF_at h.k24 hi).1).1
  have h2 := (h.one (pvF_at h.k24 hj).1).1
  have h3 := shSide_abs (x := X i) h1
  have h4 := shSide_abs (x := X j) h2
  rw [h.at i, h.at j]
  have h5 : shW (ampF c f) (rootF (sqS X n * 1048576)) (X i) ≤ shW (ampF c f) (rootF (sqS X n * 1048576)) (X j) := by
    obtain ⟨_, _, r1, r2, _, _⟩ := h.root
    obtain ⟨t1, t2⟩ := h.top (pvF_at h.k24 hi).1
    obtain ⟨t3, t4⟩ := h.top (pvF_at h.k24 hj).1
    have := Int.mul_le_mul_of_nonneg_left (show (((X i).natAbs : Nat) : Int) ≤ (((X j).natAbs : Nat) : Int) by omega) (show 0 ≤ ampF c f by have := h.amp; omega)
    exact div_mono (by omega) (by omega) (by omega) (by omega) (by omega)
  omega
end Go.Proofs.YtlfhjcalkokhiaaDoor
