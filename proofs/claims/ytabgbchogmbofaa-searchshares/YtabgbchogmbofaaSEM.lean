/-
  Numbers as pulses: each has its share, and what is left goes to whom most is missing. Plain numbers.
-/
import Derived.Test.YtabgbchogmbofaaPVA
namespace Go.Proofs.Ytabgbchogmbofaa
set_option linter.unusedVariables false

def seA (X : Nat → Int) (i : Nat) : Nat := (X i).natAbs
/-- Sums. -/
def seSum (f : Nat → Nat) : Nat → Nat
  | 0 => 0
  | i + 1 => seSum f i + f i
theorem seSum_congr {f g : Nat → Nat} : ∀ n, (∀ i, i < n → f i = g i) → seSum f n = seSum g n
  | 0, _ => rfl
  | n + 1, h => by rw [seSum, seSum, seSum_congr n (fun i hi => h i (by omega)), h n (by omega)]
theorem seSum_le {f g : Nat → Nat} : ∀ n, (∀ i, i < n → f i ≤ g i) → seSum f n ≤ seSum g n
  | 0, _ => Nat.le_refl _
  | n + 1, h => by have := seSum_le n (fun i hi => h i (by omega)); have := h n (by omega); rw [seSum, seSum]; omega
theorem seSum_at (f : Nat → Nat) : ∀ n i, i < n → f i ≤ seSum f n
  | 0, i, h => by omega
  | n + 1, i, h => by
    rw [seSum]
    by_cases e : i = n
    · subst e; omega
    · have := seSum_at f n i (by omega); omega
theorem seSum_add (f g : Nat → Nat) : ∀ n, seSum (fun i => f i + g i) n = seSum f n + seSum g n
  | 0 => rfl
  | n + 1 => by rw [seSum, seSum_add f g n, seSum, seSum]; omega
theorem seSum_mul (f : Nat → Nat) (c : Nat) : ∀ n, seSum (fun i => f i * c) n = seSum f n * c
  | 0 => by simp [seSum]
  | n + 1 => by rw [seSum, seSum_mul f c n, seSum, Nat.add_mul]
theorem seSum_zero {f : Nat → Nat} : ∀ n, seSum f n = 0 → ∀ i, i < n → f i = 0 := fun n h i hi => by have := seSum_at f n i hi; omega
theorem seSum_lt {f : Nat → Nat} {c : Nat} : ∀ n, 1 ≤ n → (∀ i, i < n → f i < c) → seSum f n < n * c
  | 0, h, _ => by omega
  | n + 1, _, h => by
    have h1 := h n (by omega)
    rw [seSum, Nat.add_mul]
    by_cases e : n = 0
    · subst e; simp [seSum]; omega
    · have := seSum_lt n (by omega) (fun i hi => h i (by omega)); omega

/-- How many of the first n. -/
def seCnt (P : Nat → Bool) : Nat → Nat
  | 0 => 0
  | n + 1 => seCnt P n + if P n then 1 else 0
theorem seCnt_le (P : Nat → Bool) : ∀ n, seCnt P n ≤ n
  | 0 => Nat.le_refl _
  | n + 1 => by have := seCnt_le P n; rw [seCnt]; split <;> omega
theorem seCnt_mono {P Q : Nat → Bool} : ∀ n, (∀ i, i < n → P i = true → Q i = true) → seCnt P n ≤ seCnt Q n
  | 0, _ => Nat.le_refl _
  | n + 1, h => by
    have h1 := seCnt_mono n (fun i hi => h i (by omega))
    have h2 := h n (by omega)
    rw [seCnt, seCnt]
    cases hp : P n with
    | false => rw [if_neg (by simp)]; omega
    | true => rw [if_pos rfl, if_pos (h2 hp)]; omega
theorem seCnt_lt {P Q : Nat → Bool} {j : Nat} : ∀ n, j < n → (∀ i, i < n → P i = true → Q i = true) → P j = false → Q j = true → seCnt P n < seCnt Q n
  | 0, h, _, _, _ => by omega
  | n + 1, hj, h, hp, hq => by
    have h1 := seCnt_mono n (fun i hi => h i (by omega))
    rw [seCnt, seCnt]
    by_cases e : j = n
    · subst e; rw [hp, if_neg (by simp), if_pos hq]; omega
    · have := seCnt_lt n (show j < n by omega) (fun i hi => h i (by omega)) hp hq
      have h2 := h n (by omega)
      cases hp2 : P n with
      | false => rw [if_neg (by simp)]; omega
      | true => rw [if_pos rfl, if_pos (h2 hp2)]; omega
theorem seCnt_congr {P Q : Nat → Bool} : ∀ n, (∀ i, i < n → P i = Q i) → seCnt P n = seCnt Q n
  | 0, _ => rfl
  | n + 1, h => by rw [seCnt, seCnt, seCnt_congr n (fun i hi => h i (by omega)), h n (by omega)]
theorem seCnt_one {P : Nat → Bool} : ∀ n, (∀ i j, i < n → j < n → P i = true → P j = true → i = j) → seCnt P n ≤ 1
  | 0, _ => by simp [seCnt]
  | n + 1, h => by
    have h1 := seCnt_one n (fun i j hi hj => h i j (by omega) (by omega))
    rw [seCnt]
    cases hp : P n with
    | false => rw [if_neg (by simp)]; omega
    | true =>
      rw [if_pos rfl]
      have h2 : seCnt P n = 0 := by
        have h3 : seCnt P n = seCnt (fun _ => false) n := seCnt_congr n (fun i hi => by
          cases hpi : P i with
          | false => rfl
          | true => have := h i n (by omega) (by omega) hpi hp; omega)
        rw [h3]
        have h4 : ∀ m, seCnt (fun _ => false) m = 0 := fun m => by
          induction m with
          | zero => rfl
          | succ m ih => rw [seCnt, ih]; rfl
        exact h4 n
      omega
theorem seCnt_or {P Q R : Nat → Bool} : ∀ n, (∀ i, i < n → R i = true → P i = true ∨ Q i = true) → seCnt R n ≤ seCnt P n + seCnt Q n
  | 0, _ => Nat.le_refl _
  | n + 1, h => by
    have h1 := seCnt_or n (fun i hi => h i (by omega))
    have h2 := h n (by omega)
    rw [seCnt, seCnt, seCnt]
    cases hr : R n with
    | false => rw [if_neg (by simp)]; omega
    | true =>
      rw [if_pos rfl]
      rcases h2 hr with hh | hh
      · rw [if_pos hh]; omega
      · rw [hh]; simp; omega
/-- The order: whom more is missing, and the first of them. -/
def seAhead (R : Nat → Nat) (j i : Nat) : Bool := decide (R i < R j) || (decide (R j = R i) && decide (j < i))
theorem seAhead_iff {R : Nat → Nat} {j i : Nat} : seAhead R j i = true ↔ R i < R j ∨ R j = R i ∧ j < i := by simp [seAhead]
theorem seAhead_trans {R : Nat → Nat} {a b c : Nat} (h : seAhead R a b = true) (k : seAhead R b c = true) : seAhead R a c = true := by
  rw [seAhead_iff] at *; omega
theorem seAhead_no {R : Nat → Nat} (a : Nat) : seAhead R a a = false := by
  cases h : seAhead R a a with
  | false => rfl
  | true => rw [seAhead_iff] at h; omega
theorem seAhead_tot {R : Nat → Nat} {a b : Nat} (h : a ≠ b) : seAhead R a b = true ∨ seAhead R b a = true := by
  rw [seAhead_iff, seAhead_iff]; omega
/-- How many stand ahead of i. -/
def seRank (R : Nat → Nat) (n i : Nat) : Nat := seCnt (fun j => seAhead R j i) n
theorem seRank_lt {R : Nat → Nat} {n i j : Nat} (hi : i < n) (h : seAhead R i j = true) : seRank R n i < seRank R n j :=
  seCnt_lt (j := i) n hi (fun a _ ha => seAhead_trans ha h) (seAhead_no i) h
theorem seRank_inj {R : Nat → Nat} {n i j : Nat} (hi : i < n) (hj : j < n) (h : seRank R n i = seRank R n j) : i = j := by
  by_cases e : i = j
  · exact e
  · rcases seAhead_tot (R := R) e with h1 | h1
    · have := seRank_lt (n := n) hi h1; omega
    · have := seRank_lt (n := n) hj h1; omega
theorem seRank_few (R : Nat → Nat) (n : Nat) : ∀ t, seCnt (fun j => decide (seRank R n j < t)) n ≤ t
  | 0 => by
    have h : seCnt (fun j => decide (seRank R n j < 0)) n ≤ seCnt (fun _ => false) n := seCnt_mono n (fun i _ hi => by simp at hi)
    have h4 : ∀ m, seCnt (fun _ => false) m = 0 := fun m => by
      induction m with
      | zero => rfl
      | succ m ih => rw [seCnt, ih]; rfl
    rw [h4] at h; exact h
  | t + 1 => by
    have h1 := seRank_few R n t
    have h2 : seCnt (fun j => decide (seRank R n j = t)) n ≤ 1 := seCnt_one n (fun i j hi hj h k => seRank_inj (R := R) (n := n) hi hj (by simp at h k; omega))
    have h3 := seCnt_or (P := fun j => decide (seRank R n j < t)) (Q := fun j => decide (seRank R n j = t)) (R := fun j => decide (seRank R n j < t + 1)) n (fun i _ hi => by simp at hi ⊢; omega)
    omega
/-- What is left to be told, when t are. -/
def seRest (R : Nat → Nat) (n t i : Nat) : Int := if seRank R n i < t then -1 else ((R i : Nat) : Int)
/-- Where fewer than all are told, some one is not. -/
theorem seRank_some (R : Nat → Nat) {n t : Nat} (ht : t < n) : ∃ j, j < n ∧ t ≤ seRank R n j := by
  by_cases h : ∃ j, j < n ∧ t ≤ seRank R n j
  · exact h
  · have h1 := seRank_few R n t
    have h2 : seCnt (fun j => decide (seRank R n j < t)) n = n := by
      have h3 : seCnt (fun j => decide (seRank R n j < t)) n = seCnt (fun _ => true) n := seCnt_congr n (fun i hi => by
        have : seRank R n i < t := by
          apply Nat.lt_of_not_le; intro hle; exact h ⟨i, hi, hle⟩
        simpa using this)
      have h4 : ∀ m, seCnt (fun _ => true) m = m := fun m => by
        induction m with
        | zero => rfl
        | succ m ih => rw [seCnt, ih]; rfl
      rw [h3, h4]
    omega
/-- The first of those to whom most is missing is the next one. -/
theorem seRank_best {R : Nat → Nat} {n t b : Nat} (ht : t < n) (hb : b < n) (h : ∀ j, j < n → seRest R n t j < seRest R n t b ∨ seRest R n t j = seRest R n t b ∧ b ≤ j) : seRank R n b = t := by
  have h0 : t ≤ seRank R n b := by
    apply Nat.le_of_not_lt
    intro hlt
    obtain ⟨j, hj, hjt⟩ := seRank_some R ht
    have h1 := h j hj
    have e1 : seRest R n t j = ((R j : Nat) : Int) := if_neg (by omega)
    have e2 : seRest R n t b = -1 := if_pos hlt
    rw [e1, e2] at h1; omega
  have h2 : seRank R n b ≤ seCnt (fun j => decide (seRank R n j < t)) n := seCnt_mono n (fun j hj ha => by
    have ha := seAhead_iff.1 ha
    have h1 := h j hj
    have e2 : seRest R n t b = ((R b : Nat) : Int) := if_neg (by omega)
    by_cases hjt : seRank R n j < t
    · simpa using hjt
    · have e1 : seRest R n t j = ((R j : Nat) : Int) := if_neg hjt
      rw [e1, e2] at h1; omega)
  have h3 := seRank_few R n t
  omega
/-- A number's share, whole and what is missing; how many are left. -/
def seQ (X : Nat → Int) (n k i : Nat) : Nat := seA X i * k / seSum (seA X) n
def seR (X : Nat → Int) (n k i : Nat) : Nat := seA X i * k % seSum (seA X) n
def seL (X : Nat → Int) (n k : Nat) : Nat := k - seSum (seQ X n k) n
/-- How many each has, when t of the left ones are told. -/
def seN (X : Nat → Int) (n k t i : Nat) : Nat := seQ X n k i + if seRank (seR X n k) n i < t then 1 else 0
/-- The pulses. -/
def seF (X : Nat → Int) (n k i : Nat) : Int :=
  if seSum (seA X) n = 0 then (if i = 0 then (k : Int) else 0) else if X i < 0 then -((seN X n k (seL X n k) i : Nat) : Int) else ((seN X n k (seL X n k) i : Nat) : Int)
theorem seQR (X : Nat → Int) (n k i : Nat) : seQ X n k i * seSum (seA X) n + seR X n k i = seA X i * k := by
  unfold seQ seR; rw [Nat.mul_comm]; exact Nat.div_add_mod _ _
theorem seR_lt {X : Nat → Int} {n : Nat} (hs : 1 ≤ seSum (seA X) n) (k i : Nat) : seR X n k i < seSum (seA X) n := Nat.mod_lt _ (by omega)
/-- What is missing of all makes up what is left. -/
theorem seSum_all {X : Nat → Int} {n : Nat} (hs : 1 ≤ seSum (seA X) n) (k : Nat) : seSum (seQ X n k) n ≤ k ∧ seSum (seR X n k) n = seL X n k * seSum (seA X) n := by
  have h1 : seSum (fun i => seQ X n k i * seSum (seA X) n + seR X n k i) n = seSum (fun i => seA X i * k) n := seSum_congr n (fun i _ => seQR X n k i)
  rw [seSum_add, seSum_mul, seSum_mul] at h1
  have h2 : seSum (seQ X n k) n ≤ k := by
    apply Nat.le_of_not_lt; intro h
    have := Nat.mul_le_mul_right (seSum (seA X) n) (show k + 1 ≤ seSum (seQ X n k) n from h)
    rw [Nat.add_mul, Nat.mul_comm k] at this
    omega
  refine ⟨h2, ?_⟩
  unfold seL
  obtain ⟨d, hd⟩ := Nat.le.dest h2
  generalize seSum (seQ X n k) n = q at *
  generalize seSum (seA X) n = z at *
  rw [← hd, Nat.mul_add, Nat.mul_comm z q] at h1
  rw [← hd, Nat.add_sub_cancel_left, Nat.mul_comm d z]
  omega
theorem seL_lt {X : Nat → Int} {n : Nat} (hn : 1 ≤ n) (hs : 1 ≤ seSum (seA X) n) (k : Nat) : seL X n k < n := by
  have h1 := (seSum_all hs k).2
  have h2 := seSum_lt (f := seR X n k) (c := seSum (seA X) n) n hn (fun i _ => seR_lt hs k i)
  rw [h1] at h2
  exact Nat.lt_of_mul_lt_mul_right h2
theorem seSum_cnt {f : Nat → Nat} {P : Nat → Bool} {c : Nat} : ∀ n, (∀ i, i < n → f i ≤ c ∧ (P i = false → f i = 0)) → seSum f n ≤ seCnt P n * c
  | 0, _ => by simp [seSum]
  | n + 1, h => by
    have h1 := seSum_cnt n (fun i hi => h i (by omega))
    obtain ⟨h2, h3⟩ := h n (by omega)
    rw [seSum, seCnt]
    cases hp : P n with
    | false => have := h3 hp; rw [if_neg (by simp), Nat.add_zero]; omega
    | true => rw [if_pos rfl, Nat.add_mul]; omega
/-- Who is told one of the left ones misses something. -/
theorem seR_pos {X : Nat → Int} {n : Nat} (hs : 1 ≤ seSum (seA X) n) {k i : Nat} (h : seRank (seR X n k) n i < seL X n k) : 1 ≤ seR X n k i := by
  apply Nat.le_of_not_lt
  intro h0
  have h1 := seSum_cnt (f := seR X n k) (P := fun j => seAhead (seR X n k) j i) (c := seSum (seA X) n) n (fun j _ => ⟨Nat.le_of_lt (seR_lt hs k j), fun hf => by
    apply Nat.le_antisymm _ (Nat.zero_le _)
    apply Nat.le_of_not_lt
    intro h2
    have : seAhead (seR X n k) j i = true := seAhead_iff.2 (.inl (by omega))
    rw [hf] at this; cases this⟩)
  rw [(seSum_all hs k).2] at h1
  have h2 := Nat.le_of_mul_le_mul_right h1 (by omega)
  have h3 : seCnt (fun j => seAhead (seR X n k) j i) n = seRank (seR X n k) n i := rfl
  omega
/-- Some one is the first of the greatest. -/
theorem first_best (f : Nat → Int) : ∀ n, 1 ≤ n → ∃ b, b < n ∧ ∀ j, j < n → f j < f b ∨ f j = f b ∧ b ≤ j
  | 0, h => by omega
  | n + 1, _ => by
    by_cases e : n = 0
    · subst e; exact ⟨0, by omega, fun j hj => .inr ⟨by rw [show j = 0 by omega], by omega⟩⟩
    · obtain ⟨b, hb, h⟩ := first_best f n (by omega)
      by_cases hc : f b < f n
      · exact ⟨n, by omega, fun j hj => by
          by_cases e2 : j = n
          · subst e2; exact .inr ⟨rfl, by omega⟩
          · have := h j (by omega); left; omega⟩
      · exact ⟨b, by omega, fun j hj => by
          by_cases e2 : j = n
          · subst e2; omega
          · exact h j (by omega)⟩
theorem seCnt_all (R : Nat → Nat) (n : Nat) : ∀ t, t ≤ n → seCnt (fun j => decide (seRank R n j < t)) n = t
  | 0, _ => by have := seRank_few R n 0; omega
  | t + 1, ht => by
    have h1 := seCnt_all R n t (by omega)
    obtain ⟨b, hb, h⟩ := first_best (seRest R n t) n (by omega)
    have h2 := seRank_best (by omega) hb h
    have h3 := seCnt_lt (P := fun j => decide (seRank R n j < t)) (Q := fun j => decide (seRank R n j < t + 1)) (j := b) n hb (fun i _ hi => by simp at hi ⊢; omega) (by simp; omega) (by simp; omega)
    have h4 := seRank_few R n (t + 1)
    omega
theorem seSum_if (P : Nat → Bool) : ∀ n, seSum (fun i => if P i then 1 else 0) n = seCnt P n
  | 0 => rfl
  | n + 1 => by rw [seSum, seCnt, seSum_if P n]
theorem seN_sum {X : Nat → Int} {n : Nat} (hn : 1 ≤ n) (hs : 1 ≤ seSum (seA X) n) (k : Nat) : seSum (seN X n k (seL X n k)) n = k := by
  have h1 := (seSum_all hs k).1
  have h2 := seL_lt hn hs k
  have h3 : seSum (seN X n k (seL X n k)) n = seSum (seQ X n k) n + seSum (fun i => if decide (seRank (seR X n k) n i < seL X n k) then 1 else 0) n := by
    rw [← seSum_add]
    exact seSum_congr n (fun i _ => by unfold seN; congr 1; simp)
  rw [h3, seSum_if, seCnt_all _ _ _ (by omega)]
  unfold seL; omega
theorem seN_le {X : Nat → Int} {n : Nat} (hn : 1 ≤ n) (hs : 1 ≤ seSum (seA X) n) (k : Nat) {i : Nat} (hi : i < n) : seN X n k (seL X n k) i ≤ k := by
  have h1 := seSum_at (seN X n k (seL X n k)) n i hi
  rw [seN_sum hn hs k] at h1; exact h1
/-- Each one's are off by less than one from its share. -/
theorem seN_off {X : Nat → Int} {n : Nat} (hs : 1 ≤ seSum (seA X) n) (k i : Nat) :
    seN X n k (seL X n k) i * seSum (seA X) n < seA X i * k + seSum (seA X) n ∧ seA X i * k < seN X n k (seL X n k) i * seSum (seA X) n + seSum (seA X) n := by
  have h1 := seQR X n k i
  have h2 := seR_lt hs k i
  have h3 := seR_pos hs (k := k) (i := i)
  unfold seN
  by_cases h : seRank (seR X n k) n i < seL X n k
  · have := h3 h
    rw [if_pos h, Nat.add_mul]; omega
  · rw [if_neg h, Nat.add_zero]; omega
theorem seN_mono {X : Nat → Int} {n : Nat} (hs : 1 ≤ seSum (seA X) n) {k i j : Nat} (hi : i < n) (hj : j < n) (h : seA X i < seA X j) : seN X n k (seL X n k) i ≤ seN X n k (seL X n k) j := by
  have e1 := seQR X n k i
  have e2 := seQR X n k j
  have l1 := seR_lt hs k i
  have l2 := seR_lt hs k j
  have hle : seA X i * k ≤ seA X j * k := Nat.mul_le_mul_right k (by omega)
  have hq : seQ X n k i ≤ seQ X n k j := Nat.div_le_div_right hle
  unfold seN
  by_cases hq2 : seQ X n k i < seQ X n k j
  · split <;> split <;> omega
  · have e3 : seQ X n k i = seQ X n k j := by omega
    rw [e3] at e1 ⊢
    by_cases hk : k = 0
    · subst hk
      have h0 := fun i => seR_pos hs (k := 0) (i := i)
      by_cases hri : seRank (seR X n 0) n i < seL X n 0
      · have := h0 i hri
        simp at e1; omega
      · rw [if_neg hri]; omega
    · have hlt : seA X i * k < seA X j * k := Nat.mul_lt_mul_of_pos_right h (by omega)
      have ha : seAhead (seR X n k) j i = true := seAhead_iff.2 (.inl (by omega))
      have := seRank_lt (n := n) hj ha
      split <;> split <;> omega
/-- As many as are asked for. -/
theorem seF_abs {X : Nat → Int} {n k i : Nat} (hs : 1 ≤ seSum (seA X) n) : (seF X n k i).natAbs = seN X n k (seL X n k) i := by
  rw [seF, if_neg (by omega)]; split <;> omega
theorem pvF_sum {Y : Nat → Int} : ∀ n, (∀ i, i < n → (Y i).natAbs ≤ 24) → pvF Y n = seSum (fun i => (Y i).natAbs) n
  | 0, _ => rfl
  | n + 1, h => by
    have := h n (by omega)
    rw [pvF, seSum, pvF_sum n (fun i hi => h i (by omega)), pvD, if_neg (by omega)]
theorem seF_far {X : Nat → Int} {n k : Nat} (hn : 1 ≤ n) (hk : k ≤ 24) : (∀ i, i < n → (seF X n k i).natAbs ≤ 24) ∧ pvF (seF X n k) n = k := by
  by_cases hs : seSum (seA X) n = 0
  · have h1 : ∀ i, (seF X n k i).natAbs = if i = 0 then k else 0 := fun i => by rw [seF, if_pos hs]; split <;> omega
    have h2 : ∀ i, i < n → (seF X n k i).natAbs ≤ 24 := fun i _ => by rw [h1]; split <;> omega
    refine ⟨h2, ?_⟩
    rw [pvF_sum n h2]
    have h3 : ∀ m, 1 ≤ m → seSum (fun i => (seF X n k i).natAbs) m = k := fun m => by
      induction m with
      | zero => intro h; omega
      | succ m ih =>
        intro _
        rw [seSum, h1]
        by_cases e : m = 0
        · subst e; simp [seSum]
        · rw [ih (by omega), if_neg e]; omega
    exact h3 n hn
  · have hs1 : 1 ≤ seSum (seA X) n := by omega
    have h2 : ∀ i, i < n → (seF X n k i).natAbs ≤ 24 := fun i hi => by rw [seF_abs hs1]; have := seN_le hn hs1 k hi; omega
    refine ⟨h2, ?_⟩
    rw [pvF_sum n h2, seSum_congr n (fun i _ => seF_abs hs1)]
    exact seN_sum hn hs1 k
end Go.Proofs.Ytabgbchogmbofaa
