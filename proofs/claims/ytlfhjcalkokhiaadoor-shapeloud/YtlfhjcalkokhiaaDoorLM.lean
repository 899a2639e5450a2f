/-
  Package level over plain integers: how loud bands and frames are, and what follows.
-/
import Derived.Test.YtlfhjcalkokhiaaDoorN
namespace Go.Proofs.YtlfhjcalkokhiaaDoor
set_option linter.unusedVariables false

/-- The four steps. -/
def stpF (f : Int) : Int := if f = 0 then 16777216 else if f = 1 then 19951585 else if f = 2 then 23726566 else 28215802
def ampF (c f : Int) : Int := if 1 ≤ c ∧ c ≤ 23 ∧ 0 ≤ f ∧ f ≤ 3 then shrF (stpF f) (24 - c) else 0
def gainF (g : Int) : Int := if -64 ≤ g ∧ g ≤ 32 then shrF (stpF (g % 4)) (8 - g / 4) else 0
def applyF (x g : Int) : Int := if -1073741824 ≤ x ∧ x ≤ 1073741824 then satF (shrF (x * gainF g) 16) else 0
theorem ampF_in {c f : Int} (h1 : 1 ≤ c) (h2 : c ≤ 23) (h3 : 0 ≤ f) (h4 : f ≤ 3) : ampF c f = shrF (stpF f) (24 - c) := by rw [ampF, if_pos ⟨h1, h2, h3, h4⟩]
theorem ampF_out {c f : Int} (h : ¬ (1 ≤ c ∧ c ≤ 23 ∧ 0 ≤ f ∧ f ≤ 3)) : ampF c f = 0 := by rw [ampF, if_neg h]
theorem gainF_in {g : Int} (h1 : -64 ≤ g) (h2 : g ≤ 32) : gainF g = shrF (stpF (g % 4)) (8 - g / 4) := by rw [gainF, if_pos ⟨h1, h2⟩]
theorem gainF_out {g : Int} (h : ¬ (-64 ≤ g ∧ g ≤ 32)) : gainF g = 0 := by rw [gainF, if_neg h]
theorem applyF_in {x g : Int} (h1 : -1073741824 ≤ x) (h2 : x ≤ 1073741824) : applyF x g = satF (shrF (x * gainF g) 16) := by rw [applyF, if_pos ⟨h1, h2⟩]
theorem applyF_out {x g : Int} (h : ¬ (-1073741824 ≤ x ∧ x ≤ 1073741824)) : applyF x g = 0 := by rw [applyF, if_neg h]
theorem stpF_bd (f : Int) : 16777216 ≤ stpF f ∧ stpF f ≤ 28215802 := by
  unfold stpF
  split
  · omega
  · split
    · omega
    · split <;> omega

/-! bands in a row: the band n of 0 to 91 is Coarse n / 4 + 1 and Fine n % 4 -/
def ampI (n : Nat) : Int := ampF ((n / 4 + 1 : Nat) : Int) ((n % 4 : Nat) : Int)
theorem amp_step : ∀ n, n < 91 → ampI n ≤ ampI (n + 1) := by
  have h : (List.range 91).all (fun n => decide (ampI n ≤ ampI (n + 1))) = true := by decide +kernel
  intro n hn
  exact of_decide_eq_true (List.all_eq_true.1 h n (List.mem_range.2 hn))
theorem amp_two : ∀ n, n < 92 → 2 ≤ ampI n := by
  have h : (List.range 92).all (fun n => decide (2 ≤ ampI n)) = true := by decide +kernel
  intro n hn
  exact of_decide_eq_true (List.all_eq_true.1 h n (List.mem_range.2 hn))
theorem amp_great : ∀ n, n < 92 → ampI n ≤ 16777216 := by
  have h : (List.range 92).all (fun n => decide (ampI n ≤ 16777216)) = true := by decide +kernel
  intro n hn
  exact of_decide_eq_true (List.all_eq_true.1 h n (List.mem_range.2 hn))
theorem amp_four : ∀ n, n < 88 → ampI (n + 4) - 2 * ampI n ≤ 1 ∧ -1 ≤ ampI (n + 4) - 2 * ampI n := by
  have h : (List.range 88).all (fun n => decide (ampI (n + 4) - 2 * ampI n ≤ 1 ∧ -1 ≤ ampI (n + 4) - 2 * ampI n)) = true := by decide +kernel
  intro n hn
  exact of_decide_eq_true (List.all_eq_true.1 h n (List.mem_range.2 hn))
theorem amp_mono (n d : Nat) (h : n + d < 92) : ampI n ≤ ampI (n + d) := by
  induction d with
  | zero => exact Int.le_refl _
  | succ d ih => exact Int.le_trans (ih (by omega)) (amp_step (n + d) (by omega))
/-- A band's number. -/
theorem amp_at {c f : Int} (h1 : 1 ≤ c) (h2 : c ≤ 23) (h3 : 0 ≤ f) (h4 : f ≤ 3) : ∃ n : Nat, n < 92 ∧ (n : Int) = 4 * (c - 1) + f ∧ ampF c f = ampI n := by
  refine ⟨(4 * (c - 1) + f).toNat, by omega, by omega, ?_⟩
  unfold ampI
  congr 1 <;> omega
theorem amp_of (n : Nat) (c f : Int) (hc : c = (n : Int) / 4 + 1) (hf : f = (n : Int) % 4) : ampF c f = ampI n := by
  unfold ampI
  congr 1 <;> omega
theorem amp_lex {c f d g : Int} (h1 : 1 ≤ c) (h3 : 0 ≤ f) (h4 : f ≤ 3) (k2 : d ≤ 23) (k3 : 0 ≤ g) (k4 : g ≤ 3) (h : c < d ∨ c = d ∧ f ≤ g) : ampF c f ≤ ampF d g := by
  obtain ⟨n, hn, en, e⟩ := amp_at (c := c) (f := f) h1 (by omega) h3 h4
  obtain ⟨m, hm, em, e'⟩ := amp_at (c := d) (f := g) (by omega) k2 k3 k4
  rw [e, e']
  have := amp_mono n (m - n) (by omega)
  rwa [show n + (m - n) = m by omega] at this
theorem amp_ge2 {c f : Int} (h1 : 1 ≤ c) (h2 : c ≤ 23) (h3 : 0 ≤ f) (h4 : f ≤ 3) : 2 ≤ ampF c f := by
  obtain ⟨n, hn, en, e⟩ := amp_at h1 h2 h3 h4
  rw [e]; exact amp_two n hn
theorem amp_any (c f : Int) : 0 ≤ ampF c f ∧ ampF c f ≤ 16777216 := by
  by_cases h : 1 ≤ c ∧ c ≤ 23 ∧ 0 ≤ f ∧ f ≤ 3
  · obtain ⟨n, hn, en, e⟩ := amp_at h.1 h.2.1 h.2.2.1 h.2.2.2
    rw [e]
    have := amp_two n hn
    have := amp_great n hn
    omega
  · rw [ampF_out h]; omega
theorem amp10 : ampF 1 0 = 2 := by decide +kernel
theorem amp30 : ampF 3 0 = 8 := by decide +kernel
theorem amp00 : ampF 0 0 = 0 := by decide +kernel

/-- What is found: not louder than a, and the next Fine, and the next Coarse, are. -/
structure Found (a c f : Int) : Prop where
  c1 : 1 ≤ c
  c2 : c ≤ 23
  f1 : 0 ≤ f
  f2 : f ≤ 3
  le : ampF c f ≤ a
  nc : c = 23 ∨ a < ampF (c + 1) 0
  nf : f = 3 ∨ a < ampF c (f + 1)
theorem Found.ge {a c f : Int} (h : Found a c f) : 2 ≤ a := by
  have := amp_ge2 h.c1 h.c2 h.f1 h.f2
  have := h.le
  omega
theorem Found.not_lt {a c f d g : Int} (h : Found a c f) (k : Found a d g) (hl : c < d ∨ c = d ∧ f < g) : False := by
  have e := k.le
  obtain ⟨h1, h2, h3, h4, _, h6, h7⟩ := h
  obtain ⟨k1, k2, k3, k4, _, k6, k7⟩ := k
  rcases hl with hl | ⟨rfl, hl⟩
  · have := amp_lex (c := c + 1) (f := 0) (d := d) (g := g) (by omega) (by omega) (by omega) k2 k3 k4 (by omega)
    omega
  · have := amp_lex (c := c) (f := f + 1) (d := c) (g := g) h1 (by omega) (by omega) k2 k3 k4 (by omega)
    omega
theorem Found.one {a c f d g : Int} (h : Found a c f) (k : Found a d g) : c = d ∧ f = g := by
  have e1 := fun hl => h.not_lt k hl
  have e2 := fun hl => k.not_lt h hl
  by_cases x : c < d
  · exact absurd (.inl x) (fun y => e1 y)
  · by_cases y : d < c
    · exact absurd (.inl y) (fun z => e2 z)
    · by_cases u : f < g
      · exact absurd (.inr ⟨by omega, u⟩) (fun z => e1 z)
      · by_cases v : g < f
        · exact absurd (.inr ⟨by omega, v⟩) (fun z => e2 z)
        · omega
/-- What Find tells of any number. -/
def Finds (a c f : Int) : Prop := a < 2 ∧ c = 0 ∧ f = 0 ∨ Found a c f
theorem Finds.one {a c f d g : Int} (h : Finds a c f) (k : Finds a d g) : c = d ∧ f = g := by
  rcases h with h | h <;> rcases k with k | k
  · omega
  · have := k.ge; omega
  · have := h.ge; omega
  · exact h.one k
theorem found9 : Found 9 3 0 := ⟨by decide, by decide, by decide, by decide, by decide +kernel, by decide +kernel, by decide +kernel⟩
/-- The step behind what is found is louder. -/
theorem Found.next {a c f : Int} (h : Found a c f) (hn : 4 * c + f + 1 < 96) : a < ampF ((4 * c + f + 1) / 4) ((4 * c + f + 1) % 4) := by
  obtain ⟨h1, h2, h3, h4, _, h6, h7⟩ := h
  by_cases e : f = 3
  · subst e
    rw [show (4 * c + 3 + 1) / 4 = c + 1 by omega, show (4 * c + 3 + 1) % 4 = 0 by omega]
    omega
  · rw [show (4 * c + f + 1) / 4 = c by omega, show (4 * c + f + 1) % 4 = f + 1 by omega]
    omega

/-- There is what is found. -/
theorem found_ex {a : Int} (h : 2 ≤ a) : ∃ c f, Found a c f := by
  have hn : ∀ m, m < 92 → ∃ n, n ≤ m ∧ ampI n ≤ a ∧ (n = m ∨ a < ampI (n + 1)) := by
    intro m
    induction m with
    | zero => intro _; exact ⟨0, Nat.le_refl _, by rw [show ampI 0 = 2 by decide +kernel]; exact h, .inl rfl⟩
    | succ m ih =>
      intro hm
      obtain ⟨n, h1, h2, h3⟩ := ih (by omega)
      rcases h3 with rfl | h3
      · by_cases e : ampI (n + 1) ≤ a
        · exact ⟨n + 1, Nat.le_refl _, e, .inl rfl⟩
        · exact ⟨n, by omega, h2, .inr (by omega)⟩
      · exact ⟨n, by omega, h2, .inr h3⟩
  obtain ⟨n, h1, h2, h3⟩ := hn 91 (by omega)
  refine ⟨(n : Int) / 4 + 1, (n : Int) % 4, by omega, by omega, by omega, by omega, by rw [amp_of n _ _ rfl rfl]; exact h2, ?_, ?_⟩
  · by_cases e : (n : Int) / 4 + 1 = 23
    · exact .inl e
    · right
      have h4 : a < ampI (n + 1) := by omega
      have h5 := amp_mono (n + 1) (4 * (n / 4 + 1) - (n + 1)) (by omega)
      rw [show n + 1 + (4 * (n / 4 + 1) - (n + 1)) = 4 * (n / 4 + 1) by omega] at h5
      rw [amp_of (4 * (n / 4 + 1)) _ _ (by omega) (by omega)]
      omega
  · by_cases e : (n : Int) % 4 = 3
    · exact .inl e
    · right
      rw [amp_of (n + 1) _ _ (by omega) (by omega)]
      omega

/-! frames: the gain n of 0 to 96 is n - 64 -/
def gainI (n : Nat) : Int := gainF ((n : Int) - 64)
theorem gain_step : ∀ n, n < 96 → gainI n ≤ gainI (n + 1) := by
  have h : (List.range 96).all (fun n => decide (gainI n ≤ gainI (n + 1))) = true := by decide +kernel
  intro n hn
  exact of_decide_eq_true (List.all_eq_true.1 h n (List.mem_range.2 hn))
theorem gain_one : ∀ n, n < 97 → 1 ≤ gainI n := by
  have h : (List.range 97).all (fun n => decide (1 ≤ gainI n)) = true := by decide +kernel
  intro n hn
  exact of_decide_eq_true (List.all_eq_true.1 h n (List.mem_range.2 hn))
theorem gain_great : ∀ n, n < 97 → gainI n ≤ 16777216 := by
  have h : (List.range 97).all (fun n => decide (gainI n ≤ 16777216)) = true := by decide +kernel
  intro n hn
  exact of_decide_eq_true (List.all_eq_true.1 h n (List.mem_range.2 hn))
theorem gain_four : ∀ n, n < 93 → gainI (n + 4) - 2 * gainI n ≤ 1 ∧ -1 ≤ gainI (n + 4) - 2 * gainI n := by
  have h : (List.range 93).all (fun n => decide (gainI (n + 4) - 2 * gainI n ≤ 1 ∧ -1 ≤ gainI (n + 4) - 2 * gainI n)) = true := by decide +kernel
  intro n hn
  exact of_decide_eq_true (List.all_eq_true.1 h n (List.mem_range.2 hn))
theorem gain_any (g : Int) : 0 ≤ gainF g ∧ gainF g ≤ 16777216 := by
  by_cases h : -64 ≤ g ∧ g ≤ 32
  · have e : gainF g = gainI (g + 64).toNat := by unfold gainI; congr 1; omega
    rw [e]
    have := gain_one (g + 64).toNat (by omega)
    have := gain_great (g + 64).toNat (by omega)
    omega
  · rw [gainF_out h]; omega
theorem gain0 : gainF 0 = 65536 := by decide +kernel

/-! samples made louder -/
theorem mul_bd {x G : Int} (h1 : -1073741824 ≤ x) (h2 : x ≤ 1073741824) (h3 : 0 ≤ G) (h4 : G ≤ 16777216) : -18014398509481984 ≤ x * G ∧ x * G ≤ 18014398509481984 := by
  have a1 := Int.mul_le_mul_of_nonneg_right h1 h3
  have a2 := Int.mul_le_mul_of_nonneg_right h2 h3
  omega
theorem shr16 {y : Int} (h1 : -18014398509481984 ≤ y) (h2 : y ≤ 18014398509481984) : shrF y 16 = (y + 32768) / 65536 := by
  rw [shrF, if_pos (by omega)]; rfl
theorem apply_in {x g : Int} (h1 : -1073741824 ≤ x) (h2 : x ≤ 1073741824) : applyF x g = satF ((x * gainF g + 32768) / 65536) := by
  have := gain_any g
  have := mul_bd h1 h2 this.1 this.2
  rw [applyF_in h1 h2, shr16 this.1 this.2]
theorem sat_bd (x : Int) : -32768 ≤ satF x ∧ satF x ≤ 32767 := by unfold satF; omega
theorem apply_bd (x g : Int) : -32768 ≤ applyF x g ∧ applyF x g ≤ 32767 := by
  unfold applyF
  split
  · exact sat_bd _
  · omega
theorem apply_pos {x g : Int} (h : 0 ≤ x) : 0 ≤ applyF x g := by
  by_cases h2 : x ≤ 1073741824
  · rw [apply_in (by omega) h2]
    have := Int.mul_nonneg h (gain_any g).1
    unfold satF
    omega
  · rw [applyF_out (by omega)]; omega
theorem apply_neg {x g : Int} (h : x ≤ 0) : applyF x g ≤ 0 := by
  by_cases h2 : -1073741824 ≤ x
  · rw [apply_in h2 (by omega)]
    have := Int.mul_nonneg (a := -x) (by omega) (gain_any g).1
    rw [Int.neg_mul] at this
    unfold satF
    omega
  · rw [applyF_out (by omega)]; omega
theorem apply_zero (g : Int) : applyF 0 g = 0 := by
  have := apply_pos (x := 0) (g := g) (by omega)
  have := apply_neg (x := 0) (g := g) (by omega)
  omega
theorem apply_stays {x : Int} (h1 : -32768 ≤ x) (h2 : x ≤ 32767) : applyF x 0 = x := by
  rw [apply_in (by omega) (by omega), gain0]
  unfold satF
  omega
theorem apply100 : applyF 100 4 = 200 := by decide +kernel
theorem apply30000 : applyF (-30000) 8 = -32768 := by decide +kernel
end Go.Proofs.YtlfhjcalkokhiaaDoor
