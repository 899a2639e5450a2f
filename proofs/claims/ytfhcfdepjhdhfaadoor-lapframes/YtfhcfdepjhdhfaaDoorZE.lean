/-
  Waves over plain integers: the document's (from the whole down to one number), the program's (stage by stage, places' bits turned round), that they are the same, their bounds.
-/
import Derived.Test.YtfhcfdepjhdhfaaDoorZB
namespace Go.Proofs.YtfhcfdepjhdhfaaDoor
set_option linter.unusedVariables false

abbrev P2 := Int × Int
/-- A number of two parts, turned back. -/
def twd (p : P2) (k : Int) : P2 := (turnRe p.1 p.2 k, turnIm p.1 p.2 k)
def addP (p q : P2) : P2 := (p.1 + q.1, p.2 + q.2)
def subP (p q : P2) : P2 := (p.1 - q.1, p.2 - q.2)
/-- The parts between the waves of 2^(m+1) numbers. -/
def ang (m k : Nat) : Int := ((2 ^ (8 - m) * k : Nat) : Int)

/-- The document's waves of 2^m numbers. -/
def wav : Nat → (Nat → P2) → Nat → P2
  | 0, f, _ => f 0
  | m + 1, f, k =>
    if k < 2 ^ m then addP (wav m (fun i => f (2 * i)) k) (twd (wav m (fun i => f (2 * i + 1)) k) (ang m k))
    else subP (wav m (fun i => f (2 * i)) (k - 2 ^ m)) (twd (wav m (fun i => f (2 * i + 1)) (k - 2 ^ m)) (ang m (k - 2 ^ m)))

/-- A place's m lowest bits, the last one first. -/
def rev : Nat → Nat → Nat
  | 0, _ => 0
  | m + 1, i => (i % 2) * 2 ^ m + rev m (i / 2)
theorem rev_lt : ∀ (m i : Nat), rev m i < 2 ^ m
  | 0, i => by simp [rev]
  | m + 1, i => by
    have h := rev_lt m (i / 2)
    have h2 : i % 2 < 2 := Nat.mod_lt _ (by omega)
    have h3 : 2 ^ (m + 1) = 2 * 2 ^ m := by rw [Nat.pow_succ]; omega
    rw [rev, h3]
    rcases (by omega : i % 2 = 0 ∨ i % 2 = 1) with e | e <;> rw [e] <;> omega
theorem rev_snoc : ∀ (m i : Nat), rev (m + 1) i = 2 * rev m i + (i / 2 ^ m) % 2
  | 0, i => by simp [rev]
  | m + 1, i => by
    rw [rev, rev_snoc m (i / 2), rev, Nat.div_div_eq_div_mul, show 2 * 2 ^ m = 2 ^ (m + 1) by rw [Nat.pow_succ]; omega]
    have h3 : i % 2 * 2 ^ (m + 1) = 2 * (i % 2 * 2 ^ m) := by rw [Nat.pow_succ, ← Nat.mul_assoc]; omega
    omega
theorem rev_back {m i : Nat} (hm : m ≤ 6) (hi : i < 2 ^ m) : rev m (rev m i) = i := by
  have h : ∀ m, m < 7 → ∀ i, i < 2 ^ m → rev m (rev m i) = i := by decide +kernel
  exact h m (by omega) i hi

/-- A stage of halves of h numbers, t parts between waves. -/
def bfly (h : Nat) (m : Nat) (a : Nat → P2) (x : Nat) : P2 :=
  if x % (2 * h) < h then addP (a x) (twd (a (x + h)) (ang m (x % (2 * h))))
  else subP (a (x - h)) (twd (a x) (ang m (x % (2 * h) - h)))
/-- The program's, m places' bits: behind s stages. -/
def stg (m : Nat) (f : Nat → P2) : Nat → Nat → P2
  | 0 => fun x => f (rev m x)
  | s + 1 => bfly (2 ^ s) s (stg m f s)

theorem stg_wav (m : Nat) (f : Nat → P2) : ∀ s, s ≤ m → ∀ p k, p < 2 ^ (m - s) → k < 2 ^ s →
    stg m f s (p * 2 ^ s + k) = wav s (fun i => f (i * 2 ^ (m - s) + rev (m - s) p)) k
  | 0, _, p, k, hp, hk => by
    have : k = 0 := by simpa using hk
    subst this
    simp [stg, wav]
  | s + 1, hs, p, k, hp, hk => by
    obtain ⟨r, hr⟩ : ∃ r, m - s = r + 1 := ⟨m - s - 1, by omega⟩
    have hr' : m - (s + 1) = r := by omega
    rw [hr'] at hp ⊢
    have e2 : 2 ^ (s + 1) = 2 * 2 ^ s := by rw [Nat.pow_succ]; omega
    have e3 : 2 ^ (r + 1) = 2 * 2 ^ r := by rw [Nat.pow_succ]; omega
    have r0 : rev (r + 1) (2 * p) = rev r p := by rw [rev]; simp
    have r1 : rev (r + 1) (2 * p + 1) = 2 ^ r + rev r p := by
      rw [rev, show (2 * p + 1) % 2 = 1 by omega, show (2 * p + 1) / 2 = p by omega]; omega
    have ih := stg_wav m f s (by omega)
    rw [hr, e3] at ih
    have f0 : (fun i => f (i * (2 * 2 ^ r) + rev (r + 1) (2 * p))) = (fun i => f (2 * i * 2 ^ r + rev r p)) := by
      funext i; rw [r0, ← Nat.mul_assoc, Nat.mul_comm i 2]
    have f1 : (fun i => f (i * (2 * 2 ^ r) + rev (r + 1) (2 * p + 1))) = (fun i => f ((2 * i + 1) * 2 ^ r + rev r p)) := by
      funext i; rw [r1, ← Nat.mul_assoc, Nat.mul_comm i 2, Nat.add_mul]; congr 1; omega
    have i0 : ∀ k, k < 2 ^ s → stg m f s (2 * p * 2 ^ s + k) = wav s (fun i => f (2 * i * 2 ^ r + rev r p)) k := by
      intro k hk; rw [ih (2 * p) k (by omega) hk, f0]
    have i1 : ∀ k, k < 2 ^ s → stg m f s ((2 * p + 1) * 2 ^ s + k) = wav s (fun i => f ((2 * i + 1) * 2 ^ r + rev r p)) k := by
      intro k hk; rw [ih (2 * p + 1) k (by omega) hk, f1]
    have c0 : p * 2 ^ (s + 1) = 2 * p * 2 ^ s := by rw [e2, ← Nat.mul_assoc, Nat.mul_comm p 2]
    have c1 : (2 * p + 1) * 2 ^ s = 2 * p * 2 ^ s + 2 ^ s := by rw [Nat.add_mul]; omega
    have cm : (p * 2 ^ (s + 1) + k) % (2 * 2 ^ s) = k := by rw [← e2, Nat.mul_comm, Nat.mul_add_mod, Nat.mod_eq_of_lt hk]
    show bfly (2 ^ s) s (stg m f s) (p * 2 ^ (s + 1) + k) = _
    rw [bfly, cm, wav]
    by_cases h : k < 2 ^ s
    · rw [if_pos h, if_pos h, c0, i0 k h, show 2 * p * 2 ^ s + k + 2 ^ s = (2 * p + 1) * 2 ^ s + k by omega, i1 k h]
    · rw [if_neg h, if_neg h, c0, show 2 * p * 2 ^ s + k - 2 ^ s = 2 * p * 2 ^ s + (k - 2 ^ s) by omega, i0 (k - 2 ^ s) (by omega),
        show 2 * p * 2 ^ s + k = (2 * p + 1) * 2 ^ s + (k - 2 ^ s) by omega, i1 (k - 2 ^ s) (by omega)]
/-- WHAT THE PROGRAM MAKES STAGE BY STAGE IS THE DOCUMENT'S. -/
theorem stg_all (m : Nat) (f : Nat → P2) {k : Nat} (hk : k < 2 ^ m) : stg m f m k = wav m f k := by
  have h := stg_wav m f m (Nat.le_refl _) 0 k (by simp) hk
  simpa [rev] using h

/-- Both parts from -B to B. -/
def Bd (B : Int) (p : P2) : Prop := (-B ≤ p.1 ∧ p.1 ≤ B) ∧ (-B ≤ p.2 ∧ p.2 ≤ B)
theorem Bd.twd {B : Int} {p : P2} (h : Bd B p) (k : Int) : Bd (2 * B) (twd p k) :=
  ⟨turnRe_bd h.1.1 h.1.2 h.2.1 h.2.2, turnIm_bd h.1.1 h.1.2 h.2.1 h.2.2⟩
theorem Bd.add {B : Int} {p q : P2} (h : Bd B p) (h' : Bd (2 * B) q) : Bd (3 * B) (addP p q) := by
  unfold Bd addP at *; simp only; omega
theorem Bd.sub {B : Int} {p q : P2} (h : Bd B p) (h' : Bd (2 * B) q) : Bd (3 * B) (subP p q) := by
  unfold Bd subP at *; simp only; omega
theorem bfly_bd {B : Int} {a : Nat → P2} (h : ∀ x, Bd B (a x)) (g m x : Nat) : Bd (3 * B) (bfly g m a x) := by
  unfold bfly
  split
  · exact (h _).add ((h _).twd _)
  · exact (h _).sub ((h _).twd _)
def bnd (s : Nat) : Int := ((3 ^ s * 1048576 : Nat) : Int)
theorem bnd_succ (s : Nat) : bnd (s + 1) = 3 * bnd s := by
  unfold bnd; rw [Nat.pow_succ]; omega
theorem bnd_le {s : Nat} (h : s ≤ 6) : bnd s ≤ 764411904 := by
  have h : ∀ s, s < 7 → bnd s ≤ 764411904 := by decide
  exact h s (by omega)
theorem stg_bd {m : Nat} {f : Nat → P2} (h : ∀ i, Bd 1048576 (f i)) : ∀ s x, Bd (bnd s) (stg m f s x)
  | 0, x => by show Bd (bnd 0) (f (rev m x)); simpa [bnd] using h (rev m x)
  | s + 1, x => by rw [bnd_succ]; exact bfly_bd (stg_bd h s) _ _ _
theorem wav_bd : ∀ (m : Nat) (f : Nat → P2) (h : ∀ i, Bd 1048576 (f i)) (k : Nat), Bd (bnd m) (wav m f k)
  | 0, f, h, k => by simpa [bnd, wav] using h 0
  | m + 1, f, h, k => by
    rw [bnd_succ, wav]
    split
    · exact (wav_bd m _ (fun i => h _) _).add ((wav_bd m _ (fun i => h _) _).twd _)
    · exact (wav_bd m _ (fun i => h _) _).sub ((wav_bd m _ (fun i => h _) _).twd _)
/-- Nothing but the first 2^m numbers counts. -/
theorem wav_congr : ∀ (m : Nat) {f g : Nat → P2} (h : ∀ i, i < 2 ^ m → f i = g i) {k : Nat} (hk : k < 2 ^ m), wav m f k = wav m g k
  | 0, f, g, h, k, hk => by rw [wav, wav, h 0 (by simp)]
  | m + 1, f, g, h, k, hk => by
    have e2 : 2 ^ (m + 1) = 2 * 2 ^ m := by rw [Nat.pow_succ]; omega
    have a0 : ∀ {k}, k < 2 ^ m → wav m (fun i => f (2 * i)) k = wav m (fun i => g (2 * i)) k := fun hk => wav_congr m (fun i hi => h _ (by omega)) hk
    have a1 : ∀ {k}, k < 2 ^ m → wav m (fun i => f (2 * i + 1)) k = wav m (fun i => g (2 * i + 1)) k := fun hk => wav_congr m (fun i hi => h _ (by omega)) hk
    rw [wav, wav]
    by_cases hh : k < 2 ^ m
    · rw [if_pos hh, if_pos hh, a0 hh, a1 hh]
    · rw [if_neg hh, if_neg hh, a0 (by omega), a1 (by omega)]
end Go.Proofs.YtfhcfdepjhdhfaaDoor
/-
  How near waves are to the sums of all numbers, each turned by its place times k, that are rounded once: over plain integers.
-/
namespace Go.Proofs.YtfhcfdepjhdhfaaDoor
set_option linter.unusedVariables false

def sumN : Nat → (Nat → Int) → Int
  | 0, _ => 0
  | n + 1, g => sumN n g + g n
theorem sumN_congr : ∀ (n : Nat) {f g : Nat → Int} (h : ∀ i, i < n → f i = g i), sumN n f = sumN n g
  | 0, _, _, _ => rfl
  | n + 1, f, g, h => by rw [sumN, sumN, sumN_congr n (fun i hi => h i (by omega)), h n (by omega)]
theorem sumN_two : ∀ (n : Nat) (g : Nat → Int), sumN (2 * n) g = sumN n (fun i => g (2 * i)) + sumN n (fun i => g (2 * i + 1))
  | 0, g => by simp [sumN]
  | n + 1, g => by
    rw [show 2 * (n + 1) = (2 * n + 1) + 1 by omega, sumN, sumN, sumN_two n g, sumN, sumN]; omega
theorem sumN_neg : ∀ (n : Nat) (g : Nat → Int), sumN n (fun i => - g i) = - sumN n g
  | 0, g => by simp [sumN]
  | n + 1, g => by rw [sumN, sumN, sumN_neg n g]; omega
theorem sumN_bd {B : Int} : ∀ (n : Nat) {g : Nat → Int} (h : ∀ i, i < n → -B ≤ g i ∧ g i ≤ B), -(n * B) ≤ sumN n g ∧ sumN n g ≤ n * B
  | 0, g, h => by simp [sumN]
  | n + 1, g, h => by
    have a := sumN_bd n (g := g) (fun i hi => h i (by omega))
    have b := h n (by omega)
    rw [sumN, show ((n + 1 : Nat) : Int) * B = n * B + B by rw [Int.natCast_add]; simp [Int.add_mul]]
    omega

/-- A number of two parts turned back by k parts, not rounded: in parts of 2^24. -/
def cRe (p : P2) (k : Int) : Int := p.1 * cosI k + p.2 * sinI k
def cIm (p : P2) (k : Int) : Int := p.2 * cosI k - p.1 * sinI k
/-- The sum of all, each turned by its place times k. -/
def dRe (m : Nat) (f : Nat → P2) (k : Nat) : Int := sumN (2 ^ m) (fun i => cRe (f i) ((2 ^ (9 - m) * i * k : Nat) : Int))
def dIm (m : Nat) (f : Nat → P2) (k : Nat) : Int := sumN (2 ^ m) (fun i => cIm (f i) ((2 ^ (9 - m) * i * k : Nat) : Int))
/-- Those at odd places, turned by theirs. -/
def oRe (m : Nat) (f : Nat → P2) (k : Nat) : Int := sumN (2 ^ m) (fun i => cRe (f i) ((2 ^ (8 - m) * (2 * i + 1) * k : Nat) : Int))
def oIm (m : Nat) (f : Nat → P2) (k : Nat) : Int := sumN (2 ^ m) (fun i => cIm (f i) ((2 ^ (8 - m) * (2 * i + 1) * k : Nat) : Int))

theorem cRe_of (p : P2) {a b : Int} (h : a % 512 = b % 512) : cRe p a = cRe p b := by
  rw [cRe, cRe, cosI_of h, sinI, sinI, cosI_of (show (a - 128) % 512 = (b - 128) % 512 by omega)]
theorem cIm_of (p : P2) {a b : Int} (h : a % 512 = b % 512) : cIm p a = cIm p b := by
  rw [cIm, cIm, cosI_of h, sinI, sinI, cosI_of (show (a - 128) % 512 = (b - 128) % 512 by omega)]
theorem cRe_half (p : P2) (a : Int) : cRe p (a + 256) = - cRe p a := by
  rw [cRe, cRe, cosI_half, sinI_half, Int.mul_neg, Int.mul_neg]; omega
theorem cIm_half (p : P2) (a : Int) : cIm p (a + 256) = - cIm p a := by
  rw [cIm, cIm, cosI_half, sinI_half, Int.mul_neg, Int.mul_neg]; omega

theorem dRe_lo {m : Nat} (hm : m ≤ 8) (f : Nat → P2) (k : Nat) : dRe (m + 1) f k = dRe m (fun i => f (2 * i)) k + oRe m (fun i => f (2 * i + 1)) k := by
  rw [dRe, Nat.pow_succ, Nat.mul_comm (2 ^ m) 2, sumN_two, dRe, oRe, show 9 - (m + 1) = 8 - m by omega]
  congr 1
  exact sumN_congr _ (fun i _ => by rw [show 9 - m = (8 - m) + 1 by omega, Nat.pow_succ, ← Nat.mul_assoc])
theorem dIm_lo {m : Nat} (hm : m ≤ 8) (f : Nat → P2) (k : Nat) : dIm (m + 1) f k = dIm m (fun i => f (2 * i)) k + oIm m (fun i => f (2 * i + 1)) k := by
  rw [dIm, Nat.pow_succ, Nat.mul_comm (2 ^ m) 2, sumN_two, dIm, oIm, show 9 - (m + 1) = 8 - m by omega]
  congr 1
  exact sumN_congr _ (fun i _ => by rw [show 9 - m = (8 - m) + 1 by omega, Nat.pow_succ, ← Nat.mul_assoc])
theorem pow_nine {m : Nat} (hm : m ≤ 8) : 2 ^ (9 - m) * 2 ^ m = 512 ∧ 2 ^ (8 - m) * 2 ^ m = 256 := by
  have h : ∀ m, m < 9 → 2 ^ (9 - m) * 2 ^ m = 512 ∧ 2 ^ (8 - m) * 2 ^ m = 256 := by decide
  exact h m (by omega)
/-- Half of all further on: those at odd places are opposite. -/
theorem ang_e {m : Nat} (hm : m ≤ 8) (i k : Nat) : ((2 ^ (9 - m) * i * (k + 2 ^ m) : Nat) : Int) % 512 = ((2 ^ (9 - m) * i * k : Nat) : Int) % 512 := by
  have h : 2 ^ (9 - m) * i * (k + 2 ^ m) = 2 ^ (9 - m) * i * k + 512 * i := by
    rw [Nat.mul_add, ← (pow_nine hm).1]; congr 1
    rw [Nat.mul_right_comm]
  rw [h]; omega
theorem ang_o {m : Nat} (hm : m ≤ 8) (i k : Nat) : ((2 ^ (8 - m) * (2 * i + 1) * (k + 2 ^ m) : Nat) : Int) % 512 = (((2 ^ (8 - m) * (2 * i + 1) * k : Nat) : Int) + 256) % 512 := by
  have h : 2 ^ (8 - m) * (2 * i + 1) * (k + 2 ^ m) = 2 ^ (8 - m) * (2 * i + 1) * k + 256 * (2 * i + 1) := by
    rw [Nat.mul_add, ← (pow_nine hm).2]; congr 1
    rw [Nat.mul_right_comm]
  rw [h]; omega
theorem dRe_hi {m : Nat} (hm : m ≤ 8) (f : Nat → P2) (k : Nat) : dRe (m + 1) f (k + 2 ^ m) = dRe m (fun i => f (2 * i)) k - oRe m (fun i => f (2 * i + 1)) k := by
  rw [dRe_lo hm, Int.sub_eq_add_neg]
  congr 1
  · exact sumN_congr _ (fun i _ => cRe_of _ (ang_e hm i k))
  · rw [oRe, oRe, ← sumN_neg]
    exact sumN_congr _ (fun i _ => by rw [cRe_of _ (ang_o hm i k), cRe_half])
theorem dIm_hi {m : Nat} (hm : m ≤ 8) (f : Nat → P2) (k : Nat) : dIm (m + 1) f (k + 2 ^ m) = dIm m (fun i => f (2 * i)) k - oIm m (fun i => f (2 * i + 1)) k := by
  rw [dIm_lo hm, Int.sub_eq_add_neg]
  congr 1
  · exact sumN_congr _ (fun i _ => cIm_of _ (ang_e hm i k))
  · rw [oIm, oIm, ← sumN_neg]
    exact sumN_congr _ (fun i _ => by rw [cIm_of _ (ang_o hm i k), cIm_half])

/-- Two turns are one, but for what cosines are rounded by: of multiples of eight parts. -/
def c8L : List Int := (List.range 64).map (fun i => cosT (8 * i))
def c8 (i : Nat) : Int := c8L.getD (i % 64) 0
theorem c8_all : (List.range 64).all (fun i => decide (c8 i = cosT (8 * i))) = true := by decide +kernel
theorem c8_eq (i : Nat) : c8 i = cosI ((8 * i : Nat) : Int) := by
  have h := List.all_eq_true.1 c8_all (i % 64) (List.mem_range.2 (Nat.mod_lt _ (by omega)))
  have h2 := of_decide_eq_true h
  rw [show c8 i = c8 (i % 64) by unfold c8; rw [Nat.mod_mod], h2, cosI]
  congr 1; omega
theorem c8_sin (i : Nat) : c8 (i + 48) = sinI ((8 * i : Nat) : Int) := by
  rw [c8_eq, sinI]; exact cosI_of (by omega)
def dfc (a b : Nat) : Int := 16777216 * c8 (a + b) - c8 b * c8 a + c8 (b + 48) * c8 (a + 48)
def dfs (a b : Nat) : Int := 16777216 * c8 (a + b + 48) - c8 (b + 48) * c8 a - c8 b * c8 (a + 48)
theorem df_all : (List.range 64).all (fun a => (List.range 64).all (fun b => decide ((dfc a b).natAbs + (dfs a b).natAbs ≤ 33554432))) = true := by decide +kernel
theorem cs_all : all512 (fun m => decide ((cosT m).natAbs + (cosT ((m + 384) % 512)).natAbs ≤ 23726566)) = true := by decide +kernel
theorem c8_mod (i j : Nat) (h : i % 64 = j % 64) : c8 i = c8 j := by rw [c8, c8, h]
theorem df_bd (a b : Nat) : (dfc a b).natAbs + (dfs a b).natAbs ≤ 33554432 := by
  have h := List.all_eq_true.1 df_all (a % 64) (List.mem_range.2 (Nat.mod_lt _ (by omega)))
  have h2 := of_decide_eq_true (List.all_eq_true.1 h (b % 64) (List.mem_range.2 (Nat.mod_lt _ (by omega))))
  have e1 : dfc (a % 64) (b % 64) = dfc a b := by
    unfold dfc; rw [c8_mod (a % 64 + b % 64) (a + b) (by omega), c8_mod (a % 64) a (by omega), c8_mod (b % 64) b (by omega), c8_mod (b % 64 + 48) (b + 48) (by omega), c8_mod (a % 64 + 48) (a + 48) (by omega)]
  have e2 : dfs (a % 64) (b % 64) = dfs a b := by
    unfold dfs; rw [c8_mod (a % 64 + b % 64 + 48) (a + b + 48) (by omega), c8_mod (a % 64) a (by omega), c8_mod (b % 64) b (by omega), c8_mod (b % 64 + 48) (b + 48) (by omega), c8_mod (a % 64 + 48) (a + 48) (by omega)]
  rwa [e1, e2] at h2
theorem cs_bd (k : Int) : (cosI k).natAbs + (sinI k).natAbs ≤ 23726566 := by
  have h := of_decide_eq_true (all512_at cs_all (mod_lt k))
  rwa [show cosT (((k % 512).toNat + 384) % 512) = sinI k by rw [sinI, cosI]; congr 1; omega] at h
end Go.Proofs.YtfhcfdepjhdhfaaDoor
/-
  EACH WAVE IS NEAR ITS SUM: the error of each stage, and of all.
-/
namespace Go.Proofs.YtfhcfdepjhdhfaaDoor
set_option linter.unusedVariables false

theorem two_bd {x y c s e : Int} {H : Nat} (h1 : -e ≤ x) (h2 : x ≤ e) (h3 : -e ≤ y) (h4 : y ≤ e) (h : c.natAbs + s.natAbs ≤ H) :
    -(e * H) ≤ x * c + y * s ∧ x * c + y * s ≤ e * H := by
  have a := mul_bd (b := (c.natAbs : Int)) h1 h2 (show _ ≤ c by omega) (show c ≤ _ by omega)
  have b := mul_bd (b := (s.natAbs : Int)) h3 h4 (show _ ≤ s by omega) (show s ≤ _ by omega)
  have d : e * ((c.natAbs : Int) + s.natAbs) ≤ e * H := Int.mul_le_mul_of_nonneg_left (by omega) (by omega)
  rw [Int.mul_add] at d
  omega
theorem two_bd' {x y c s e : Int} {H : Nat} (h1 : -e ≤ x) (h2 : x ≤ e) (h3 : -e ≤ y) (h4 : y ≤ e) (h : c.natAbs + s.natAbs ≤ H) :
    -(e * H) ≤ y * c - x * s ∧ y * c - x * s ≤ e * H := by
  have a := two_bd (x := y) (y := x) (s := -s) h3 h4 h1 h2 (H := H) (c := c) (by omega)
  rw [Int.mul_neg] at a
  omega
theorem sumN_lin (c s : Int) : ∀ (n : Nat) (g u v : Nat → Int),
    sumN n (fun i => 16777216 * g i - (u i * c + v i * s)) = 16777216 * sumN n g - (sumN n u * c + sumN n v * s)
  | 0, g, u, v => by simp [sumN]
  | n + 1, g, u, v => by
    simp only [sumN]; rw [sumN_lin c s n g u v, Int.add_mul, Int.add_mul]; omega
theorem pow_parts {m : Nat} (hm : m ≤ 5) : 2 ^ (8 - m) = 8 * 2 ^ (5 - m) ∧ 2 ^ (9 - m) = 8 * 2 ^ (6 - m) ∧ 2 ^ (6 - m) = 2 * 2 ^ (5 - m) := by
  have h : ∀ m, m < 6 → 2 ^ (8 - m) = 8 * 2 ^ (5 - m) ∧ 2 ^ (9 - m) = 8 * 2 ^ (6 - m) ∧ 2 ^ (6 - m) = 2 * 2 ^ (5 - m) := by decide
  exact h m (by omega)
theorem term_re (p : P2) (a b : Nat) : 16777216 * cRe p ((8 * (a + b) : Nat) : Int) - (cRe p ((8 * b : Nat) : Int) * cosI ((8 * a : Nat) : Int) + cIm p ((8 * b : Nat) : Int) * sinI ((8 * a : Nat) : Int)) = p.1 * dfc a b + p.2 * dfs a b := by
  unfold cRe cIm dfc dfs
  simp only [← c8_eq, ← c8_sin]
  generalize c8 (a + b) = c1; generalize c8 (a + b + 48) = s1; generalize c8 a = c2; generalize c8 b = c3; generalize c8 (a + 48) = s2; generalize c8 (b + 48) = s3
  grind
theorem term_im (p : P2) (a b : Nat) : 16777216 * cIm p ((8 * (a + b) : Nat) : Int) - (cIm p ((8 * b : Nat) : Int) * cosI ((8 * a : Nat) : Int) + cRe p ((8 * b : Nat) : Int) * (- sinI ((8 * a : Nat) : Int))) = p.2 * dfc a b - p.1 * dfs a b := by
  unfold cRe cIm dfc dfs
  simp only [← c8_eq, ← c8_sin]
  generalize c8 (a + b) = c1; generalize c8 (a + b + 48) = s1; generalize c8 a = c2; generalize c8 b = c3; generalize c8 (a + 48) = s2; generalize c8 (b + 48) = s3
  grind
theorem ang8 {m : Nat} (hm : m ≤ 5) (k i : Nat) : ang m k = ((8 * (2 ^ (5 - m) * k) : Nat) : Int) ∧ 2 ^ (9 - m) * i * k = 8 * (2 ^ (6 - m) * i * k) ∧ 2 ^ (8 - m) * (2 * i + 1) * k = 8 * (2 ^ (5 - m) * k + 2 ^ (6 - m) * i * k) := by
  obtain ⟨h1, h2, h3⟩ := pow_parts hm
  refine ⟨?_, ?_, ?_⟩
  · rw [ang, h1, Nat.mul_assoc]
  · rw [h2, Nat.mul_assoc, Nat.mul_assoc, ← Nat.mul_assoc (2 ^ (6 - m))]
  · rw [h1, h3]; generalize 2 ^ (5 - m) = z; grind
/-- Those at odd places, and their waves turned by the way of their first. -/
theorem odd_re {m : Nat} (hm : m ≤ 5) {f : Nat → P2} (h : ∀ i, Bd 1048576 (f i)) (k : Nat) :
    -((2 ^ m : Nat) * 35184372088832) ≤ 16777216 * oRe m f k - (dRe m f k * cosI (ang m k) + dIm m f k * sinI (ang m k)) ∧
    16777216 * oRe m f k - (dRe m f k * cosI (ang m k) + dIm m f k * sinI (ang m k)) ≤ (2 ^ m : Nat) * 35184372088832 := by
  rw [oRe, dRe, dIm, ← sumN_lin]
  refine sumN_bd _ (fun i hi => ?_)
  obtain ⟨a1, a2, a3⟩ := ang8 hm k i
  rw [a1, a2, a3, term_re]
  have t := two_bd (h i).1.1 (h i).1.2 (h i).2.1 (h i).2.2 (df_bd (2 ^ (5 - m) * k) (2 ^ (6 - m) * i * k))
  omega
theorem odd_im {m : Nat} (hm : m ≤ 5) {f : Nat → P2} (h : ∀ i, Bd 1048576 (f i)) (k : Nat) :
    -((2 ^ m : Nat) * 35184372088832) ≤ 16777216 * oIm m f k - (dIm m f k * cosI (ang m k) - dRe m f k * sinI (ang m k)) ∧
    16777216 * oIm m f k - (dIm m f k * cosI (ang m k) - dRe m f k * sinI (ang m k)) ≤ (2 ^ m : Nat) * 35184372088832 := by
  rw [show dIm m f k * cosI (ang m k) - dRe m f k * sinI (ang m k) = dIm m f k * cosI (ang m k) + dRe m f k * (- sinI (ang m k)) by rw [Int.mul_neg]; omega]
  rw [oIm, dRe, dIm, ← sumN_lin]
  refine sumN_bd _ (fun i hi => ?_)
  obtain ⟨a1, a2, a3⟩ := ang8 hm k i
  rw [a1, a2, a3, term_im]
  have t := two_bd' (h i).1.1 (h i).1.2 (h i).2.1 (h i).2.2 (df_bd (2 ^ (5 - m) * k) (2 ^ (6 - m) * i * k))
  omega
theorem twd_re (o : P2) (k : Int) : (twd o k).1 = turnRe o.1 o.2 k := rfl
theorem twd_im (o : P2) (k : Int) : (twd o k).2 = turnIm o.1 o.2 k := rfl
/-- What a stage adds, and what all stages up to one do. -/
def eX (m : Nat) (e : Int) : Int := if m = 0 then e else (140737488355328 + e * 23726566 + (2 ^ m : Nat) * 35184372088832) / 16777216 + 1
def eb : Nat → Int
  | 0 => 0
  | m + 1 => eb m + eX m (eb m)
theorem eb_pos : ∀ m, m < 7 → 0 ≤ eb m ∧ eb m + 8388608 < 101 * 16777216 := by decide +kernel
theorem stage_re {m : Nat} (hm : m ≤ 5) {f : Nat → P2} (h : ∀ i, Bd 1048576 (f i)) {k : Nat} (hk : k < 2 ^ m) {o : P2} {e : Int}
    (n1 : -e ≤ 16777216 * o.1 - dRe m f k ∧ 16777216 * o.1 - dRe m f k ≤ e) (n2 : -e ≤ 16777216 * o.2 - dIm m f k ∧ 16777216 * o.2 - dIm m f k ≤ e) :
    -(eX m e) ≤ 16777216 * (twd o (ang m k)).1 - oRe m f k ∧ 16777216 * (twd o (ang m k)).1 - oRe m f k ≤ eX m e := by
  by_cases h0 : m = 0
  · subst h0
    have : k = 0 := by simpa using hk
    subst this
    rw [eX, if_pos rfl]
    have e1 : oRe 0 f 0 = dRe 0 f 0 := by simp [oRe, dRe]
    rw [e1, show ang 0 0 = 0 by decide]
    rw [twd_re, turn0_re]
    exact n1
  · rw [eX, if_neg h0]
    have a := odd_re hm h k
    have r := shr24_near (o.1 * cosI (ang m k) + o.2 * sinI (ang m k))
    have b := two_bd n1.1 n1.2 n2.1 n2.2 (cs_bd (ang m k))
    rw [twd_re, turnRe]
    generalize shr24 (o.1 * cosI (ang m k) + o.2 * sinI (ang m k)) = t at *
    generalize cosI (ang m k) = c at *
    generalize sinI (ang m k) = s at *
    simp only [Int.sub_mul, Int.mul_assoc] at b
    generalize dRe m f k * c = z1 at *
    generalize dIm m f k * s = z2 at *
    generalize o.1 * c = z3 at *
    generalize o.2 * s = z4 at *
    generalize ((2 ^ m : Nat) : Int) * 35184372088832 = z5 at *
    generalize oRe m f k = z6 at *
    omega
theorem stage_im {m : Nat} (hm : m ≤ 5) {f : Nat → P2} (h : ∀ i, Bd 1048576 (f i)) {k : Nat} (hk : k < 2 ^ m) {o : P2} {e : Int}
    (n1 : -e ≤ 16777216 * o.1 - dRe m f k ∧ 16777216 * o.1 - dRe m f k ≤ e) (n2 : -e ≤ 16777216 * o.2 - dIm m f k ∧ 16777216 * o.2 - dIm m f k ≤ e) :
    -(eX m e) ≤ 16777216 * (twd o (ang m k)).2 - oIm m f k ∧ 16777216 * (twd o (ang m k)).2 - oIm m f k ≤ eX m e := by
  by_cases h0 : m = 0
  · subst h0
    have : k = 0 := by simpa using hk
    subst this
    rw [eX, if_pos rfl]
    have e1 : oIm 0 f 0 = dIm 0 f 0 := by simp [oIm, dIm]
    rw [e1, show ang 0 0 = 0 by decide]
    rw [twd_im, turn0_im]
    exact n2
  · rw [eX, if_neg h0]
    have a := odd_im hm h k
    have r := shr24_near (o.2 * cosI (ang m k) - o.1 * sinI (ang m k))
    have b := two_bd' n1.1 n1.2 n2.1 n2.2 (cs_bd (ang m k))
    rw [twd_im, turnIm]
    generalize shr24 (o.2 * cosI (ang m k) - o.1 * sinI (ang m k)) = t at *
    generalize cosI (ang m k) = c at *
    generalize sinI (ang m k) = s at *
    simp only [Int.sub_mul, Int.mul_assoc] at b
    generalize dIm m f k * c = z1 at *
    generalize dRe m f k * s = z2 at *
    generalize o.2 * c = z3 at *
    generalize o.1 * s = z4 at *
    generalize ((2 ^ m : Nat) : Int) * 35184372088832 = z5 at *
    generalize oIm m f k = z6 at *
    omega
theorem near_all : ∀ (m : Nat) (hm : m ≤ 6) (f : Nat → P2) (h : ∀ i, Bd 1048576 (f i)) (k : Nat) (hk : k < 2 ^ m),
    (-(eb m) ≤ 16777216 * (wav m f k).1 - dRe m f k ∧ 16777216 * (wav m f k).1 - dRe m f k ≤ eb m) ∧
    (-(eb m) ≤ 16777216 * (wav m f k).2 - dIm m f k ∧ 16777216 * (wav m f k).2 - dIm m f k ≤ eb m)
  | 0, hm, f, h, k, hk => by
    have : k = 0 := by simpa using hk
    subst this
    have c0 := cos0
    have s0 := sin0
    simp [eb, wav, dRe, dIm, sumN, cRe, cIm, c0, s0]
    omega
  | m + 1, hm, f, h, k, hk => by
    have e2 : 2 ^ (m + 1) = 2 * 2 ^ m := by rw [Nat.pow_succ]; omega
    have ih0 := near_all m (by omega) (fun i => f (2 * i)) (fun i => h _)
    have ih1 := near_all m (by omega) (fun i => f (2 * i + 1)) (fun i => h _)
    have key : ∀ q, q < 2 ^ m → _ := fun q hq => And.intro (stage_re (by omega) (fun i => h (2 * i + 1)) hq (ih1 q hq).1 (ih1 q hq).2) (stage_im (by omega) (fun i => h (2 * i + 1)) hq (ih1 q hq).1 (ih1 q hq).2)
    by_cases hh : k < 2 ^ m
    · have k1 := key k hh
      have k0 := ih0 k hh
      rw [wav, if_pos hh, dRe_lo (by omega), dIm_lo (by omega), eb]
      simp only [addP]
      omega
    · obtain ⟨q, rfl⟩ : ∃ q, k = q + 2 ^ m := ⟨k - 2 ^ m, by omega⟩
      have hq : q < 2 ^ m := by omega
      have k1 := key q hq
      have k0 := ih0 q hq
      rw [wav, if_neg hh, dRe_hi (by omega), dIm_hi (by omega), eb, show q + 2 ^ m - 2 ^ m = q by omega]
      simp only [subP]
      omega
/-- EACH WAVE IS NEAR ITS SUM, rounded once: off by 100 at most. -/
theorem near_sum {m : Nat} (hm : m ≤ 6) {f : Nat → P2} (h : ∀ i, Bd 1048576 (f i)) {k : Nat} (hk : k < 2 ^ m) :
    ((wav m f k).1 - shr24 (dRe m f k) ≤ 100 ∧ shr24 (dRe m f k) - (wav m f k).1 ≤ 100) ∧ ((wav m f k).2 - shr24 (dIm m f k) ≤ 100 ∧ shr24 (dIm m f k) - (wav m f k).2 ≤ 100) := by
  have a := near_all m hm f h k hk
  have b := eb_pos m (by omega)
  have r1 := shr24_near (dRe m f k)
  have r2 := shr24_near (dIm m f k)
  omega
/-- Sums up to any place stay far within. -/
theorem cRe_bd {p : P2} (h : Bd 1048576 p) (k : Int) : -35184372088832 ≤ cRe p k ∧ cRe p k ≤ 35184372088832 := by
  have a := mul_bd h.1.1 h.1.2 (cosI_bd k).1 (cosI_bd k).2
  have b := mul_bd h.2.1 h.2.2 (sinI_bd k).1 (sinI_bd k).2
  unfold cRe; omega
theorem cIm_bd {p : P2} (h : Bd 1048576 p) (k : Int) : -35184372088832 ≤ cIm p k ∧ cIm p k ≤ 35184372088832 := by
  have a := mul_bd h.2.1 h.2.2 (cosI_bd k).1 (cosI_bd k).2
  have b := mul_bd h.1.1 h.1.2 (sinI_bd k).1 (sinI_bd k).2
  unfold cIm; omega
end Go.Proofs.YtfhcfdepjhdhfaaDoor
