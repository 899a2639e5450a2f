/-
  Waves over plain integers: the document's (from the whole down to one number), the program's (stage by stage, places' bits turned round), that they are the same, their bounds.
-/
import Derived.Test.YtgkjjkdjalbfaaaDoorM
namespace Go.Proofs.YtgkjjkdjalbfaaaDoor
set_option linter.unusedVariables false

abbrev P2 := Int × Int
/-- A number of two parts, turned back. -/
def twd (p : P2) (k : Int) : P2 := (turnRe p.1 p.2 k, turnIm p.1 p.2 k)
def addP (p q : P2) : P2 := (p.1 + q.1, p.2 + q.2)
def subP (p q : P2) : P2 := (p.1 - q.1, p.2 - q.2)
/-- The parts between the waves of 2^(m+1) numbers. -/
def ang (m k : Nat) : Int := ((2 ^ (8 - m) * k : Nat) : Int)

/-- The document's waves of 2^m numbers. -/
def wav : Nat → (Nat → P2) → Nat → P2
  | 0, f, _ => f 0
  | m + 1, f, k =>
    if k < 2 ^ m then addP (wav m (fun i => f (2 * i)) k) (twd (wav m (fun i => f (2 * i + 1)) k) (ang m k))
    else subP (wav m (fun i => f (2 * i)) (k - 2 ^ m)) (twd (wav m (fun i => f (2 * i + 1)) (k - 2 ^ m)) (ang m (k - 2 ^ m)))

/-- A place's m lowest bits, the last one first. -/
def rev : Nat → Nat → Nat
  | 0, _ => 0
  | m + 1, i => (i % 2) * 2 ^ m + rev m (i / 2)
theorem rev_lt : ∀ (m i : Nat), rev m i < 2 ^ m
  | 0, i => by simp [rev]
  | m + 1, i => by
    have h := rev_lt m (i / 2)
    have h2 : i % 2 < 2 := Nat.mod_lt _ (by omega)
    have h3 : 2 ^ (m + 1) = 2 * 2 ^ m := by rw [Nat.pow_succ]; omega
    rw [rev, h3]
    rcases (by omega : i % 2 = 0 ∨ i % 2 = 1) with e | e <;> rw [e] <;> omega
theorem rev_snoc : ∀ (m i : Nat), rev (m + 1) i = 2 * rev m i + (i / 2 ^ m) % 2
  | 0, i => by simp [rev]
  | m + 1, i => by
    rw [rev, rev_snoc m (i / 2), rev, Nat.div_div_eq_div_mul, show 2 * 2 ^ m = 2 ^ (m + 1) by rw [Nat.pow_succ]; omega]
    have h3 : i % 2 * 2 ^ (m + 1) = 2 * (i % 2 * 2 ^ m) := by rw [Nat.pow_succ, ← Nat.mul_assoc]; omega
    omega
theorem rev_back {m i : Nat} (hm : m ≤ 6) (hi : i < 2 ^ m) : rev m (rev m i) = i := by
  have h : ∀ m, m < 7 → ∀ i, i < 2 ^ m → rev m (rev m i) = i := by decide +kernel
  exact h m (by omega) i hi

/-- A stage of halves of h numbers, t parts between waves. -/
def bfly (h : Nat) (m : Nat) (a : Nat → P2) (x : Nat) : P2 :=
  if x % (2 * h) < h then addP (a x) (twd (a (x + h)) (ang m (x % (2 * h))))
  else subP (a (x - h)) (twd (a x) (ang m (x % (2 * h) - h)))
/-- The program's, m places' bits: behind s stages. -/
def stg (m : Nat) (f : Nat → P2) : Nat → Nat → P2
  | 0 => fun x => f (rev m x)
  | s + 1 => bfly (2 ^ s) s (stg m f s)

theorem stg_wav (m : Nat) (f : Nat → P2) : ∀ s, s ≤ m → ∀ p k, p < 2 ^ (m - s) → k < 2 ^ s →
    stg m f s (p * 2 ^ s + k) = wav s (fun i => f (i * 2 ^ (m - s) + rev (m - s) p)) k
  | 0, _, p, k, hp, hk => by
    have : k = 0 := by simpa using hk
    subst this
    simp [stg, wav]
  | s + 1, hs, p, k, hp, hk => by
    obtain ⟨r, hr⟩ : ∃ r, m - s = r + 1 := ⟨m - s - 1, by omega⟩
    have hr' : m - (s + 1) = r := by omega
    rw [hr'] at hp ⊢
    have e2 : 2 ^ (s + 1) = 2 * 2 ^ s := by rw [Nat.pow_succ]; omega
    have e3 : 2 ^ (r + 1) = 2 * 2 ^ r := by rw [Nat.pow_succ]; omega
    have r0 : rev (r + 1) (2 * p) = rev r p := by rw [rev]; simp
    have r1 : rev (r + 1) (2 * p + 1) = 2 ^ r + rev r p := by
      rw [rev, show (2 * p + 1) % 2 = 1 by omega, show (2 * p + 1) / 2 = p by omega]; omega
    have ih := stg_wav m f s (by omega)
    rw [hr, e3] at ih
    have f0 : (fun i => f (i * (2 * 2 ^ r) + rev (r + 1) (2 * p))) = (fun i => f (2 * i * 2 ^ r + rev r p)) := by
      funext i; rw [r0, ← Nat.mul_assoc, Nat.mul_comm i 2]
    have f1 : (fun i => f (i * (2 * 2 ^ r) + rev (r + 1) (2 * p + 1))) = (fun i => f ((2 * i + 1) * 2 ^ r + rev r p)) := by
      funext i; rw [r1, ← Nat.mul_assoc, Nat.mul_comm i 2, Nat.add_mul]; congr 1; omega
    have i0 : ∀ k, k < 2 ^ s → stg m f s (2 * p * 2 ^ s + k) = wav s (fun i => f (2 * i * 2 ^ r + rev r p)) k := by
      intro k hk; rw [ih (2 * p) k (by omega) hk, f0]
    have i1 : ∀ k, k < 2 ^ s → stg m f s ((2 * p + 1) * 2 ^ s + k) = wav s (fun i => f ((2 * i + 1) * 2 ^ r + rev r p)) k := by
      intro k hk; rw [ih (2 * p + 1) k (by omega) hk, f1]
    have c0 : p * 2 ^ (s + 1) = 2 * p * 2 ^ s := by rw [e2, ← Nat.mul_assoc, Nat.mul_comm p 2]
    have c1 : (2 * p + 1) * 2 ^ s = 2 * p * 2 ^ s + 2 ^ s := by rw [Nat.add_mul]; omega
    have cm : (p * 2 ^ (s + 1) + k) % (2 * 2 ^ s) = k := by rw [← e2, Nat.mul_comm, Nat.mul_add_mod, Nat.mod_eq_of_lt hk]
    show bfly (2 ^ s) s (stg m f s) (p * 2 ^ (s + 1) + k) = _
    rw [bfly, cm, wav]
    by_cases h : k < 2 ^ s
    · rw [if_pos h, if_pos h, c0, i0 k h, show 2 * p * 2 ^ s + k + 2 ^ s = (2 * p + 1) * 2 ^ s + k by omega, i1 k h]
    · rw [if_neg h, if_neg h, c0, show 2 * p * 2 ^ s + k - 2 ^ s = 2 * p * 2 ^ s + (k - 2 ^ s) by omega, i0 (k - 2 ^ s) (by omega),
        show 2 * p * 2 ^ s + k = (2 * p + 1) * 2 ^ s + (k - 2 ^ s) by omega, i1 (k - 2 ^ s) (by omega)]
/-- WHAT THE PROGRAM MAKES STAGE BY STAGE IS THE DOCUMENT'S. -/
theorem stg_all (m : Nat) (f : Nat → P2) {k : Nat} (hk : k < 2 ^ m) : stg m f m k = wav m f k := by
  have h := stg_wav m f m (Nat.le_refl _) 0 k (by simp) hk
  simpa [rev] using h

/-- Both parts from -B to B. -/
def Bd (B : Int) (p : P2) : Prop := (-B ≤ p.1 ∧ p.1 ≤ B) ∧ (-B ≤ p.2 ∧ p.2 ≤ B)
theorem Bd.twd {B : Int} {p : P2} (h : Bd B p) (k : Int) : Bd (2 * B) (twd p k) :=
  ⟨turnRe_bd h.1.1 h.1.2 h.2.1 h.2.2, turnIm_bd h.1.1 h.1.2 h.2.1 h.2.2⟩
theorem Bd.add {B : Int} {p q : P2} (h : Bd B p) (h' : Bd (2 * B) q) : Bd (3 * B) (addP p q) := by
  unfold Bd addP at *; simp only; omega
theorem Bd.sub {B : Int} {p q : P2} (h : Bd B p) (h' : Bd (2 * B) q) : Bd (3 * B) (subP p q) := by
  unfold Bd subP at *; simp only; omega
theorem bfly_bd {B : Int} {a : Nat → P2} (h : ∀ x, Bd B (a x)) (g m x : Nat) : Bd (3 * B) (bfly g m a x) := by
  unfold bfly
  split
  · exact (h _).add ((h _).twd _)
  · exact (h _).sub ((h _).twd _)
def bnd (s : Nat) : Int := ((3 ^ s * 1048576 : Nat) : Int)
theorem bnd_succ (s : Nat) : bnd (s + 1) = 3 * bnd s := by
  unfold bnd; rw [Nat.pow_succ]; omega
theorem bnd_le {s : Nat} (h : s ≤ 6) : bnd s ≤ 764411904 := by
  have h : ∀ s, s < 7 → bnd s ≤ 764411904 := by decide
  exact h s (by omega)
theorem stg_bd {m : Nat} {f : Nat → P2} (h : ∀ i, Bd 1048576 (f i)) : ∀ s x, Bd (bnd s) (stg m f s x)
  | 0, x => by show Bd (bnd 0) (f (rev m x)); simpa [bnd] using h (rev m x)
  | s + 1, x => by rw [bnd_succ]; exact bfly_bd (stg_bd h s) _ _ _
theorem wav_bd : ∀ (m : Nat) (f : Nat → P2) (h : ∀ i, Bd 1048576 (f i)) (k : Nat), Bd (bnd m) (wav m f k)
  | 0, f, h, k => by simpa [bnd, wav] using h 0
  | m + 1, f, h, k => by
    rw [bnd_succ, wav]
    split
    · exact (wav_bd m _ (fun i => h _) _).add ((wav_bd m _ (fun i => h _) _).twd _)
    · exact (wav_bd m _ (fun i => h _) _).sub ((wav_bd m _ (fun i => h _) _).twd _)
/-- Nothing but the first 2^m numbers counts. -/
theorem wav_congr : ∀ (m : Nat) {f g : Nat → P2} (h : ∀ i, i < 2 ^ m → f i = g i) {k : Nat} (hk : k < 2 ^ m), wav m f k = wav m g k
  | 0, f, g, h, k, hk => by rw [wav, wav, h 0 (by simp)]
  | m + 1, f, g, h, k, hk => by
    have e2 : 2 ^ (m + 1) = 2 * 2 ^ m := by rw [Nat.pow_succ]; omega
    have a0 : ∀ {k}, k < 2 ^ m → wav m (fun i => f (2 * i)) k = wav m (fun i => g (2 * i)) k := fun hk => wav_congr m (fun i hi => h _ (by omega)) hk
    have a1 : ∀ {k}, k < 2 ^ m → wav m (fun i => f (2 * i + 1)) k = wav m (fun i => g (2 * i + 1)) k := fun hk => wav_congr m (fun i hi => h _ (by omega)) hk
    rw [wav, wav]
    by_cases hh : k < 2 ^ m
    · rw [if_pos hh, if_pos hh, a0 hh, a1 hh]
    · rw [if_neg hh, if_neg hh, a0 (by omega), a1 (by omega)]
end Go.Proofs.YtgkjjkdjalbfaaaDoor
