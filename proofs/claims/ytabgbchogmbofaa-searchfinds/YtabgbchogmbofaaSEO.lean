/-
  Plain: the places in the order of their rests, by putting each in among those that are in order.
-/
import Derived.Test.YtabgbchogmbofaaSEM
namespace Go.Proofs.Ytabgbchogmbofaa
set_option linter.unusedVariables false

/-- The first m places are in order; what follows stands where it stood. -/
structure SoO (R : Nat → Nat) (m : Nat) (O : Nat → Nat) : Prop where
  ord : ∀ p q, p < q → q < m → seAhead R (O p) (O q) = true
  lt : ∀ p, p < m → O p < m
  id : ∀ p, m ≤ p → O p = p
/-- m + 1 places, of which m stands at j, ahead of all behind it. -/
structure SoI (R : Nat → Nat) (m j : Nat) (O : Nat → Nat) : Prop where
  jm : j ≤ m
  here : O j = m
  ord : ∀ p q, p < q → q ≤ m → p ≠ j → q ≠ j → seAhead R (O p) (O q) = true
  beh : ∀ p, j < p → p ≤ m → seAhead R m (O p) = true
  lt : ∀ p, p ≤ m → p ≠ j → O p < m
  id : ∀ p, m < p → O p = p
theorem SoO.start (R : Nat → Nat) : SoO R 1 (fun p => p) := ⟨fun p q h1 h2 => by omega, fun p h => h, fun p h => rfl⟩
theorem SoO.inn {R : Nat → Nat} {m : Nat} {O : Nat → Nat} (h : SoO R m O) : SoI R m m O :=
  ⟨Nat.le_refl _, h.id m (Nat.le_refl _), fun p q h1 h2 h3 h4 => h.ord p q h1 (by omega), fun p h1 h2 => by omega, fun p h1 h2 => h.lt p (by omega), fun p h1 => h.id p (by omega)⟩
def soSwap (O : Nat → Nat) (j : Nat) : Nat → Nat := fun p => if p = j - 1 then O j else if p = j then O (j - 1) else O p
theorem SoI.step {R : Nat → Nat} {m j : Nat} {O : Nat → Nat} (h : SoI R m j O) (hj : 0 < j) (hlt : R (O (j - 1)) < R (O j)) : SoI R m (j - 1) (soSwap O j) := by
  have hjm := h.jm
  have hh := h.here
  have e1 : soSwap O j (j - 1) = m := by unfold soSwap; rw [if_pos rfl, hh]
  have e2 : soSwap O j j = O (j - 1) := by unfold soSwap; rw [if_neg (by omega), if_pos rfl]
  have e3 : ∀ p, p ≠ j - 1 → p ≠ j → soSwap O j p = O p := fun p h1 h2 => by unfold soSwap; rw [if_neg h1, if_neg h2]
  have hb : seAhead R m (O (j - 1)) = true := seAhead_iff.2 (.inl (by rw [← hh]; exact hlt))
  refine ⟨by omega, e1, fun p q h1 h2 h3 h4 => ?_, fun p h1 h2 => ?_, fun p h1 h2 => ?_, fun p h1 => ?_⟩
  · by_cases ep : p = j
    · subst ep; rw [e2, e3 q (by omega) (by omega)]; exact h.ord (p - 1) q (by omega) h2 (by omega) (by omega)
    · by_cases eq : q = j
      · subst eq; rw [e2, e3 p h3 ep]; exact h.ord p (q - 1) (by omega) (by omega) ep (by omega)
      · rw [e3 p h3 ep, e3 q h4 eq]; exact h.ord p q h1 h2 ep eq
  · by_cases ep : p = j
    · subst ep; rw [e2]; exact hb
    · rw [e3 p (by omega) ep]; exact h.beh p (by omega) h2
  · by_cases ep : p = j
    · subst ep; rw [e2]; exact h.lt (p - 1) (by omega) (by omega)
    · rw [e3 p h2 ep]; exact h.lt p h1 ep
  · rw [e3 p (by omega) (by omega)]; exact h.id p h1
theorem SoI.done {R : Nat → Nat} {m j : Nat} {O : Nat → Nat} (h : SoI R m j O) (hs : j = 0 ∨ R (O j) ≤ R (O (j - 1))) : SoO R (m + 1) O := by
  have hjm := h.jm
  have hh := h.here
  have hf : ∀ p, p < j → seAhead R (O p) m = true := fun p hp => by
    have hj1 : seAhead R (O (j - 1)) m = true := by
      have hl := h.lt (j - 1) (by omega) (by omega)
      rcases hs with hs | hs
      · omega
      · rw [hh] at hs
        refine seAhead_iff.2 ?_
        by_cases e : R m = R (O (j - 1))
        · exact .inr ⟨e.symm, hl⟩
        · exact .inl (by omega)
    by_cases e : p = j - 1
    · subst e; exact hj1
    · exact seAhead_trans (h.ord p (j - 1) (by omega) (by omega) (by omega) (by omega)) hj1
  refine ⟨fun p q h1 h2 => ?_, fun p h1 => ?_, fun p h1 => h.id p (by omega)⟩
  · by_cases ep : p = j
    · subst ep; rw [hh]; exact h.beh q h1 (by omega)
    · by_cases eq : q = j
      · subst eq; rw [hh]; exact hf p h1
      · exact h.ord p q h1 (by omega) ep eq
  · by_cases ep : p = j
    · subst ep; rw [hh]; omega
    · have := h.lt p (by omega) ep; omega
theorem seRank_lt_n {R : Nat → Nat} {n i : Nat} (hi : i < n) : seRank R n i < n := by
  have h1 : seCnt (fun j => seAhead R j i) n < seCnt (fun _ => true) n := seCnt_lt n hi (fun _ _ _ => rfl) (seAhead_no i) rfl
  exact Nat.lt_of_lt_of_le h1 (seCnt_le _ n)
/-- In order: each stands at the place of its rank. -/
theorem SoO.rank {R : Nat → Nat} {n : Nat} {O : Nat → Nat} (h : SoO R n O) : ∀ p, p < n → seRank R n (O p) = p := by
  have hmono : ∀ p q, p < q → q < n → seRank R n (O p) < seRank R n (O q) := fun p q h1 h2 => seRank_lt (h.lt p (by omega)) (h.ord p q h1 h2)
  have hup : ∀ p, p < n → p ≤ seRank R n (O p) := fun p => by
    induction p with
    | zero => exact fun _ => Nat.zero_le _
    | succ p ih => exact fun hp => by have := ih (by omega); have := hmono p (p + 1) (by omega) hp; omega
  have hdn : ∀ d p, p + d + 1 = n → seRank R n (O p) ≤ p := fun d => by
    induction d with
    | zero => exact fun p hp => by have := seRank_lt_n (R := R) (h.lt p (by omega)); omega
    | succ d ih => exact fun p hp => by have := ih (p + 1) (by omega); have := hmono p (p + 1) (by omega) (by omega); omega
  intro p hp
  have h1 := hup p hp
  have h2 := hdn (n - 1 - p) p (by omega)
  omega
end Go.Proofs.Ytabgbchogmbofaa
