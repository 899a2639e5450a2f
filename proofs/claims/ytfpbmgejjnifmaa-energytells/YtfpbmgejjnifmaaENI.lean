/-
  Both sides together; the law's own end.
-/
import Derived.Test.YtfpbmgejjnifmaaENH
import Derived.Test.YtfpbmgejjnifmaaSM
namespace Go.Proofs.Ytfpbmgejjnifmaa
open Go.ChangeShapes Go.WideShapes Go.ChangeAt Go.RowKit
set_option linter.unusedVariables false

/-- A list of n numbers; the same, and whether it is one. -/
def EPost (n : Nat) (G : Nat → Int) (w : World) (e : Ending) (w' : World) : Prop := ∃ a cap, e = .returned (.slice a n cap) ∧ IsInts w' a n cap G ∧ Below w.heap.size w w'
def BPost (n : Nat) (G : Nat → Int) (b : Bool) (w : World) (e : Ending) (w' : World) : Prop := ∃ a cap, e = .returned (.tuple #[.slice a n cap, .bool b]) ∧ IsInts w' a n cap G ∧ Below w.heap.size w w'
theorem deltas_both (i : Bool) (a : Option Addr) (len cap : Nat) (P : Nat → Int) (ml : len ≤ maxLen) (a' : Option Addr) (len' cap' : Nat) (ml' : len' ≤ maxLen) (C : Nat → Int) (w : World) (h : IsInts w a len cap P) (h' : IsInts w a' len' cap' C) :
    ∃ (n : Nat) (F : Nat → Int), n ≤ 13 ∧ (∀ W, Below w.heap.size w W → Calls Try.prog 11 #[.bool i, .slice a len cap, .slice a' len' cap'] W (EPost n F W)) ∧ (∀ W, Below w.heap.size w W → Calls Try.prog 12 #[.bool i, .slice a len cap, .slice a' len' cap'] W (EPost n F W)) := by
  cases hR : eRightB len' C && eSideB i len P with
  | false =>
    refine ⟨0, fun _ => 0, by omega, fun W hW => ?_, fun W hW => ?_⟩
    · exact (deltas_no i a len cap P ml a' len' cap' ml' C hR W (h.below hW) (h'.below hW)).mono fun e w' ⟨he, hb⟩ => ⟨none, 0, he, .inl rfl, by rw [hb]; exact Below.refl _ _⟩
    · exact (rdeltas_no i a len cap P ml a' len' cap' ml' C hR W (h.below hW) (h'.below hW)).mono fun e w' ⟨he, hb⟩ => ⟨none, 0, he, .inl rfl, by rw [hb]; exact Below.refl _ _⟩
  | true =>
    obtain ⟨h1, h2⟩ : eRightB len' C = true ∧ eSideB i len P = true := by simpa using hR
    obtain rfl : len' = 13 := by simp [eRightB] at h1; exact h1.1
    refine ⟨13, dltF i P C, by omega, fun W hW => ?_, fun W hW => ?_⟩
    · exact (deltas_yes i a len cap P ml h2 a' cap' C h1 W (h.below hW) (h'.below hW)).mono fun e w' ⟨x, c, he, hi, hb, _⟩ => ⟨x, c, he, hi, hb⟩
    · exact (rdeltas_yes i a len cap P ml h2 a' cap' C h1 W (h.below hW) (h'.below hW)).mono fun e w' ⟨x, c, he, hi, hb, _⟩ => ⟨x, c, he, hi, hb⟩
theorem none_of {W : World} {e : Ending} {w' : World} (h : RNone W e w') : BPost 0 (fun _ => 0) false W e w' := ⟨none, 0, h.1, .inl rfl, h.2⟩
theorem row_both (i : Bool) (a : Option Addr) (len cap : Nat) (P : Nat → Int) (ml : len ≤ maxLen) (a' : Option Addr) (len' cap' : Nat) (ml' : len' ≤ maxLen) (D : Nat → Int) (hD : ∀ b, b < len' → -9223372036854775808 ≤ D b ∧ D b ≤ 9223372036854775807) (w : World) (h : IsInts w a len cap P) (h' : IsInts w a' len' cap' D) :
    ∃ (n : Nat) (F : Nat → Int) (b : Bool), n ≤ 13 ∧ (∀ W, Below w.heap.size w W → Calls Try.prog 6 #[.bool i, .slice a len cap, .slice a' len' cap'] W (BPost n F b W)) ∧ (∀ W, Below w.heap.size w W → Calls Try.prog 7 #[.bool i, .slice a len cap, .slice a' len' cap'] W (BPost n F b W)) := by
  by_cases h13 : len' = 13
  · subst h13
    cases hS : eSideB i len P with
    | false =>
      refine ⟨0, fun _ => 0, false, by omega, fun W hW => ?_, fun W hW => ?_⟩
      · exact (row_no i a len cap P ml a' 13 cap' ml' (.inr hS) W (h.below hW)).mono fun e w' hn => none_of hn
      · exact (rrow_no i a len cap P ml a' 13 cap' ml' D (.inr (.inr hS)) W (h.below hW) (h'.below hW)).mono fun e w' hn => none_of hn
    | true =>
      cases hr : allIn 0 23 (eRowF i P D) 13 with
      | true =>
        have hin := (allIn_iff _ _ _ _).1 hr
        have hn := (allIn_iff (-67) 67 D 13).2 (row_near (aside_of hS).2 hr)
        refine ⟨13, eRowF i P D, true, by omega, fun W hW => ?_, fun W hW => ?_⟩
        · exact (row_any true 13 i a len cap P ml hS a' cap' D hD hin rfl W (h.below hW) (h'.below hW)).mono fun e w' hx => by
            rw [if_pos rfl] at hx
            obtain ⟨x, c, he, hi, hb, _⟩ := hx
            exact ⟨x, c, he, hi, hb⟩
        · exact (rrow_any true 13 i a len cap P ml hS a' cap' D hn hin rfl W (h.below hW) (h'.below hW)).mono fun e w' hx => by
            rw [if_pos rfl] at hx
            obtain ⟨x, c, he, hi, hb, _⟩ := hx
            exact ⟨x, c, he, hi, hb⟩
      | false =>
        obtain ⟨m, hm13, hm, hout⟩ := first_out hr
        refine ⟨0, fun _ => 0, false, by omega, fun W hW => ?_, fun W hW => ?_⟩
        · exact (row_any false m i a len cap P ml hS a' cap' D hD hm (by simpa using ⟨hm13, by simpa using hout⟩) W (h.below hW) (h'.below hW)).mono fun e w' hx => none_of hx
        · cases hn : allIn (-67) 67 D 13 with
          | true => exact (rrow_any false m i a len cap P ml hS a' cap' D hn hm (by simpa using ⟨hm13, by simpa using hout⟩) W (h.below hW) (h'.below hW)).mono fun e w' hx => none_of hx
          | false => exact (rrow_no i a len cap P ml a' 13 cap' ml' D (.inr (.inl hn)) W (h.below hW) (h'.below hW)).mono fun e w' hx => none_of hx
  · refine ⟨0, fun _ => 0, false, by omega, fun W hW => ?_, fun W hW => ?_⟩
    · exact (row_no i a len cap P ml a' len' cap' ml' (.inl h13) W (h.below hW)).mono fun e w' hn => none_of hn
    · exact (rrow_no i a len cap P ml a' len' cap' ml' D (.inl h13) W (h.below hW) (h'.below hW)).mono fun e w' hn => none_of hn
end Go.Proofs.Ytfpbmgejjnifmaa
