/-
  The document's Right.
-/
import Derived.Test.YtabgbchogmbofaaSEM
import Derived.Test.YtabgbchogmbofaaRW
namespace Go.Proofs.Ytabgbchogmbofaa
open Go.ChangeShapes Go.WideShapes Go.ChangeAt Go.RowKit
set_option linter.unusedVariables false

def seB (n : Nat) (X : Nat → Int) (k : Int) : Bool := decide (1 ≤ n) && decide (n ≤ 8) && allIn (-268435456) 268435456 X n && decide (0 ≤ k) && decide (k ≤ 24)
theorem seB_iff {n : Nat} {X : Nat → Int} {k : Int} : seB n X k = true ↔ 1 ≤ n ∧ n ≤ 8 ∧ (∀ i, i < n → -268435456 ≤ X i ∧ X i ≤ 268435456) ∧ 0 ≤ k ∧ k ≤ 24 := by
  rw [← allIn_iff]; simp [seB, and_assoc]
theorem seB_no {n : Nat} {X : Nat → Int} {k : Int} (h : ¬ (1 ≤ n ∧ n ≤ 8 ∧ (∀ i, i < n → -268435456 ≤ X i ∧ X i ≤ 268435456) ∧ 0 ≤ k ∧ k ≤ 24)) : seB n X k = false := by
  cases e : seB n X k with
  | false => rfl
  | true => exact absurd (seB_iff.1 e) h
theorem rright18_any (a : Option Addr) (len cap : Nat) (X : Nat → Int) (k : Int) (ml : len ≤ maxLen) (w : World) (h : IsInts w a len cap X) :
    Calls Try.prog 9 #[.slice a len cap, .int .i64 k] w fun e w' => e = .returned (.bool (seB len X k)) ∧ w' = w := by
  unfold maxLen at ml
  by_cases h1 : 1 ≤ len
  · by_cases h8 : len ≤ 8
    · have K1 := hid (rwithin_g (-268435456) 268435456 a len cap X (by omega) w h)
      cases hin : allIn (-268435456) 268435456 X len with
      | false =>
        have e : seB len X k = false := seB_no fun hh => by rw [(allIn_iff _ _ _ _).2 hh.2.2.1] at hin; cases hin
        rw [e]
        rw [hin] at K1
        clear h e hin
        go_enter Try.func9, Try.ntmps9
        go_wp2_with (go_at_call 16; (with_reducible refine Calls.mono K1.out ?_); rintro e w1 ⟨rfl, rfl⟩)
        go_ret
        exact ⟨rfl, rfl⟩
      | true =>
        rw [hin] at K1
        by_cases hk0 : 0 ≤ k
        · have e : seB len X k = decide (k ≤ 24) := by simp [seB, h1, h8, hin, hk0]
          rw [e]
          clear h e hin
          go_enter Try.func9, Try.ntmps9
          go_wp2_with (go_at_call 16; (with_reducible refine Calls.mono K1.out ?_); rintro e w1 ⟨rfl, rfl⟩)
          go_ret
          exact ⟨rfl, rfl⟩
        · have e : seB len X k = false := seB_no fun hh => hk0 hh.2.2.2.1
          rw [e]
          have hd : decide (0 ≤ k) = false := decide_eq_false hk0
          clear h e hin
          go_enter Try.func9, Try.ntmps9
          go_wp2_with (go_at_call 16; (with_reducible refine Calls.mono K1.out ?_); rintro e w1 ⟨rfl, rfl⟩)
          go_ret
          exact ⟨rfl, rfl⟩
    · have e : seB len X k = false := seB_no fun hh => h8 hh.2.1
      rw [e]
      have hd : decide ((len : Int) ≤ 8) = false := decide_eq_false (by omega)
      clear h e
      go_enter Try.func9, Try.ntmps9
      go_wp2
      go_ret
      exact ⟨rfl, rfl⟩
  · have e : seB len X k = false := seB_no fun hh => h1 hh.1
    rw [e]
    have hd : decide (1 ≤ (len : Int)) = false := decide_eq_false (by omega)
    clear h e
    go_enter Try.func9, Try.ntmps9
    go_wp2
    go_ret
    exact ⟨rfl, rfl⟩
end Go.Proofs.Ytabgbchogmbofaa
