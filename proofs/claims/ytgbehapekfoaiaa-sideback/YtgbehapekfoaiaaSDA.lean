/-
  The document's Right, Far; Merge.
-/
import Derived.Test.YtgbehapekfoaiaaSDM
import Derived.Test.YtgbehapekfoaiaaRW
import Derived.Test.YtgbehapekfoaiaaOI
import Derived.Test.YtgbehapekfoaiaaTO
import Derived.Test.YtgbehapekfoaiaaRT
import Derived.Test.YtgbehapekfoaiaaNAbsR
namespace Go.Proofs.Ytgbehapekfoaiaa
open Go.ChangeShapes Go.WideShapes Go.ChangeAt Go.RowKit
set_option linter.unusedVariables false

theorem rright19_any (a b : Option Addr) (n m cap cap' : Nat) (A B : Nat → Int) (hn : n ≤ 1000) (hm : m ≤ 1000) (w : World) (h : IsInts w a n cap A) (h' : IsInts w b m cap' B) :
    Calls Try.prog 17 #[.slice a n cap, .slice b m cap'] w fun e w' => e = .returned (.bool (sdB n m A B)) ∧ w' = w := by
  have K1 : Hid (∀ W, W = w → Calls Try.prog 13 #[.slice a n cap, .int .i64 (-33554432), .int .i64 33554432] W fun e w' => e = .returned (.bool (allIn (-33554432) 33554432 A n)) ∧ w' = w) := fun W hW => by subst hW; exact rwithin_g _ _ a n cap A hn W h
  have K2 : Hid (∀ W, W = w → Calls Try.prog 13 #[.slice b m cap', .int .i64 (-33554432), .int .i64 33554432] W fun e w' => e = .returned (.bool (allIn (-33554432) 33554432 B m)) ∧ w' = w) := fun W hW => by subst hW; exact rwithin_g _ _ b m cap' B hm W h'
  clear h h'
  by_cases e1 : n = m
  · subst e1
    by_cases e2 : n ≤ 64
    · have hd : (((n : Int) == (n : Int))) = true := by simp
      cases e3 : allIn (-33554432) 33554432 A n with
      | false =>
        have e : sdB n n A B = false := by simp [sdB, e3]
        rw [e]
        rw [e3] at K1
        clear e e3
        go_enter Try.func17, Try.ntmps17
        go_wp2_with (fail)
        refine Calls.mono (K1.out _ rfl) ?_
        rintro e w1 ⟨rfl, rfl⟩
        go_wp2
        go_ret
        exact ⟨rfl, rfl⟩
      | true =>
        have e : sdB n n A B = allIn (-33554432) 33554432 B n := by simp [sdB, e2, e3]
        rw [e]
        rw [e3] at K1
        generalize allIn (-33554432) 33554432 B n = o at *
        clear e e3
        go_enter Try.func17, Try.ntmps17
        go_wp2_with (fail)
        refine Calls.mono (K1.out _ rfl) ?_
        rintro e w1 ⟨rfl, rfl⟩
        go_wp2_with (fail)
        refine Calls.mono (K2.out _ rfl) ?_
        rintro e w1 ⟨rfl, rfl⟩
        go_wp2
        go_ret
        exact ⟨rfl, rfl⟩
    · have e : sdB n n A B = false := by simp [sdB, e2]
      rw [e]
      have hd : (((n : Int) == (n : Int))) = true := by simp
      have hd2 : decide ((n : Int) ≤ 64) = false := decide_eq_false (by omega)
      clear e
      go_enter Try.func17, Try.ntmps17
      go_wp2
      go_ret
      exact ⟨rfl, rfl⟩
  · have e : sdB n m A B = false := by simp [sdB, e1]
    rw [e]
    have hd : (((n : Int) == (m : Int))) = false := by simp; omega
    clear e
    go_enter Try.func17, Try.ntmps17
    go_wp2
    go_ret
    exact ⟨rfl, rfl⟩
theorem rfar19_any (a : Option Addr) (n cap : Nat) (X : Nat → Int) (hn : n ≤ 64) (hX : ∀ i, i < n → (X i).natAbs ≤ 134217728) (w : World) (h : IsInts w a n cap X) :
    Calls Try.prog 22 #[.slice a n cap] w fun e w' => e = .returned (.int .i64 ((sdF X n : Nat) : Int)) ∧ w' = w := by
  by_cases h0 : n = 0
  · subst h0
    clear h hX
    go_enter Try.func22, Try.ntmps22
    go_wp2
    go_loop [3, 4] (fun s i => s = .int .i64 0 ∧ i = .int .i64 0) (fun _ i => 0)
    case atStart => exact ⟨rfl, rfl⟩
    case round =>
      obtain ⟨rfl, rfl⟩ := hrel
      go_wp2
      go_ret
      exact ⟨rfl, rfl⟩
  obtain ⟨b, off, rfl, hc⟩ := h.cells (by omega)
  have HC := hid (hc w (Below.refl _ _))
  have HX := hid hX
  have HS := hid (fun i (hi : i ≤ n) => show sdF X i ≤ 134217728 * 64 by
    have h1 := sdF_le (X := X) (c := 134217728) i (fun j hj => hX j (by omega)); omega)
  clear h hX hc
  go_enter Try.func22, Try.ntmps22
  go_wp2
  go_loop [3, 4] (fun s i => ∃ k : Nat, k ≤ n ∧ i = .int .i64 k ∧ s = .int .i64 ((sdF X k : Nat) : Int)) (fun _ i => n - (intOf i).toNat)
  case atStart => exact ⟨0, Nat.zero_le _, rfl, rfl⟩
  case round =>
    obtain ⟨k, hk, rfl, hs⟩ := hrel
    by_cases hlt : k < n
    · have hck := HC.out k hlt
      have hx := HX.out k hlt
      have hb := HS.out k (by omega)
      have KA := hid (fun W => absR_any (X k) W)
      rw [absF_nat (by omega)] at KA
      have HV := hid (show ((sdF X k : Nat) : Int) + (((X k).natAbs : Nat) : Int) = ((sdF X (k + 1) : Nat) : Int) by rw [sdF]; omega)
      generalize (X k).natAbs = y at *
      generalize X k = x at *
      generalize sdF X k = s0 at *
      subst hs
      go_wp2_with (go_at_call 14; (with_reducible refine Calls.mono (KA.out _) ?_); rintro e w6 ⟨rfl, rfl⟩)
      exact ⟨⟨k + 1, by omega, by go_num, congrArg (Value.int .i64) HV.out⟩, by simp [intOf]; omega⟩
    · obtain rfl : k = n := by omega
      subst hs
      go_wp2
      go_ret
      exact ⟨rfl, rfl⟩
end Go.Proofs.Ytgbehapekfoaiaa
