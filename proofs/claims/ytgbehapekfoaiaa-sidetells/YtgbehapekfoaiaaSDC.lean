/-
  The document's Merge and Split of anything; Better.
-/
import Derived.Test.YtgbehapekfoaiaaSDB
namespace Go.Proofs.Ytgbehapekfoaiaa
open Go.ChangeShapes Go.WideShapes Go.ChangeAt Go.RowKit
set_option linter.unusedVariables false

theorem rmerge_any (a b : Option Addr) (n m cap cap' : Nat) (A B : Nat → Int) (hn : n ≤ 1000) (hm : m ≤ 1000) (w : World) (h : IsInts w a n cap A) (h' : IsInts w b m cap' B) :
    Calls Try.prog 7 #[.slice a n cap, .slice b m cap'] w (SPost (sdN n m A B) (mgL A B) (mgR A B) w) := by
  cases hb : sdB n m A B with
  | false => rw [sdN, if_neg (by rw [hb]; simp)]; exact rmerge_no a b n m cap cap' A B hn hm hb w h h'
  | true =>
    rw [sdN, if_pos hb]
    obtain ⟨rfl, hin⟩ := sdB_iff.1 hb
    exact rmerge_yes a b n cap cap' A B hin w h h'
theorem rsplit_any (a b : Option Addr) (n m cap cap' : Nat) (A B : Nat → Int) (hn : n ≤ 1000) (hm : m ≤ 1000) (w : World) (h : IsInts w a n cap A) (h' : IsInts w b m cap' B) :
    Calls Try.prog 9 #[.slice a n cap, .slice b m cap'] w (SPost (sdN n m A B) (spM A B) (spS A B) w) := by
  cases hb : sdB n m A B with
  | false => rw [sdN, if_neg (by rw [hb]; simp)]; exact rsplit_no a b n m cap cap' A B hn hm hb w h h'
  | true =>
    rw [sdN, if_pos hb]
    obtain ⟨rfl, hin⟩ := sdB_iff.1 hb
    exact rsplit_yes a b n cap cap' A B hin w h h'
theorem rbetter_any (a b : Option Addr) (n m cap cap' : Nat) (A B : Nat → Int) (hn : n ≤ 1000) (hm : m ≤ 1000) (w : World) (h : IsInts w a n cap A) (h' : IsInts w b m cap' B) :
    Calls Try.prog 12 #[.slice a n cap, .slice b m cap'] w fun e w' => e = .returned (.bool (sdBet n m A B)) ∧ Below w.heap.size w w' := by
  have K1 := hid (rright19_any a b n m cap cap' A B hn hm w h h')
  cases hb : sdB n m A B with
  | false =>
    have e : sdBet n m A B = false := by simp [sdBet, hb]
    rw [e]
    rw [hb] at K1
    clear h h' hb e
    go_enter Try.func12, Try.ntmps12
    go_wp2_with (go_at_call 17; (with_reducible refine Calls.mono K1.out ?_); rintro e w1 ⟨rfl, rfl⟩)
    go_ret
    exact ⟨rfl, Below.refl _ _⟩
  | true =>
    obtain ⟨rfl, hin⟩ := sdB_iff.1 hb
    have n64 := hin.n64
    rw [hb] at K1
    have K2 := hid (rsplit_yes a b n cap cap' A B hin w h h')
    have hmid := hin.mid
    have K3 : Hid (∀ a1 c1 W, IsInts W a1 n c1 (spM A B) → Calls Try.prog 22 #[.slice a1 n c1] W fun e w' => e = .returned (.int .i64 ((sdF (spM A B) n : Nat) : Int)) ∧ w' = W) := fun a1 c1 W h => rfar19_any a1 n c1 _ n64 (fun i hi => by have := hmid i hi; omega) W h
    have K4 : Hid (∀ a1 c1 W, IsInts W a1 n c1 (spS A B) → Calls Try.prog 22 #[.slice a1 n c1] W fun e w' => e = .returned (.int .i64 ((sdF (spS A B) n : Nat) : Int)) ∧ w' = W) := fun a1 c1 W h => rfar19_any a1 n c1 _ n64 (fun i hi => by have := hmid i hi; omega) W h
    have K5 : Hid (∀ W, Below w.heap.size w W → Calls Try.prog 22 #[.slice a n cap] W fun e w' => e = .returned (.int .i64 ((sdF A n : Nat) : Int)) ∧ w' = W) := fun W hW => rfar19_any a n cap _ n64 (fun i hi => by have := hin.a i hi; omega) W (h.below hW)
    have K6 : Hid (∀ W, Below w.heap.size w W → Calls Try.prog 22 #[.slice b n cap'] W fun e w' => e = .returned (.int .i64 ((sdF B n : Nat) : Int)) ∧ w' = W) := fun W hW => rfar19_any b n cap' _ n64 (fun i hi => by have := hin.b i hi; omega) W (h'.below hW)
    have b1 : sdF (spM A B) n ≤ 33554432 * n := sdF_le n (fun i hi => by have := hmid i hi; omega)
    have b2 : sdF (spS A B) n ≤ 33554432 * n := sdF_le n (fun i hi => by have := hmid i hi; omega)
    have b3 : sdF A n ≤ 33554432 * n := sdF_le n (fun i hi => by have := hin.a i hi; omega)
    have b4 : sdF B n ≤ 33554432 * n := sdF_le n (fun i hi => by have := hin.b i hi; omega)
    have e : sdBet n n A B = decide (4 * (((sdF (spM A B) n : Nat) : Int) + ((sdF (spS A B) n : Nat) : Int)) < 3 * (((sdF A n : Nat) : Int) + ((sdF B n : Nat) : Int))) := by
      rw [sdBet, hb, Bool.true_and]; congr 1; rw [eq_iff_iff]; omega
    rw [e]
    clear h h' hb e hin hmid
    generalize sdF A n = f3 at *
    generalize sdF B n = f4 at *
    generalize sdF (spM A B) n = f1 at *
    generalize sdF (spS A B) n = f2 at *
    have c1 : f1 ≤ 2147483648 := by omega
    have c2 : f2 ≤ 2147483648 := by omega
    have c3 : f3 ≤ 2147483648 := by omega
    have c4 : f4 ≤ 2147483648 := by omega
    clear b1 b2 b3 b4
    go_enter Try.func12, Try.ntmps12
    go_wp2_with (go_at_call 17; (with_reducible refine Calls.mono K1.out ?_); rintro e w1 ⟨rfl, rfl⟩)
    refine Calls.mono K2.out ?_
    rintro e w2 ⟨a2, p2, a3, p3, rfl, i2, i3, hw2⟩
    have B2 := hid hw2
    have k3 := hid (K3.out _ _ _ i2)
    have k4 := hid (K4.out _ _ _ i3)
    clear i2 i3 hw2 K2 K3 K4
    go_wp2_with (fail)
    refine Calls.mono k3.out ?_
    rintro e w3 ⟨rfl, rfl⟩
    go_wp2_with (fail)
    refine Calls.mono k4.out ?_
    rintro e w4 ⟨rfl, rfl⟩
    go_wp2_with (fail)
    refine Calls.mono (K5.out _ B2.out) ?_
    rintro e w5 ⟨rfl, rfl⟩
    go_wp2_with (fail)
    refine Calls.mono (K6.out _ B2.out) ?_
    rintro e w6 ⟨rfl, rfl⟩
    go_wp2
    go_ret
    exact ⟨rfl, B2.out⟩
end Go.Proofs.Ytgbehapekfoaiaa
