/-
  Proved: for any step the next one is not quieter, four steps on it is twice as loud but for one, of bands and of frames, and none is silent; for numbers from 2 to 2^40 what is found is not louder than the number and the next step is (outside those the law answers by the chapter's examples behind the steps alone). Conditions: none beside the row's own (the package's four steps read as the program's text lays them; the card ties them to the pruned copy).
-/
import Derived.Test.YtchchemcaaggmaaDoorCards
import Derived.Test.YtchchemcaaggmaaDoorTie
import Derived.Test.YtchchemcaaggmaaDoorLD
import Derived.WalkKit
import Derived.ProofKit
import Derived.OpenShut
import Derived.ShutString
import Derived.ChangeOld
import Derived.Below
import Derived.Lay
import Derived.LaidOnce
import Derived.SevenTiedAt
namespace Go.Proofs.YtchchemcaaggmaaDoor.levelSteps
open Go.ChangeShapes Go.WideShapes Go.ChangeAt Go.RowKit
open Go.ChangeMaps (open_string shut_string)
set_option linter.unusedVariables false

theorem own : ownKnob Tryd.prog.godebug = none := by kernel_rfl
theorem laidOut : laidOutB Tryd.prog = true := by kernel_rfl

theorem gain_of (n : Nat) (g : Int) (h : g = (n : Int) - 64) : gainF g = gainI n := by unfold gainI; rw [h]
/-- The steps' own facts, of bands and of frames. -/
theorem band_facts {i : Int} (h1 : 0 ≤ i) (h2 : i ≤ 91) : 2 ≤ ampF (i / 4 + 1) (i % 4) ∧ (i < 91 → ampF (i / 4 + 1) (i % 4) ≤ ampF ((i + 1) / 4 + 1) ((i + 1) % 4)) ∧
    (i < 88 → ampF (i / 4 + 1 + 1) (i % 4) - 2 * ampF (i / 4 + 1) (i % 4) ≤ 1 ∧ -1 ≤ ampF (i / 4 + 1 + 1) (i % 4) - 2 * ampF (i / 4 + 1) (i % 4)) := by
  obtain ⟨n, rfl⟩ : ∃ n : Nat, i = n := ⟨i.toNat, by omega⟩
  rw [amp_of n ((n : Int) / 4 + 1) ((n : Int) % 4) rfl rfl]
  refine ⟨amp_two n (by omega), fun h => ?_, fun h => ?_⟩
  · rw [amp_of (n + 1) _ _ (by omega) (by omega)]
    exact amp_step n (by omega)
  · rw [amp_of (n + 4) _ _ (by omega) (by omega)]
    exact amp_four n (by omega)
theorem gain_facts {m : Int} (h1 : 0 ≤ m) (h2 : m ≤ 92) : 1 ≤ gainF (m - 64) ∧ gainF (m - 64) ≤ gainF (m - 64 + 1) ∧ gainF (m - 64 + 4) - 2 * gainF (m - 64) ≤ 1 ∧ -1 ≤ gainF (m - 64 + 4) - 2 * gainF (m - 64) := by
  obtain ⟨n, rfl⟩ : ∃ n : Nat, m = n := ⟨m.toNat, by omega⟩
  rw [gain_of n ((n : Int) - 64) rfl, gain_of (n + 1) _ (by omega), gain_of (n + 4) _ (by omega)]
  exact ⟨gain_one n (by omega), gain_step n (by omega), gain_four n (by omega)⟩
set_option maxHeartbeats 1000000
theorem walk_out (w : World) (ht : LTab w) (a0 a1 : Int) (u1 : 0 ≤ a0) (u2 : a0 ≤ 255) (h : a1 < 2 ∨ 1099511627776 < a1) :
    Calls Tryd.prog 4 #[.int .u8 a0, .int .i64 a1] w fun e w' => e = .returned (.bool true) ∧ Below w.heap.size w w' := by
  obtain ⟨i, hi⟩ : ∃ i, a0 % 92 = i := ⟨_, rfl⟩
  obtain ⟨m, hm⟩ : ∃ m, a0 % 93 = m := ⟨_, rfl⟩
  have i1 : 0 ≤ i := by omega
  have i2 : i ≤ 91 := by omega
  have m1 : 0 ≤ m := by omega
  have m2 : m ≤ 92 := by omega
  have k8 := lawake_to ht
  have b := Below.refl w.heap.size w
  have g0 := lgain_to ht (m - 64) _ rfl
  have g1 := lgain_to ht (m - 64 + 1) _ rfl
  have g4 := lgain_to ht (m - 64 + 4) _ rfl
  obtain ⟨f1, f2, f3, f4⟩ := gain_facts (m := m) (by omega) (by omega)
  have f5 := (gain_any (m - 64)).2
  have f6 := (gain_any (m - 64 + 4)).2
  have f7 := (gain_any (m - 64 + 1)).2
  have x0 := lamp_to ht (i / 4 + 1) (i % 4) _ rfl
  have x1 := lamp_to ht ((i + 1) / 4 + 1) ((i + 1) % 4) _ rfl
  have x4 := lamp_to ht (i / 4 + 1 + 1) (i % 4) _ rfl
  obtain ⟨e1, e2, e3⟩ := band_facts (i := i) (by omega) (by omega)
  have e5 := (amp_any (i / 4 + 1) (i % 4)).2
  have e6 := amp_any (i / 4 + 1 + 1) (i % 4)
  have e7 := amp_any ((i + 1) / 4 + 1) ((i + 1) % 4)
  clear ht
  generalize gainF (m - 64 + 1) = G1 at *
  generalize gainF (m - 64 + 4) = G4 at *
  generalize gainF (m - 64) = G at *
  generalize ampF (i / 4 + 1 + 1) (i % 4) = Z at *
  generalize ampF ((i + 1) / 4 + 1) ((i + 1) % 4) = Y at *
  generalize ampF (i / 4 + 1) (i % 4) = X at *
  by_cases h88 : i < 88
  · have e8 := e2 (by omega)
    obtain ⟨e9, e10⟩ := e3 h88
    clear e2 e3
    have h23 : i / 4 + 1 < 23 := by omega
    have h91 : i < 91 := by omega
    go_enter Tryd.func4, Tryd.ntmps4
    go_wp2_with (first
      | (go_at_call 8; (with_reducible refine (x0.out _ b).mono ?_); rintro e w1 ⟨rfl, b⟩)
      | (go_at_call 8; (with_reducible refine (x1.out _ b).mono ?_); rintro e w1 ⟨rfl, b⟩)
      | (go_at_call 8; (with_reducible refine (x4.out _ b).mono ?_); rintro e w1 ⟨rfl, b⟩)
      | (go_at_call 10; (with_reducible refine (g0.out _ b).mono ?_); rintro e w1 ⟨rfl, b⟩)
      | (go_at_call 10; (with_reducible refine (g1.out _ b).mono ?_); rintro e w1 ⟨rfl, b⟩)
      | (go_at_call 10; (with_reducible refine (g4.out _ b).mono ?_); rintro e w1 ⟨rfl, b⟩)
      | (go_at_call 14; (with_reducible refine (k8.out _ b).mono ?_); rintro e w1 ⟨rfl, b⟩))
    all_goals (go_ret; exact ⟨rfl, b⟩)
  have h23 : ¬ i / 4 + 1 < 23 := by omega
  by_cases h91 : i < 91
  · have e8 := e2 h91
    clear e2 e3
    go_enter Tryd.func4, Tryd.ntmps4
    go_wp2_with (first
      | (go_at_call 8; (with_reducible refine (x0.out _ b).mono ?_); rintro e w1 ⟨rfl, b⟩)
      | (go_at_call 8; (with_reducible refine (x1.out _ b).mono ?_); rintro e w1 ⟨rfl, b⟩)
      | (go_at_call 8; (with_reducible refine (x4.out _ b).mono ?_); rintro e w1 ⟨rfl, b⟩)
      | (go_at_call 10; (with_reducible refine (g0.out _ b).mono ?_); rintro e w1 ⟨rfl, b⟩)
      | (go_at_call 10; (with_reducible refine (g1.out _ b).mono ?_); rintro e w1 ⟨rfl, b⟩)
      | (go_at_call 10; (with_reducible refine (g4.out _ b).mono ?_); rintro e w1 ⟨rfl, b⟩)
      | (go_at_call 14; (with_reducible refine (k8.out _ b).mono ?_); rintro e w1 ⟨rfl, b⟩))
    all_goals (go_ret; exact ⟨rfl, b⟩)
  · clear e2 e3
    go_enter Tryd.func4, Tryd.ntmps4
    go_wp2_with (first
      | (go_at_call 8; (with_reducible refine (x0.out _ b).mono ?_); rintro e w1 ⟨rfl, b⟩)
      | (go_at_call 8; (with_reducible refine (x1.out _ b).mono ?_); rintro e w1 ⟨rfl, b⟩)
      | (go_at_call 8; (with_reducible refine (x4.out _ b).mono ?_); rintro e w1 ⟨rfl, b⟩)
      | (go_at_call 10; (with_reducible refine (g0.out _ b).mono ?_); rintro e w1 ⟨rfl, b⟩)
      | (go_at_call 10; (with_reducible refine (g1.out _ b).mono ?_); rintro e w1 ⟨rfl, b⟩)
      | (go_at_call 10; (with_reducible refine (g4.out _ b).mono ?_); rintro e w1 ⟨rfl, b⟩)
      | (go_at_call 14; (with_reducible refine (k8.out _ b).mono ?_); rintro e w1 ⟨rfl, b⟩))
    all_goals (go_ret; exact ⟨rfl, b⟩)
theorem walk_last (w : World) (ht : LTab w) (a0 a1 : Int) (u1 : 0 ≤ a0) (u2 : a0 ≤ 255) (h1 : ¬ a1 < 2) (h2 : ¬ 1099511627776 < a1) (p q : Int) (hF : Found a1 p q) (hn : 96 ≤ 4 * p + q + 1) :
    Calls Tryd.prog 4 #[.int .u8 a0, .int .i64 a1] w fun e w' => e = .returned (.bool true) ∧ Below w.heap.size w w' := by
  obtain ⟨i, hi⟩ : ∃ i, a0 % 92 = i := ⟨_, rfl⟩
  obtain ⟨m, hm⟩ : ∃ m, a0 % 93 = m := ⟨_, rfl⟩
  have i1 : 0 ≤ i := by omega
  have i2 : i ≤ 91 := by omega
  have m1 : 0 ≤ m := by omega
  have m2 : m ≤ 92 := by omega
  have k8 := lawake_to ht
  have b := Below.refl w.heap.size w
  have g0 := lgain_to ht (m - 64) _ rfl
  have g1 := lgain_to ht (m - 64 + 1) _ rfl
  have g4 := lgain_to ht (m - 64 + 4) _ rfl
  obtain ⟨f1, f2, f3, f4⟩ := gain_facts (m := m) (by omega) (by omega)
  have f5 := (gain_any (m - 64)).2
  have f6 := (gain_any (m - 64 + 4)).2
  have f7 := (gain_any (m - 64 + 1)).2
  have x0 := lamp_to ht (i / 4 + 1) (i % 4) _ rfl
  have x1 := lamp_to ht ((i + 1) / 4 + 1) ((i + 1) % 4) _ rfl
  have x4 := lamp_to ht (i / 4 + 1 + 1) (i % 4) _ rfl
  obtain ⟨e1, e2, e3⟩ := band_facts (i := i) (by omega) (by omega)
  have e5 := (amp_any (i / 4 + 1) (i % 4)).2
  have e6 := amp_any (i / 4 + 1 + 1) (i % 4)
  have e7 := amp_any ((i + 1) / 4 + 1) ((i + 1) % 4)
  have k1 := lfound_to ht a1 p q hF
  have k2 := lamp_to ht p q _ rfl
  have c1 := hF.c1
  have c2 := hF.c2
  have c3 := hF.f1
  have c4 := hF.f2
  have c5 := hF.le
  clear hF
  generalize ampF p q = V at *
  clear ht
  generalize gainF (m - 64 + 1) = G1 at *
  generalize gainF (m - 64 + 4) = G4 at *
  generalize gainF (m - 64) = G at *
  generalize ampF (i / 4 + 1 + 1) (i % 4) = Z at *
  generalize ampF ((i + 1) / 4 + 1) ((i + 1) % 4) = Y at *
  generalize ampF (i / 4 + 1) (i % 4) = X at *
  by_cases h88 : i < 88
  · have e8 := e2 (by omega)
    obtain ⟨e9, e10⟩ := e3 h88
    clear e2 e3
    have h23 : i / 4 + 1 < 23 := by omega
    have h91 : i < 91 := by omega
    go_enter Tryd.func4, Tryd.ntmps4
    go_wp2_with (first
      | (go_at_call 8; (with_reducible refine (x0.out _ b).mono ?_); rintro e w1 ⟨rfl, b⟩)
      | (go_at_call 8; (with_reducible refine (x1.out _ b).mono ?_); rintro e w1 ⟨rfl, b⟩)
      | (go_at_call 8; (with_reducible refine (x4.out _ b).mono ?_); rintro e w1 ⟨rfl, b⟩)
      | (go_at_call 10; (with_reducible refine (g0.out _ b).mono ?_); rintro e w1 ⟨rfl, b⟩)
      | (go_at_call 10; (with_reducible refine (g1.out _ b).mono ?_); rintro e w1 ⟨rfl, b⟩)
      | (go_at_call 10; (with_reducible refine (g4.out _ b).mono ?_); rintro e w1 ⟨rfl, b⟩)
      | (go_at_call 6; (with_reducible refine (k1.out _ b).mono ?_); rintro e w1 ⟨rfl, b⟩)
      | (go_at_call 8; (with_reducible refine (k2.out _ b).mono ?_); rintro e w1 ⟨rfl, b⟩)
      | (go_at_call 14; (with_reducible refine (k8.out _ b).mono ?_); rintro e w1 ⟨rfl, b⟩))
    all_goals (go_ret; exact ⟨rfl, b⟩)
  have h23 : ¬ i / 4 + 1 < 23 := by omega
  by_cases h91 : i < 91
  · have e8 := e2 h91
    clear e2 e3
    go_enter Tryd.func4, Tryd.ntmps4
    go_wp2_with (first
      | (go_at_call 8; (with_reducible refine (x0.out _ b).mono ?_); rintro e w1 ⟨rfl, b⟩)
      | (go_at_call 8; (with_reducible refine (x1.out _ b).mono ?_); rintro e w1 ⟨rfl, b⟩)
      | (go_at_call 8; (with_reducible refine (x4.out _ b).mono ?_); rintro e w1 ⟨rfl, b⟩)
      | (go_at_call 10; (with_reducible refine (g0.out _ b).mono ?_); rintro e w1 ⟨rfl, b⟩)
      | (go_at_call 10; (with_reducible refine (g1.out _ b).mono ?_); rintro e w1 ⟨rfl, b⟩)
      | (go_at_call 10; (with_reducible refine (g4.out _ b).mono ?_); rintro e w1 ⟨rfl, b⟩)
      | (go_at_call 6; (with_reducible refine (k1.out _ b).mono ?_); rintro e w1 ⟨rfl, b⟩)
      | (go_at_call 8; (with_reducible refine (k2.out _ b).mono ?_); rintro e w1 ⟨rfl, b⟩)
      | (go_at_call 14; (with_reducible refine (k8.out _ b).mono ?_); rintro e w1 ⟨rfl, b⟩))
    all_goals (go_ret; exact ⟨rfl, b⟩)
  · clear e2 e3
    go_enter Tryd.func4, Tryd.ntmps4
    go_wp2_with (first
      | (go_at_call 8; (with_reducible refine (x0.out _ b).mono ?_); rintro e w1 ⟨rfl, b⟩)
      | (go_at_call 8; (with_reducible refine (x1.out _ b).mono ?_); rintro e w1 ⟨rfl, b⟩)
      | (go_at_call 8; (with_reducible refine (x4.out _ b).mono ?_); rintro e w1 ⟨rfl, b⟩)
      | (go_at_call 10; (with_reducible refine (g0.out _ b).mono ?_); rintro e w1 ⟨rfl, b⟩)
      | (go_at_call 10; (with_reducible refine (g1.out _ b).mono ?_); rintro e w1 ⟨rfl, b⟩)
      | (go_at_call 10; (with_reducible refine (g4.out _ b).mono ?_); rintro e w1 ⟨rfl, b⟩)
      | (go_at_call 6; (with_reducible refine (k1.out _ b).mono ?_); rintro e w1 ⟨rfl, b⟩)
      | (go_at_call 8; (with_reducible refine (k2.out _ b).mono ?_); rintro e w1 ⟨rfl, b⟩)
      | (go_at_call 14; (with_reducible refine (k8.out _ b).mono ?_); rintro e w1 ⟨rfl, b⟩))
    all_goals (go_ret; exact ⟨rfl, b⟩)
theorem walk_next (w : World) (ht : LTab w) (a0 a1 : Int) (u1 : 0 ≤ a0) (u2 : a0 ≤ 255) (h1 : ¬ a1 < 2) (h2 : ¬ 1099511627776 < a1) (p q : Int) (hF : Found a1 p q) (hn : 4 * p + q + 1 < 96) :
    Calls Tryd.prog 4 #[.int .u8 a0, .int .i64 a1] w fun e w' => e = .returned (.bool true) ∧ Below w.heap.size w w' := by
  obtain ⟨i, hi⟩ : ∃ i, a0 % 92 = i := ⟨_, rfl⟩
  obtain ⟨m, hm⟩ : ∃ m, a0 % 93 = m := ⟨_, rfl⟩
  have i1 : 0 ≤ i := by omega
  have i2 : i ≤ 91 := by omega
  have m1 : 0 ≤ m := by omega
  have m2 : m ≤ 92 := by omega
  have k8 := lawake_to ht
  have b := Below.refl w.heap.size w
  have g0 := lgain_to ht (m - 64) _ rfl
  have g1 := lgain_to ht (m - 64 + 1) _ rfl
  have g4 := lgain_to ht (m - 64 + 4) _ rfl
  obtain ⟨f1, f2, f3, f4⟩ := gain_facts (m := m) (by omega) (by omega)
  have f5 := (gain_any (m - 64)).2
  have f6 := (gain_any (m - 64 + 4)).2
  have f7 := (gain_any (m - 64 + 1)).2
  have x0 := lamp_to ht (i / 4 + 1) (i % 4) _ rfl
  have x1 := lamp_to ht ((i + 1) / 4 + 1) ((i + 1) % 4) _ rfl
  have x4 := lamp_to ht (i / 4 + 1 + 1) (i % 4) _ rfl
  obtain ⟨e1, e2, e3⟩ := band_facts (i := i) (by omega) (by omega)
  have e5 := (amp_any (i / 4 + 1) (i % 4)).2
  have e6 := amp_any (i / 4 + 1 + 1) (i % 4)
  have e7 := amp_any ((i + 1) / 4 + 1) ((i + 1) % 4)
  have k1 := lfound_to ht a1 p q hF
  have k2 := lamp_to ht p q _ rfl
  have c1 := hF.c1
  have c2 := hF.c2
  have c3 := hF.f1
  have c4 := hF.f2
  have c5 := hF.le
  have k3 := lamp_to ht ((4 * p + q + 1) / 4) ((4 * p + q + 1) % 4) _ rfl
  have c6 := hF.next hn
  clear hF
  generalize ampF ((4 * p + q + 1) / 4) ((4 * p + q + 1) % 4) = U at *
  generalize ampF p q = V at *
  clear ht
  generalize gainF (m - 64 + 1) = G1 at *
  generalize gainF (m - 64 + 4) = G4 at *
  generalize gainF (m - 64) = G at *
  generalize ampF (i / 4 + 1 + 1) (i % 4) = Z at *
  generalize ampF ((i + 1) / 4 + 1) ((i + 1) % 4) = Y at *
  generalize ampF (i / 4 + 1) (i % 4) = X at *
  by_cases h88 : i < 88
  · have e8 := e2 (by omega)
    obtain ⟨e9, e10⟩ := e3 h88
    clear e2 e3
    have h23 : i / 4 + 1 < 23 := by omega
    have h91 : i < 91 := by omega
    go_enter Tryd.func4, Tryd.ntmps4
    go_wp2_with (first
      | (go_at_call 8; (with_reducible refine (x0.out _ b).mono ?_); rintro e w1 ⟨rfl, b⟩)
      | (go_at_call 8; (with_reducible refine (x1.out _ b).mono ?_); rintro e w1 ⟨rfl, b⟩)
      | (go_at_call 8; (with_reducible refine (x4.out _ b).mono ?_); rintro e w1 ⟨rfl, b⟩)
      | (go_at_call 10; (with_reducible refine (g0.out _ b).mono ?_); rintro e w1 ⟨rfl, b⟩)
      | (go_at_call 10; (with_reducible refine (g1.out _ b).mono ?_); rintro e w1 ⟨rfl, b⟩)
      | (go_at_call 10; (with_reducible refine (g4.out _ b).mono ?_); rintro e w1 ⟨rfl, b⟩)
      | (go_at_call 6; (with_reducible refine (k1.out _ b).mono ?_); rintro e w1 ⟨rfl, b⟩)
      | (go_at_call 8; (with_reducible refine (k2.out _ b).mono ?_); rintro e w1 ⟨rfl, b⟩)
      | (go_at_call 8; (with_reducible refine (k3.out _ b).mono ?_); rintro e w1 ⟨rfl, b⟩)
      | (go_at_call 14; (with_reducible refine (k8.out _ b).mono ?_); rintro e w1 ⟨rfl, b⟩))
    all_goals (go_ret; exact ⟨rfl, b⟩)
  have h23 : ¬ i / 4 + 1 < 23 := by omega
  by_cases h91 : i < 91
  · have e8 := e2 h91
    clear e2 e3
    go_enter Tryd.func4, Tryd.ntmps4
    go_wp2_with (first
      | (go_at_call 8; (with_reducible refine (x0.out _ b).mono ?_); rintro e w1 ⟨rfl, b⟩)
      | (go_at_call 8; (with_reducible refine (x1.out _ b).mono ?_); rintro e w1 ⟨rfl, b⟩)
      | (go_at_call 8; (with_reducible refine (x4.out _ b).mono ?_); rintro e w1 ⟨rfl, b⟩)
      | (go_at_call 10; (with_reducible refine (g0.out _ b).mono ?_); rintro e w1 ⟨rfl, b⟩)
      | (go_at_call 10; (with_reducible refine (g1.out _ b).mono ?_); rintro e w1 ⟨rfl, b⟩)
      | (go_at_call 10; (with_reducible refine (g4.out _ b).mono ?_); rintro e w1 ⟨rfl, b⟩)
      | (go_at_call 6; (with_reducible refine (k1.out _ b).mono ?_); rintro e w1 ⟨rfl, b⟩)
      | (go_at_call 8; (with_reducible refine (k2.out _ b).mono ?_); rintro e w1 ⟨rfl, b⟩)
      | (go_at_call 8; (with_reducible refine (k3.out _ b).mono ?_); rintro e w1 ⟨rfl, b⟩)
      | (go_at_call 14; (with_reducible refine (k8.out _ b).mono ?_); rintro e w1 ⟨rfl, b⟩))
    all_goals (go_ret; exact ⟨rfl, b⟩)
  · clear e2 e3
    go_enter Tryd.func4, Tryd.ntmps4
    go_wp2_with (first
      | (go_at_call 8; (with_reducible refine (x0.out _ b).mono ?_); rintro e w1 ⟨rfl, b⟩)
      | (go_at_call 8; (with_reducible refine (x1.out _ b).mono ?_); rintro e w1 ⟨rfl, b⟩)
      | (go_at_call 8; (with_reducible refine (x4.out _ b).mono ?_); rintro e w1 ⟨rfl, b⟩)
      | (go_at_call 10; (with_reducible refine (g0.out _ b).mono ?_); rintro e w1 ⟨rfl, b⟩)
      | (go_at_call 10; (with_reducible refine (g1.out _ b).mono ?_); rintro e w1 ⟨rfl, b⟩)
      | (go_at_call 10; (with_reducible refine (g4.out _ b).mono ?_); rintro e w1 ⟨rfl, b⟩)
      | (go_at_call 6; (with_reducible refine (k1.out _ b).mono ?_); rintro e w1 ⟨rfl, b⟩)
      | (go_at_call 8; (with_reducible refine (k2.out _ b).mono ?_); rintro e w1 ⟨rfl, b⟩)
      | (go_at_call 8; (with_reducible refine (k3.out _ b).mono ?_); rintro e w1 ⟨rfl, b⟩)
      | (go_at_call 14; (with_reducible refine (k8.out _ b).mono ?_); rintro e w1 ⟨rfl, b⟩))
    all_goals (go_ret; exact ⟨rfl, b⟩)
theorem walk (w : World) (ht : LTab w) (a0 : Int) (w0 : (Lit.int .u8 a0).wf = true) (a1 : Int) (w1 : (Lit.int .i64 a1).wf = true) :
    Calls Tryd.prog 4 #[.int .u8 a0, .int .i64 a1] w fun e w' => e = .returned (.bool true) ∧ Below w.heap.size w w' := by
  have hw0 : IntKind.u8.min ≤ a0 ∧ a0 ≤ IntKind.u8.max := by simpa [Lit.wf] using w0
  have hw : 0 ≤ a0 ∧ a0 ≤ 255 := hw0
  by_cases h1 : a1 < 2
  · exact walk_out w ht a0 a1 hw.1 hw.2 (.inl h1)
  by_cases h2 : 1099511627776 < a1
  · exact walk_out w ht a0 a1 hw.1 hw.2 (.inr h2)
  obtain ⟨p, q, hF⟩ := found_ex (a := a1) (by omega)
  by_cases hn : 96 ≤ 4 * p + q + 1
  · exact walk_last w ht a0 a1 hw.1 hw.2 h1 h2 p q hF hn
  · exact walk_next w ht a0 a1 hw.1 hw.2 h1 h2 p q hF (by omega)

set_option maxRecDepth 100000 in
theorem lifted (os : Os) (started : os.Started) (H : Type) (enc : TypeId × Value → H) :
    ReturnsInHanded {} Tryd.checked os 4 .any (fun w args => (Rows.levelStepsSpec.pre enc Tryd.prog Tryd.f4 [] false w args ∧ laidMetH Tryd.prog Rows.levelStepsRow.laid w) ∧ sizedMet enc Tryd.prog Tryd.f4 (OpenSpec.ofChange Rows.levelStepsSpec) false w args)
      (Rows.levelStepsSpec.post enc Tryd.prog Tryd.f4 false true false false) := by
  refine returnsInHanded_of_change_and (C := Tryd.checked) (X := fun w _ => laidMetH Tryd.prog Rows.levelStepsRow.laid w) (fun _ _ _ hh h => h.of_heap hh) own started (by kernel_rfl) Tryd.func4
    (ChangeSpec.witness_shaped (enc := enc) (C := Tryd.checked) (os := os) (X := fun w _ => laidMetH Tryd.prog Rows.levelStepsRow.laid w) false (World.laidAll Tryd.prog os Rows.levelStepsRow.laid) #[.int .u8 0, .int .i64 0] 8 (World.laidAll_os _ _ _)
      (World.shaped_of_ZipB (by kernel_rfl) (by kernel_rfl)) (by kernel_rfl) (by kernel_rfl) (by kernel_rfl)
      (by rw [MakeChecks.laidMetH_plain _ _ _ (by kernel_rfl)]; exact laidMet_laidAll _ (by kernel_rfl) (by kernel_rfl))) ?_
  intro W base args ds gs before hval0 hW _ _ hL _
  have hval : ∀ (j : Nat) t v, Tryd.f4.params[j]? = some t → args[j]? = some v → Value.okWide Tryd.prog W .any base t v := hval0
  have hW' := hW
  obtain ⟨p, q, hA0, hV, rfl, hfz, hnd⟩ := hW
  have hA : DataW.TrodAll enc Tryd.prog W 0 (fun _ => true) true Tryd.f4.params.toList args.toList ds p := hA0
  rw [Tryd.params4] at hA hval
  obtain ⟨v0, vs0, d0, ds0, p0, q0, hargs, rfl, rfl, h0, r0⟩ := trodAll_cons hA
  obtain ⟨v1, vs1, d1, ds1, p1, q1, rfl, rfl, rfl, h1, r1⟩ := trodAll_cons r0
  obtain ⟨rfl, rfl, rfl⟩ := trodAll_nil r1
  obtain rfl : args = #[v0, v1] := by cases args; simp_all
  obtain ⟨rfl, rfl⟩ := trodVars_none hV
  obtain ⟨a0, rfl, rfl, rfl, w0⟩ := open_int Tryd.underlying5 (hval 0 5 v0 rfl rfl) h0
  obtain ⟨a1, rfl, rfl, rfl, w1⟩ := open_int Tryd.underlying3 (hval 1 3 v1 rfl rfl) h1
  clear hA0 hval0
  refine (walk W (ltab_of_laid (by kernel_rfl) hL (by simp [Rows.levelStepsRow])) a0 w0 a1 w1).mono fun e W' ⟨he, bel⟩ => ?_
  subst he
  exact ⟨_, rfl, _, _, _, [], _, [], hW', trodAll_mk1 (shut_bool Tryd.underlying4 _), (trodAll_cons_mk (shut_int Tryd.underlying5 w0) (trodAll_cons_mk (shut_int Tryd.underlying3 w1) trodAll_mk0)), rfl, bel.frame _, fun h => by cases h⟩

theorem over : Rows.levelStepsRow.holds Tryd.pinned (OpenSpec.ofChange Rows.levelStepsSpec) :=
  OpenClaim.holds_of_wide 4 Tryd.f4 rfl rfl rfl rfl rfl rfl rfl ⟨rfl, rfl, rfl, rfl, rfl⟩ rfl rfl rfl rfl rfl (by kernel_rfl) Tryd.func4 (by kernel_rfl)
    (of_decide_eq_true (by kernel_rfl)) (by unfold Func.isWrapper; first | (rw [if_pos (by decide +kernel)]; kernel_rfl) | (rw [if_neg (by decide +kernel)]; exact ⟨rfl, rfl⟩))
    (fun os started H enc _ => lifted os started H enc)

theorem plain (f : FuncId) (fn : Func) (hf : Tryd.pinned.checked.prog.funcNamed "splicer/splicerlaw08.LevelSteps" = some f) (hfn : Tryd.pinned.checked.prog.funcs[f]? = some fn) :
    false = Tryd.pinned.checked.prog.looks [] ∧ ∀ (j : Nat) t, fn.params[j]? = some t → Tryd.pinned.checked.prog.wantsStandIn t = false := by
  obtain rfl : f = 4 := Option.some.inj ((show Tryd.prog.funcNamed "splicer/splicerlaw08.LevelSteps" = some 4 by kernel_rfl).symm.trans hf) |>.symm
  obtain rfl : fn = Tryd.f4 := (Option.some.inj (Tryd.func4.symm.trans hfn)).symm
  refine ⟨by kernel_rfl, fun j t ht => ?_⟩
  rw [Tryd.params4] at ht
  have hm : t ∈ [5, 3] := by simpa using Array.mem_of_getElem? ht
  have hall : ([5, 3].all fun u => !Tryd.prog.wantsStandIn u) = true := by kernel_rfl
  exact (show Tryd.prog.wantsStandIn t = false by simpa using List.all_eq_true.1 hall t hm)

/-- The statement. -/
theorem proved : Rows.LevelStepsCardSaid :=
  Claim7.holds_tied_plain_at .later [] _ _ _ _ over (fun _ h => by cases h) (by kernel_rfl) (fun _ h => by cases h) levelSteps_row_tie rfl ⟨rfl, rfl⟩ (by kernel_rfl) rfl plain (by kernel_rfl)
#print axioms proved
end Go.Proofs.YtchchemcaaggmaaDoor.levelSteps
