/-
  The contract of level.Find over the landed text.
-/
import Derived.Test.YtlfhjcalkokhiaaDoorLAB
namespace Go.Proofs.YtlfhjcalkokhiaaDoor
open Go.ChangeShapes Go.WideShapes Go.ChangeAt Go.RowKit
set_option linter.unusedVariables false

theorem lfind_none (a : Int) (h : a < 2) (w : World) :
    Calls Tryd.prog 27 #[.int .i64 a] w fun e w' => e = .returned (.tuple #[.int .i64 0, .int .i64 0]) ∧ w' = w := by
  go_enter Tryd.func27, Tryd.ntmps27
  go_wp2
  go_ret2
  exact ⟨rfl, rfl⟩
theorem lfind_some (a : Int) (h : 2 ≤ a) (w : World) (ht : LTab w) :
    Calls Tryd.prog 27 #[.int .i64 a] w fun e w' => ∃ c f, e = .returned (.tuple #[.int .i64 c, .int .i64 f]) ∧ Found a c f ∧ Below w.heap.size w w' := by
  have HA : Hid (∀ (c f : Int) W, Below w.heap.size w W → Calls Tryd.prog 18 #[.int .i64 c, .int .i64 f] W fun e w' => e = .returned (.int .i64 (ampF c f)) ∧ Below w.heap.size w w') :=
    fun c f W hW => (lamp_any c f W (ht.below hW)).mono fun e w' ⟨he, hb⟩ => ⟨he, below_then hW hb⟩
  have A1 : Hid (ampF 1 0 ≤ a) := by show ampF 1 0 ≤ a; rw [amp10]; exact h
  clear ht
  go_enter Tryd.func27, Tryd.ntmps27
  go_wp2
  go_loopw [4] (fun c wr => ∃ k : Nat, 1 ≤ k ∧ k ≤ 23 ∧ c = .int .i64 k ∧ Hid (ampF k 0 ≤ a) ∧ Hid (Below w.heap.size w wr)) (fun c _ => 23 - (intOf c).toNat)
  case atStart => exact ⟨1, by omega, by omega, rfl, A1, Below.refl _ _⟩
  case round =>
    obtain ⟨k, k1, k2, rfl, hk, hb⟩ := hrel
    by_cases hlt : k < 23
    · have HC := HA.out ((k + 1 : Nat) : Int) 0 wr hb.out
      rw [show ((k + 1 : Nat) : Int) = (k : Int) + 1 by omega] at HC
      have HC : Hid (Calls Tryd.prog 18 #[.int .i64 ((k : Int) + 1), .int .i64 0] wr fun e w' => e = .returned (.int .i64 (ampF ((k : Int) + 1) 0)) ∧ Below w.heap.size w w') := HC
      have HK : Hid (ampF ((k : Int) + 1) 0 = ampF ((k + 1 : Nat) : Int) 0) := by show _ = _; congr 1
      by_cases hle : ampF ((k : Int) + 1) 0 ≤ a
      · have hlt' : (k : Int) < 23 := by omega
        generalize ampF ((k : Int) + 1) 0 = R at *
        go_wp2_with (go_at_call 18; refine (HC.out).mono ?_; rintro e w1 ⟨rfl, hb1⟩)
        exact ⟨⟨k + 1, by omega, by omega, by go_num, by show _ ≤ a; rw [← HK.out]; exact hle, hb1⟩, by simp [intOf]; omega⟩
      · have hlt' : (k : Int) < 23 := by omega
        have HN : Hid (∀ m : Int, m = (k : Int) + 1 → a < ampF m 0) := fun m hm => by subst hm; omega
        generalize ampF ((k : Int) + 1) 0 = R at *
        go_wp2_with (go_at_call 18; refine (HC.out).mono ?_; rintro e w1 ⟨rfl, hb1⟩)
        go_loopw [5] (fun f wr => ∃ j : Nat, j ≤ 3 ∧ f = .int .i64 j ∧ Hid (ampF k j ≤ a) ∧ Hid (Below w.heap.size w wr)) (fun f _ => 3 - (intOf f).toNat)
        case atStart => exact ⟨0, by omega, rfl, hk, hb1⟩
        case round =>
          obtain ⟨j, j1, rfl, hj, hb2⟩ := hrel
          by_cases hj3 : j < 3
          · have HD : Hid (Calls Tryd.prog 18 #[.int .i64 k, .int .i64 ((j : Int) + 1)] wr fun e w' => e = .returned (.int .i64 (ampF k ((j : Int) + 1))) ∧ Below w.heap.size w w') := HA.out k ((j : Int) + 1) wr hb2.out
            have HJ : Hid (ampF k ((j : Int) + 1) = ampF k ((j + 1 : Nat) : Int)) := by show _ = _; congr 1
            have hj3' : (j : Int) < 3 := by omega
            by_cases hle2 : ampF k ((j : Int) + 1) ≤ a
            · generalize ampF k ((j : Int) + 1) = R2 at *
              go_wp2_with (go_at_call 18; refine (HD.out).mono ?_; rintro e w3 ⟨rfl, hb3⟩)
              exact ⟨⟨j + 1, by omega, by go_num, by show _ ≤ a; rw [← HJ.out]; exact hle2, hb3⟩, by simp [intOf]; omega⟩
            · have HF : Hid (Found a k j) := ⟨by omega, by omega, by omega, by omega, hj.out, .inr (HN.out _ rfl), .inr (by omega)⟩
              generalize ampF k ((j : Int) + 1) = R2 at *
              go_wp2_with (go_at_call 18; refine (HD.out).mono ?_; rintro e w3 ⟨rfl, hb3⟩)
              go_ret2
              exact ⟨_, _, rfl, HF.out, hb3⟩
          · have HF : Hid (Found a k j) := ⟨by omega, by omega, by omega, by omega, hj.out, .inr (HN.out _ rfl), .inl (by omega)⟩
            have hj3' : ¬ (j : Int) < 3 := by omega
            go_wp2
            go_ret2
            exact ⟨_, _, rfl, HF.out, hb2.out⟩
    · have hlt' : ¬ (k : Int) < 23 := by omega
      have h23 : Hid ((k : Int) = 23) := by show _ = _; omega
      go_wp2
      go_loopw [5] (fun f wr => ∃ j : Nat, j ≤ 3 ∧ f = .int .i64 j ∧ Hid (ampF k j ≤ a) ∧ Hid (Below w.heap.size w wr)) (fun f _ => 3 - (intOf f).toNat)
      case atStart => exact ⟨0, by omega, rfl, hk, hb⟩
      case round =>
        obtain ⟨j, j1, rfl, hj, hb2⟩ := hrel
        by_cases hj3 : j < 3
        · have HD : Hid (Calls Tryd.prog 18 #[.int .i64 k, .int .i64 ((j : Int) + 1)] wr fun e w' => e = .returned (.int .i64 (ampF k ((j : Int) + 1))) ∧ Below w.heap.size w w') := HA.out k ((j : Int) + 1) wr hb2.out
          have HJ : Hid (ampF k ((j : Int) + 1) = ampF k ((j + 1 : Nat) : Int)) := by show _ = _; congr 1
          have hj3' : (j : Int) < 3 := by omega
          by_cases hle2 : ampF k ((j : Int) + 1) ≤ a
          · generalize ampF k ((j : Int) + 1) = R2 at *
            go_wp2_with (go_at_call 18; refine (HD.out).mono ?_; rintro e w3 ⟨rfl, hb3⟩)
            exact ⟨⟨j + 1, by omega, by go_num, by show _ ≤ a; rw [← HJ.out]; exact hle2, hb3⟩, by simp [intOf]; omega⟩
          · have HF : Hid (Found a k j) := ⟨by omega, by omega, by omega, by omega, hj.out, .inl h23.out, .inr (by omega)⟩
            generalize ampF k ((j : Int) + 1) = R2 at *
            go_wp2_with (go_at_call 18; refine (HD.out).mono ?_; rintro e w3 ⟨rfl, hb3⟩)
            go_ret2
            exact ⟨_, _, rfl, HF.out, hb3⟩
        · have HF : Hid (Found a k j) := ⟨by omega, by omega, by omega, by omega, hj.out, .inl h23.out, .inl (by omega)⟩
          have hj3' : ¬ (j : Int) < 3 := by omega
          go_wp2
          go_ret2
          exact ⟨_, _, rfl, HF.out, hb2.out⟩
theorem lfind_any (a : Int) (w : World) (ht : LTab w) :
    Calls Tryd.prog 27 #[.int .i64 a] w fun e w' => ∃ c f, e = .returned (.tuple #[.int .i64 c, .int .i64 f]) ∧ Finds a c f ∧ Below w.heap.size w w' := by
  by_cases h : a < 2
  · refine (lfind_none a h w).mono ?_
    rintro e w' ⟨rfl, rfl⟩
    exact ⟨0, 0, rfl, .inl ⟨h, rfl, rfl⟩, Below.refl _ _⟩
  · refine (lfind_some a (by omega) w ht).mono ?_
    rintro e w' ⟨c, f, rfl, hf, hb⟩
    exact ⟨c, f, rfl, .inr hf, hb⟩
end Go.Proofs.YtlfhjcalkokhiaaDoor
