/-
  The document's Width, Start and Of.
-/
import Derived.Test.YtmeldmmeaiiflaaDoorLYA
import Derived.Test.YtmeldmmeaiiflaaDoorIC
namespace Go.Proofs.YtmeldmmeaiiflaaDoor
open Go.ChangeShapes Go.WideShapes Go.ChangeAt Go.RowKit
set_option linter.unusedVariables false

theorem rwidth_any (b : Int) (w : World) : Calls Tryd.prog 7 #[.int .i64 b] w fun e w' => e = .returned (.int .i64 (widF b)) ∧ w' = w := by
  unfold widF
  by_cases h1 : b < 0
  · rw [if_pos (.inl h1)]
    go_enter Tryd.func7, Tryd.ntmps7
    go_wp2
    go_ret
    exact ⟨rfl, rfl⟩
  · by_cases h2 : 12 < b
    · rw [if_pos (.inr h2)]
      go_enter Tryd.func7, Tryd.ntmps7
      go_wp2
      go_ret
      exact ⟨rfl, rfl⟩
    · rw [if_neg (by omega)]
      by_cases h3 : b < 4
      · rw [if_pos h3]
        go_enter Tryd.func7, Tryd.ntmps7
        go_wp2
        go_ret
        exact ⟨rfl, rfl⟩
      · rw [if_neg h3]
        by_cases h4 : b < 8
        · rw [if_pos h4]
          go_enter Tryd.func7, Tryd.ntmps7
          go_wp2
          go_ret
          exact ⟨rfl, rfl⟩
        · rw [if_neg h4]
          go_enter Tryd.func7, Tryd.ntmps7
          go_wp2
          go_ret
          exact ⟨rfl, rfl⟩
theorem rwidth_nat {b : Nat} (h : b < 13) (w : World) : Calls Tryd.prog 7 #[.int .i64 (b : Int)] w fun e w' => e = .returned (.int .i64 ((widN b : Nat) : Int)) ∧ w' = w := by
  have := rwidth_any (b : Int) w
  rwa [widF_nat h] at this
theorem rstart_any (b : Int) (w : World) : Calls Tryd.prog 9 #[.int .i64 b] w fun e w' => e = .returned (.int .i64 (begF b)) ∧ w' = w := by
  by_cases h : b < 0 ∨ 12 < b
  · unfold begF
    rw [if_pos h]
    by_cases h1 : b < 0
    · have h2 : ¬ (0 < b) := by omega
      clear h
      go_enter Tryd.func9, Tryd.ntmps9
      go_wp2
      go_loopw [3, 4] (fun n i wr => n = .int .i64 0 ∧ i = .int .i64 0 ∧ Hid (wr = w)) (fun _ _ _ => 0)
      case atStart => exact ⟨rfl, rfl, rfl⟩
      case round =>
        obtain ⟨rfl, rfl, HW⟩ := hrel
        go_wp2
        go_ret
        exact ⟨rfl, HW.out⟩
    · have h2 : 0 < b := by omega
      have h3 : ¬ (b ≤ 12) := by omega
      clear h
      go_enter Tryd.func9, Tryd.ntmps9
      go_wp2
      go_loopw [3, 4] (fun n i wr => n = .int .i64 0 ∧ i = .int .i64 0 ∧ Hid (wr = w)) (fun _ _ _ => 0)
      case atStart => exact ⟨rfl, rfl, rfl⟩
      case round =>
        obtain ⟨rfl, rfl, HW⟩ := hrel
        go_wp2
        go_ret
        exact ⟨rfl, HW.out⟩
  · obtain ⟨c, rfl⟩ : ∃ c : Nat, b = c := ⟨b.toNat, by omega⟩
    rw [begF_nat (by omega)]
    have hc : c ≤ 12 := by omega
    have hc' : (c : Int) ≤ 12 := by omega
    clear h
    go_enter Tryd.func9, Tryd.ntmps9
    go_wp2
    go_loopw [3, 4] (fun n i wr => ∃ k : Nat, k ≤ c ∧ n = .int .i64 ((begN k : Nat) : Int) ∧ i = .int .i64 (k : Int) ∧ Hid (wr = w)) (fun _ i _ => c - (intOf i).toNat)
    case atStart => exact ⟨0, Nat.zero_le _, rfl, rfl, rfl⟩
    case round =>
      obtain ⟨k, hk, rfl, rfl, HW⟩ := hrel
      by_cases hlt : k < c
      · have KW := hid (rwidth_nat (b := k) (by omega))
        have hn := begN_next (b := k) (by omega)
        have h64 := begN_in (b := k) (by omega)
        generalize widN k = x at *
        generalize begN k = y at *
        obtain ⟨v, hv⟩ : ∃ v, v = begN (k + 1) := ⟨_, rfl⟩
        have HV := hid hv
        have e : (y : Int) + (x : Int) = (v : Int) := by omega
        clear hn hv
        go_wp2_with (go_at_call 7; (with_reducible refine (KW.out _).mono ?_); rintro e w1 ⟨rfl, rfl⟩)
        refine ⟨⟨k + 1, by omega, by rw [← HV.out], by go_num, HW⟩, by simp [intOf]; omega⟩
      · obtain rfl : k = c := by omega
        go_wp2
        go_ret
        exact ⟨rfl, HW.out⟩
theorem rstart_nat {b : Nat} (h : b < 13) (w : World) : Calls Tryd.prog 9 #[.int .i64 (b : Int)] w fun e w' => e = .returned (.int .i64 ((begN b : Nat) : Int)) ∧ w' = w := by
  have := rstart_any (b : Int) w
  rwa [begF_nat h] at this
theorem rof_any (p : Int) (w : World) : Calls Tryd.prog 11 #[.int .i64 p] w fun e w' => e = .returned (.int .i64 (ofF p)) ∧ w' = w := by
  go_enter Tryd.func11, Tryd.ntmps11
  go_wp2
  go_loopw [3] (fun i wr => ∃ k : Nat, k ≤ 13 ∧ i = .int .i64 (k : Int) ∧ Hid (∀ b : Nat, b < k → ¬ (((begN b : Nat) : Int) ≤ p ∧ p < ((begN b : Nat) : Int) + ((widN b : Nat) : Int))) ∧ Hid (wr = w)) (fun i _ => 13 - (intOf i).toNat)
  case atStart => exact ⟨0, Nat.zero_le _, rfl, fun b hb => by omega, rfl⟩
  case round =>
    obtain ⟨k, hk, rfl, HN, HW⟩ := hrel
    by_cases hlt : k < 13
    · have KW := hid (rwidth_nat (b := k) hlt)
      have KS := hid (rstart_nat (b := k) hlt)
      have hof := hid (of_in (b := k) hlt (k := p))
      have h64 := begN_in (b := k) hlt
      have HNX : Hid (¬ (((begN k : Nat) : Int) ≤ p ∧ p < ((begN k : Nat) : Int) + ((widN k : Nat) : Int)) → ∀ b : Nat, b < k + 1 → ¬ (((begN b : Nat) : Int) ≤ p ∧ p < ((begN b : Nat) : Int) + ((widN b : Nat) : Int))) := fun h b hb => by
        by_cases e : b = k
        · subst e; exact h
        · exact HN.out b (by omega)
      generalize widN k = x at *
      generalize begN k = y at *
      by_cases h1 : (y : Int) ≤ p
      · by_cases h2 : p < (y : Int) + (x : Int)
        · have HR := hid (hof.out h1 h2)
          clear hof HNX
          go_wp2_with (first
            | (go_at_call 7; (with_reducible refine (KW.out _).mono ?_); rintro e w1 ⟨rfl, rfl⟩)
            | (go_at_call 9; (with_reducible refine (KS.out _).mono ?_); rintro e w1 ⟨rfl, rfl⟩))
          go_ret
          exact ⟨ret_int HR.out.symm, HW.out⟩
        · have HN2 := hid (HNX.out (by omega))
          clear hof HNX HN
          go_wp2_with (first
            | (go_at_call 7; (with_reducible refine (KW.out _).mono ?_); rintro e w1 ⟨rfl, rfl⟩)
            | (go_at_call 9; (with_reducible refine (KS.out _).mono ?_); rintro e w1 ⟨rfl, rfl⟩))
          exact ⟨⟨k + 1, by omega, by go_num, HN2, HW⟩, by simp [intOf]; omega⟩
      · have HN2 := hid (HNX.out (by omega))
        clear hof HNX HN
        go_wp2_with (first
          | (go_at_call 7; (with_reducible refine (KW.out _).mono ?_); rintro e w1 ⟨rfl, rfl⟩)
          | (go_at_call 9; (with_reducible refine (KS.out _).mono ?_); rintro e w1 ⟨rfl, rfl⟩))
        exact ⟨⟨k + 1, by omega, by go_num, HN2, HW⟩, by simp [intOf]; omega⟩
    · obtain rfl : k = 13 := by omega
      have HR := hid (of_none HN.out)
      go_wp2
      go_ret
      exact ⟨ret_int HR.out.symm, HW.out⟩
end Go.Proofs.YtmeldmmeaiiflaaDoor
