/-
  The contract of the document's Right.
-/
import Derived.Test.YtgkjjkdjalbfaaaDoorFB
namespace Go.Proofs.YtgkjjkdjalbfaaaDoor
open Go.ChangeShapes Go.WideShapes Go.ChangeAt Go.RowKit
set_option linter.unusedVariables false

def rightB (X Y : Nat → Int) (la lb : Nat) : Bool := decide (la = lb) && fitsF la && okL X la && okL Y lb
theorem half_all2 : ∀ j : Nat, j < 7 → ∀ c : Nat, c < 65 → 2 ^ j * c < 65 → c % 2 = 1 → (decide ((c : Int) = 1)) = fitsF ((2 ^ j * c : Nat) : Int) := by decide +kernel
theorem half_end {n j c : Nat} (hn : n ≤ 64) (e : n = 2 ^ j * c) (h : c % 2 = 1) : (decide ((c : Int) = 1)) = fitsF (n : Int) := by
  have h1 : 2 ^ j ≤ n := by rw [e]; exact Nat.le_mul_of_pos_right _ (by omega)
  have h2 : j < 7 := by
    apply Decidable.byContradiction
    intro hj
    have : 2 ^ 7 ≤ 2 ^ j := Nat.pow_le_pow_right (by omega) (by omega)
    omega
  have h3 : c ≤ n := by rw [e]; exact Nat.le_mul_of_pos_left _ (Nat.two_pow_pos j)
  rw [half_all2 j h2 c (by omega) (by omega) h, ← e]
theorem rright_any (a c : Option Addr) (la ca lb cb : Nat) (X Y : Nat → Int) (w : World) (h : la ≤ 64 → IsInts w a la ca X) (h' : lb ≤ 64 → IsInts w c lb cb Y) (ml : la ≤ maxLen) (ml' : lb ≤ maxLen) :
    Calls Tryd.prog 43 #[.slice a la ca, .slice c lb cb] w fun e w' => e = .returned (.bool (rightB X Y la lb)) ∧ w' = w := by
  have hM : la ≤ 9223372036854775807 := Nat.le_trans ml (by decide)
  have hM' : lb ≤ 9223372036854775807 := Nat.le_trans ml' (by decide)
  by_cases h1 : ¬ la = lb
  · have hne : ((la : Int) == (lb : Int)) = false := by simp; omega
    have hr : rightB X Y la lb = false := by simp [rightB, h1]
    rw [hr]
    clear h h' ml ml' hr
    go_enter Tryd.func43, Tryd.ntmps43
    go_wp2
    go_ret
    exact ⟨rfl, rfl⟩
  have h1 := Decidable.not_not.1 h1
  subst h1
  by_cases h2 : la < 1
  · have hr : rightB X Y la la = false := by
      have : fitsF (la : Int) = false := if_neg (by omega)
      simp [rightB, this]
    rw [hr]
    clear h h' ml ml' hr
    go_enter Tryd.func43, Tryd.ntmps43
    go_wp2
    go_ret
    exact ⟨rfl, rfl⟩
  by_cases h3 : 64 < la
  · have hr : rightB X Y la la = false := by
      have : fitsF (la : Int) = false := if_neg (by omega)
      simp [rightB, this]
    rw [hr]
    clear h h' ml ml' hr
    go_enter Tryd.func43, Tryd.ntmps43
    go_wp2
    go_ret
    exact ⟨rfl, rfl⟩
  have H1 : Hid (Calls Tryd.prog 25 #[.slice a la ca, .int .i64 (-1048576), .int .i64 1048576] w fun e w' => e = .returned (.bool (okL X la)) ∧ w' = w) := rwithin_any a la ca X (by omega) w (h (by omega))
  have H2 : Hid (Calls Tryd.prog 25 #[.slice c la cb, .int .i64 (-1048576), .int .i64 1048576] w fun e w' => e = .returned (.bool (okL Y la)) ∧ w' = w) := rwithin_any c la cb Y (by omega) w (h' (by omega))
  have HR : Hid (rightB X Y la la = (fitsF la && okL X la && okL Y la)) := by show _ = _; simp [rightB]
  rw [HR.out]
  clear HR h h' ml ml'
  generalize okL X la = b1 at *
  generalize okL Y la = b2 at *
  cases b1
  · rw [Bool.and_false, Bool.false_and]
    go_enter Tryd.func43, Tryd.ntmps43
    go_wp2_with (go_at_call 25; refine H1.out.mono ?_; rintro e w1 ⟨rfl, rfl⟩)
    go_ret
    exact ⟨rfl, rfl⟩
  cases b2
  · rw [Bool.and_false]
    go_enter Tryd.func43, Tryd.ntmps43
    go_wp2_with (first
      | (go_at_call 25; (with_reducible refine H1.out.mono ?_); rintro e w1 ⟨rfl, rfl⟩)
      | (go_at_call 25; (with_reducible refine H2.out.mono ?_); rintro e w1 ⟨rfl, rfl⟩))
    go_ret
    exact ⟨rfl, rfl⟩
  rw [Bool.and_true, Bool.and_true]
  have HE : Hid (∀ j c : Nat, la = 2 ^ j * c → c % 2 = 1 → (decide ((c : Int) = 1)) = fitsF (la : Int)) := fun j c e h => half_end (by omega) e h
  have H0 : Hid (la = 2 ^ 0 * la) := by show _ = _; simp
  generalize fitsF (la : Int) = fb at *
  go_enter Tryd.func43, Tryd.ntmps43
  go_wp2_with (first
    | (go_at_call 25; (with_reducible refine H1.out.mono ?_); rintro e w1 ⟨rfl, rfl⟩)
    | (go_at_call 25; (with_reducible refine H2.out.mono ?_); rintro e w1 ⟨rfl, rfl⟩))
  go_loop [5] (fun i => ∃ c : Nat, 1 ≤ c ∧ c ≤ 64 ∧ i = .int .i64 c ∧ Hid (∃ j, la = 2 ^ j * c)) (fun i => (intOf i).toNat)
  case atStart => exact ⟨la, by omega, by omega, rfl, ⟨0, H0.out⟩⟩
  case round =>
    obtain ⟨c, hc1, hc2, rfl, HJ⟩ := hrel
    by_cases he : c % 2 = 0
    · have t1 : (c : Int).tmod 2 = 0 := by rw [Int.tmod_eq_emod_of_nonneg (by omega)]; omega
      have t2 : (c : Int).tdiv 2 = ((c / 2 : Nat) : Int) := by rw [Int.tdiv_eq_ediv_of_nonneg (by omega)]; omega
      go_wp2
      refine ⟨⟨c / 2, by omega, by omega, by go_num, ?_⟩, by simp [intOf]; omega⟩
      obtain ⟨j, hj⟩ := HJ.out
      refine ⟨j + 1, ?_⟩
      rw [hj, Nat.pow_succ, Nat.mul_assoc]
      congr 1; omega
    · have t1 : (c : Int).tmod 2 = 1 := by rw [Int.tmod_eq_emod_of_nonneg (by omega)]; omega
      go_wp2
      go_ret
      obtain ⟨j, hj⟩ := HJ.out
      refine ⟨?_, rfl⟩
      rw [← HE.out j c hj (by omega)]
      rfl
end Go.Proofs.YtgkjjkdjalbfaaaDoor
