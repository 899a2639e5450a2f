/-
  The contracts of Band, the program's and the document's.
-/
import Derived.Test.YtjfngheefnmolaaDoorALA
import Derived.Test.YtjfngheefnmolaaDoorIC
namespace Go.Proofs.YtjfngheefnmolaaDoor
open Go.ChangeShapes Go.WideShapes Go.ChangeAt Go.RowKit
set_option linter.unusedVariables false

def heldF (x low high : Int) : Int := if x < low then low else if high < x then high else x
theorem held_any (x low high : Int) (hh : low ≤ high) (w : World) : Calls Tryd.prog 14 #[.int .i64 x, .int .i64 low, .int .i64 high] w fun e w' => e = .returned (.int .i64 (heldF x low high)) ∧ w' = w := by
  by_cases h1 : x < low
  · have e : heldF x low high = low := if_pos h1
    rw [e]
    go_enter Tryd.func14, Tryd.ntmps14
    go_wp2
    all_goals (go_ret; exact ⟨ret_int (by omega), rfl⟩)
  · by_cases h2 : high < x
    · have e : heldF x low high = high := by rw [heldF, if_neg h1, if_pos h2]
      rw [e]
      go_enter Tryd.func14, Tryd.ntmps14
      go_wp2
      all_goals (go_ret; exact ⟨ret_int (by omega), rfl⟩)
    · have e : heldF x low high = x := by rw [heldF, if_neg h1, if_neg h2]
      rw [e]
      go_enter Tryd.func14, Tryd.ntmps14
      go_wp2
      all_goals (go_ret; exact ⟨ret_int (by omega), rfl⟩)
theorem eq_held (x low high : Int) (hh : low ≤ high) : (x == heldF x low high) = (decide (low ≤ x) && decide (x ≤ high)) := by
  unfold heldF
  split
  · rename_i h
    rw [decide_eq_false (show ¬ low ≤ x by omega)]
    simp; omega
  · split
    · rename_i h1 h
      rw [decide_eq_false (show ¬ x ≤ high by omega)]
      simp; omega
    · rename_i h1 h2
      rw [decide_eq_true (show low ≤ x by omega), decide_eq_true (show x ≤ high by omega)]
      simp
theorem quality_any (q : Int) (w : World) : Calls Tryd.prog 11 #[.int .i64 q] w fun e w' => e = .returned (.bool (decide (0 ≤ q) && decide (q ≤ 10))) ∧ w' = w := by
  have K := hid (held_any q 0 10 (by omega) w)
  have he := hid (eq_held q 0 10 (by omega))
  generalize heldF q 0 10 = y at K he
  go_enter Tryd.func11, Tryd.ntmps11
  go_wp2_with (fail)
  refine Calls.mono K.out ?_
  rintro e w1 ⟨rfl, rfl⟩
  go_wp2
  go_ret
  exact ⟨ret_bool he.out, rfl⟩
theorem sounds_any (q : Int) (w : World) : Calls Tryd.prog 12 #[.int .i64 q] w fun e w' => e = .returned (.bool (decide (1 ≤ q) && decide (q ≤ 23))) ∧ w' = w := by
  have K := hid (held_any q 1 23 (by omega) w)
  have he := hid (eq_held q 1 23 (by omega))
  generalize heldF q 1 23 = y at K he
  go_enter Tryd.func12, Tryd.ntmps12
  go_wp2_with (fail)
  refine Calls.mono K.out ?_
  rintro e w1 ⟨rfl, rfl⟩
  go_wp2
  go_ret
  exact ⟨ret_bool he.out, rfl⟩
theorem share_any (x : Int) (w : World) : Calls Tryd.prog 13 #[.int .i64 x] w fun e w' => e = .returned (.int .i64 (alS x)) ∧ w' = w := by
  by_cases h2 : x = 2
  · subst h2
    go_enter Tryd.func13, Tryd.ntmps13
    go_wp2
    go_ret
    exact ⟨rfl, rfl⟩
  by_cases h4 : x = 4
  · subst h4
    go_enter Tryd.func13, Tryd.ntmps13
    go_wp2
    go_ret
    exact ⟨rfl, rfl⟩
  by_cases h8 : x = 8
  · subst h8
    go_enter Tryd.func13, Tryd.ntmps13
    go_wp2
    go_ret
    exact ⟨rfl, rfl⟩
  have e : alS x = 0 := by rw [alS, if_neg h2, if_neg h4, if_neg h8]
  have e2 : (x == 2) = false := by simpa using h2
  have e4 : (x == 4) = false := by simpa using h4
  have e8 : (x == 8) = false := by simpa using h8
  rw [e]
  clear h2 h4 h8
  go_enter Tryd.func13, Tryd.ntmps13
  go_wp2
  go_ret
  exact ⟨rfl, rfl⟩
theorem held_al {q c : Int} : heldF (c + q - 8) 0 8 = alP q c := by
  unfold heldF alP
  by_cases h1 : c + q < 8
  · rw [if_pos (by omega), if_pos h1]
  · rw [if_neg (by omega), if_neg h1]
    by_cases h2 : 16 < c + q
    · rw [if_pos (by omega), if_pos h2]
    · rw [if_neg (by omega), if_neg h2]
/-- P15.1: Band, of any numbers. -/
theorem band_any (q c x : Int) (w : World) : Calls Tryd.prog 6 #[.int .i64 q, .int .i64 c, .int .i64 x] w fun e w' => e = .returned (.int .i64 (bandF q c x)) ∧ w' = w := by
  have K1 := hid (quality_any q w)
  have K2 := hid (sounds_any c w)
  cases hq : (decide (0 ≤ q) && decide (q ≤ 10)) with
  | false =>
    rw [hq] at K1
    have e : bandF q c x = 0 := band_no x (by simp at hq; omega)
    rw [e]
    clear hq e
    go_enter Tryd.func6, Tryd.ntmps6
    go_wp2_with (fail)
    refine Calls.mono K1.out ?_
    rintro e w1 ⟨rfl, rfl⟩
    go_wp2
    go_ret
    exact ⟨rfl, rfl⟩
  | true =>
    rw [hq] at K1
    cases hc : (decide (1 ≤ c) && decide (c ≤ 23)) with
    | false =>
      rw [hc] at K2
      have e : bandF q c x = 0 := band_no x (by simp at hc; omega)
      rw [e]
      clear hq hc e
      go_enter Tryd.func6, Tryd.ntmps6
      go_wp2_with (fail)
      refine Calls.mono K1.out ?_
      rintro e w1 ⟨rfl, rfl⟩
      go_wp2_with (fail)
      refine Calls.mono K2.out ?_
      rintro e w1 ⟨rfl, rfl⟩
      go_wp2
      go_ret
      exact ⟨rfl, rfl⟩
    | true =>
      rw [hc] at K2
      have hb : 0 ≤ q ∧ q ≤ 10 ∧ 1 ≤ c ∧ c ≤ 23 := by simp at hq hc; omega
      have K3 := hid (share_any x w)
      have K4 := hid (held_any (c + q - 8) 0 8 (by omega) w)
      have hp := alP_in q c
      have hs := alS_in x
      have e := band_yes x hb
      rw [held_al] at K4
      rw [e]
      have hm : IntKind.i64.wrap (alS x * alP q c) = alS x * alP q c := by
        have : 0 ≤ alS x * alP q c ∧ alS x * alP q c ≤ 24 := by rw [← e]; exact band_in q c x
        simp [IntKind.wrap, IntKind.signed, IntKind.bits]; omega
      generalize alP q c = p at *
      generalize alS x = s at *
      clear hq hc e hp hs
      go_enter Tryd.func6, Tryd.ntmps6
      go_wp2_with (fail)
      refine Calls.mono K1.out ?_
      rintro e w1 ⟨rfl, rfl⟩
      go_wp2_with (fail)
      refine Calls.mono K2.out ?_
      rintro e w1 ⟨rfl, rfl⟩
      go_wp2_with (fail)
      refine Calls.mono K3.out ?_
      rintro e w1 ⟨rfl, rfl⟩
      go_wp2_with (fail)
      refine Calls.mono K4.out ?_
      rintro e w1 ⟨rfl, rfl⟩
      go_wp2
      go_ret
      exact ⟨rfl, rfl⟩
/-- The document's. -/
theorem rband_any (q c x : Int) (w : World) : Calls Tryd.prog 7 #[.int .i64 q, .int .i64 c, .int .i64 x] w fun e w' => e = .returned (.int .i64 (bandF q c x)) ∧ w' = w := by
  by_cases h1 : q < 0
  · rw [band_no x (.inl h1)]
    go_enter Tryd.func7, Tryd.ntmps7
    go_wp2
    go_ret
    exact ⟨rfl, rfl⟩
  by_cases h2 : 10 < q
  · rw [band_no x (.inr (.inl h2))]
    go_enter Tryd.func7, Tryd.ntmps7
    go_wp2
    go_ret
    exact ⟨rfl, rfl⟩
  by_cases h3 : c < 1
  · rw [band_no x (.inr (.inr (.inl h3)))]
    go_enter Tryd.func7, Tryd.ntmps7
    go_wp2
    go_ret
    exact ⟨rfl, rfl⟩
  by_cases h4 : 23 < c
  · rw [band_no x (.inr (.inr (.inr h4)))]
    go_enter Tryd.func7, Tryd.ntmps7
    go_wp2
    go_ret
    exact ⟨rfl, rfl⟩
  rw [band_yes x (by omega)]
  by_cases h5 : c + q < 8
  · have e : alP q c = 0 := if_pos h5
    rw [e, Int.mul_zero]
    go_enter Tryd.func7, Tryd.ntmps7
    go_wp2
    all_goals (go_ret; exact ⟨ret_int (by omega), rfl⟩)
  by_cases h6 : 16 < c + q
  · have e : alP q c = 8 := by rw [alP, if_neg h5, if_pos h6]
    rw [e, alS]
    go_enter Tryd.func7, Tryd.ntmps7
    go_wp2
    all_goals (go_ret; exact ⟨ret_int (by simp_all <;> omega), rfl⟩)
  have e : alP q c = c + q - 8 := by rw [alP, if_neg h5, if_neg h6]
  rw [e, alS]
  go_enter Tryd.func7, Tryd.ntmps7
  go_wp2
  all_goals (go_ret; exact ⟨ret_int (by simp_all <;> omega), rfl⟩)
end Go.Proofs.YtjfngheefnmolaaDoor
