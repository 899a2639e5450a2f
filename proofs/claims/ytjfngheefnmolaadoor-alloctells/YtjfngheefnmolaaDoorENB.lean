/-
  Which rows are: the program's tests, and the document's.
-/
import Derived.Test.YtjfngheefnmolaaDoorENA
import Derived.Test.YtjfngheefnmolaaDoorRW
namespace Go.Proofs.YtjfngheefnmolaaDoor
open Go.ChangeShapes Go.WideShapes Go.ChangeAt Go.RowKit
set_option linter.unusedVariables false

def outB (x : Int) : Bool := decide (x < 0) || decide (23 < x)
theorem beyond_any (x : Int) (w : World) : Calls Tryd.prog 20 #[.int .i64 x] w fun e w' => e = .returned (.bool (outB x)) ∧ w' = w := by
  by_cases h1 : x < 0
  · have e : outB x = true := by simp [outB, h1]
    rw [e]
    go_enter Tryd.func20, Tryd.ntmps20
    go_wp2
    go_ret
    exact ⟨rfl, rfl⟩
  · by_cases h2 : 23 < x
    · have e : outB x = true := by simp [outB, h2]
      rw [e]
      go_enter Tryd.func20, Tryd.ntmps20
      go_wp2
      go_ret
      exact ⟨rfl, rfl⟩
    · have e : outB x = false := by simp [outB, h1, h2]
      rw [e]
      go_enter Tryd.func20, Tryd.ntmps20
      go_wp2
      go_ret
      exact ⟨rfl, rfl⟩
/-- The place of the first that is out, or none. -/
theorem index_any (a : Option Addr) (len cap : Nat) (X : Nat → Int) (hl : len ≤ 64) (w : World) (h : IsInts w a len cap X) :
    Calls Tryd.prog 22 #[.slice a len cap, .func (.func 20) #[] #[]] w fun e w' => (∃ k : Int, e = .returned (.int .i64 k) ∧ (decide (k ≥ 0)) = !(allIn 0 23 X len)) ∧ w' = w := by
  by_cases h0 : len = 0
  · subst h0
    go_enter Tryd.func22, Tryd.ntmps22
    go_wp2
    go_loop [8] (fun i => i = .int .i64 0) (fun i => 0)
    case atStart => rfl
    case round =>
      subst hrel
      go_wp2
      go_ret
      exact ⟨⟨-1, rfl, rfl⟩, rfl⟩
  obtain ⟨b, off, rfl, hc0⟩ := h.cells (by omega)
  have hc := hc0 w (Below.refl _ _)
  have HC : Hid (∀ i, i < len → w.cell? ⟨b, off + i, none⟩ = some (.int .i64 (X i))) := hc
  clear h hc hc0
  go_enter Tryd.func22, Tryd.ntmps22
  go_wp2
  go_loop [8] (fun i => ∃ k : Nat, k ≤ len ∧ i = .int .i64 k ∧ Hid (allIn 0 23 X k = true)) (fun i => len - (intOf i).toNat)
  case atStart => exact ⟨0, Nat.zero_le _, rfl, rfl⟩
  case round =>
    obtain ⟨k, hk, rfl, HA⟩ := hrel
    by_cases hlt : k < len
    · have hck := HC.out k hlt
      have KB := hid (fun w => beyond_any (X k) w)
      by_cases ho : outB (X k) = true
      · have HN : Hid (allIn 0 23 X len = false) := allIn_no hlt (by simp [outB] at ho; omega)
        rw [ho] at KB
        go_wp2_with (go_at_call 20; (with_reducible refine (KB.out _).mono ?_); rintro e w1 ⟨rfl, rfl⟩)
        go_ret
        exact ⟨⟨k, rfl, by rw [HN.out]; simp⟩, rfl⟩
      · have ho : outB (X k) = false := by simpa using ho
        have ho2 : 0 ≤ X k ∧ X k ≤ 23 := by simp [outB] at ho; omega
        have HN : Hid (allIn 0 23 X (k + 1) = true) := by show (allIn 0 23 X k && decide (0 ≤ X k) && decide (X k ≤ 23)) = true; rw [HA.out]; simp [ho2]
        rw [ho] at KB
        go_wp2_with (go_at_call 20; (with_reducible refine (KB.out _).mono ?_); rintro e w1 ⟨rfl, rfl⟩)
        go_round
        case rel => exact ⟨k + 1, by omega, by go_num, HN⟩
        case measure => simp [intOf]; omega
    · obtain rfl : k = len := by omega
      go_wp2
      go_ret
      exact ⟨⟨-1, rfl, by rw [HA.out]; rfl⟩, rfl⟩
theorem contains_any (a : Option Addr) (len cap : Nat) (X : Nat → Int) (hl : len ≤ 64) (w : World) (h : IsInts w a len cap X) :
    Calls Tryd.prog 19 #[.slice a len cap, .func (.func 20) #[] #[]] w fun e w' => e = .returned (.bool (!(allIn 0 23 X len))) ∧ w' = w := by
  have K := hid (index_any a len cap X hl w h)
  clear h
  go_enter Tryd.func19, Tryd.ntmps19
  go_wp2_with (fail)
  refine Calls.mono K.out ?_
  rintro e w1 ⟨⟨k, rfl, hk⟩, rfl⟩
  have HK := hid hk
  clear hk K
  go_wp2
  go_ret
  exact ⟨ret_bool HK.out, rfl⟩
/-- P14.1: Right, of any list. -/
theorem right_any (a : Option Addr) (len cap : Nat) (X : Nat → Int) (hl : len ≤ maxLen) (w : World) (h : IsInts w a len cap X) :
    Calls Tryd.prog 15 #[.slice a len cap] w fun e w' => e = .returned (.bool (eRightB len X)) ∧ w' = w := by
  by_cases h13 : len = 13
  · subst h13
    have K := hid (contains_any a 13 cap X (by omega) w h)
    clear h
    have e : eRightB 13 X = allIn 0 23 X 13 := by simp [eRightB]
    rw [e]
    generalize allIn 0 23 X 13 = z at K ⊢
    go_enter Tryd.func15, Tryd.ntmps15
    go_wp2_with (fail)
    refine Calls.mono K.out ?_
    rintro e w1 ⟨rfl, rfl⟩
    go_wp2
    go_ret
    exact ⟨by simp, rfl⟩
  · have e : eRightB len X = false := by simp [eRightB, h13]
    have h1 : ((len : Int) == 13) = false := by simp; omega
    rw [e]
    unfold maxLen at hl
    clear h
    go_enter Tryd.func15, Tryd.ntmps15
    go_wp2
    go_ret
    exact ⟨rfl, rfl⟩
theorem rright_any (a : Option Addr) (len cap : Nat) (X : Nat → Int) (hl : len ≤ maxLen) (w : World) (h : IsInts w a len cap X) :
    Calls Tryd.prog 17 #[.slice a len cap] w fun e w' => e = .returned (.bool (eRightB len X)) ∧ w' = w := by
  by_cases h13 : len = 13
  · subst h13
    have K := hid (rwithin_g 0 23 a 13 cap X (by omega) w h)
    clear h
    have e : eRightB 13 X = allIn 0 23 X 13 := by simp [eRightB]
    rw [e]
    generalize allIn 0 23 X 13 = z at K ⊢
    go_enter Tryd.func17, Tryd.ntmps17
    go_wp2_with (fail)
    refine Calls.mono K.out ?_
    rintro e w1 ⟨rfl, rfl⟩
    go_wp2
    go_ret
    exact ⟨rfl, rfl⟩
  · have e : eRightB len X = false := by simp [eRightB, h13]
    have h1 : ((len : Int) == 13) = false := by simp; omega
    rw [e]
    unfold maxLen at hl
    clear h
    go_enter Tryd.func17, Tryd.ntmps17
    go_wp2
    go_ret
    exact ⟨rfl, rfl⟩
end Go.Proofs.YtjfngheefnmolaaDoor
