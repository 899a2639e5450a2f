/-
  The document's Size.
-/
import Derived.Test.YtabgbchogmbofaaPVR
import Derived.Test.YtabgbchogmbofaaIC
namespace Go.Proofs.Ytabgbchogmbofaa
open Go.ChangeShapes Go.WideShapes Go.ChangeAt Go.RowKit
set_option linter.unusedVariables false

/-- How far from 0 in all, if they are pulses. -/
def pvSz (n : Nat) (X : Nat → Int) : Int := if pvOk n X = true then ((pvF X n : Nat) : Int) else 0
theorem rsize_any (a : Option Addr) (len cap : Nat) (X : Nat → Int) (hl : len ≤ maxLen) (w : World) (h : IsInts w a len cap X) :
    Calls Try.prog 10 #[.slice a len cap] w fun e w' => e = .returned (.tuple #[.int .i64 (pvSz len X), .bool (pvOk len X)]) ∧ w' = w := by
  by_cases h0 : len = 0
  · subst h0
    have e1 : pvOk 0 X = false := rfl
    have e2 : pvSz 0 X = 0 := by rw [pvSz, if_neg (by simp [e1])]
    rw [e1, e2]
    clear h
    go_enter Try.func10, Try.ntmps10
    go_wp2
    go_ret2
    exact ⟨rfl, rfl⟩
  by_cases h8 : 8 < len
  · have e1 : pvOk len X = false := by simp [pvOk]; omega
    have e2 : pvSz len X = 0 := by rw [pvSz, if_neg (by simp [e1])]
    rw [e1, e2]
    unfold maxLen at hl
    clear h
    go_enter Try.func10, Try.ntmps10
    go_wp2
    go_ret2
    exact ⟨rfl, rfl⟩
  obtain ⟨b, off, rfl, hc⟩ := h.cells (by omega)
  have hc := hc w (Below.refl _ _)
  have HC := hid hc
  have hle : ∀ i, i ≤ len → pvF X i ≤ 200 := fun i hi => by have := pvF_le X i; omega
  have HLE := hid hle
  have H1 : 1 ≤ len := by omega
  have H2 : len ≤ 8 := by omega
  have e1 : pvOk len X = decide (pvF X len ≤ 24) := by simp [pvOk, H1, H2]
  have HE : Hid ((pvF X len ≤ 24 ∧ pvSz len X = ((pvF X len : Nat) : Int) ∧ pvOk len X = true) ∨ (24 < pvF X len ∧ pvSz len X = 0 ∧ pvOk len X = false)) := by
    by_cases h : pvF X len ≤ 24
    · have e2 := e1.trans (decide_eq_true h)
      exact .inl ⟨h, by rw [pvSz, if_pos e2], e2⟩
    · have e2 := e1.trans (decide_eq_false h)
      exact .inr ⟨by omega, by rw [pvSz, if_neg (by rw [e2]; simp)], e2⟩
  generalize pvSz len X = R at HE ⊢
  generalize pvOk len X = O at HE ⊢
  clear h hc hle e1 h0 h8 hl
  go_enter Try.func10, Try.ntmps10
  go_wp2
  go_loop [4, 5] (fun s i => ∃ k : Nat, k ≤ len ∧ i = .int .i64 k ∧ s = .int .i64 ((pvF X k : Nat) : Int)) (fun _ i => len - (intOf i).toNat)
  case atStart => exact ⟨0, Nat.zero_le _, rfl, rfl⟩
  case round =>
    obtain ⟨k, hk, rfl, hs⟩ := hrel
    by_cases hlt : k < len
    · have hck := HC.out k hlt
      have hb := HLE.out k (by omega)
      have KF := hid (rfar_any (X k) w)
      have hd := pvD_le (X k)
      have HV := hid (show ((pvF X k : Nat) : Int) + ((pvD (X k) : Nat) : Int) = ((pvF X (k + 1) : Nat) : Int) by rw [pvF]; omega)
      generalize X k = x at *
      generalize pvF X k = s0 at *
      generalize pvD x = dd at *
      subst hs
      go_wp2_with (go_at_call 17; (with_reducible refine KF.out.mono ?_); rintro e w1 ⟨rfl, rfl⟩)
      exact ⟨⟨k + 1, by omega, by go_num, congrArg (Value.int .i64) HV.out⟩, by simp [intOf]; omega⟩
    · obtain rfl : k = len := by omega
      have hb := HLE.out k (by omega)
      rcases HE.out with ⟨h24, hR, hO⟩ | ⟨h24, hR, hO⟩
      · subst hR hO
        clear HE
        subst hs
        go_wp2
        go_ret2
        exact ⟨rfl, rfl⟩
      · subst hR hO
        clear HE
        subst hs
        go_wp2
        go_ret2
        exact ⟨rfl, rfl⟩
end Go.Proofs.Ytabgbchogmbofaa
