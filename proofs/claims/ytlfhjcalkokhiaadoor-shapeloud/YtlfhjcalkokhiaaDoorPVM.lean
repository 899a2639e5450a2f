/-
  The program's Size.
-/
import Derived.Test.YtlfhjcalkokhiaaDoorPVW
import Derived.Test.YtlfhjcalkokhiaaDoorPVS
import Derived.Test.YtlfhjcalkokhiaaDoorNAbs
namespace Go.Proofs.YtlfhjcalkokhiaaDoor
open Go.ChangeShapes Go.WideShapes Go.ChangeAt Go.RowKit
set_option linter.unusedVariables false

theorem pvSz_no {n : Nat} {X : Nat → Int} (h : pvOk n X = false) : pvSz n X = 0 := by rw [pvSz, if_neg (by rw [h]; simp)]
theorem pvq_size_out (a : Option Addr) (len cap : Nat) (X : Nat → Int) (hl : len ≤ maxLen) (h8 : len = 0 ∨ 8 < len) (w : World) :
    Calls Tryd.prog 16 #[.slice a len cap] w fun e w' => e = .returned (.tuple #[.int .i64 (pvSz len X), .bool (pvOk len X)]) ∧ Below w.heap.size w w' := by
  have e1 : pvOk len X = false := by simp [pvOk]; omega
  rw [pvSz_no e1, e1]
  unfold maxLen at hl
  have K1 := hid (pwithin_any (len : Int) 1 8 w)
  rw [pwB_no (by omega)] at K1
  clear e1 h8
  go_enter Tryd.func16, Tryd.ntmps16
  go_wp2_with (go_at_call 33; (with_reducible refine K1.out.mono ?_); rintro e w1 ⟨rfl, rfl⟩)
  go_ret2
  exact ⟨rfl, Below.refl _ _⟩
set_option maxRecDepth 100000 in
theorem pvq_size (a : Option Addr) (len cap : Nat) (X : Nat → Int) (hl : len ≤ maxLen) (w : World) (h : IsInts w a len cap X) :
    Calls Tryd.prog 16 #[.slice a len cap] w fun e w' => e = .returned (.tuple #[.int .i64 (pvSz len X), .bool (pvOk len X)]) ∧ Below w.heap.size w w' := by
  by_cases h8 : len = 0 ∨ 8 < len
  · exact pvq_size_out a len cap X hl h8 w
  obtain ⟨b, off, rfl, hc⟩ := h.cells (by omega)
  have HC := hid hc
  have H1 : 1 ≤ len := by omega
  have H2 : len ≤ 8 := by omega
  have HLE := hid (fun i (hi : i ≤ len) => show pvF X i ≤ 200 by have := pvF_le X i; omega)
  have e1 : pvOk len X = decide (pvF X len ≤ 24) := by simp [pvOk, H1, H2]
  have HE : Hid ((pvF X len ≤ 24 ∧ pvSz len X = ((pvF X len : Nat) : Int) ∧ pvOk len X = true) ∨ (24 < pvF X len ∧ pvSz len X = 0 ∧ pvOk len X = false)) := by
    by_cases h : pvF X len ≤ 24
    · have e2 := e1.trans (decide_eq_true h)
      exact .inl ⟨h, by rw [pvSz, if_pos e2], e2⟩
    · have e2 := e1.trans (decide_eq_false h)
      exact .inr ⟨by omega, by rw [pvSz, if_neg (by rw [e2]; simp)], e2⟩
  have HM := hid (fun i (hi : i < len) => pvF_mono X (show i + 1 ≤ len from hi))
  have K1 := hid (pwithin_any (len : Int) 1 8 w)
  rw [pwB_yes (by omega) (by omega)] at K1
  have HB0 := hid (Below.refl w.heap.size w)
  generalize pvSz len X = R at HE ⊢
  generalize pvOk len X = O at HE ⊢
  clear h hc e1 h8 hl
  go_enter Tryd.func16, Tryd.ntmps16
  go_wp2_with (go_at_call 33; (with_reducible refine K1.out.mono ?_); rintro e w1 ⟨rfl, rfl⟩)
  go_loopw [4, 13] (fun s i wr => ∃ k : Nat, k ≤ len ∧ i = .int .i64 k ∧ s = .int .i64 ((pvF X k : Nat) : Int) ∧ Hid (Below w1.heap.size w1 wr)) (fun _ i _ => len - (intOf i).toNat)
  case atStart => exact ⟨0, Nat.zero_le _, rfl, rfl, HB0.out⟩
  case round =>
    clear HB0
    obtain ⟨k, hk, rfl, hs, HB⟩ := hrel
    obtain ⟨w5, e5⟩ : ∃ w5, w5 = wr := ⟨_, rfl⟩
    subst e5
    by_cases hlt : k < len
    · have hck := HC.out _ HB.out k hlt
      have hb := HLE.out k (by omega)
      have hb2 := HLE.out (k + 1) (by omega)
      have HM2 := hid (HM.out k hlt)
      have K2 : Hid (∀ W, Calls Tryd.prog 33 #[.int .i64 (X k), .int .i64 (-24), .int .i64 24] W fun e w' => e = .returned (.bool (pwB (X k) (-24) 24)) ∧ w' = W) := fun W => pwithin_any (X k) (-24) 24 W
      by_cases hin : -24 ≤ X k ∧ X k ≤ 24
      · rw [pwB_yes hin.1 hin.2] at K2
        have K3 : Hid (Calls Tryd.prog 23 #[.int .i64 (X k)] w5 fun e w' => e = .returned (.int .i64 (((X k).natAbs : Nat) : Int)) ∧ Below w5.heap.size w5 w') :=
          (abs_any (X k) w5).mono fun e w' ⟨he, hb⟩ => ⟨by rw [he, absF_nat (by omega)], hb⟩
        have HV := hid (show ((pvF X k : Nat) : Int) + (((X k).natAbs : Nat) : Int) = ((pvF X (k + 1) : Nat) : Int) by rw [pvF, pvD, if_neg (by omega)]; omega)
        have hA : (X k).natAbs ≤ 24 := by omega
        generalize (X k).natAbs = A at *
        generalize X k = x at *
        generalize pvF X k = s0 at *
        subst hs
        go_wp2_with (first
          | (go_at_call 33; (with_reducible refine Calls.mono (K2.out _) ?_); rintro e w6 ⟨rfl, rfl⟩)
          | (go_at_call 23; (with_reducible refine K3.out.mono ?_); rintro e w7 ⟨rfl, b7⟩))
        exact ⟨⟨k + 1, by omega, by go_num, congrArg (Value.int .i64) HV.out, below_then HB.out b7⟩, by simp [intOf]; omega⟩
      · rw [pwB_no (by omega)] at K2
        have h24 : 24 < pvF X len := by
          have := HM2.out
          rw [pvF, pvD, if_pos (by omega)] at this
          omega
        rcases HE.out with ⟨h24', _, _⟩ | ⟨_, hR, hO⟩
        · omega
        subst hR hO
        clear HE HM2 h24 HM
        generalize X k = x at *
        generalize pvF X k = s0 at *
        subst hs
        go_wp2_with (go_at_call 33; (with_reducible refine Calls.mono (K2.out _) ?_); rintro e w6 ⟨rfl, rfl⟩)
        go_ret2
        exact ⟨rfl, HB.out⟩
    · obtain rfl : k = len := by omega
      have hb := HLE.out k (by omega)
      rcases HE.out with ⟨h24, hR, hO⟩ | ⟨h24, hR, hO⟩
      · subst hR hO
        clear HE HM
        subst hs
        go_wp2
        go_ret2
        exact ⟨rfl, HB.out⟩
      · subst hR hO
        clear HE HM
        subst hs
        go_wp2
        go_ret2
        exact ⟨rfl, HB.out⟩
end Go.Proofs.YtlfhjcalkokhiaaDoor
