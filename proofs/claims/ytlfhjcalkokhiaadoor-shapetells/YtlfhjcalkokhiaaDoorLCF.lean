/-
  The document's own Amp and Find.
-/
import Derived.Test.YtlfhjcalkokhiaaDoorLM
import Derived.Test.YtlfhjcalkokhiaaDoorNModR
import Derived.Test.YtlfhjcalkokhiaaDoorNShrR
namespace Go.Proofs.YtlfhjcalkokhiaaDoor
open Go.ChangeShapes Go.WideShapes Go.ChangeAt Go.RowKit
set_option linter.unusedVariables false

theorem rlstep_any (f : Int) (w : World) : Calls Tryd.prog 32 #[.int .i64 f] w fun e w' => e = .returned (.int .i64 (stpF f)) ∧ w' = w := by
  by_cases h0 : f = 0
  · subst h0
    go_enter Tryd.func32, Tryd.ntmps32
    go_wp2
    go_ret
    exact ⟨rfl, rfl⟩
  by_cases h1 : f = 1
  · subst h1
    go_enter Tryd.func32, Tryd.ntmps32
    go_wp2
    go_ret
    exact ⟨rfl, rfl⟩
  by_cases h2 : f = 2
  · subst h2
    go_enter Tryd.func32, Tryd.ntmps32
    go_wp2
    go_ret
    exact ⟨rfl, rfl⟩
  go_enter Tryd.func32, Tryd.ntmps32
  go_wp2
  go_ret
  exact ⟨ret_int (by rw [stpF, if_neg h0, if_neg h1, if_neg h2]), rfl⟩
theorem rlamp_any (c f : Int) (w : World) :
    Calls Tryd.prog 14 #[.int .i64 c, .int .i64 f] w fun e w' => e = .returned (.int .i64 (ampF c f)) ∧ Below w.heap.size w w' := by
  by_cases h1 : c < 1
  · rw [ampF_out (by omega)]
    go_enter Tryd.func14, Tryd.ntmps14
    go_wp2
    go_ret
    exact ⟨rfl, Below.refl _ _⟩
  by_cases h2 : 23 < c
  · rw [ampF_out (by omega)]
    go_enter Tryd.func14, Tryd.ntmps14
    go_wp2
    go_ret
    exact ⟨rfl, Below.refl _ _⟩
  by_cases h3 : f < 0
  · rw [ampF_out (by omega)]
    go_enter Tryd.func14, Tryd.ntmps14
    go_wp2
    go_ret
    exact ⟨rfl, Below.refl _ _⟩
  by_cases h4 : 3 < f
  · rw [ampF_out (by omega)]
    go_enter Tryd.func14, Tryd.ntmps14
    go_wp2
    go_ret
    exact ⟨rfl, Below.refl _ _⟩
  rw [ampF_in (by omega) (by omega) (by omega) (by omega)]
  have HC : Hid (∀ W, Calls Tryd.prog 31 #[.int .i64 (stpF f), .int .i64 (24 - c)] W fun e w' => e = .returned (.int .i64 (shrF (stpF f) (24 - c))) ∧ Below W.heap.size W w') := fun W => shrR_any _ _ W
  have HS : Hid (∀ W, Calls Tryd.prog 32 #[.int .i64 f] W fun e w' => e = .returned (.int .i64 (stpF f)) ∧ w' = W) := fun W => rlstep_any f W
  generalize shrF (stpF f) (24 - c) = R at *
  generalize stpF f = S at *
  go_enter Tryd.func14, Tryd.ntmps14
  go_wp2_with (first
    | (go_at_call 32; refine (HS.out _).mono ?_; rintro e w0 ⟨rfl, rfl⟩)
    | (go_at_call 31; refine (HC.out _).mono ?_; rintro e w1 ⟨rfl, hb⟩))
  go_ret
  exact ⟨rfl, hb⟩
theorem rlfind_any (a : Int) (w : World) :
    Calls Tryd.prog 28 #[.int .i64 a] w fun e w' => ∃ c f, e = .returned (.tuple #[.int .i64 c, .int .i64 f]) ∧ Finds a c f ∧ Below w.heap.size w w' := by
  have HA : Hid (∀ (c f : Int) W, Below w.heap.size w W → Calls Tryd.prog 14 #[.int .i64 c, .int .i64 f] W fun e w' => e = .returned (.int .i64 (ampF c f)) ∧ Below w.heap.size w w') :=
    fun c f W hW => (rlamp_any c f W).mono fun e w' ⟨he, hb⟩ => ⟨he, below_then hW hb⟩
  go_enter Tryd.func28, Tryd.ntmps28
  go_wp2
  go_loopw [4] (fun c wr => ∃ k : Int, 0 ≤ k ∧ k ≤ 23 ∧ c = .int .i64 k ∧ Hid (k = 23 ∨ a < ampF (k + 1) 0) ∧ Hid (Below w.heap.size w wr)) (fun c _ => (intOf c).toNat)
  case atStart => exact ⟨23, by omega, by omega, rfl, .inl rfl, Below.refl _ _⟩
  case round =>
    obtain ⟨k, k1, k2, rfl, hk, hb⟩ := hrel
    by_cases h1 : 1 ≤ k
    · go_wp2
      go_loopw [5] (fun f wr => ∃ j : Int, -1 ≤ j ∧ j ≤ 3 ∧ f = .int .i64 j ∧ Hid (j = 3 ∨ a < ampF k (j + 1)) ∧ Hid (Below w.heap.size w wr)) (fun f _ => (intOf f + 1).toNat)
      case atStart => exact ⟨3, by omega, by omega, rfl, .inl rfl, hb⟩
      case round =>
        obtain ⟨j, j1, j2, rfl, hj, hb2⟩ := hrel
        by_cases h0 : 0 ≤ j
        · have HD : Hid (Calls Tryd.prog 14 #[.int .i64 k, .int .i64 j] wr fun e w' => e = .returned (.int .i64 (ampF k j)) ∧ Below w.heap.size w w') := HA.out k j wr hb2.out
          by_cases hle : ampF k j ≤ a
          · have HF : Hid (Found a k j) := ⟨h1, k2, h0, j2, hle, hk.out, hj.out⟩
            generalize ampF k j = R at *
            go_wp2_with (go_at_call 14; refine (HD.out).mono ?_; rintro e w3 ⟨rfl, hb3⟩)
            go_ret2
            exact ⟨_, _, rfl, .inr HF.out, hb3⟩
          · have HF : Hid (∀ m : Int, m = j → a < ampF k m) := fun m hm => by subst hm; omega
            generalize ampF k j = R at *
            go_wp2_with (go_at_call 14; refine (HD.out).mono ?_; rintro e w3 ⟨rfl, hb3⟩)
            exact ⟨⟨j - 1, by omega, by omega, by go_num, .inr (HF.out _ (by omega)), hb3⟩, by simp [intOf]; omega⟩
        · have HF : Hid (a < ampF k 0) := by
            rcases hj.out with e | e
            · omega
            · rwa [show j + 1 = 0 by omega] at e
          go_wp2
          exact ⟨⟨k - 1, by omega, by omega, by go_num, .inr (by rw [show k - 1 + 1 = k by omega]; exact HF.out), hb2⟩, by simp [intOf]; omega⟩
    · have HF : Hid (a < 2) := by
        rcases hk.out with e | e
        · omega
        · rw [show k + 1 = 1 by omega, amp10] at e; exact e
      go_wp2
      go_ret2
      exact ⟨_, _, rfl, .inl ⟨HF.out, rfl, rfl⟩, hb.out⟩
end Go.Proofs.YtlfhjcalkokhiaaDoor
