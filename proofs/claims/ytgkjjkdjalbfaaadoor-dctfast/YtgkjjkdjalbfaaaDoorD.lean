/-
  The contracts of the document's own Cos, Sin and Turn.
-/
import Derived.Test.YtgkjjkdjalbfaaaDoorCT
import Derived.Test.YtgkjjkdjalbfaaaDoorDQ
import Derived.Test.YtgkjjkdjalbfaaaDoorNModR
import Derived.Test.YtgkjjkdjalbfaaaDoorNShrR
namespace Go.Proofs.YtgkjjkdjalbfaaaDoor
open Go.ChangeShapes Go.WideShapes Go.ChangeAt Go.RowKit
set_option linter.unusedVariables false

theorem rcos_out (k : Int) (h : k < -1152921504606846976 ∨ 1152921504606846976 < k) (w : World) :
    Calls Tryd.prog 41 #[.int .i64 k] w fun e w' => e = .returned (.int .i64 0) ∧ w' = w := by
  by_cases h1 : k < -1152921504606846976
  · go_enter Tryd.func41, Tryd.ntmps41
    go_wp2
    go_ret
    exact ⟨rfl, rfl⟩
  · have h2 : 1152921504606846976 < k := by omega
    clear h
    go_enter Tryd.func41, Tryd.ntmps41
    go_wp2
    go_ret
    exact ⟨rfl, rfl⟩
set_option maxRecDepth 100000 in
theorem rcos_in (k : Int) (h1 : -1152921504606846976 ≤ k) (h2 : k ≤ 1152921504606846976) (w : World) :
    Calls Tryd.prog 41 #[.int .i64 k] w fun e w' => e = .returned (.int .i64 (cosI k)) ∧ Below w.heap.size w w' := by
  obtain ⟨m, hm⟩ : ∃ m : Nat, k % 512 = (m : Int) := ⟨(k % 512).toNat, by omega⟩
  have hlt : m < 512 := by omega
  have HC : Hid (cosI k = cosT m) := by show cosT (k % 512).toNat = _; rw [hm]; rfl
  have HM : Hid (∀ W : World, Calls Tryd.prog 33 #[.int .i64 k, .int .i64 512] W fun e w' => e = .returned (.tuple #[.int .i64 (modQ k 512), .int .i64 (m : Int)]) ∧ Below W.heap.size W w') := by
    intro W
    have h := modr_any k 512 (by omega) (by omega) W
    rwa [modR512, hm] at h
  clear hm
  generalize modQ k 512 = q at *
  generalize cosI k = c at *
  by_cases a1 : m ≤ 128
  · have hx : cosT m = qd m := by rw [cosT, if_pos a1]
    have HX : Hid (c = qd m) := HC.out.trans hx
    clear HC hx
    go_enter Tryd.func41, Tryd.ntmps41
    go_wp2_with (first
      | (go_at_call 33; refine (HM.out _).mono ?_; rintro e w1 ⟨rfl, hb1⟩)
      | (go_at_call 32; refine (quarter_at _).mono ?_; rintro e w2 ⟨rfl, hq, hb2⟩; replace hq := hq m (by omega)))
    go_ret
    exact ⟨ret_int HX.out.symm, below_then hb1 hb2⟩
  by_cases a2 : m ≤ 256
  · have hx : cosT m = - qd (256 - m) := by rw [cosT, if_neg a1, if_pos a2]
    have HX : Hid (c = - qd (256 - m)) := HC.out.trans hx
    clear HC hx
    have hi : (256 - (m : Int)).toNat = 256 - m := by omega
    obtain ⟨b1, b2⟩ := qd_bd (show 256 - m ≤ 128 by omega)
    go_enter Tryd.func41, Tryd.ntmps41
    go_wp2_with (first
      | (go_at_call 33; refine (HM.out _).mono ?_; rintro e w1 ⟨rfl, hb1⟩)
      | (go_at_call 32; refine (quarter_at _).mono ?_; rintro e w2 ⟨rfl, hq, hb2⟩; replace hq := hq (256 - m) (by omega)))
    go_ret
    exact ⟨ret_int HX.out.symm, below_then hb1 hb2⟩
  by_cases a3 : m < 384
  · have hx : cosT m = - qd (m - 256) := by rw [cosT, if_neg a1, if_neg a2, if_pos a3]
    have HX : Hid (c = - qd (m - 256)) := HC.out.trans hx
    clear HC hx
    have hi : (256 - (512 - (m : Int))).toNat = m - 256 := by omega
    obtain ⟨b1, b2⟩ := qd_bd (show m - 256 ≤ 128 by omega)
    go_enter Tryd.func41, Tryd.ntmps41
    go_wp2_with (first
      | (go_at_call 33; refine (HM.out _).mono ?_; rintro e w1 ⟨rfl, hb1⟩)
      | (go_at_call 32; refine (quarter_at _).mono ?_; rintro e w2 ⟨rfl, hq, hb2⟩; replace hq := hq (m - 256) (by omega)))
    go_ret
    exact ⟨ret_int HX.out.symm, below_then hb1 hb2⟩
  · have hx : cosT m = qd (512 - m) := by rw [cosT, if_neg a1, if_neg a2, if_neg a3]
    have HX : Hid (c = qd (512 - m)) := HC.out.trans hx
    clear HC hx
    have hi : (512 - (m : Int)).toNat = 512 - m := by omega
    go_enter Tryd.func41, Tryd.ntmps41
    go_wp2_with (first
      | (go_at_call 33; refine (HM.out _).mono ?_; rintro e w1 ⟨rfl, hb1⟩)
      | (go_at_call 32; refine (quarter_at _).mono ?_; rintro e w2 ⟨rfl, hq, hb2⟩; replace hq := hq (512 - m) (by omega)))
    go_ret
    exact ⟨ret_int HX.out.symm, below_then hb1 hb2⟩
theorem rcos_any (k : Int) (w : World) :
    Calls Tryd.prog 41 #[.int .i64 k] w fun e w' => e = .returned (.int .i64 (cosF k)) ∧ Below w.heap.size w w' := by
  by_cases h : -1152921504606846976 ≤ k ∧ k ≤ 1152921504606846976
  · rw [cosF_in h.1 h.2]; exact rcos_in k h.1 h.2 w
  · rw [cosF_out (by omega)]
    refine (rcos_out k (by omega) w).mono ?_
    rintro e w' ⟨rfl, rfl⟩
    exact ⟨rfl, Below.refl _ _⟩
theorem rsin_any (k : Int) (w : World) :
    Calls Tryd.prog 42 #[.int .i64 k] w fun e w' => e = .returned (.int .i64 (sinF k)) ∧ Below w.heap.size w w' := by
  by_cases h1 : k < -1152921504606846976
  · rw [sinF_out (by omega)]
    go_enter Tryd.func42, Tryd.ntmps42
    go_wp2
    go_ret
    exact ⟨rfl, Below.refl _ _⟩
  by_cases h2 : 1152921504606846976 < k
  · rw [sinF_out (by omega)]
    go_enter Tryd.func42, Tryd.ntmps42
    go_wp2
    go_ret
    exact ⟨rfl, Below.refl _ _⟩
  rw [sinF_in (by omega) (by omega)]
  have m1 : 0 ≤ k % 512 := by omega
  have m2 : k % 512 < 512 := by omega
  have HM : Hid (∀ W : World, Calls Tryd.prog 33 #[.int .i64 k, .int .i64 512] W fun e w' => e = .returned (.tuple #[.int .i64 (modQ k 512), .int .i64 (k % 512)]) ∧ Below W.heap.size W w') := by
    intro W
    have h := modr_any k 512 (by omega) (by omega) W
    rwa [modR512] at h
  have HC : Hid (∀ W : World, Calls Tryd.prog 41 #[.int .i64 (k % 512 - 128)] W fun e w' => e = .returned (.int .i64 (sinI k)) ∧ Below W.heap.size W w') := by
    intro W
    have h := rcos_in (k % 512 - 128) (by omega) (by omega) W
    rwa [sinI_mod] at h
  generalize k % 512 = m at *
  generalize sinI k = s at *
  generalize modQ k 512 = q at *
  go_enter Tryd.func42, Tryd.ntmps42
  go_wp2_with (first
    | (go_at_call 33; refine (HM.out _).mono ?_; rintro e w1 ⟨rfl, hb1⟩)
    | (go_at_call 41; refine (HC.out _).mono ?_; rintro e w2 ⟨rfl, hb2⟩))
  go_ret
  exact ⟨rfl, below_then hb1 hb2⟩
theorem rturn_no (re im k : Int) (h : ¬ okTurn re im k) (w : World) :
    Calls Tryd.prog 26 #[.int .i64 re, .int .i64 im, .int .i64 k] w fun e w' => e = .returned (.tuple #[.int .i64 0, .int .i64 0]) ∧ w' = w := by
  unfold okTurn at h
  by_cases a1 : re < -34359738368
  · clear h
    go_enter Tryd.func26, Tryd.ntmps26
    go_wp2
    go_ret2
    exact ⟨rfl, rfl⟩
  by_cases a2 : 34359738368 < re
  · clear h
    go_enter Tryd.func26, Tryd.ntmps26
    go_wp2
    go_ret2
    exact ⟨rfl, rfl⟩
  by_cases a3 : im < -34359738368
  · clear h
    go_enter Tryd.func26, Tryd.ntmps26
    go_wp2
    go_ret2
    exact ⟨rfl, rfl⟩
  by_cases a4 : 34359738368 < im
  · clear h
    go_enter Tryd.func26, Tryd.ntmps26
    go_wp2
    go_ret2
    exact ⟨rfl, rfl⟩
  by_cases a5 : k < -1152921504606846976
  · clear h
    go_enter Tryd.func26, Tryd.ntmps26
    go_wp2
    go_ret2
    exact ⟨rfl, rfl⟩
  have a6 : 1152921504606846976 < k := by omega
  clear h
  go_enter Tryd.func26, Tryd.ntmps26
  go_wp2
  go_ret2
  exact ⟨rfl, rfl⟩
theorem rturn_yes (re im k : Int) (hk : -1152921504606846976 ≤ k ∧ k ≤ 1152921504606846976) (hre : -34359738368 ≤ re ∧ re ≤ 34359738368) (him : -34359738368 ≤ im ∧ im ≤ 34359738368) (w : World) :
    Calls Tryd.prog 26 #[.int .i64 re, .int .i64 im, .int .i64 k] w fun e w' => e = .returned (.tuple #[.int .i64 (turnRe re im k), .int .i64 (turnIm re im k)]) ∧ Below w.heap.size w w' := by
  have HA : Hid (∀ W : World, Calls Tryd.prog 41 #[.int .i64 k] W fun e w' => e = .returned (.int .i64 (cosI k)) ∧ Below W.heap.size W w') := by
    intro W
    have h := rcos_any k W
    rwa [cosF_in hk.1 hk.2] at h
  have HS : Hid (∀ W : World, Calls Tryd.prog 42 #[.int .i64 k] W fun e w' => e = .returned (.int .i64 (sinI k)) ∧ Below W.heap.size W w') := by
    intro W
    have h := rsin_any k W
    rwa [sinF_in hk.1 hk.2] at h
  have t1 := turn_bd hre.1 hre.2 him.1 him.2 (cosI_bd k) (sinI_bd k)
  have t2 := turn_bd him.1 him.2 hre.1 hre.2 (cosI_bd k) (sinI_bd k)
  obtain ⟨⟨p1, p2⟩, ⟨p3, p4⟩⟩ := t1
  obtain ⟨⟨p5, p6⟩, ⟨p7, p8⟩⟩ := t2
  have K1 : Hid (∀ W : World, Calls Tryd.prog 19 #[.int .i64 (re * cosI k + im * sinI k), .int .i64 24] W fun e w' => e = .returned (.int .i64 (turnRe re im k)) ∧ Below W.heap.size W w') := by
    intro W
    have h := shrR_any (re * cosI k + im * sinI k) 24 W
    rwa [shrF24 (by omega) (by omega)] at h
  have K2 : Hid (∀ W : World, Calls Tryd.prog 19 #[.int .i64 (im * cosI k - re * sinI k), .int .i64 24] W fun e w' => e = .returned (.int .i64 (turnIm re im k)) ∧ Below W.heap.size W w') := by
    intro W
    have h := shrR_any (im * cosI k - re * sinI k) 24 W
    rwa [shrF24 (by omega) (by omega)] at h
  generalize turnRe re im k = x at *
  generalize turnIm re im k = y at *
  generalize cosI k = c at *
  generalize sinI k = s at *
  have q1 : wrap64 (re * c) = re * c := by unfold wrap64; omega
  have q2 : wrap64 (im * s) = im * s := by unfold wrap64; omega
  have q3 : wrap64 (im * c) = im * c := by unfold wrap64; omega
  have q4 : wrap64 (re * s) = re * s := by unfold wrap64; omega
  have q5 : wrap64 (re * c + im * s) = re * c + im * s := by unfold wrap64; omega
  have q6 : wrap64 (im * c - re * s) = im * c - re * s := by unfold wrap64; omega
  clear p1 p2 p3 p4 p5 p6 p7 p8
  obtain ⟨k1, k2⟩ := hk
  obtain ⟨r1, r2⟩ := hre
  obtain ⟨i1, i2⟩ := him
  go_enter Tryd.func26, Tryd.ntmps26
  go_wp2_with (first
    | (go_at_call 41; (with_reducible refine (HA.out _).mono ?_); rintro e w2 ⟨rfl, hb2⟩; have B2 : Hid (Below w.heap.size w w2) := hb2; clear hb2)
    | (go_at_call 42; (with_reducible refine (HS.out _).mono ?_); rintro e w3 ⟨rfl, hb3⟩; have B3 : Hid (Below w.heap.size w w3) := below_then B2.out hb3; clear hb3)
    | (go_at_call 19; (with_reducible refine (K1.out _).mono ?_); rintro e w4 ⟨rfl, hb4⟩; have B4 : Hid (Below w.heap.size w w4) := below_then B3.out hb4; clear hb4)
    | (go_at_call 19; (with_reducible refine (K2.out _).mono ?_); rintro e w5 ⟨rfl, hb5⟩; have B5 : Hid (Below w.heap.size w w5) := below_then B4.out hb5; clear hb5))
  go_ret2
  exact ⟨rfl, B5.out⟩
theorem rturn_any (re im k : Int) (w : World) :
    Calls Tryd.prog 26 #[.int .i64 re, .int .i64 im, .int .i64 k] w fun e w' => e = .returned (.tuple #[.int .i64 (turnReF re im k), .int .i64 (turnImF re im k)]) ∧ Below w.heap.size w w' := by
  by_cases h : okTurn re im k
  · rw [turnReF, turnImF, if_pos h, if_pos h]
    exact rturn_yes re im k h.1 h.2.1 h.2.2 w
  · rw [turnReF, turnImF, if_neg h, if_neg h]
    refine (rturn_no re im k h w).mono ?_
    rintro e w' ⟨rfl, rfl⟩
    exact ⟨rfl, Below.refl _ _⟩
end Go.Proofs.YtgkjjkdjalbfaaaDoor
