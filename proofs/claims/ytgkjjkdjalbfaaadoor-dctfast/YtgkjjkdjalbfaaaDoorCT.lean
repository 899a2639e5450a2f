/-
  The contract of trig.Turn over the landed text, of a table and of none.
-/
import Derived.Test.YtgkjjkdjalbfaaaDoorC
namespace Go.Proofs.YtgkjjkdjalbfaaaDoor
open Go.ChangeShapes Go.WideShapes Go.ChangeAt Go.RowKit
set_option linter.unusedVariables false

theorem turn_none (re im k : Int) (w : World) :
    Calls Tryd.prog 34 #[.pointer none, .int .i64 re, .int .i64 im, .int .i64 k] w fun e w' => e = .returned (.tuple #[.int .i64 0, .int .i64 0]) ∧ w' = w := by
  go_enter Tryd.func34, Tryd.ntmps34
  go_wp2
  go_ret2
  exact ⟨rfl, rfl⟩
abbrev okTurn (re im k : Int) : Prop := (-1152921504606846976 ≤ k ∧ k ≤ 1152921504606846976) ∧ (-34359738368 ≤ re ∧ re ≤ 34359738368) ∧ (-34359738368 ≤ im ∧ im ≤ 34359738368)
def turnReF (re im k : Int) : Int := if okTurn re im k then turnRe re im k else 0
def turnImF (re im k : Int) : Int := if okTurn re im k then turnIm re im k else 0
theorem turn_yes (r : Nat) (re im k : Int) (hk : -1152921504606846976 ≤ k ∧ k ≤ 1152921504606846976) (hre : -34359738368 ≤ re ∧ re ≤ 34359738368) (him : -34359738368 ≤ im ∧ im ≤ 34359738368) (w : World) (ht : Tab r w) :
    Calls Tryd.prog 34 #[.pointer (some ⟨r, 0, none⟩), .int .i64 re, .int .i64 im, .int .i64 k] w fun e w' => e = .returned (.tuple #[.int .i64 (turnRe re im k), .int .i64 (turnIm re im k)]) ∧ Below w.heap.size w w' := by
  have HT : Hid (Tab r w) := ht
  clear ht
  have hb1 := in1_yes hk.1 hk.2
  have hb2 := in1_yes hre.1 hre.2
  have hb3 := in1_yes him.1 him.2
  have HA : Hid (∀ W : World, Below w.heap.size w W → Calls Tryd.prog 47 #[.pointer (some ⟨r, 0, none⟩), .int .i64 k] W fun e w' => e = .returned (.int .i64 (cosI k)) ∧ Below W.heap.size W w') :=
    fun W hW => at_any r k (by omega) hk.2 W (HT.out.below HT.out.1 hW)
  have HS : Hid (∀ W : World, Below w.heap.size w W → Calls Tryd.prog 47 #[.pointer (some ⟨r, 0, none⟩), .int .i64 (k - 128)] W fun e w' => e = .returned (.int .i64 (sinI k)) ∧ Below W.heap.size W w') :=
    fun W hW => at_any r (k - 128) (by omega) (by omega) W (HT.out.below HT.out.1 hW)
  have t1 := turn_bd hre.1 hre.2 him.1 him.2 (cosI_bd k) (sinI_bd k)
  have t2 := turn_bd him.1 him.2 hre.1 hre.2 (cosI_bd k) (sinI_bd k)
  obtain ⟨⟨p1, p2⟩, ⟨p3, p4⟩⟩ := t1
  obtain ⟨⟨p5, p6⟩, ⟨p7, p8⟩⟩ := t2
  have H1 : Hid (turnRe re im k = shr24 (re * cosI k + im * sinI k)) := rfl
  have H2 : Hid (turnIm re im k = shr24 (im * cosI k - re * sinI k)) := rfl
  have K1 : Hid (∀ W : World, Calls Tryd.prog 31 #[.int .i64 (re * cosI k + im * sinI k), .int .i64 24] W fun e w' => e = .returned (.int .i64 (turnRe re im k)) ∧ Below W.heap.size W w') := by
    intro W
    have h := shr_any (re * cosI k + im * sinI k) 24 W
    rwa [shrF24 (by omega) (by omega)] at h
  have K2 : Hid (∀ W : World, Calls Tryd.prog 31 #[.int .i64 (im * cosI k - re * sinI k), .int .i64 24] W fun e w' => e = .returned (.int .i64 (turnIm re im k)) ∧ Below W.heap.size W w') := by
    intro W
    have h := shr_any (im * cosI k - re * sinI k) 24 W
    rwa [shrF24 (by omega) (by omega)] at h
  clear H1 H2
  generalize turnRe re im k = x at *
  generalize turnIm re im k = y at *
  generalize cosI k = c at *
  generalize sinI k = s at *
  have q1 : wrap64 (re * c) = re * c := by unfold wrap64; omega
  have q2 : wrap64 (im * s) = im * s := by unfold wrap64; omega
  have q3 : wrap64 (im * c) = im * c := by unfold wrap64; omega
  have q4 : wrap64 (re * s) = re * s := by unfold wrap64; omega
  have q5 : wrap64 (re * c + im * s) = re * c + im * s := by unfold wrap64; omega
  have q6 : wrap64 (im * c - re * s) = im * c - re * s := by unfold wrap64; omega
  clear p1 p2 p3 p4 p5 p6 p7 p8
  have W1 : Hid (∀ (W : World) (b : Nat), W.cell? ⟨b, 0, none⟩ = some (.int .i64 k) → Calls Tryd.prog 46 #[.int .i64 1152921504606846976, .slice (some ⟨b, 0, none⟩) 1 1] W fun e w' => e = .returned (.bool true) ∧ w' = W) := by
    intro W b hc
    have h := tin1 1152921504606846976 (by omega) k W b hc
    rwa [hb1] at h
  have W2 : Hid (∀ (W : World) (b : Nat), W.cell? ⟨b, 0, none⟩ = some (.int .i64 re) → W.cell? ⟨b, 1, none⟩ = some (.int .i64 im) → Calls Tryd.prog 46 #[.int .i64 34359738368, .slice (some ⟨b, 0, none⟩) 2 2] W fun e w' => e = .returned (.bool true) ∧ w' = W) := by
    intro W b hc hd
    have h := tin2 34359738368 (by omega) re im W b hc hd
    rwa [hb2, hb3] at h
  obtain ⟨k1, k2⟩ := hk
  clear hre him hb1 hb2 hb3
  have B0 : Hid (Below w.heap.size w ((w.alloc (Obj.cells #[.int .i64 k] 3)).alloc (Obj.cells #[.int .i64 re, .int .i64 im] 3))) := ((Below.refl _ w).alloc (Nat.le_refl _) _).alloc (by simp) _
  go_enter Tryd.func34, Tryd.ntmps34
  go_wp2_with (first
    | (go_at_call 46; (with_reducible refine (W1.out _ _ ?_).mono ?_)
       · go_simp
       rintro e w1 ⟨rfl, rfl⟩)
    | (go_at_call 46; (with_reducible refine (W2.out _ _ ?_ ?_).mono ?_)
       · go_simp
       · go_simp
       rintro e w1 ⟨rfl, rfl⟩)
    | (go_at_call 47; (with_reducible refine (HA.out _ B0.out).mono ?_); rintro e w2 ⟨rfl, hb2⟩; have B2 : Hid (Below w.heap.size w w2) := below_then B0.out hb2; clear hb2)
    | (go_at_call 47; (with_reducible refine (HS.out _ B2.out).mono ?_); rintro e w3 ⟨rfl, hb3⟩; have B3 : Hid (Below w.heap.size w w3) := below_then B2.out hb3; clear hb3)
    | (go_at_call 31; (with_reducible refine (K1.out _).mono ?_); rintro e w4 ⟨rfl, hb4⟩; have B4 : Hid (Below w.heap.size w w4) := below_then B3.out hb4; clear hb4)
    | (go_at_call 31; (with_reducible refine (K2.out _).mono ?_); rintro e w5 ⟨rfl, hb5⟩; have B5 : Hid (Below w.heap.size w w5) := below_then B4.out hb5; clear hb5))
  go_ret2
  exact ⟨rfl, B5.out⟩
theorem turn_no (r : Nat) (re im k : Int) (h : ¬ okTurn re im k) (w : World) :
    Calls Tryd.prog 34 #[.pointer (some ⟨r, 0, none⟩), .int .i64 re, .int .i64 im, .int .i64 k] w fun e w' => e = .returned (.tuple #[.int .i64 0, .int .i64 0]) ∧ Below w.heap.size w w' := by
  by_cases hk : -1152921504606846976 ≤ k ∧ k ≤ 1152921504606846976
  · have hb1 := in1_yes hk.1 hk.2
    have hb2 : (in1 (-34359738368) 34359738368 re && in1 (-34359738368) 34359738368 im) = false := by
      unfold okTurn at h; simp [in1]; omega
    have W1 : Hid (∀ (W : World) (b : Nat), W.cell? ⟨b, 0, none⟩ = some (.int .i64 k) → Calls Tryd.prog 46 #[.int .i64 1152921504606846976, .slice (some ⟨b, 0, none⟩) 1 1] W fun e w' => e = .returned (.bool true) ∧ w' = W) := by
      intro W b hc
      have h := tin1 1152921504606846976 (by omega) k W b hc
      rwa [hb1] at h
    have W2 : Hid (∀ (W : World) (b : Nat), W.cell? ⟨b, 0, none⟩ = some (.int .i64 re) → W.cell? ⟨b, 1, none⟩ = some (.int .i64 im) → Calls Tryd.prog 46 #[.int .i64 34359738368, .slice (some ⟨b, 0, none⟩) 2 2] W fun e w' => e = .returned (.bool false) ∧ w' = W) := by
      intro W b hc hd
      have h := tin2 34359738368 (by omega) re im W b hc hd
      rwa [hb2] at h
    clear hb1 hb2 hk h
    go_enter Tryd.func34, Tryd.ntmps34
    go_wp2_with (first
      | (go_at_call 46; (with_reducible refine (W1.out _ _ ?_).mono ?_)
         · go_simp
         rintro e w1 ⟨rfl, rfl⟩)
      | (go_at_call 46; (with_reducible refine (W2.out _ _ ?_ ?_).mono ?_)
         · go_simp
         · go_simp
         rintro e w1 ⟨rfl, rfl⟩))
    go_ret2
    exact ⟨rfl, ((Below.refl _ w).alloc (Nat.le_refl _) _).alloc (by simp) _⟩
  · have hb1 := in1_no (lo := -1152921504606846976) (hi := 1152921504606846976) (x := k) (by omega)
    have W1 : Hid (∀ (W : World) (b : Nat), W.cell? ⟨b, 0, none⟩ = some (.int .i64 k) → Calls Tryd.prog 46 #[.int .i64 1152921504606846976, .slice (some ⟨b, 0, none⟩) 1 1] W fun e w' => e = .returned (.bool false) ∧ w' = W) := by
      intro W b hc
      have h := tin1 1152921504606846976 (by omega) k W b hc
      rwa [hb1] at h
    clear hb1 hk h
    go_enter Tryd.func34, Tryd.ntmps34
    go_wp2_with (first
      | (go_at_call 46; (with_reducible refine (W1.out _ _ ?_).mono ?_)
         · go_simp
         rintro e w1 ⟨rfl, rfl⟩))
    go_ret2
    exact ⟨rfl, (Below.refl _ w).alloc (Nat.le_refl _) _⟩
theorem turn_any (r : Nat) (re im k : Int) (w : World) (ht : Tab r w) :
    Calls Tryd.prog 34 #[.pointer (some ⟨r, 0, none⟩), .int .i64 re, .int .i64 im, .int .i64 k] w fun e w' => e = .returned (.tuple #[.int .i64 (turnReF re im k), .int .i64 (turnImF re im k)]) ∧ Below w.heap.size w w' := by
  by_cases h : okTurn re im k
  · rw [turnReF, turnImF, if_pos h, if_pos h]
    exact turn_yes r re im k h.1 h.2.1 h.2.2 w ht
  · rw [turnReF, turnImF, if_neg h, if_neg h]
    exact turn_no r re im k h w
end Go.Proofs.YtgkjjkdjalbfaaaDoor
