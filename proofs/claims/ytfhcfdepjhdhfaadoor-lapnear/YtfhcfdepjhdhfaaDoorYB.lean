/-
  The document's parts and sums.
-/
import Derived.Test.YtfhcfdepjhdhfaaDoorYA
import Derived.Test.YtfhcfdepjhdhfaaDoorYP
import Derived.Test.YtfhcfdepjhdhfaaDoorZA
namespace Go.Proofs.YtfhcfdepjhdhfaaDoor
open Go.ChangeShapes Go.WideShapes Go.ChangeAt Go.RowKit
set_option linter.unusedVariables false

theorem rmod_in (a b : Int) (hb : 1 ≤ b) (hb2 : b ≤ 4611686018427387904) (ha : -4611686018427387904 ≤ a ∧ a ≤ 4611686018427387904) (w : World) :
    Calls Tryd.prog 39 #[.int .i64 a, .int .i64 b] w fun e w' => e = .returned (.tuple #[.int .i64 (a / b), .int .i64 (a % b)]) ∧ Below w.heap.size w w' := by
  have h := modr_any a b (by omega) (by omega) w
  rwa [modQ_of hb, modR_of hb] at h
/-- By how many bits a block's sums are too great. -/
def byB (n : Nat) : Int := if n = 64 then 29 else 26
theorem rparts12_any {n : Nat} (hN : IsN n) (p s : Int) (hp : -32768 ≤ p ∧ p ≤ 32768) (hs : -72057594037927936 ≤ s ∧ s ≤ 72057594037927936) (w : World) :
    Calls Tryd.prog 38 #[.int .i64 p, .int .i64 s, .int .i64 (byB n)] w fun e w' => e = .returned (.int .i64 (partF n p s)) ∧ Below w.heap.size w w' := by
  have q1 : -68719476736 ≤ s / 1048576 ∧ s / 1048576 ≤ 68719476736 := by omega
  have r1 : 0 ≤ s % 1048576 ∧ s % 1048576 < 1048576 := by omega
  have b1 := mul_bd (x := p) (y := s / 1048576) (a := 32768) (b := 68719476736) hp.1 hp.2 q1.1 q1.2
  have b2 := mul_bd (x := p) (y := s % 1048576) (a := 32768) (b := 1048576) hp.1 hp.2 (by omega) (by omega)
  have K1 := hid (fun W => rmod_in s 1048576 (by omega) (by omega) (by omega) W)
  have m1 : wrap64 (p * (s / 1048576)) = p * (s / 1048576) := wr_in (by omega) (by omega)
  have m2 : wrap64 (p * (s % 1048576)) = p * (s % 1048576) := wr_in (by omega) (by omega)
  rcases hN with rfl | rfl
  · have hE := part_of (D := 2097152) (w := p) (s := s) (by omega)
    have hP : partF 8 p s = (p * s) / 2097152 := by unfold partF dB; rw [if_neg (by decide)]
    rw [hP, ← hE, show byB 8 = 26 from rfl]
    generalize s / 1048576 = q at *
    generalize s % 1048576 = r at *
    generalize hx : p * q = x at *
    generalize hy : p * r = y at *
    have K2 := hid (fun W => rmod_in x 2097152 (by omega) (by omega) (by omega) W)
    have r2 : 0 ≤ x % 2097152 ∧ x % 2097152 < 2097152 := by omega
    have q2 : -2147483648 ≤ x / 2097152 ∧ x / 2097152 ≤ 2147483648 := by omega
    generalize x / 2097152 = h at *
    generalize x % 2097152 = m at *
    have K3 := hid (fun W => rmod_in (m * 1048576 + y) 2097152 (by omega) (by omega) (by omega) W)
    have q3 : -1125899906842624 ≤ (m * 1048576 + y) / 2097152 ∧ (m * 1048576 + y) / 2097152 ≤ 1125899906842624 := by omega
    have m3 : wrap64 (m * 1048576) = m * 1048576 := wr_in (by omega) (by omega)
    have m4 : wrap64 (m * 1048576 + y) = m * 1048576 + y := wr_in (by omega) (by omega)
    have m5 : wrap64 (h * 1048576) = h * 1048576 := wr_in (by omega) (by omega)
    have m6 : wrap64 (h * 1048576 + (m * 1048576 + y) / 2097152) = h * 1048576 + (m * 1048576 + y) / 2097152 := wr_in (by omega) (by omega)
    clear hE hP b1 b2 q1 r1 q2 r2 q3 hp hs
    go_enter Tryd.func38, Tryd.ntmps38
    go_wp2_with (first
      | (go_at_call 39; (with_reducible refine (K1.out _).mono ?_); rintro e w1 ⟨rfl, b1⟩)
      | (go_at_call 39; (with_reducible refine (K2.out _).mono ?_); rintro e w2 ⟨rfl, b2⟩)
      | (go_at_call 39; (with_reducible refine (K3.out _).mono ?_); rintro e w3 ⟨rfl, b3⟩))
    go_ret
    exact ⟨ret_int m6, below_then b1 (below_then b2 b3)⟩
  · have hE := part_of (D := 16777216) (w := p) (s := s) (by omega)
    have hP : partF 64 p s = (p * s) / 16777216 := by unfold partF dB; rw [if_pos rfl]
    rw [hP, ← hE, show byB 64 = 29 from rfl]
    generalize s / 1048576 = q at *
    generalize s % 1048576 = r at *
    generalize hx : p * q = x at *
    generalize hy : p * r = y at *
    have K2 := hid (fun W => rmod_in x 16777216 (by omega) (by omega) (by omega) W)
    have r2 : 0 ≤ x % 16777216 ∧ x % 16777216 < 16777216 := by omega
    have q2 : -2147483648 ≤ x / 16777216 ∧ x / 16777216 ≤ 2147483648 := by omega
    generalize x / 16777216 = h at *
    generalize x % 16777216 = m at *
    have K3 := hid (fun W => rmod_in (m * 1048576 + y) 16777216 (by omega) (by omega) (by omega) W)
    have q3 : -1125899906842624 ≤ (m * 1048576 + y) / 16777216 ∧ (m * 1048576 + y) / 16777216 ≤ 1125899906842624 := by omega
    have m3 : wrap64 (m * 1048576) = m * 1048576 := wr_in (by omega) (by omega)
    have m4 : wrap64 (m * 1048576 + y) = m * 1048576 + y := wr_in (by omega) (by omega)
    have m5 : wrap64 (h * 1048576) = h * 1048576 := wr_in (by omega) (by omega)
    have m6 : wrap64 (h * 1048576 + (m * 1048576 + y) / 16777216) = h * 1048576 + (m * 1048576 + y) / 16777216 := wr_in (by omega) (by omega)
    clear hE hP b1 b2 q1 r1 q2 r2 q3 hp hs
    go_enter Tryd.func38, Tryd.ntmps38
    go_wp2_with (first
      | (go_at_call 39; (with_reducible refine (K1.out _).mono ?_); rintro e w1 ⟨rfl, b1⟩)
      | (go_at_call 39; (with_reducible refine (K2.out _).mono ?_); rintro e w2 ⟨rfl, b2⟩)
      | (go_at_call 39; (with_reducible refine (K3.out _).mono ?_); rintro e w3 ⟨rfl, b3⟩))
    go_ret
    exact ⟨ret_int m6, below_then b1 (below_then b2 b3)⟩
theorem rsums12_any {n : Nat} (hN : IsN n) (a : Option Addr) (cap : Nat) (X : Nat → Int) (hX : ∀ i, i < n → -33554432 ≤ X i ∧ X i ≤ 33554432) (w : World) (h : IsInts w a n cap X) :
    Calls Tryd.prog 36 #[.slice a n cap] w fun e w' => ∃ a' c', e = .returned (.tuple #[.slice a' n c', .int .i64 (byB n)]) ∧ IsInts w' a' n c' (xsum n X) ∧ Below w.heap.size w w' := by
  have K := hid (rsums_any hN a cap X hX w h)
  clear h hX
  rcases hN with rfl | rfl
  · go_enter Tryd.func36, Tryd.ntmps36
    go_wp2_with (fail)
    refine Calls.mono K.out ?_
    rintro e w2 ⟨a2, c2, rfl, i2, b2, _⟩
    have I2 := hid i2
    have B2 := hid b2
    clear i2 b2 K
    go_wp2
    go_ret2
    exact ⟨a2, c2, rfl, I2.out, B2.out⟩
  · go_enter Tryd.func36, Tryd.ntmps36
    go_wp2_with (fail)
    refine Calls.mono K.out ?_
    rintro e w2 ⟨a2, c2, rfl, i2, b2, _⟩
    have I2 := hid i2
    have B2 := hid b2
    clear i2 b2 K
    go_wp2
    go_ret2
    exact ⟨a2, c2, rfl, I2.out, B2.out⟩
end Go.Proofs.YtfhcfdepjhdhfaaDoor
