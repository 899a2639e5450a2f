/-
  Each sample is near the exact sum of what two blocks say: off by 2 at most from it, rounded down. Plain numbers.
-/
import Derived.Test.YtfhcfdepjhdhfaaDoorZL
import Derived.Test.YtfhcfdepjhdhfaaDoorZH
namespace Go.Proofs.YtfhcfdepjhdhfaaDoor
set_option linter.unusedVariables false

/-- What a block's sums are too great by, less 5 bits. -/
def dB (n : Nat) : Int := if n = 64 then 16777216 else 2097152
/-- A part of a sum, in parts of 2^20 of a sample, rounded down. -/
def partF (n : Nat) (w s : Int) : Int := (w * s) / dB n
/-- As the document reckons it. -/
theorem part_of {D w s : Int} (hD : 0 < D) : (w * (s / 1048576)) / D * 1048576 + ((w * (s / 1048576)) % D * 1048576 + w * (s % 1048576)) / D = (w * s) / D := by
  have e1 := Int.mul_ediv_add_emod s 1048576
  have e2 := Int.mul_ediv_add_emod (w * (s / 1048576)) D
  have e3 : w * s = ((w * (s / 1048576)) % D * 1048576 + w * (s % 1048576)) + D * ((w * (s / 1048576)) / D * 1048576) := by
    generalize hq : s / 1048576 = q at *
    generalize hr : s % 1048576 = r at *
    generalize hh : w * q / D = h at *
    generalize hm : w * q % D = m at *
    have : w * s = 1048576 * (w * q) + w * r := by rw [← e1]; grind
    rw [this, ← e2]
    grind
  rw [e3, Int.add_mul_ediv_left _ _ (by omega)]
  omega
/-- A part of what is rounded is near the part. -/
theorem part_near {n : Nat} (hn : IsN n) {w s : Int} (h1 : -32768 ≤ w) (h2 : w ≤ 32768) : -524289 ≤ partF n w s - 32 * (w * shrB n s) ∧ partF n w s - 32 * (w * shrB n s) ≤ 524289 := by
  unfold partF dB shrB
  rcases hn with rfl | rfl
  · rw [if_neg (by decide), if_neg (by decide)]
    generalize hq : (s + 33554432) / 67108864 = q
    obtain ⟨r, hr⟩ : ∃ r, r = s - 67108864 * q := ⟨_, rfl⟩
    have b := mul_bd (x := w) (y := r) (a := 32768) (b := 33554432) h1 h2 (by omega) (by omega)
    have e : w * s = 67108864 * (w * q) + w * r := by rw [hr]; grind
    rw [e]
    generalize w * q = y at *
    generalize w * r = z at *
    omega
  · rw [if_pos rfl, if_pos rfl]
    generalize hq : (s + 268435456) / 536870912 = q
    obtain ⟨r, hr⟩ : ∃ r, r = s - 536870912 * q := ⟨_, rfl⟩
    have b := mul_bd (x := w) (y := r) (a := 32768) (b := 268435456) h1 h2 (by omega) (by omega)
    have e : w * s = 536870912 * (w * q) + w * r := by rw [hr]; grind
    rw [e]
    generalize w * q = y at *
    generalize w * r = z at *
    omega
/-- What two blocks leave at one place is near the exact sum. -/
theorem near_two {n n' : Nat} (hn : IsN n) (hn' : IsN n') {p q A B : Int} (hp : -32764 ≤ p ∧ p ≤ 32764) (hq : -32764 ≤ q ∧ q ≤ 32764) (hin : -70368744177664 ≤ p * shrB n A ∧ p * shrB n A ≤ 70368744177664) (hin' : -70368744177664 ≤ q * shrB n' B ∧ q * shrB n' B ≤ 70368744177664) :
    -2 ≤ wMeetF (p * shrB n A) (q * shrB n' B) - (partF n p A + partF n' q B) / 1048576 ∧ wMeetF (p * shrB n A) (q * shrB n' B) - (partF n p A + partF n' q B) / 1048576 ≤ 2 := by
  have a := part_near hn (w := p) (s := A) (by omega) (by omega)
  have b := part_near hn' (w := q) (s := B) (by omega) (by omega)
  unfold wMeetF sh15
  rw [if_pos (by omega)]
  omega
/-- A block's own number. -/
theorem near_one {n : Nat} (hn : IsN n) (B : Int) : -2 ≤ shrB n B - partF n 32768 B / 1048576 ∧ shrB n B - partF n 32768 B / 1048576 ≤ 2 := by
  have a := part_near hn (w := 32768) (s := B) (by omega) (by omega)
  omega
/-- Held numbers are as near. -/
theorem held_near {s t d : Int} (hd : 0 ≤ d) (h1 : -d ≤ s - t) (h2 : s - t ≤ d) : -d ≤ max (-32768) (min 32767 s) - max (-32768) (min 32767 t) ∧ max (-32768) (min 32767 s) - max (-32768) (min 32767 t) ≤ d := by omega
theorem held_self {s t d : Int} (hd : 0 ≤ d) (ht : -32768 ≤ t ∧ t ≤ 32767) (h1 : -d ≤ s - t) (h2 : s - t ≤ d) : -d ≤ max (-32768) (min 32767 s) - t ∧ max (-32768) (min 32767 s) - t ≤ d := by omega
end Go.Proofs.YtfhcfdepjhdhfaaDoor
