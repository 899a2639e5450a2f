/-
  The document's squares, Values, Power, Level.
-/
import Derived.Test.YtlfhjcalkokhiaaDoorSHN
import Derived.Test.YtlfhjcalkokhiaaDoorVP
import Derived.Test.YtlfhjcalkokhiaaDoorRW
import Derived.Test.YtlfhjcalkokhiaaDoorRTD
import Derived.Test.YtlfhjcalkokhiaaDoorNAbsR
import Derived.Test.YtlfhjcalkokhiaaDoorNDivR
import Derived.Test.YtlfhjcalkokhiaaDoorLCF
import Derived.Test.YtlfhjcalkokhiaaDoorPVS
namespace Go.Proofs.YtlfhjcalkokhiaaDoor
open Go.ChangeShapes Go.WideShapes Go.ChangeAt Go.RowKit
set_option linter.unusedVariables false

/-- Numbers whose squares may be summed. -/
def SqIn (n : Nat) (X : Nat → Int) : Prop := n ≤ 64 ∧ ∀ i, i < n → -67108864 ≤ X i ∧ X i ≤ 67108864
theorem sq26 {x : Int} (h1 : -67108864 ≤ x) (h2 : x ≤ 67108864) : 0 ≤ x * x ∧ x * x ≤ 4503599627370496 := by
  have h := Int.mul_le_mul (show ((x.natAbs : Nat) : Int) ≤ 67108864 by omega) (show ((x.natAbs : Nat) : Int) ≤ 67108864 by omega) (by omega) (by omega)
  rw [abs_sq] at h
  exact ⟨sq_nn x, by omega⟩
theorem SqIn.bd {n : Nat} {X : Nat → Int} (h : SqIn n X) : ∀ i, i ≤ n → 0 ≤ sqS X i ∧ sqS X i ≤ 4503599627370496 * i
  | 0, _ => ⟨Int.le_refl _, Int.le_refl _⟩
  | i + 1, hi => by
    have h1 := SqIn.bd h i (by omega)
    have h2 := h.2 i (by omega)
    have h3 := sq26 h2.1 h2.2
    rw [sqS]; omega
set_option maxRecDepth 100000 in
theorem rsquares_any (a : Option Addr) (len cap : Nat) (X : Nat → Int) (hX : SqIn len X) (w : World) (h : IsInts w a len cap X) :
    Calls Tryd.prog 25 #[.slice a len cap] w fun e w' => e = .returned (.int .i64 (sqS X len)) ∧ Below w.heap.size w w' := by
  have hlen := hX.1
  have HX := hid hX
  have HB := hid hX.bd
  by_cases h0 : len = 0
  · subst h0
    clear h hX
    go_enter Tryd.func25, Tryd.ntmps25
    go_wp2
    go_loop [3, 4] (fun s i => s = .int .i64 0 ∧ i = .int .i64 0) (fun _ i => 0)
    case atStart => exact ⟨rfl, rfl⟩
    case round =>
      obtain ⟨rfl, rfl⟩ := hrel
      go_wp2
      go_ret
      exact ⟨rfl, Below.refl _ _⟩
  obtain ⟨b, off, rfl, hc⟩ := h.cells (by omega)
  have HC := hid hc
  have HW0 := hid (Below.refl w.heap.size w)
  clear h hc hX
  go_enter Tryd.func25, Tryd.ntmps25
  go_wp2
  go_loopw [3, 4] (fun s i wr => ∃ k : Nat, k ≤ len ∧ i = .int .i64 k ∧ s = .int .i64 (sqS X k) ∧ Hid (Below w.heap.size w wr)) (fun _ i _ => len - (intOf i).toNat)
  case atStart => exact ⟨0, Nat.zero_le _, rfl, rfl, HW0.out⟩
  case round =>
    clear HW0
    obtain ⟨k, hk, rfl, hs, HW⟩ := hrel
    obtain ⟨w5, e5⟩ : ∃ w5, w5 = wr := ⟨_, rfl⟩
    subst e5
    by_cases hlt : k < len
    · have hck := HC.out w5 HW.out k hlt
      have hx := HX.out.2 k hlt
      have hb := HB.out k (by omega)
      have hq := sq26 hx.1 hx.2
      have HE := hid (show wrap64 (sqS X k + wrap64 (X k * X k)) = sqS X (k + 1) by rw [sqS]; have := hq.1; have := hq.2; unfold wrap64; omega)
      generalize X k = x at *
      generalize sqS X k = s0 at *
      clear hx hb hq
      subst hs
      go_wp2
      go_region
      go_wp2
      exact ⟨⟨k + 1, by omega, by go_num, congrArg (Value.int .i64) HE.out, HW.out.drew⟩, by simp [intOf]; omega⟩
    · obtain rfl : k = len := by omega
      subst hs
      go_wp2
      go_ret
      exact ⟨rfl, HW.out⟩
/-- How loud numbers are. -/
def powF (n : Nat) (X : Nat → Int) : Int := if n ≤ 64 ∧ allIn (-67108864) 67108864 X n = true then rootF (sqS X n) else 0
theorem powF_in {n : Nat} {X : Nat → Int} (h : SqIn n X) : powF n X = rootF (sqS X n) := by
  rw [powF, if_pos ⟨h.1, (allIn_iff _ _ _ _).2 h.2⟩]
theorem rpower_any (a : Option Addr) (len cap : Nat) (X : Nat → Int) (hl : len ≤ 1000) (w : World) (h : IsInts w a len cap X) :
    Calls Tryd.prog 12 #[.slice a len cap] w fun e w' => e = .returned (.int .i64 (powF len X)) ∧ Below w.heap.size w w' := by
  by_cases h64 : 64 < len
  · rw [powF, if_neg (by omega)]
    clear h
    have hd : decide ((len : Int) > 64) = true := decide_eq_true (by omega)
    go_enter Tryd.func12, Tryd.ntmps12
    go_wp2
    go_ret
    exact ⟨rfl, Below.refl _ _⟩
  have hd : decide ((len : Int) > 64) = false := decide_eq_false (by omega)
  have K1 := hid (rwithin_g (-67108864) 67108864 a len cap X hl w h)
  cases hin : allIn (-67108864) 67108864 X len with
  | false =>
    rw [powF, if_neg (by rw [hin]; simp)]
    rw [hin] at K1
    clear h hin
    go_enter Tryd.func12, Tryd.ntmps12
    go_wp2_with (go_at_call 29; (with_reducible refine Calls.mono K1.out ?_); rintro e w1 ⟨rfl, rfl⟩)
    go_ret
    exact ⟨rfl, Below.refl _ _⟩
  | true =>
    have hX : SqIn len X := ⟨by omega, (allIn_iff _ _ _ _).1 hin⟩
    rw [powF_in hX]
    rw [hin] at K1
    have K2 := hid (rsquares_any a len cap X hX w h)
    have K3 := hid (fun W => sqrtR_any (sqS X len) W)
    generalize rootF (sqS X len) = R at *
    generalize sqS X len = S at *
    clear h hin hX
    go_enter Tryd.func12, Tryd.ntmps12
    go_wp2_with (first
      | (go_at_call 29; (with_reducible refine Calls.mono K1.out ?_); rintro e w1 ⟨rfl, rfl⟩)
      | (go_at_call 25; (with_reducible refine Calls.mono K2.out ?_); rintro e w2 ⟨rfl, b2⟩)
      | (go_at_call 24; (with_reducible refine Calls.mono (K3.out _) ?_); rintro e w3 ⟨rfl, rfl⟩))
    go_ret
    exact ⟨rfl, b2⟩
/-- How loud they are, by Coarse and Fine. -/
def LvPost (a : Int) (w : World) (e : Ending) (w' : World) : Prop := ∃ c f, e = .returned (.tuple #[.int .i64 c, .int .i64 f]) ∧ Finds a c f ∧ Below w.heap.size w w'
theorem rlevel_any (a : Option Addr) (len cap : Nat) (X : Nat → Int) (hl : len ≤ 1000) (w : World) (h : IsInts w a len cap X) :
    Calls Tryd.prog 9 #[.slice a len cap] w (LvPost (powF len X) w) := by
  have K1 := hid (rpower_any a len cap X hl w h)
  have K2 := hid (fun W => rlfind_any (powF len X) W)
  generalize powF len X = p at *
  clear h
  go_enter Tryd.func9, Tryd.ntmps9
  go_wp2_with (fail)
  refine Calls.mono K1.out ?_
  rintro e w1 ⟨rfl, b1⟩
  go_wp2_with (fail)
  refine Calls.mono (K2.out _) ?_
  rintro e w2 ⟨c, f, rfl, hf, b2⟩
  have HF := hid hf
  clear hf
  go_wp2
  go_ret2
  exact ⟨c, f, rfl, HF.out, below_then b1 b2⟩
end Go.Proofs.YtlfhjcalkokhiaaDoor
