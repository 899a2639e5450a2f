/-
  sym.GetBits: what a decoder tells.
-/
import Derived.Test.YtdfpmhdgebajfaaDoorU1
namespace Go.Proofs.YtdfpmhdgebajfaaDoor
open Go.ChangeShapes Go.WideShapes Go.ChangeAt Go.RowKit
set_option linter.unusedVariables false
set_option maxRecDepth 100000

theorem or_i64 (a b : Nat) (ha : a < 4611686018427387904) (hb : b < 4611686018427387904) : bits .or .i64 (a : Int) (b : Int) = ((a ||| b : Nat) : Int) := by
  have h1 : (BitVec.ofInt 64 (a : Int)).toNat = a := by
    rw [BitVec.ofInt_natCast, BitVec.toNat_ofNat]; exact Nat.mod_eq_of_lt (by omega)
  have h2 : (BitVec.ofInt 64 (b : Int)).toNat = b := by
    rw [BitVec.ofInt_natCast, BitVec.toNat_ofNat]; exact Nat.mod_eq_of_lt (by omega)
  have h3 : a ||| b < 2 ^ 62 := Nat.or_lt_two_pow ha hb
  show IntKind.i64.wrap ((BitVec.ofInt 64 (a : Int) ||| BitVec.ofInt 64 (b : Int)).toNat : Int) = _
  rw [BitVec.toNat_or, h1, h2]
  generalize a ||| b = c at *
  simp [IntKind.wrap, IntKind.signed, IntKind.bits]
  omega
theorem or_add (a b r : Nat) (hb : b < 2 ^ r) (hr : r ≤ 24) (ha : a < 2147483648) : bits .or .i64 (((a * 2 ^ r : Nat)) : Int) (b : Int) = ((a * 2 ^ r + b : Nat) : Int) := by
  have h0 : 2 ^ r ≤ 2 ^ 24 := Nat.pow_le_pow_right (by decide) hr
  have h1 : a * 2 ^ r ≤ 2147483648 * 2 ^ 24 := Nat.mul_le_mul (by omega) h0
  have h2 : (2147483648 : Nat) * 2 ^ 24 = 36028797018963968 := rfl
  have h3 : (2 : Nat) ^ 24 = 16777216 := rfl
  rw [or_i64 _ _ (by omega) (by omega)]
  congr 1
  rw [Nat.mul_comm, ← Nat.two_pow_add_eq_or_of_lt hb]
theorem or_256 (a b : Nat) (hb : b < 256) (ha : a < 2147483648) : bits .or .i64 ((a : Int) * 256) (b : Int) = ((a * 256 + b : Nat) : Int) := by
  have := or_add a b 8 (by simpa using hb) (by decide) ha
  rw [show ((a * 2 ^ 8 : Nat) : Int) = (a : Int) * 256 by omega] at this
  exact this
theorem getbits_not (r : Nat) (n : Int) (w : World) (hn : bitsB n = false) :
    Calls Tryd.prog 13 #[.pointer (some ⟨r, 0, none⟩), .int .i64 n] w fun e w' => e = .returned (.int .i64 0) ∧ w' = w := by
  go_enter Tryd.func13, Tryd.ntmps13
  go_wp2_with (go_at_call 31; refine (arebits_any n _).mono ?_; rintro e w' ⟨rfl, rfl⟩; rw [hn])
  go_ret
  exact ⟨rfl, rfl⟩
theorem pow_bd (k r a : Nat) (hk : k ≤ 3) (ha : a < 2 ^ (8 * (3 - k))) : a < 16777216 := by
  have : 2 ^ (8 * (3 - k)) ≤ 2 ^ 24 := Nat.pow_le_pow_right (by decide) (by omega)
  have e : (2 : Nat) ^ 24 = 16777216 := rfl
  omega
theorem wrap_pow (m : Nat) (h : m ≤ 31) : IntKind.i64.wrap (2 ^ m : Int) = ((2 ^ m : Nat) : Int) := by
  have h1 : 2 ^ m ≤ 2 ^ 31 := Nat.pow_le_pow_right (by decide) h
  have h2 : (2 : Nat) ^ 31 = 2147483648 := rfl
  have e : (2 ^ m : Int) = ((2 ^ m : Nat) : Int) := by simp
  rw [e]
  generalize 2 ^ m = c at *
  simp [IntKind.wrap, IntKind.signed, IntKind.bits]
  omega
theorem wrap_shl (a m : Nat) (h : m ≤ 24) (ha : a < 16777216) : IntKind.i64.wrap ((a : Int) * 2 ^ m) = ((a * 2 ^ m : Nat) : Int) := by
  have h1 : 2 ^ m ≤ 2 ^ 24 := Nat.pow_le_pow_right (by decide) h
  have h3 : a * 2 ^ m ≤ 16777216 * 2 ^ 24 := Nat.mul_le_mul (by omega) h1
  have h2 : (16777216 : Nat) * 2 ^ 24 = 281474976710656 := rfl
  have e : ((a : Int) * 2 ^ m) = ((a * 2 ^ m : Nat) : Int) := by simp
  rw [e]
  generalize a * 2 ^ m = c at *
  simp [IntKind.wrap, IntKind.signed, IntKind.bits]
  omega
set_option maxHeartbeats 1000000 in
theorem getbits_at (r : Nat) (l : List UInt8) (d : De) (n : Nat) (w : World) (h : IsAt r 65 (dc l d) w) (ok : d.Ok) (hn : n ≤ 31) (hl : l.length ≤ 100000) :
    Calls Tryd.prog 13 #[.pointer (some ⟨r, 0, none⟩), .int .i64 (n : Int)] w fun e w' => e = .returned (.int .i64 ((getB l d n).1 : Int)) ∧ IsAt r 65 (dc l (getB l d n).2) w' ∧ But r w w' := by
  have hb : bitsB (n : Int) = true := by simp [bitsB]; omega
  have hK := bK_le n hn
  have hR := bR_le n
  have hRK := bRK n
  have hR0 : bR n = 0 → bK n = 0 := by unfold bR bK; omega
  have HI : Hid (IsAt r 65 (dc l d) w) := h
  have HB : Hid (bitsB (n : Int) = true) := hb
  have HG : Hid (getB l d n = getK l d (bK n) (bR n) 0) := rfl
  clear h hb
  have HRK : Hid (bR n + 8 * bK n = n) := hRK
  clear hRK
  generalize bK n = K at *
  generalize bR n = R at *
  go_enter Tryd.func13, Tryd.ntmps13
  go_wp2_with (go_at_call 31; refine (arebits_any _ _).mono ?_; rintro e w' ⟨rfl, e'⟩; obtain rfl := e'.symm; rw [HB.out])
  go_loopw [1, 5] (fun x v wr => ∃ (k a m : Nat) (e : De), k ≤ K ∧ x = .int .i64 (m : Int) ∧ m = R + 8 * k ∧ v = .int .i64 (a : Int) ∧ a < 2 ^ (8 * (3 - k)) ∧ IsAt r 65 (dc l e) wr ∧ e.Ok ∧ getK l e k R a = getK l d K R 0 ∧ But r w wr) (fun x _ _ => (intOf x).toNat)
  case atStart => exact ⟨K, 0, n, d, Nat.le_refl _, rfl, HRK.out.symm, rfl, Nat.pow_pos (by decide), HI.out, ok, rfl, But.refl r w⟩
  case round =>
    obtain ⟨k, a, m, e, hk, rfl, hm, rfl, ha, h1, ok1, hg, bt⟩ := hrel
    have ha2 := pow_bd k 0 a (by omega) ha
    have ha3 : (a : Int) < 16777216 := by omega
    have H1 : Hid (IsAt r 65 (dc l e) wr) := h1
    have G1 : Hid (getK l e k R a = getK l d K R 0) := hg
    have T1 : Hid (But r w wr) := bt
    have A1 : Hid (a < 2 ^ (8 * (3 - k))) := ha
    have M1 : Hid (m = R + 8 * k) := hm
    clear h1 hg bt ha
    cases k with
    | zero =>
      have q : (m : Int) ≤ 8 := by omega
      have q0 : (0 : Int) ≤ (m : Int) := by omega
      obtain rfl : R = m := by omega
      have HV := value_at r l e (2 ^ R) wr.drew (H1.out.drewN 1) ok1 (two_pos R) (by have := two_le R hR; omega) hl
      have W1 := wrap_pow R (by omega)
      have W2 := wrap_shl a R (by omega) ha2
      have OR := or_add a (placeD e (2 ^ R)) R (place_lt e _ (two_pos R)) (by omega) (by omega)
      have G2 : Hid (getB l d n = (a * 2 ^ R + placeD e (2 ^ R), takeD l e (placeD e (2 ^ R)) (placeD e (2 ^ R) + 1) (2 ^ R))) := HG.out.trans G1.out.symm
      have HVV : Hid (Calls Tryd.prog 32 #[.pointer (some ⟨r, 0, none⟩), .int .i64 ((2 ^ R : Nat) : Int)] wr.drew fun e' w' => e' = .returned (.int .i64 (placeD e (2 ^ R) : Int)) ∧ IsAt r 65 (dc l (takeD l e (placeD e (2 ^ R)) (placeD e (2 ^ R) + 1) (2 ^ R))) w' ∧ But r wr.drew w') := HV
      clear hm ha3 ha2 G1 HG HV A1 M1 H1
      generalize takeD l e (placeD e (2 ^ R)) (placeD e (2 ^ R) + 1) (2 ^ R) = e2 at *
      generalize placeD e (2 ^ R) = x at *
      generalize a * 2 ^ R + x = V at *
      generalize a * 2 ^ R = A at *
      generalize 2 ^ R = t at *
      go_wp2_with (fail)
      go_region_held3 (fun _ => True) (try trivial) (first | (go_at_call 32; refine HVV.out.mono ?_; rintro e w1 ⟨rfl, h3, b3⟩))
      go_wp2
      go_ret
      rw [G2.out]
      exact ⟨rfl, h3, T1.out.drew.trans b3⟩
    | succ k =>
      have q : (8 : Int) < (m : Int) := by omega
      have q1 : (m : Int) ≤ 31 := by have := HRK.out; omega
      have hx := place_lt e 256 (by decide)
      have OR := or_256 a (placeD e 256) hx (by omega)
      have HT := take_ok (l := l) ok1 (place_part e 256 (by decide) (by decide))
      have G2 : Hid (getK l (takeD l e (placeD e 256) (placeD e 256 + 1) 256) k R (a * 256 + placeD e 256) = getK l d K R 0) := G1.out
      have A2 : Hid (a * 256 + placeD e 256 < 2 ^ (8 * (3 - k))) := by
        have h3 := A1.out
        show _ < _
        rw [show 8 * (3 - k) = 8 + 8 * (3 - (k + 1)) by omega, Nat.pow_add]
        generalize 2 ^ (8 * (3 - (k + 1))) = M at *
        have : (2 : Nat) ^ 8 = 256 := rfl
        omega
      have M2 : Hid (m = R + 8 * k + 8) := by show m = _; omega
      have HV := value_at r l e 256 wr H1.out ok1 (by decide) (by decide) hl
      clear hm G1 A1 H1
      generalize takeD l e (placeD e 256) (placeD e 256 + 1) 256 = e2 at *
      generalize placeD e 256 = x at *
      go_wp2_with (go_at_call 32; refine HV.mono ?_; rintro e w1 ⟨rfl, h3, b3⟩)
      have ME : Hid ((m : Int) - 8 = ((m - 8 : Nat) : Int)) := by show _ = _; omega
      go_roundw
      case rel => exact ⟨k, a * 256 + x, m - 8, e2, by omega, by rw [ME.out], by have := M2.out; omega, rfl, A2.out, h3, HT.1, G2.out, T1.out.trans b3⟩
      case measure => simp [intOf]; omega
end Go.Proofs.YtdfpmhdgebajfaaDoor
