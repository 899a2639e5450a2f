/-
  The document's GetBits: what its decoder tells.
-/
import Derived.Test.YtdfpmhdgebajfaaDoorU3
namespace Go.Proofs.YtdfpmhdgebajfaaDoor
open Go.ChangeShapes Go.WideShapes Go.ChangeAt Go.RowKit
set_option linter.unusedVariables false
set_option maxRecDepth 100000

/-- Behind the document's GetBits: of no bits it takes nothing. -/
def rgetB (l : List UInt8) (d : De) (n : Nat) : De := if n = 0 then d else (getB l d n).2
theorem rgetB_sim (l : List UInt8) (d : De) (n : Nat) (ok : d.Ok) : Sim (rgetB l d n) (getB l d n).2 := by
  unfold rgetB
  split
  · next e =>
    subst e
    rw [getB_zero]
    exact (take_one ok).symm
  · exact Sim.refl _
theorem rgetB_ok (l : List UInt8) (d : De) (n : Nat) (h : n ≤ 31) (ok : d.Ok) : (rgetB l d n).Ok ∧ (rgetB l d n).pos ≤ d.pos + 8 := by
  unfold rgetB
  split
  · exact ⟨ok, by omega⟩
  · have := getB_ok l d n h ok
    exact ⟨this.1, this.2.1⟩
theorem rgetbits_not (r : Nat) (n : Int) (w : World) (hn : bitsB n = false) :
    Calls Tryd.prog 14 #[.pointer (some ⟨r, 0, none⟩), .int .i64 n] w fun e w' => e = .returned (.int .i64 0) ∧ w' = w := by
  rcases bitsB_no hn with h | h
  · clear hn
    go_enter Tryd.func14, Tryd.ntmps14
    go_wp2
    go_ret
    exact ⟨rfl, rfl⟩
  · have h' : ¬ n < 0 := by omega
    clear hn
    go_enter Tryd.func14, Tryd.ntmps14
    go_wp2
    go_ret
    exact ⟨rfl, rfl⟩
theorem rgetbits_zero (r : Nat) (w : World) :
    Calls Tryd.prog 14 #[.pointer (some ⟨r, 0, none⟩), .int .i64 0] w fun e w' => e = .returned (.int .i64 0) ∧ w' = w := by
  go_enter Tryd.func14, Tryd.ntmps14
  go_wp2
  refine wp_loop_rounds 1 ?_
  rw [rounds_succ]
  go_wp2
  go_ret
  exact ⟨rfl, rfl⟩
theorem wrap_pow64' (m : Nat) (h : m ≤ 31) : wrap64 (2 ^ m : Int) = ((2 ^ m : Nat) : Int) := by
  rw [← wrap_pow m h]
  unfold wrap64; exact (IntKind.wrap_i64 _).symm
theorem wrap_shl64 (a m : Nat) (h : m ≤ 24) (ha : a < 16777216) : wrap64 ((a : Int) * 2 ^ m) = ((a * 2 ^ m : Nat) : Int) := by
  rw [← wrap_shl a m h ha]
  unfold wrap64; exact (IntKind.wrap_i64 _).symm
theorem rvalue_pl (r : Nat) (l : List UInt8) (d : De) (t : Nat) (w : World) (h : IsAt r 67 (rdc l d) w) (ok : d.Ok) (h1 : 1 ≤ t) (h2 : t ≤ 65536) :
    Calls Tryd.prog 20 #[.pointer (some ⟨r, 0, none⟩), .int .i64 t] w fun e w' => e = .returned (.int .i64 (placeD d t : Int)) ∧ IsAt r 67 (rdc l d) w' ∧ But r w w' := by
  refine (rplace_at r l d (t : Int) w h ok).mono ?_
  rintro e w' ⟨rfl, n, rfl⟩
  rw [placeF_nat d t h1 h2]
  exact ⟨rfl, h.drewN n, (But.refl r w).drewN n⟩
set_option maxHeartbeats 1000000 in
theorem rgetbits_pos (r : Nat) (l : List UInt8) (d : De) (n : Nat) (w : World) (h : IsAt r 67 (rdc l d) w) (ok : d.Ok) (h1 : 1 ≤ n) (hn : n ≤ 31) (hl : l.length ≤ 100000) (hpos : d.pos ≤ 40000) :
    Calls Tryd.prog 14 #[.pointer (some ⟨r, 0, none⟩), .int .i64 (n : Int)] w fun e w' => e = .returned (.int .i64 ((getB l d n).1 : Int)) ∧ IsAt r 67 (rdc l (getB l d n).2) w' ∧ But r w w' := by
  have hK := bK_le n hn
  have hR := bR_le n
  have hRK := bRK n
  have hR1 : 1 ≤ bR n := by unfold bR bK; omega
  have HI : Hid (IsAt r 67 (rdc l d) w) := h
  have HG : Hid (getB l d n = getK l d (bK n) (bR n) 0) := rfl
  clear h
  have HRK : Hid (bR n + 8 * bK n = n) := hRK
  clear hRK
  have n0 : (0 : Int) ≤ (n : Int) := by omega
  have n31 : (n : Int) ≤ 31 := by omega
  generalize bK n = K at *
  generalize bR n = R at *
  go_enter Tryd.func14, Tryd.ntmps14
  go_wp2
  go_loopw [6, 5] (fun x v wr => (∃ (k a m : Nat) (e : De), k ≤ K ∧ x = .int .i64 (m : Int) ∧ m = R + 8 * k ∧ v = .int .i64 (a : Int) ∧ a < 2 ^ (8 * (3 - k)) ∧ IsAt r 67 (rdc l e) wr ∧ e.Ok ∧ e.pos + 2 * k ≤ d.pos + 2 * K ∧ getK l e k R a = getK l d K R 0 ∧ But r w wr) ∨ (x = .int .i64 0 ∧ v = .int .i64 ((getB l d n).1 : Int) ∧ IsAt r 67 (rdc l (getB l d n).2) wr ∧ But r w wr)) (fun x _ _ => (intOf x).toNat)
  case atStart => exact .inl ⟨K, 0, n, d, Nat.le_refl _, rfl, HRK.out.symm, rfl, Nat.pow_pos (by decide), HI.out, ok, Nat.le_refl _, rfl, But.refl r w⟩
  case round =>
    rcases hrel with ⟨k, a, m, e, hk, rfl, hm, rfl, ha, h1, ok1, hps, hg, bt⟩ | ⟨rfl, rfl, h1, bt⟩
    · have ha2 := pow_bd k 0 a (by omega) ha
      have ha3 : (a : Int) < 16777216 := by omega
      have H1 : Hid (IsAt r 67 (rdc l e) wr) := h1
      have G1 : Hid (getK l e k R a = getK l d K R 0) := hg
      have T1 : Hid (But r w wr) := bt
      have A1 : Hid (a < 2 ^ (8 * (3 - k))) := ha
      have M1 : Hid (m = R + 8 * k) := hm
      clear h1 hg bt ha
      cases k with
      | zero =>
        obtain rfl : R = m := by omega
        have q : (R : Int) ≤ 8 := by omega
        have q0 : (0 : Int) < (R : Int) := by omega
        have t1 := two_pos R
        have t2 := two_le R hR
        have hx := place_lt e (2 ^ R) t1
        have HP : Hid (∀ w1, IsAt r 67 (rdc l e) w1 → Calls Tryd.prog 20 #[.pointer (some ⟨r, 0, none⟩), .int .i64 ((2 ^ R : Nat) : Int)] w1 fun e' w' => e' = .returned (.int .i64 (placeD e (2 ^ R) : Int)) ∧ IsAt r 67 (rdc l e) w' ∧ But r w1 w') := fun w1 k1 => rvalue_pl r l e (2 ^ R) w1 k1 ok1 t1 (by omega)
        have HT : Hid (∀ w1, IsAt r 67 (rdc l e) w1 → Calls Tryd.prog 33 #[.pointer (some ⟨r, 0, none⟩), .int .i64 (placeD e (2 ^ R) : Int), .int .i64 ((placeD e (2 ^ R) : Int) + 1), .int .i64 ((2 ^ R : Nat) : Int)] w1 fun e' w' => e' = .returned (.tuple #[]) ∧ IsAt r 67 (rdc l (takeD l e (placeD e (2 ^ R)) (placeD e (2 ^ R) + 1) (2 ^ R))) w' ∧ But r w1 w') := fun w1 k1 => rtake_at r l e (placeD e (2 ^ R)) (placeD e (2 ^ R) + 1) (2 ^ R) w1 k1 ok1 (place_part e (2 ^ R) t1 (by omega)) hl (by omega)
        have W1' := wrap_pow64' R (by omega)
        have W2' := wrap_shl64 a R (by omega) ha2
        have W1 : ∀ m : Nat, m = R → wrap64 (2 ^ m) = ((2 ^ R : Nat) : Int) := fun m e => by rw [e]; exact W1'
        have W2 : ∀ m : Nat, m = R → wrap64 ((a : Int) * 2 ^ m) = ((a * 2 ^ R : Nat) : Int) := fun m e => by rw [e]; exact W2'
        have OR := or_add a (placeD e (2 ^ R)) R (place_lt e _ (two_pos R)) (by omega) (by omega)
        have G2 : Hid (getB l d n = (a * 2 ^ R + placeD e (2 ^ R), takeD l e (placeD e (2 ^ R)) (placeD e (2 ^ R) + 1) (2 ^ R))) := HG.out.trans G1.out.symm
        have hxi : (placeD e (2 ^ R) : Int) ≤ 65536 := by omega
        have MN : min (R : Int) 8 = (R : Int) := by omega
        clear hm ha3 ha2 G1 HG A1 M1 W1' W2' t1 t2 hx
        generalize takeD l e (placeD e (2 ^ R)) (placeD e (2 ^ R) + 1) (2 ^ R) = e2 at *
        generalize placeD e (2 ^ R) = x at *
        generalize a * 2 ^ R + x = V at *
        generalize a * 2 ^ R = A at *
        generalize 2 ^ R = t at *
        go_wp2_with (fail)
        refine (HP.out _ H1.out).mono ?_
        rintro e3 w1 ⟨rfl, i1, b1⟩
        have I1 : Hid (IsAt r 67 (rdc l e) w1) := i1
        have B1 : Hid (But r w w1) := T1.out.trans b1
        clear i1 b1 H1 T1
        go_wp2_with (fail)
        refine (HT.out _ I1.out).mono ?_
        rintro e3 w2 ⟨rfl, i2, b2⟩
        have I2 : Hid (IsAt r 67 (rdc l e2) w2) := i2
        have B2 : Hid (But r w w2) := B1.out.trans b2
        clear i2 b2 I1 B1
        go_wp2
        go_roundw
        case rel => exact .inr ⟨by first | rfl | go_num, by rw [G2.out], by rw [G2.out]; exact I2.out, B2.out⟩
        case measure => simp [intOf]; omega
      | succ k =>
        have q : (8 : Int) < (m : Int) := by omega
        have q1 : (m : Int) ≤ 31 := by have := HRK.out; omega
        have hx := place_lt e 256 (by decide)
        have OR := or_256 a (placeD e 256) hx (by omega)
        have HT2 := take_ok (l := l) ok1 (place_part e 256 (by decide) (by decide))
        have G2 : Hid (getK l (takeD l e (placeD e 256) (placeD e 256 + 1) 256) k R (a * 256 + placeD e 256) = getK l d K R 0) := G1.out
        have A2 : Hid (a * 256 + placeD e 256 < 2 ^ (8 * (3 - k))) := by
          have h3 := A1.out
          show _ < _
          rw [show 8 * (3 - k) = 8 + 8 * (3 - (k + 1)) by omega, Nat.pow_add]
          generalize 2 ^ (8 * (3 - (k + 1))) = M at *
          have : (2 : Nat) ^ 8 = 256 := rfl
          omega
        have M2 : Hid (m = R + 8 * k + 8) := by show m = _; omega
        have HP : Hid (∀ w1, IsAt r 67 (rdc l e) w1 → Calls Tryd.prog 20 #[.pointer (some ⟨r, 0, none⟩), .int .i64 256] w1 fun e' w' => e' = .returned (.int .i64 (placeD e 256 : Int)) ∧ IsAt r 67 (rdc l e) w' ∧ But r w1 w') := fun w1 k1 => rvalue_pl r l e 256 w1 k1 ok1 (by decide) (by decide)
        have HT : Hid (∀ w1, IsAt r 67 (rdc l e) w1 → Calls Tryd.prog 33 #[.pointer (some ⟨r, 0, none⟩), .int .i64 (placeD e 256 : Int), .int .i64 ((placeD e 256 : Int) + 1), .int .i64 256] w1 fun e' w' => e' = .returned (.tuple #[]) ∧ IsAt r 67 (rdc l (takeD l e (placeD e 256) (placeD e 256 + 1) 256)) w' ∧ But r w1 w') := fun w1 k1 => rtake_at r l e (placeD e 256) (placeD e 256 + 1) 256 w1 k1 ok1 (place_part e 256 (by decide) (by decide)) hl (by omega)
        have hxi : (placeD e 256 : Int) ≤ 65536 := by omega
        have MN : Hid (min (m : Int) 8 = 8) := by show min (m : Int) 8 = 8; omega
        have MP : Hid (wrap64 (2 ^ (min (m : Int) 8).toNat) = 256) := by show wrap64 _ = _; rw [MN.out]; exact IntWalk.wrap64_in 256 (by decide)
        have W8 : ∀ q : Nat, q = a → wrap64 ((q : Int) * 256) = (q : Int) * 256 := fun q e => IntWalk.wrap64_in _ (by omega)
        clear hm G1 A1 ha2 ha3
        generalize takeD l e (placeD e 256) (placeD e 256 + 1) 256 = e2 at *
        generalize placeD e 256 = x at *
        go_wp2_with (fail)
        rw [MP.out, MN.out]
        refine (HP.out _ H1.out).mono ?_
        rintro e3 w1 ⟨rfl, i1, b1⟩
        have I1 : Hid (IsAt r 67 (rdc l e) w1) := i1
        have B1 : Hid (But r w w1) := T1.out.trans b1
        clear i1 b1 H1 T1
        go_wp2_with (fail)
        refine (HT.out _ I1.out).mono ?_
        rintro e3 w2 ⟨rfl, i2, b2⟩
        have I2 : Hid (IsAt r 67 (rdc l e2) w2) := i2
        have B2 : Hid (But r w w2) := B1.out.trans b2
        clear i2 b2 I1 B1
        have ME : Hid ((m : Int) - 8 = ((m - 8 : Nat) : Int)) := by show _ = _; omega
        go_wp2
        go_roundw
        case rel => exact .inl ⟨k, a * 256 + x, m - 8, e2, by omega, by rw [ME.out], by have := M2.out; omega, rfl, A2.out, I2.out, HT2.1, by have := HT2.2; omega, G2.out, B2.out⟩
        case measure => simp [intOf]; omega
    · have H1 : Hid (IsAt r 67 (rdc l (getB l d n).2) wr) := h1
      have T1 : Hid (But r w wr) := bt
      clear h1 bt HG
      go_wp2
      go_ret
      exact ⟨rfl, H1.out, T1.out⟩
theorem rgetbits_at (r : Nat) (l : List UInt8) (d : De) (n : Nat) (w : World) (h : IsAt r 67 (rdc l d) w) (ok : d.Ok) (hn : n ≤ 31) (hl : l.length ≤ 100000) (hpos : d.pos ≤ 40000) :
    Calls Tryd.prog 14 #[.pointer (some ⟨r, 0, none⟩), .int .i64 (n : Int)] w fun e w' => e = .returned (.int .i64 ((getB l d n).1 : Int)) ∧ IsAt r 67 (rdc l (rgetB l d n)) w' ∧ But r w w' := by
  by_cases h0 : n = 0
  · subst h0
    refine (rgetbits_zero r w).mono ?_
    rintro e w' ⟨rfl, rfl⟩
    rw [getB_zero]
    exact ⟨rfl, h, But.refl r w'⟩
  · have e : rgetB l d n = (getB l d n).2 := by unfold rgetB; rw [if_neg h0]
    rw [e]
    exact rgetbits_pos r l d n w h ok (by omega) hn hl hpos
end Go.Proofs.YtdfpmhdgebajfaaDoor
