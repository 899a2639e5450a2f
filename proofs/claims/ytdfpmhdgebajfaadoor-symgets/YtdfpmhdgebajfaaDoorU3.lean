/-
  sym.GetBelow: what a decoder tells.
-/
import Derived.Test.YtdfpmhdgebajfaaDoorU2
namespace Go.Proofs.YtdfpmhdgebajfaaDoor
open Go.ChangeShapes Go.WideShapes Go.ChangeAt Go.RowKit
set_option linter.unusedVariables false
set_option maxRecDepth 100000

theorem getbelow_not (r : Nat) (n : Int) (w : World) (hn : boundB n = false) :
    Calls Tryd.prog 15 #[.pointer (some ⟨r, 0, none⟩), .int .i64 n] w fun e w' => e = .returned (.tuple #[.int .i64 0, .bool false]) ∧ w' = w := by
  go_enter Tryd.func15, Tryd.ntmps15
  go_wp2_with (go_at_call 34; refine (isbound_any n _).mono ?_; rintro e w' ⟨rfl, rfl⟩; rw [hn])
  go_ret2
  exact ⟨rfl, rfl⟩
set_option maxHeartbeats 1000000 in
theorem getbelow_at (r : Nat) (l : List UInt8) (d : De) (n : Nat) (w : World) (h : IsAt r 65 (dc l d) w) (ok : d.Ok) (h1 : 1 ≤ n) (h2 : n ≤ 2147483648) (hl : l.length ≤ 100000) :
    Calls Tryd.prog 15 #[.pointer (some ⟨r, 0, none⟩), .int .i64 (n : Int)] w fun e w' => e = .returned (.tuple #[.int .i64 ((getW l d n).1 : Int), .bool (getW l d n).2.1]) ∧ IsAt r 65 (dc l (getW l d n).2.2) w' ∧ But r w w' := by
  have HB : Hid (boundB (n : Int) = true) := by show boundB _ = _; simp [boundB]; omega
  have HI : Hid (IsAt r 65 (dc l d) w) := h
  have c1 : (1 : Int) ≤ (n : Int) := by omega
  have HL := low_any n h1 h2
  obtain ⟨s1, s2⟩ := sh_bd n h1 h2
  obtain ⟨t1, t2⟩ := hiT_bd n h1 h2
  have ht : hiT n = (n - 1) / 2 ^ sh n + 1 := rfl
  have SH : ((n : Int) - 1) / 2 ^ sh n = (((n - 1) / 2 ^ sh n : Nat) : Int) := by
    rw [show (n : Int) - 1 = ((n - 1 : Nat) : Int) by omega]
    simp
  have hx := place_lt d (hiT n) t1
  have HV : Hid (Calls Tryd.prog 32 #[.pointer (some ⟨r, 0, none⟩), .int .i64 ((((n - 1) / 2 ^ sh n : Nat) : Int) + 1)] w fun e' w' => e' = .returned (.int .i64 (placeD d (hiT n) : Int)) ∧ IsAt r 65 (dc l (hiD l d n)) w' ∧ But r w w') := value_at r l d (hiT n) w HI.out ok t1 (by omega) hl
  obtain ⟨ok1, _⟩ := hiD_ok l d n h1 h2 ok
  have HG : Hid (∀ w1, IsAt r 65 (dc l (hiD l d n)) w1 → Calls Tryd.prog 13 #[.pointer (some ⟨r, 0, none⟩), .int .i64 (sh n : Int)] w1 fun e w' => e = .returned (.int .i64 ((getB l (hiD l d n) (sh n)).1 : Int)) ∧ IsAt r 65 (dc l (getB l (hiD l d n) (sh n)).2) w' ∧ But r w1 w') := fun w1 q => getbits_at r l (hiD l d n) (sh n) w1 q ok1 (by omega) hl
  have gb := (getB_ok l (hiD l d n) (sh n) (by omega) ok1).2.2
  have W2 := wrap_shl (placeD d (hiT n)) (sh n) (by omega) (by omega)
  have OR := or_add (placeD d (hiT n)) (getB l (hiD l d n) (sh n)).1 (sh n) gb (by omega) (by omega)
  have GW : Hid (getW l d n = (if rawW l d n < n then rawW l d n else 0, decide (rawW l d n < n), (getB l (hiD l d n) (sh n)).2)) := rfl
  have RW : rawW l d n = placeD d (hiT n) * 2 ^ sh n + (getB l (hiD l d n) (sh n)).1 := rfl
  rw [← RW] at OR
  have c0 : (0 : Int) ≤ (((n - 1) / 2 ^ sh n : Nat) : Int) := by omega
  have c2 : (((n - 1) / 2 ^ sh n : Nat) : Int) ≤ 4095 := by omega
  clear h HI RW gb hx ht t1 t2 s2
  generalize rawW l d n = V at *
  generalize (n - 1) / 2 ^ sh n = T at *
  generalize placeD d (hiT n) * 2 ^ sh n = A at *
  generalize (getB l (hiD l d n) (sh n)).1 = y at *
  generalize (getB l (hiD l d n) (sh n)).2 = e2 at *
  generalize hiD l d n = e1 at *
  generalize placeD d (hiT n) = x at *
  generalize sh n = s at *
  have s0 : (0 : Int) ≤ (s : Int) := by omega
  by_cases hV : V < n
  · have hv : (V : Int) < (n : Int) := by omega
    go_enter Tryd.func15, Tryd.ntmps15
    go_wp2_with (first
      | (go_at_call 34; refine (isbound_any _ _).mono ?_; rintro e w' ⟨rfl, e'⟩; obtain rfl := e'.symm; rw [HB.out])
      | (go_at_call 35; refine (HL _).mono ?_; rintro e w' ⟨rfl, e'⟩; obtain rfl := e'.symm))
    refine HV.out.mono ?_
    rintro e w1 ⟨rfl, i1, b1⟩
    have I1 : Hid (IsAt r 65 (dc l e1) w1.drew) := i1.drewN 1
    have B1 : Hid (But r w w1.drew) := b1.drew
    clear i1 b1
    go_wp2_with (fail)
    go_region_held3 (fun _ => True) (try trivial) (first | (go_at_call 13; refine (HG.out _ I1.out).mono ?_; rintro e w2 ⟨rfl, i2, b2⟩))
    have I2 : Hid (IsAt r 65 (dc l e2) w2) := i2
    have B2 : Hid (But r w w2) := B1.out.trans b2
    clear i2 b2
    go_wp2
    go_ret2
    rw [GW.out, if_pos hV, decide_eq_true hV]
    exact ⟨rfl, I2.out, B2.out⟩
  · have hv : (n : Int) ≤ (V : Int) := by omega
    go_enter Tryd.func15, Tryd.ntmps15
    go_wp2_with (first
      | (go_at_call 34; refine (isbound_any _ _).mono ?_; rintro e w' ⟨rfl, e'⟩; obtain rfl := e'.symm; rw [HB.out])
      | (go_at_call 35; refine (HL _).mono ?_; rintro e w' ⟨rfl, e'⟩; obtain rfl := e'.symm))
    refine HV.out.mono ?_
    rintro e w1 ⟨rfl, i1, b1⟩
    have I1 : Hid (IsAt r 65 (dc l e1) w1.drew) := i1.drewN 1
    have B1 : Hid (But r w w1.drew) := b1.drew
    clear i1 b1
    go_wp2_with (fail)
    go_region_held3 (fun _ => True) (try trivial) (first | (go_at_call 13; refine (HG.out _ I1.out).mono ?_; rintro e w2 ⟨rfl, i2, b2⟩))
    have I2 : Hid (IsAt r 65 (dc l e2) w2) := i2
    have B2 : Hid (But r w w2) := B1.out.trans b2
    clear i2 b2
    go_wp2
    go_ret2
    rw [GW.out, if_neg hV, decide_eq_false hV]
    exact ⟨rfl, I2.out, B2.out⟩
end Go.Proofs.YtdfpmhdgebajfaaDoor
