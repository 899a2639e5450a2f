/-
  The document's GetBelow and GetDelta: what its decoder tells.
-/
import Derived.Test.YtdfpmhdgebajfaaDoorU4
import Derived.Test.YtdfpmhdgebajfaaDoorW1
namespace Go.Proofs.YtdfpmhdgebajfaaDoor
open Go.ChangeShapes Go.WideShapes Go.ChangeAt Go.RowKit
set_option linter.unusedVariables false
set_option maxRecDepth 100000

def rgetW (l : List UInt8) (d : De) (n : Nat) : De := rgetB l (hiD l d n) (sh n)
theorem rgetW_sim (l : List UInt8) (d : De) (n : Nat) (h1 : 1 ≤ n) (h2 : n ≤ 2147483648) (ok : d.Ok) : Sim (rgetW l d n) (getW l d n).2.2 := rgetB_sim l (hiD l d n) (sh n) (hiD_ok l d n h1 h2 ok).1
theorem rgetW_ok (l : List UInt8) (d : De) (n : Nat) (h1 : 1 ≤ n) (h2 : n ≤ 2147483648) (ok : d.Ok) : (rgetW l d n).Ok ∧ (rgetW l d n).pos ≤ d.pos + 10 := by
  have a := hiD_ok l d n h1 h2 ok
  have b := rgetB_ok l (hiD l d n) (sh n) (by have := (sh_bd n h1 h2).1; omega) a.1
  exact ⟨b.1, by show (rgetB _ _ _).pos ≤ _; omega⟩
theorem rgetbelow_not (r : Nat) (n : Int) (w : World) (hn : boundB n = false) :
    Calls Tryd.prog 16 #[.pointer (some ⟨r, 0, none⟩), .int .i64 n] w fun e w' => e = .returned (.tuple #[.int .i64 0, .bool false]) ∧ w' = w := by
  rcases boundB_no hn with h | h
  · clear hn
    go_enter Tryd.func16, Tryd.ntmps16
    go_wp2
    go_ret2
    exact ⟨rfl, rfl⟩
  · have h' : ¬ n < 1 := by omega
    clear hn
    go_enter Tryd.func16, Tryd.ntmps16
    go_wp2
    go_ret2
    exact ⟨rfl, rfl⟩
set_option maxHeartbeats 1000000 in
theorem rgetbelow_at (r : Nat) (l : List UInt8) (d : De) (n : Nat) (w : World) (h : IsAt r 67 (rdc l d) w) (ok : d.Ok) (h1 : 1 ≤ n) (h2 : n ≤ 2147483648) (hl : l.length ≤ 100000) (hpos : d.pos ≤ 30000) :
    Calls Tryd.prog 16 #[.pointer (some ⟨r, 0, none⟩), .int .i64 (n : Int)] w fun e w' => e = .returned (.tuple #[.int .i64 ((getW l d n).1 : Int), .bool (getW l d n).2.1]) ∧ IsAt r 67 (rdc l (rgetW l d n)) w' ∧ But r w w' := by
  have HI : Hid (IsAt r 67 (rdc l d) w) := h
  have c1 : (1 : Int) ≤ (n : Int) := by omega
  have c4 : (n : Int) ≤ 2147483648 := by omega
  have HL := rlow_any n h1 h2
  obtain ⟨s1, s2⟩ := sh_bd n h1 h2
  obtain ⟨t1, t2⟩ := hiT_bd n h1 h2
  have ht : hiT n = (n - 1) / 2 ^ sh n + 1 := rfl
  have SH : ((n : Int) - 1) / 2 ^ sh n = (((n - 1) / 2 ^ sh n : Nat) : Int) := by
    rw [show (n : Int) - 1 = ((n - 1 : Nat) : Int) by omega]
    simp
  have hx := place_lt d (hiT n) t1
  have HP : Hid (Calls Tryd.prog 20 #[.pointer (some ⟨r, 0, none⟩), .int .i64 ((((n - 1) / 2 ^ sh n : Nat) : Int) + 1)] w fun e' w' => e' = .returned (.int .i64 (placeD d (hiT n) : Int)) ∧ IsAt r 67 (rdc l d) w' ∧ But r w w') := rvalue_pl r l d (hiT n) w HI.out ok t1 (by omega)
  have HT : Hid (∀ w1, IsAt r 67 (rdc l d) w1 → Calls Tryd.prog 33 #[.pointer (some ⟨r, 0, none⟩), .int .i64 (placeD d (hiT n) : Int), .int .i64 ((placeD d (hiT n) : Int) + 1), .int .i64 ((((n - 1) / 2 ^ sh n : Nat) : Int) + 1)] w1 fun e' w' => e' = .returned (.tuple #[]) ∧ IsAt r 67 (rdc l (hiD l d n)) w' ∧ But r w1 w') := fun w1 k1 => rtake_at r l d (placeD d (hiT n)) (placeD d (hiT n) + 1) (hiT n) w1 k1 ok (place_part d (hiT n) t1 (by omega)) hl (by omega)
  obtain ⟨ok1, ps1⟩ := hiD_ok l d n h1 h2 ok
  have HG : Hid (∀ w1, IsAt r 67 (rdc l (hiD l d n)) w1 → Calls Tryd.prog 14 #[.pointer (some ⟨r, 0, none⟩), .int .i64 (sh n : Int)] w1 fun e w' => e = .returned (.int .i64 ((getB l (hiD l d n) (sh n)).1 : Int)) ∧ IsAt r 67 (rdc l (rgetW l d n)) w' ∧ But r w1 w') := fun w1 q => rgetbits_at r l (hiD l d n) (sh n) w1 q ok1 (by omega) hl (by omega)
  have gb := (getB_ok l (hiD l d n) (sh n) (by omega) ok1).2.2
  have W2' := wrap_shl (placeD d (hiT n)) (sh n) (by omega) (by omega)
  have W2 : ∀ m : Nat, m = sh n → IntKind.i64.wrap ((placeD d (hiT n) : Int) * 2 ^ m) = ((placeD d (hiT n) * 2 ^ sh n : Nat) : Int) := fun m e => by rw [e]; exact W2'
  have OR := or_add (placeD d (hiT n)) (getB l (hiD l d n) (sh n)).1 (sh n) gb (by omega) (by omega)
  have GW : Hid ((getW l d n).1 = (if rawW l d n < n then rawW l d n else 0) ∧ (getW l d n).2.1 = decide (rawW l d n < n)) := ⟨rfl, rfl⟩
  have RW : rawW l d n = placeD d (hiT n) * 2 ^ sh n + (getB l (hiD l d n) (sh n)).1 := rfl
  rw [← RW] at OR
  have c0 : (0 : Int) ≤ (((n - 1) / 2 ^ sh n : Nat) : Int) := by omega
  have c2 : (((n - 1) / 2 ^ sh n : Nat) : Int) ≤ 4095 := by omega
  have x1 : (placeD d (hiT n) : Int) ≤ 65536 := by omega
  clear h HI RW gb hx ht t1 t2 s2 W2' hpos ps1
  generalize (getW l d n).2.1 = gw2 at *
  generalize (getW l d n).1 = gw1 at *
  generalize rawW l d n = V at *
  generalize (n - 1) / 2 ^ sh n = T at *
  generalize placeD d (hiT n) * 2 ^ sh n = A at *
  generalize (getB l (hiD l d n) (sh n)).1 = y at *
  generalize rgetW l d n = e2 at *
  generalize hiD l d n = e1 at *
  generalize placeD d (hiT n) = x at *
  generalize sh n = s at *
  have s0 : (0 : Int) ≤ (s : Int) := by omega
  by_cases hV : V < n
  · have hv : (V : Int) < (n : Int) := by omega
    go_enter Tryd.func16, Tryd.ntmps16
    go_wp2_with (first
      | (go_at_call 36; refine (HL _).mono ?_; rintro e w' ⟨rfl, e'⟩; obtain rfl := e'.symm))
    refine HP.out.mono ?_
    rintro e w1 ⟨rfl, i1, b1⟩
    have I1 : Hid (IsAt r 67 (rdc l d) w1) := i1
    have B1 : Hid (But r w w1) := b1
    clear i1 b1
    go_wp2_with (fail)
    refine (HT.out _ I1.out).mono ?_
    rintro e w2 ⟨rfl, i2, b2⟩
    have I2 : Hid (IsAt r 67 (rdc l e1) w2.drew) := i2.drewN 1
    have B2 : Hid (But r w w2.drew) := (B1.out.trans b2).drew
    clear i2 b2 I1 B1
    go_wp2_with (fail)
    go_region_held3 (fun _ => True) (try trivial) (first | (go_at_call 14; refine (HG.out _ I2.out).mono ?_; rintro e w3 ⟨rfl, i3, b3⟩))
    have I3 : Hid (IsAt r 67 (rdc l e2) w3) := i3
    have B3 : Hid (But r w w3) := B2.out.trans b3
    clear i3 b3
    go_wp2
    go_ret2
    rw [GW.out.1, GW.out.2, if_pos hV, decide_eq_true hV]
    exact ⟨rfl, I3.out, B3.out⟩
  · have hv : (n : Int) ≤ (V : Int) := by omega
    go_enter Tryd.func16, Tryd.ntmps16
    go_wp2_with (first
      | (go_at_call 36; refine (HL _).mono ?_; rintro e w' ⟨rfl, e'⟩; obtain rfl := e'.symm))
    refine HP.out.mono ?_
    rintro e w1 ⟨rfl, i1, b1⟩
    have I1 : Hid (IsAt r 67 (rdc l d) w1) := i1
    have B1 : Hid (But r w w1) := b1
    clear i1 b1
    go_wp2_with (fail)
    refine (HT.out _ I1.out).mono ?_
    rintro e w2 ⟨rfl, i2, b2⟩
    have I2 : Hid (IsAt r 67 (rdc l e1) w2.drew) := i2.drewN 1
    have B2 : Hid (But r w w2.drew) := (B1.out.trans b2).drew
    clear i2 b2 I1 B1
    go_wp2_with (fail)
    go_region_held3 (fun _ => True) (try trivial) (first | (go_at_call 14; refine (HG.out _ I2.out).mono ?_; rintro e w3 ⟨rfl, i3, b3⟩))
    have I3 : Hid (IsAt r 67 (rdc l e2) w3) := i3
    have B3 : Hid (But r w w3) := B2.out.trans b3
    clear i3 b3
    go_wp2
    go_ret2
    rw [GW.out.1, GW.out.2, if_neg hV, decide_eq_false hV]
    exact ⟨rfl, I3.out, B3.out⟩

def rgetD (l : List UInt8) (d : De) : De := if plD d < 7 then smD l d else rgetW l (upD l d).2 64
theorem rgetD_sim (l : List UInt8) (d : De) (ok : d.Ok) : Sim (rgetD l d) (getD l d).2 := by
  unfold rgetD getD
  split
  · exact Sim.refl _
  · exact rgetW_sim l (upD l d).2 64 (by decide) (by decide) (upD_ok l d ok).1
theorem rgetD_ok (l : List UInt8) (d : De) (ok : d.Ok) : (rgetD l d).Ok ∧ (rgetD l d).pos ≤ d.pos + 20 := by
  unfold rgetD
  split
  · have := smD_ok l d ok
    exact ⟨this.1, by omega⟩
  · have a := upD_ok l d ok
    have b := rgetW_ok l (upD l d).2 64 (by decide) (by decide) a.1
    exact ⟨b.1, by omega⟩
def NotYet (v : Int) (x : Nat) : Prop := ∀ u : Int, -3 ≤ u → u < v → plV u ≠ plc x
theorem NotYet.next {v : Int} {x : Nat} (h : NotYet v x) (k : plV v ≠ plc x) : NotYet (v + 1) x := fun u h1 h2 => by
  by_cases e : u = v
  · rw [e]; exact k
  · exact h u h1 (by omega)
theorem NotYet.all {x : Nat} (h : NotYet 4 x) : plc x = 7 := by
  have h0 := h 0 (by decide) (by decide)
  have h1 := h (-1) (by decide) (by decide)
  have h2 := h 1 (by decide) (by decide)
  have h3 := h (-2) (by decide) (by decide)
  have h4 := h 2 (by decide) (by decide)
  have h5 := h (-3) (by decide) (by decide)
  have h6 := h 3 (by decide) (by decide)
  have e0 : plV 0 = 0 := by decide
  have e1 : plV (-1) = 1 := by decide
  have e2 : plV 1 = 2 := by decide
  have e3 : plV (-2) = 3 := by decide
  have e4 : plV 2 = 4 := by decide
  have e5 : plV (-3) = 5 := by decide
  have e6 : plV 3 = 6 := by decide
  have := plc_le x
  omega
theorem not_plc {x j : Nat} (hx : x < 64) (h : ¬ (edge j ≤ x ∧ x < edge (j + 1))) : j ≠ plc x := fun e => h (by rw [e]; exact plc_in x hx)
set_option maxHeartbeats 2000000 in
theorem rgetdelta_at (r : Nat) (l : List UInt8) (d : De) (w : World) (h : IsAt r 67 (rdc l d) w) (ok : d.Ok) (hl : l.length ≤ 100000) (hpos : d.pos ≤ 20000) :
    Calls Tryd.prog 18 #[.pointer (some ⟨r, 0, none⟩)] w fun e w' => e = .returned (.int .i64 (getD l d).1) ∧ IsAt r 67 (rdc l (rgetD l d)) w' ∧ But r w w' := by
  have HI : Hid (IsAt r 67 (rdc l d) w) := h
  have PD : Hid (plc (placeD d 64) = plD d) := rfl
  have hx := place_lt d 64 (by decide)
  clear h
  go_enter Tryd.func18, Tryd.ntmps18
  go_wp2_with (fail)
  refine (rvalue_pl r l d 64 _ HI.out ok (by decide) (by decide)).mono ?_
  rintro e w1 ⟨rfl, i1, b1⟩
  have I1 : Hid (IsAt r 67 (rdc l d) w1) := i1
  have B1 : Hid (But r w w1) := b1
  clear i1 b1 HI
  generalize placeD d 64 = x at *
  go_wp2_with (fail)
  go_loop [4] (fun i => ∃ v : Int, -3 ≤ v ∧ v ≤ 4 ∧ i = .int .i64 v ∧ NotYet v x) (fun i => (4 - intOf i).toNat)
  case atStart => exact ⟨-3, by decide, by decide, rfl, fun u h1 h2 => absurd h2 (by omega)⟩
  case round =>
    obtain ⟨v, hv1, hv2, rfl, hn⟩ := hrel
    have N1 : Hid (NotYet v x) := hn
    clear hn
    by_cases hv : v = 4
    · subst hv
      have PD7 : Hid (plD d = 7) := by show plD d = 7; rw [← PD.out]; exact N1.out.all
      obtain ⟨S7, V7⟩ := getD_far (l := l) PD7.out
      have V7H : Hid ((getD l d).1 = (if (upD l d).1 = 1 then ((farD l d).1 : Int) + 4 else -((farD l d).1 : Int) - 4)) := by show _ = _; rw [V7]
      have RG : Hid (rgetD l d = rgetW l (upD l d).2 64) := by show _ = _; unfold rgetD; rw [PD7.out, if_neg (by decide)]
      clear V7
      have oks := smD_ok l d ok
      have oku := upD_ok l d ok
      have u2 := oku.2.2
      have f2 := (farD_ok l d ok).2.2
      have ps1 : (smD l d).pos ≤ 40000 := by omega
      have ps2 : (upD l d).2.pos ≤ 30000 := by omega
      go_wp2_with (fail)
      refine (rtake_at r l d 56 64 64 _ I1.out ok (edge_step 7 (by decide)) hl (by omega)).mono ?_
      rintro e w4 ⟨rfl, i4, b4⟩
      rw [← S7] at i4
      have I4 : Hid (IsAt r 67 (rdc l (smD l d)) w4) := i4
      have B4 : Hid (But r w w4) := B1.out.trans b4
      clear i4 b4 I1 B1
      go_wp2_with (fail)
      refine (rgetbits_pos r l (smD l d) 1 _ I4.out oks.1 (by decide) (by decide) hl ps1).mono ?_
      rintro e w5 ⟨rfl, i5, b5⟩
      have I5 : Hid (IsAt r 67 (rdc l (upD l d).2) w5) := i5
      have B5 : Hid (But r w w5) := B4.out.trans b5
      clear i5 b5 I4 B4
      have UE : (getB l (smD l d) 1).1 = (upD l d).1 := rfl
      rw [UE]
      go_wp2_with (fail)
      refine (rgetbelow_at r l (upD l d).2 64 _ I5.out oku.1 (by decide) (by decide) hl ps2).mono ?_
      rintro e w6 ⟨rfl, i6, b6⟩
      rw [← RG.out] at i6
      have I6 : Hid (IsAt r 67 (rdc l (rgetD l d)) w6) := i6
      have B6 : Hid (But r w w6) := B5.out.trans b6
      clear i6 b6 I5 B5
      have FE : (getW l (upD l d).2 64).1 = (farD l d).1 := rfl
      rw [FE]
      clear UE FE S7 oks oku RG PD7 ps1 ps2
      generalize (farD l d).1 = f at *
      generalize (upD l d).1 = u at *
      have f3 : (f : Int) < 64 := by omega
      by_cases hu : u = 1
      · subst hu
        go_wp2
        go_ret
        rw [V7H.out]
        exact ⟨rfl, I6.out, B6.out⟩
      · have hu' : ¬ (u : Int) = 1 := by omega
        go_wp2
        go_ret
        rw [V7H.out, if_neg hu]
        exact ⟨rfl, I6.out, B6.out⟩
    · have hvv : v = -3 ∨ v = -2 ∨ v = -1 ∨ v = 0 ∨ v = 1 ∨ v = 2 ∨ v = 3 := by omega
      clear hv hv1 hv2
      rcases hvv with rfl | rfl | rfl | rfl | rfl | rfl | rfl
      · have RS : Hid (∀ w, Calls Tryd.prog 39 #[.int .i64 (-3)] w fun e w' => e = .returned (.tuple #[.int .i64 50, .int .i64 53]) ∧ w' = w) := fun w => rsmall_any (-3) w
        by_cases hlt : 50 ≤ x ∧ x < 53
        · obtain ⟨g1, g2⟩ := hlt
          have PDk : plD d = 5 := by rw [← PD.out]; exact plc_of 5 x (by decide) g1 g2
          have GS : Hid (getD l d = (smV 5, takeD l d 50 53 64)) := getD_small (by decide) PDk
          have RG : Hid (rgetD l d = takeD l d 50 53 64) := by show _ = _; unfold rgetD smD; rw [PDk, if_pos (by decide)]; rfl
          have g1' : 50 ≤ (x : Int) := by omega
          have g2' : (x : Int) < 53 := by omega
          clear PDk g1 g2 N1
          go_wp2_with (go_at_call 39; refine (RS.out _).mono ?_; rintro e w' ⟨rfl, e'⟩; obtain rfl := e'.symm)
          refine (rtake_at r l d 50 53 64 _ I1.out ok (edge_step 5 (by decide)) hl (by omega)).mono ?_
          rintro e w4 ⟨rfl, i4, b4⟩
          go_wp2
          go_ret
          rw [GS.out, RG.out]
          exact ⟨rfl, i4, B1.out.trans b4⟩
        · have N2 : Hid (NotYet (-2) x) := N1.out.next (not_plc (j := 5) hx hlt)
          by_cases g1 : 50 ≤ x
          · have g2 : 53 ≤ (x : Int) := by omega
            have g1' : 50 ≤ (x : Int) := by omega
            clear hlt N1 g1
            go_wp2_with (go_at_call 39; refine (RS.out _).mono ?_; rintro e w' ⟨rfl, e'⟩; obtain rfl := e'.symm)
            go_round
            case rel => exact ⟨(-2), by decide, by decide, by go_num, N2.out⟩
            case measure => simp [intOf]
          · have g2 : (x : Int) < 50 := by omega
            clear hlt N1 g1
            go_wp2_with (go_at_call 39; refine (RS.out _).mono ?_; rintro e w' ⟨rfl, e'⟩; obtain rfl := e'.symm)
            go_round
            case rel => exact ⟨(-2), by decide, by decide, by go_num, N2.out⟩
            case measure => simp [intOf]
      · have RS : Hid (∀ w, Calls Tryd.prog 39 #[.int .i64 (-2)] w fun e w' => e = .returned (.tuple #[.int .i64 40, .int .i64 45]) ∧ w' = w) := fun w => rsmall_any (-2) w
        by_cases hlt : 40 ≤ x ∧ x < 45
        · obtain ⟨g1, g2⟩ := hlt
          have PDk : plD d = 3 := by rw [← PD.out]; exact plc_of 3 x (by decide) g1 g2
          have GS : Hid (getD l d = (smV 3, takeD l d 40 45 64)) := getD_small (by decide) PDk
          have RG : Hid (rgetD l d = takeD l d 40 45 64) := by show _ = _; unfold rgetD smD; rw [PDk, if_pos (by decide)]; rfl
          have g1' : 40 ≤ (x : Int) := by omega
          have g2' : (x : Int) < 45 := by omega
          clear PDk g1 g2 N1
          go_wp2_with (go_at_call 39; refine (RS.out _).mono ?_; rintro e w' ⟨rfl, e'⟩; obtain rfl := e'.symm)
          refine (rtake_at r l d 40 45 64 _ I1.out ok (edge_step 3 (by decide)) hl (by omega)).mono ?_
          rintro e w4 ⟨rfl, i4, b4⟩
          go_wp2
          go_ret
          rw [GS.out, RG.out]
          exact ⟨rfl, i4, B1.out.trans b4⟩
        · have N2 : Hid (NotYet (-1) x) := N1.out.next (not_plc (j := 3) hx hlt)
          by_cases g1 : 40 ≤ x
          · have g2 : 45 ≤ (x : Int) := by omega
            have g1' : 40 ≤ (x : Int) := by omega
            clear hlt N1 g1
            go_wp2_with (go_at_call 39; refine (RS.out _).mono ?_; rintro e w' ⟨rfl, e'⟩; obtain rfl := e'.symm)
            go_round
            case rel => exact ⟨(-1), by decide, by decide, by go_num, N2.out⟩
            case measure => simp [intOf]
          · have g2 : (x : Int) < 40 := by omega
            clear hlt N1 g1
            go_wp2_with (go_at_call 39; refine (RS.out _).mono ?_; rintro e w' ⟨rfl, e'⟩; obtain rfl := e'.symm)
            go_round
            case rel => exact ⟨(-1), by decide, by decide, by go_num, N2.out⟩
            case measure => simp [intOf]
      · have RS : Hid (∀ w, Calls Tryd.prog 39 #[.int .i64 (-1)] w fun e w' => e = .returned (.tuple #[.int .i64 24, .int .i64 32]) ∧ w' = w) := fun w => rsmall_any (-1) w
        by_cases hlt : 24 ≤ x ∧ x < 32
        · obtain ⟨g1, g2⟩ := hlt
          have PDk : plD d = 1 := by rw [← PD.out]; exact plc_of 1 x (by decide) g1 g2
          have GS : Hid (getD l d = (smV 1, takeD l d 24 32 64)) := getD_small (by decide) PDk
          have RG : Hid (rgetD l d = takeD l d 24 32 64) := by show _ = _; unfold rgetD smD; rw [PDk, if_pos (by decide)]; rfl
          have g1' : 24 ≤ (x : Int) := by omega
          have g2' : (x : Int) < 32 := by omega
          clear PDk g1 g2 N1
          go_wp2_with (go_at_call 39; refine (RS.out _).mono ?_; rintro e w' ⟨rfl, e'⟩; obtain rfl := e'.symm)
          refine (rtake_at r l d 24 32 64 _ I1.out ok (edge_step 1 (by decide)) hl (by omega)).mono ?_
          rintro e w4 ⟨rfl, i4, b4⟩
          go_wp2
          go_ret
          rw [GS.out, RG.out]
          exact ⟨rfl, i4, B1.out.trans b4⟩
        · have N2 : Hid (NotYet 0 x) := N1.out.next (not_plc (j := 1) hx hlt)
          by_cases g1 : 24 ≤ x
          · have g2 : 32 ≤ (x : Int) := by omega
            have g1' : 24 ≤ (x : Int) := by omega
            clear hlt N1 g1
            go_wp2_with (go_at_call 39; refine (RS.out _).mono ?_; rintro e w' ⟨rfl, e'⟩; obtain rfl := e'.symm)
            go_round
            case rel => exact ⟨0, by decide, by decide, by go_num, N2.out⟩
            case measure => simp [intOf]
          · have g2 : (x : Int) < 24 := by omega
            clear hlt N1 g1
            go_wp2_with (go_at_call 39; refine (RS.out _).mono ?_; rintro e w' ⟨rfl, e'⟩; obtain rfl := e'.symm)
            go_round
            case rel => exact ⟨0, by decide, by decide, by go_num, N2.out⟩
            case measure => simp [intOf]
      · have RS : Hid (∀ w, Calls Tryd.prog 39 #[.int .i64 0] w fun e w' => e = .returned (.tuple #[.int .i64 0, .int .i64 24]) ∧ w' = w) := fun w => rsmall_any 0 w
        by_cases hlt : 0 ≤ x ∧ x < 24
        · obtain ⟨g1, g2⟩ := hlt
          have PDk : plD d = 0 := by rw [← PD.out]; exact plc_of 0 x (by decide) g1 g2
          have GS : Hid (getD l d = (smV 0, takeD l d 0 24 64)) := getD_small (by decide) PDk
          have RG : Hid (rgetD l d = takeD l d 0 24 64) := by show _ = _; unfold rgetD smD; rw [PDk, if_pos (by decide)]; rfl
          have g1' : 0 ≤ (x : Int) := by omega
          have g2' : (x : Int) < 24 := by omega
          clear PDk g1 g2 N1
          go_wp2_with (go_at_call 39; refine (RS.out _).mono ?_; rintro e w' ⟨rfl, e'⟩; obtain rfl := e'.symm)
          refine (rtake_at r l d 0 24 64 _ I1.out ok (edge_step 0 (by decide)) hl (by omega)).mono ?_
          rintro e w4 ⟨rfl, i4, b4⟩
          go_wp2
          go_ret
          rw [GS.out, RG.out]
          exact ⟨rfl, i4, B1.out.trans b4⟩
        · have N2 : Hid (NotYet 1 x) := N1.out.next (not_plc (j := 0) hx hlt)
          by_cases g1 : 0 ≤ x
          · have g2 : 24 ≤ (x : Int) := by omega
            have g1' : 0 ≤ (x : Int) := by omega
            clear hlt N1 g1
            go_wp2_with (go_at_call 39; refine (RS.out _).mono ?_; rintro e w' ⟨rfl, e'⟩; obtain rfl := e'.symm)
            go_round
            case rel => exact ⟨1, by decide, by decide, by go_num, N2.out⟩
            case measure => simp [intOf]
          · exact absurd (Nat.zero_le x) g1
      · have RS : Hid (∀ w, Calls Tryd.prog 39 #[.int .i64 1] w fun e w' => e = .returned (.tuple #[.int .i64 32, .int .i64 40]) ∧ w' = w) := fun w => rsmall_any 1 w
        by_cases hlt : 32 ≤ x ∧ x < 40
        · obtain ⟨g1, g2⟩ := hlt
          have PDk : plD d = 2 := by rw [← PD.out]; exact plc_of 2 x (by decide) g1 g2
          have GS : Hid (getD l d = (smV 2, takeD l d 32 40 64)) := getD_small (by decide) PDk
          have RG : Hid (rgetD l d = takeD l d 32 40 64) := by show _ = _; unfold rgetD smD; rw [PDk, if_pos (by decide)]; rfl
          have g1' : 32 ≤ (x : Int) := by omega
          have g2' : (x : Int) < 40 := by omega
          clear PDk g1 g2 N1
          go_wp2_with (go_at_call 39; refine (RS.out _).mono ?_; rintro e w' ⟨rfl, e'⟩; obtain rfl := e'.symm)
          refine (rtake_at r l d 32 40 64 _ I1.out ok (edge_step 2 (by decide)) hl (by omega)).mono ?_
          rintro e w4 ⟨rfl, i4, b4⟩
          go_wp2
          go_ret
          rw [GS.out, RG.out]
          exact ⟨rfl, i4, B1.out.trans b4⟩
        · have N2 : Hid (NotYet 2 x) := N1.out.next (not_plc (j := 2) hx hlt)
          by_cases g1 : 32 ≤ x
          · have g2 : 40 ≤ (x : Int) := by omega
            have g1' : 32 ≤ (x : Int) := by omega
            clear hlt N1 g1
            go_wp2_with (go_at_call 39; refine (RS.out _).mono ?_; rintro e w' ⟨rfl, e'⟩; obtain rfl := e'.symm)
            go_round
            case rel => exact ⟨2, by decide, by decide, by go_num, N2.out⟩
            case measure => simp [intOf]
          · have g2 : (x : Int) < 32 := by omega
            clear hlt N1 g1
            go_wp2_with (go_at_call 39; refine (RS.out _).mono ?_; rintro e w' ⟨rfl, e'⟩; obtain rfl := e'.symm)
            go_round
            case rel => exact ⟨2, by decide, by decide, by go_num, N2.out⟩
            case measure => simp [intOf]
      · have RS : Hid (∀ w, Calls Tryd.prog 39 #[.int .i64 2] w fun e w' => e = .returned (.tuple #[.int .i64 45, .int .i64 50]) ∧ w' = w) := fun w => rsmall_any 2 w
        by_cases hlt : 45 ≤ x ∧ x < 50
        · obtain ⟨g1, g2⟩ := hlt
          have PDk : plD d = 4 := by rw [← PD.out]; exact plc_of 4 x (by decide) g1 g2
          have GS : Hid (getD l d = (smV 4, takeD l d 45 50 64)) := getD_small (by decide) PDk
          have RG : Hid (rgetD l d = takeD l d 45 50 64) := by show _ = _; unfold rgetD smD; rw [PDk, if_pos (by decide)]; rfl
          have g1' : 45 ≤ (x : Int) := by omega
          have g2' : (x : Int) < 50 := by omega
          clear PDk g1 g2 N1
          go_wp2_with (go_at_call 39; refine (RS.out _).mono ?_; rintro e w' ⟨rfl, e'⟩; obtain rfl := e'.symm)
          refine (rtake_at r l d 45 50 64 _ I1.out ok (edge_step 4 (by decide)) hl (by omega)).mono ?_
          rintro e w4 ⟨rfl, i4, b4⟩
          go_wp2
          go_ret
          rw [GS.out, RG.out]
          exact ⟨rfl, i4, B1.out.trans b4⟩
        · have N2 : Hid (NotYet 3 x) := N1.out.next (not_plc (j := 4) hx hlt)
          by_cases g1 : 45 ≤ x
          · have g2 : 50 ≤ (x : Int) := by omega
            have g1' : 45 ≤ (x : Int) := by omega
            clear hlt N1 g1
            go_wp2_with (go_at_call 39; refine (RS.out _).mono ?_; rintro e w' ⟨rfl, e'⟩; obtain rfl := e'.symm)
            go_round
            case rel => exact ⟨3, by decide, by decide, by go_num, N2.out⟩
            case measure => simp [intOf]
          · have g2 : (x : Int) < 45 := by omega
            clear hlt N1 g1
            go_wp2_with (go_at_call 39; refine (RS.out _).mono ?_; rintro e w' ⟨rfl, e'⟩; obtain rfl := e'.symm)
            go_round
            case rel => exact ⟨3, by decide, by decide, by go_num, N2.out⟩
            case measure => simp [intOf]
      · have RS : Hid (∀ w, Calls Tryd.prog 39 #[.int .i64 3] w fun e w' => e = .returned (.tuple #[.int .i64 53, .int .i64 56]) ∧ w' = w) := fun w => rsmall_any 3 w
        by_cases hlt : 53 ≤ x ∧ x < 56
        · obtain ⟨g1, g2⟩ := hlt
          have PDk : plD d = 6 := by rw [← PD.out]; exact plc_of 6 x (by decide) g1 g2
          have GS : Hid (getD l d = (smV 6, takeD l d 53 56 64)) := getD_small (by decide) PDk
          have RG : Hid (rgetD l d = takeD l d 53 56 64) := by show _ = _; unfold rgetD smD; rw [PDk, if_pos (by decide)]; rfl
          have g1' : 53 ≤ (x : Int) := by omega
          have g2' : (x : Int) < 56 := by omega
          clear PDk g1 g2 N1
          go_wp2_with (go_at_call 39; refine (RS.out _).mono ?_; rintro e w' ⟨rfl, e'⟩; obtain rfl := e'.symm)
          refine (rtake_at r l d 53 56 64 _ I1.out ok (edge_step 6 (by decide)) hl (by omega)).mono ?_
          rintro e w4 ⟨rfl, i4, b4⟩
          go_wp2
          go_ret
          rw [GS.out, RG.out]
          exact ⟨rfl, i4, B1.out.trans b4⟩
        · have N2 : Hid (NotYet 4 x) := N1.out.next (not_plc (j := 6) hx hlt)
          by_cases g1 : 53 ≤ x
          · have g2 : 56 ≤ (x : Int) := by omega
            have g1' : 53 ≤ (x : Int) := by omega
            clear hlt N1 g1
            go_wp2_with (go_at_call 39; refine (RS.out _).mono ?_; rintro e w' ⟨rfl, e'⟩; obtain rfl := e'.symm)
            go_round
            case rel => exact ⟨4, by decide, by decide, by go_num, N2.out⟩
            case measure => simp [intOf]
          · have g2 : (x : Int) < 53 := by omega
            clear hlt N1 g1
            go_wp2_with (go_at_call 39; refine (RS.out _).mono ?_; rintro e w' ⟨rfl, e'⟩; obtain rfl := e'.symm)
            go_round
            case rel => exact ⟨4, by decide, by decide, by go_num, N2.out⟩
            case measure => simp [intOf]
end Go.Proofs.YtdfpmhdgebajfaaDoor
