/-
  sym.PutDelta: what a coder codes.
-/
import Derived.Test.YtdfpmhdgebajfaaDoorU4
import Derived.Test.YtdfpmhdgebajfaaDoorU6
namespace Go.Proofs.YtdfpmhdgebajfaaDoor
open Go.ChangeShapes Go.WideShapes Go.ChangeAt Go.RowKit
set_option linter.unusedVariables false
set_option maxRecDepth 100000

theorem Tab.frame {B : Nat} {w w' : World} (h : Tab w) (hb : Below B w w') (hB : 0 < B) : Tab w' := fun j hj => by
  rw [hb.cell (p := ⟨0, j, none⟩) hB]
  exact h j hj
theorem pl_next {v : Int} (j : Nat) (hj : j < 7) (h : j ≤ plV v) (hne : ¬ v = smV j) : j + 1 ≤ plV v := by
  rcases Nat.lt_or_eq_of_le h with h' | h'
  · exact h'
  · exact absurd (by rw [h']; exact (smV_pl v (by omega)).symm) hne
theorem putdelta_not (c : Value) (v : Int) (w : World) (h : okD v = false) :
    Calls Tryd.prog 21 #[c, .int .i64 v] w fun e w' => e = .returned (.bool false) ∧ w' = w := by
  by_cases h1 : v < -67
  · clear h
    go_enter Tryd.func21, Tryd.ntmps21
    go_wp2
    go_ret
    exact ⟨rfl, rfl⟩
  · have h2 : 67 < v := by simp [okD] at h; omega
    clear h
    go_enter Tryd.func21, Tryd.ntmps21
    go_wp2
    go_ret
    exact ⟨rfl, rfl⟩
set_option maxHeartbeats 2000000 in
theorem putdelta_at (B g : Nat) (s : Co) (v : Int) (w : World) (h : CoAt B g s w) (ok : s.Ok) (hB : B ≤ w.heap.size) (ht : Tab w) (hv : okD v = true) (hl : s.T.length ≤ 1700) :
    Calls Tryd.prog 21 #[.pointer (some ⟨g, 0, none⟩), .int .i64 v] w fun e w' => e = .returned (.bool true) ∧ CoAt B g (codesC s (deltaP v)) w' ∧ Fr B w w' := by
  obtain ⟨v1, v2⟩ := okD_bd hv
  have HI : Hid (CoAt B g s w) := h
  have HT : Hid (Tab w) := ht
  clear h ht hv
  go_enter Tryd.func21, Tryd.ntmps21
  go_wp2_with (fail)
  refine (diffs_any _).mono ?_
  rintro e w1 ⟨rfl, g1, b1⟩
  have I1 : Hid (CoAt B g s w1) := HI.out.below b1
  have G1 : Hid (IsAt w.heap.size 89 edgeCells w1) := g1
  have T1 : Hid (Tab w1) := HT.out.below b1
  have F1 : Hid (Fr B w w1) := Fr.of_below b1 hB
  have B1 : Hid (B ≤ w1.heap.size) := Nat.le_trans hB b1.size
  clear g1 b1 HI HT
  have k0 : w1.cell? ⟨0, 0, none⟩ = some (.int .i64 0) := T1.out 0 (by decide)
  have k1 : w1.cell? ⟨0, 1, none⟩ = some (.int .i64 (-1)) := T1.out 1 (by decide)
  have k2 : w1.cell? ⟨0, 2, none⟩ = some (.int .i64 1) := T1.out 2 (by decide)
  have k3 : w1.cell? ⟨0, 3, none⟩ = some (.int .i64 (-2)) := T1.out 3 (by decide)
  have k4 : w1.cell? ⟨0, 4, none⟩ = some (.int .i64 2) := T1.out 4 (by decide)
  have k5 : w1.cell? ⟨0, 5, none⟩ = some (.int .i64 (-3)) := T1.out 5 (by decide)
  have k6 : w1.cell? ⟨0, 6, none⟩ = some (.int .i64 3) := T1.out 6 (by decide)
  go_wp2_with (fail)
  go_loop [18] (fun i => ∃ j : Nat, j ≤ 7 ∧ i = .int .i64 (j : Int) ∧ j ≤ plV v) (fun i => 7 - (intOf i).toNat)
  case atStart => exact ⟨0, by decide, rfl, Nat.zero_le _⟩
  case round =>
    clear k0 k1 k2 k3 k4 k5 k6 T1
    obtain ⟨j, hj, rfl, he⟩ := hrel
    have E1 : Hid (j ≤ plV v) := he
    clear he
    by_cases hj7 : j < 7
    · have hjj : j = 0 ∨ j = 1 ∨ j = 2 ∨ j = 3 ∨ j = 4 ∨ j = 5 ∨ j = 6 := by omega
      clear hj hj7
      rcases hjj with rfl | rfl | rfl | rfl | rfl | rfl | rfl
      · have D : Hid (Calls Tryd.prog 53 #[.int .i64 0, .pointer (some ⟨w.heap.size, 0, none⟩)] w1 fun e w' => e = .returned (.tuple #[.int .i64 0, .int .i64 24, .int .i64 64]) ∧ Below w1.heap.size w1 w') := diffs1_at w.heap.size 0 w1 G1.out (by decide)
        have hix := ix0
        by_cases hvj : v = 0
        · subst hvj
          have DS : Hid (codesC s (deltaP 0) = codeC s 0 24 64) := rfl
          clear E1
          go_wp2_with (fail)
          refine D.out.mono ?_
          rintro e w3 ⟨rfl, b3⟩
          have I3 : Hid (CoAt B g s w3) := I1.out.below b3
          have F3 : Hid (Fr B w w3) := F1.out.trans (Fr.of_below b3 B1.out)
          have B3 : Hid (B ≤ w3.heap.size) := Nat.le_trans B1.out b3.size
          clear b3 I1 F1 G1 D B1
          go_wp2_with (fail)
          refine (code_at B g s 0 24 64 _ I3.out ok (edge_step 0 (by decide)) B3.out (by omega)).mono ?_
          rintro e w4 ⟨rfl, i4, f4⟩
          go_wp2
          go_ret
          rw [DS.out]
          exact ⟨rfl, i4, F3.out.trans f4⟩
        · have E2 : Hid (1 ≤ plV v) := pl_next 0 (by decide) E1.out hvj
          have hvj' : ¬ 0 = v := fun e => hvj e.symm
          clear E1 D
          go_wp2
          go_round
          case rel => exact ⟨1, by decide, by go_num, E2.out⟩
          case measure => simp [intOf]
      · have D : Hid (Calls Tryd.prog 53 #[.int .i64 1, .pointer (some ⟨w.heap.size, 0, none⟩)] w1 fun e w' => e = .returned (.tuple #[.int .i64 24, .int .i64 32, .int .i64 64]) ∧ Below w1.heap.size w1 w') := diffs1_at w.heap.size 1 w1 G1.out (by decide)
        have hix := ix1
        by_cases hvj : v = (-1)
        · subst hvj
          have DS : Hid (codesC s (deltaP (-1)) = codeC s 24 32 64) := rfl
          clear E1
          go_wp2_with (fail)
          refine D.out.mono ?_
          rintro e w3 ⟨rfl, b3⟩
          have I3 : Hid (CoAt B g s w3) := I1.out.below b3
          have F3 : Hid (Fr B w w3) := F1.out.trans (Fr.of_below b3 B1.out)
          have B3 : Hid (B ≤ w3.heap.size) := Nat.le_trans B1.out b3.size
          clear b3 I1 F1 G1 D B1
          go_wp2_with (fail)
          refine (code_at B g s 24 32 64 _ I3.out ok (edge_step 1 (by decide)) B3.out (by omega)).mono ?_
          rintro e w4 ⟨rfl, i4, f4⟩
          go_wp2
          go_ret
          rw [DS.out]
          exact ⟨rfl, i4, F3.out.trans f4⟩
        · have E2 : Hid (2 ≤ plV v) := pl_next 1 (by decide) E1.out hvj
          have hvj' : ¬ (-1) = v := fun e => hvj e.symm
          clear E1 D
          go_wp2
          go_round
          case rel => exact ⟨2, by decide, by go_num, E2.out⟩
          case measure => simp [intOf]
      · have D : Hid (Calls Tryd.prog 53 #[.int .i64 2, .pointer (some ⟨w.heap.size, 0, none⟩)] w1 fun e w' => e = .returned (.tuple #[.int .i64 32, .int .i64 40, .int .i64 64]) ∧ Below w1.heap.size w1 w') := diffs1_at w.heap.size 2 w1 G1.out (by decide)
        have hix := ix2
        by_cases hvj : v = 1
        · subst hvj
          have DS : Hid (codesC s (deltaP 1) = codeC s 32 40 64) := rfl
          clear E1
          go_wp2_with (fail)
          refine D.out.mono ?_
          rintro e w3 ⟨rfl, b3⟩
          have I3 : Hid (CoAt B g s w3) := I1.out.below b3
          have F3 : Hid (Fr B w w3) := F1.out.trans (Fr.of_below b3 B1.out)
          have B3 : Hid (B ≤ w3.heap.size) := Nat.le_trans B1.out b3.size
          clear b3 I1 F1 G1 D B1
          go_wp2_with (fail)
          refine (code_at B g s 32 40 64 _ I3.out ok (edge_step 2 (by decide)) B3.out (by omega)).mono ?_
          rintro e w4 ⟨rfl, i4, f4⟩
          go_wp2
          go_ret
          rw [DS.out]
          exact ⟨rfl, i4, F3.out.trans f4⟩
        · have E2 : Hid (3 ≤ plV v) := pl_next 2 (by decide) E1.out hvj
          have hvj' : ¬ 1 = v := fun e => hvj e.symm
          clear E1 D
          go_wp2
          go_round
          case rel => exact ⟨3, by decide, by go_num, E2.out⟩
          case measure => simp [intOf]
      · have D : Hid (Calls Tryd.prog 53 #[.int .i64 3, .pointer (some ⟨w.heap.size, 0, none⟩)] w1 fun e w' => e = .returned (.tuple #[.int .i64 40, .int .i64 45, .int .i64 64]) ∧ Below w1.heap.size w1 w') := diffs1_at w.heap.size 3 w1 G1.out (by decide)
        have hix := ix3
        by_cases hvj : v = (-2)
        · subst hvj
          have DS : Hid (codesC s (deltaP (-2)) = codeC s 40 45 64) := rfl
          clear E1
          go_wp2_with (fail)
          refine D.out.mono ?_
          rintro e w3 ⟨rfl, b3⟩
          have I3 : Hid (CoAt B g s w3) := I1.out.below b3
          have F3 : Hid (Fr B w w3) := F1.out.trans (Fr.of_below b3 B1.out)
          have B3 : Hid (B ≤ w3.heap.size) := Nat.le_trans B1.out b3.size
          clear b3 I1 F1 G1 D B1
          go_wp2_with (fail)
          refine (code_at B g s 40 45 64 _ I3.out ok (edge_step 3 (by decide)) B3.out (by omega)).mono ?_
          rintro e w4 ⟨rfl, i4, f4⟩
          go_wp2
          go_ret
          rw [DS.out]
          exact ⟨rfl, i4, F3.out.trans f4⟩
        · have E2 : Hid (4 ≤ plV v) := pl_next 3 (by decide) E1.out hvj
          have hvj' : ¬ (-2) = v := fun e => hvj e.symm
          clear E1 D
          go_wp2
          go_round
          case rel => exact ⟨4, by decide, by go_num, E2.out⟩
          case measure => simp [intOf]
      · have D : Hid (Calls Tryd.prog 53 #[.int .i64 4, .pointer (some ⟨w.heap.size, 0, none⟩)] w1 fun e w' => e = .returned (.tuple #[.int .i64 45, .int .i64 50, .int .i64 64]) ∧ Below w1.heap.size w1 w') := diffs1_at w.heap.size 4 w1 G1.out (by decide)
        have hix := ix4
        by_cases hvj : v = 2
        · subst hvj
          have DS : Hid (codesC s (deltaP 2) = codeC s 45 50 64) := rfl
          clear E1
          go_wp2_with (fail)
          refine D.out.mono ?_
          rintro e w3 ⟨rfl, b3⟩
          have I3 : Hid (CoAt B g s w3) := I1.out.below b3
          have F3 : Hid (Fr B w w3) := F1.out.trans (Fr.of_below b3 B1.out)
          have B3 : Hid (B ≤ w3.heap.size) := Nat.le_trans B1.out b3.size
          clear b3 I1 F1 G1 D B1
          go_wp2_with (fail)
          refine (code_at B g s 45 50 64 _ I3.out ok (edge_step 4 (by decide)) B3.out (by omega)).mono ?_
          rintro e w4 ⟨rfl, i4, f4⟩
          go_wp2
          go_ret
          rw [DS.out]
          exact ⟨rfl, i4, F3.out.trans f4⟩
        · have E2 : Hid (5 ≤ plV v) := pl_next 4 (by decide) E1.out hvj
          have hvj' : ¬ 2 = v := fun e => hvj e.symm
          clear E1 D
          go_wp2
          go_round
          case rel => exact ⟨5, by decide, by go_num, E2.out⟩
          case measure => simp [intOf]
      · have D : Hid (Calls Tryd.prog 53 #[.int .i64 5, .pointer (some ⟨w.heap.size, 0, none⟩)] w1 fun e w' => e = .returned (.tuple #[.int .i64 50, .int .i64 53, .int .i64 64]) ∧ Below w1.heap.size w1 w') := diffs1_at w.heap.size 5 w1 G1.out (by decide)
        have hix := ix5
        by_cases hvj : v = (-3)
        · subst hvj
          have DS : Hid (codesC s (deltaP (-3)) = codeC s 50 53 64) := rfl
          clear E1
          go_wp2_with (fail)
          refine D.out.mono ?_
          rintro e w3 ⟨rfl, b3⟩
          have I3 : Hid (CoAt B g s w3) := I1.out.below b3
          have F3 : Hid (Fr B w w3) := F1.out.trans (Fr.of_below b3 B1.out)
          have B3 : Hid (B ≤ w3.heap.size) := Nat.le_trans B1.out b3.size
          clear b3 I1 F1 G1 D B1
          go_wp2_with (fail)
          refine (code_at B g s 50 53 64 _ I3.out ok (edge_step 5 (by decide)) B3.out (by omega)).mono ?_
          rintro e w4 ⟨rfl, i4, f4⟩
          go_wp2
          go_ret
          rw [DS.out]
          exact ⟨rfl, i4, F3.out.trans f4⟩
        · have E2 : Hid (6 ≤ plV v) := pl_next 5 (by decide) E1.out hvj
          have hvj' : ¬ (-3) = v := fun e => hvj e.symm
          clear E1 D
          go_wp2
          go_round
          case rel => exact ⟨6, by decide, by go_num, E2.out⟩
          case measure => simp [intOf]
      · have D : Hid (Calls Tryd.prog 53 #[.int .i64 6, .pointer (some ⟨w.heap.size, 0, none⟩)] w1 fun e w' => e = .returned (.tuple #[.int .i64 53, .int .i64 56, .int .i64 64]) ∧ Below w1.heap.size w1 w') := diffs1_at w.heap.size 6 w1 G1.out (by decide)
        have hix := ix6
        by_cases hvj : v = 3
        · subst hvj
          have DS : Hid (codesC s (deltaP 3) = codeC s 53 56 64) := rfl
          clear E1
          go_wp2_with (fail)
          refine D.out.mono ?_
          rintro e w3 ⟨rfl, b3⟩
          have I3 : Hid (CoAt B g s w3) := I1.out.below b3
          have F3 : Hid (Fr B w w3) := F1.out.trans (Fr.of_below b3 B1.out)
          have B3 : Hid (B ≤ w3.heap.size) := Nat.le_trans B1.out b3.size
          clear b3 I1 F1 G1 D B1
          go_wp2_with (fail)
          refine (code_at B g s 53 56 64 _ I3.out ok (edge_step 6 (by decide)) B3.out (by omega)).mono ?_
          rintro e w4 ⟨rfl, i4, f4⟩
          go_wp2
          go_ret
          rw [DS.out]
          exact ⟨rfl, i4, F3.out.trans f4⟩
        · have E2 : Hid (7 ≤ plV v) := pl_next 6 (by decide) E1.out hvj
          have hvj' : ¬ 3 = v := fun e => hvj e.symm
          clear E1 D
          go_wp2
          go_round
          case rel => exact ⟨7, by decide, by go_num, E2.out⟩
          case measure => simp [intOf]
    · obtain rfl : j = 7 := by omega
      have PD7 : ¬ plV v < 7 := by have := E1.out; omega
      have h4 := plV_far PD7
      have DS : Hid (codesC s (deltaP v) = codesC (codesC (codeC s 56 64 64) (bitsP (aboveN v) 1)) (belowP (farN v) 64)) := by
        show _ = _
        have e7 : plV v = 7 := by have := plV_le v; omega
        unfold deltaP
        rw [if_neg PD7, codes_cons, codes_append, e7]
        rfl
      have OK1 := code_ok ok (edge_step 7 (by decide))
      have LE1 := code_len ok (edge_step 7 (by decide))
      have BP := bits_part (aboveN v) (bK 1) (bR 1) (bR_le _)
      have OK2 := (codes_ok (bitsP (aboveN v) 1) OK1 BP.1).1
      have LE2 := (codes_ok (bitsP (aboveN v) 1) OK1 BP.1).2
      have LE3 : (bitsP (aboveN v) 1).length = 1 := BP.2
      have hf : farN v < 64 := by unfold farN; omega
      have av : aboveN v < 2 ^ 1 := by unfold aboveN; split <;> decide
      have HA : Hid (∀ w1, CoAt B g (codeC s 56 64 64) w1 → B ≤ w1.heap.size → Calls Tryd.prog 23 #[.pointer (some ⟨g, 0, none⟩), .int .i64 (aboveN v : Int), .int .i64 1] w1 fun e w' => e = .returned (.bool true) ∧ CoAt B g (codesC (codeC s 56 64 64) (bitsP (aboveN v) 1)) w' ∧ Fr B w1 w') :=
        fun w1 k kB => putbits_at B g _ (aboveN v) 1 w1 k OK1 kB (by decide) av (by have e : (codeC s (edge 7) (edge (7 + 1)) 64).T.length = (codeC s 56 64 64).T.length := rfl; omega)
      have HM : Hid (∀ w1, CoAt B g (codesC (codeC s 56 64 64) (bitsP (aboveN v) 1)) w1 → B ≤ w1.heap.size → Calls Tryd.prog 22 #[.pointer (some ⟨g, 0, none⟩), .int .i64 (farN v : Int), .int .i64 64] w1 fun e w' => e = .returned (.bool true) ∧ CoAt B g (codesC s (deltaP v)) w' ∧ Fr B w1 w') := by
        show ∀ w1, _
        rw [DS.out]
        exact fun w1 k kB => putbelow_at B g _ (farN v) 64 w1 k OK2 kB (by decide) (by decide) hf (by rw [LE3] at LE2; have e : (codeC s (edge 7) (edge (7 + 1)) 64).T.length = (codeC s 56 64 64).T.length := rfl; exact Nat.le_trans LE2 (by omega))
      clear PD7 OK1 LE1 BP OK2 LE2 LE3 av DS E1 hf
      go_wp2_with (fail)
      refine (diffs1_at _ 7 _ G1.out (by decide)).mono ?_
      rintro e w3 ⟨rfl, b3⟩
      have I3 : Hid (CoAt B g s w3) := I1.out.below b3
      have F3 : Hid (Fr B w w3) := F1.out.trans (Fr.of_below b3 B1.out)
      have B3 : Hid (B ≤ w3.heap.size) := Nat.le_trans B1.out b3.size
      clear b3 I1 F1 G1 B1
      go_wp2_with (fail)
      refine (code_at B g s 56 64 64 _ I3.out ok (edge_step 7 (by decide)) B3.out (by omega)).mono ?_
      rintro e w4 ⟨rfl, i4, f4⟩
      have I4 : Hid (CoAt B g (codeC s 56 64 64) w4) := i4
      have F4 : Hid (Fr B w w4) := F3.out.trans f4
      have B4 : Hid (B ≤ w4.heap.size) := Nat.le_trans B3.out f4.below.size
      clear i4 f4 I3 F3 B3
      by_cases hp : 0 < v
      · have EA : Hid ((aboveN v : Int) = 1) := by show _ = _; unfold aboveN; rw [if_pos hp]; rfl
        have EF : Hid (v - 4 = (farN v : Int)) := by show _ = _; unfold farN; omega
        rw [EA.out] at HA
        rw [← EF.out] at HM
        clear EA EF
        go_wp2_with (fail)
        refine (HA.out _ I4.out B4.out).mono ?_
        rintro e w5 ⟨rfl, i5, f5⟩
        have I5 : Hid (CoAt B g (codesC (codeC s 56 64 64) (bitsP (aboveN v) 1)) w5) := i5
        have F5 : Hid (Fr B w w5) := F4.out.trans f5
        have B5 : Hid (B ≤ w5.heap.size) := Nat.le_trans B4.out f5.below.size
        clear i5 f5 I4 F4 B4
        go_wp2_with (fail)
        refine (HM.out _ I5.out B5.out).mono ?_
        rintro e w6 ⟨rfl, i6, f6⟩
        go_wp2
        go_ret
        exact ⟨rfl, i6, F5.out.trans f6⟩
      · have EA : Hid ((aboveN v : Int) = 0) := by show _ = _; unfold aboveN; rw [if_neg hp]; rfl
        have EF : Hid (-v - 4 = (farN v : Int)) := by show _ = _; unfold farN; omega
        rw [EA.out] at HA
        rw [← EF.out] at HM
        clear EA EF
        go_wp2_with (fail)
        refine (HA.out _ I4.out B4.out).mono ?_
        rintro e w5 ⟨rfl, i5, f5⟩
        have I5 : Hid (CoAt B g (codesC (codeC s 56 64 64) (bitsP (aboveN v) 1)) w5) := i5
        have F5 : Hid (Fr B w w5) := F4.out.trans f5
        have B5 : Hid (B ≤ w5.heap.size) := Nat.le_trans B4.out f5.below.size
        clear i5 f5 I4 F4 B4
        go_wp2_with (fail)
        refine (HM.out _ I5.out B5.out).mono ?_
        rintro e w6 ⟨rfl, i6, f6⟩
        go_wp2
        go_ret
        exact ⟨rfl, i6, F5.out.trans f6⟩
end Go.Proofs.YtdfpmhdgebajfaaDoor
