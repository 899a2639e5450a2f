/-
  sym.GetDelta: what a decoder tells.
-/
import Derived.Test.YtdfpmhdgebajfaaDoorU3
namespace Go.Proofs.YtdfpmhdgebajfaaDoor
open Go.ChangeShapes Go.WideShapes Go.ChangeAt Go.RowKit
set_option linter.unusedVariables false
set_option maxRecDepth 100000

/-- The seven small differences, where the package keeps them. -/
def Tab (w : World) : Prop := ∀ j, j < 7 → w.cell? ⟨0, j, none⟩ = some (.int .i64 (smV j))
theorem Tab.below {w w' : World} (h : Tab w) (hb : Below w.heap.size w w') : Tab w' := fun j hj => by
  have e := h j hj
  rw [hb.cell (p := ⟨0, j, none⟩) (block_lt_of_cell e)]
  exact e
theorem Tab.drewN {w : World} (h : Tab w) (n : Nat) : Tab (w.drewN n) := h.below (below_drewN (Below.refl _ w) n)
theorem But.at {r q t : Nat} {cs : Array Value} {w w' : World} (h : But r w w') (k : IsAt q t cs w) (hne : q ≠ r) : IsAt q t cs w' := (h.block q k.lt hne).trans k
theorem ix0 (w : World) : (Instr.index 74 (.agg #[.int .i64 0, .int .i64 (-1), .int .i64 1, .int .i64 (-2), .int .i64 2, .int .i64 (-3), .int .i64 3]) (.int .i64 0)).run Tryd.prog w = .ok (.int .i64 0) w := by kernel_rfl
theorem ix1 (w : World) : (Instr.index 74 (.agg #[.int .i64 0, .int .i64 (-1), .int .i64 1, .int .i64 (-2), .int .i64 2, .int .i64 (-3), .int .i64 3]) (.int .i64 1)).run Tryd.prog w = .ok (.int .i64 (-1)) w := by kernel_rfl
theorem ix2 (w : World) : (Instr.index 74 (.agg #[.int .i64 0, .int .i64 (-1), .int .i64 1, .int .i64 (-2), .int .i64 2, .int .i64 (-3), .int .i64 3]) (.int .i64 2)).run Tryd.prog w = .ok (.int .i64 1) w := by kernel_rfl
theorem ix3 (w : World) : (Instr.index 74 (.agg #[.int .i64 0, .int .i64 (-1), .int .i64 1, .int .i64 (-2), .int .i64 2, .int .i64 (-3), .int .i64 3]) (.int .i64 3)).run Tryd.prog w = .ok (.int .i64 (-2)) w := by kernel_rfl
theorem ix4 (w : World) : (Instr.index 74 (.agg #[.int .i64 0, .int .i64 (-1), .int .i64 1, .int .i64 (-2), .int .i64 2, .int .i64 (-3), .int .i64 3]) (.int .i64 4)).run Tryd.prog w = .ok (.int .i64 2) w := by kernel_rfl
theorem ix5 (w : World) : (Instr.index 74 (.agg #[.int .i64 0, .int .i64 (-1), .int .i64 1, .int .i64 (-2), .int .i64 2, .int .i64 (-3), .int .i64 3]) (.int .i64 5)).run Tryd.prog w = .ok (.int .i64 (-3)) w := by kernel_rfl
theorem ix6 (w : World) : (Instr.index 74 (.agg #[.int .i64 0, .int .i64 (-1), .int .i64 1, .int .i64 (-2), .int .i64 2, .int .i64 (-3), .int .i64 3]) (.int .i64 6)).run Tryd.prog w = .ok (.int .i64 3) w := by kernel_rfl
theorem pl_round (x j : Nat) (hj : j < 7) (h1 : edge j ≤ x) (h2 : x < edge (j + 1)) : plc x = j := plc_of j x (by omega) h1 h2
theorem getD_small {l : List UInt8} {d : De} {j : Nat} (hj : j < 7) (h : plD d = j) : getD l d = (smV j, takeD l d (edge j) (edge (j + 1)) 64) := by
  unfold getD smD
  rw [h, if_pos hj]
theorem getD_far {l : List UInt8} {d : De} (h : plD d = 7) : smD l d = takeD l d 56 64 64 ∧ getD l d = (if (upD l d).1 = 1 then ((farD l d).1 : Int) + 4 else -((farD l d).1 : Int) - 4, (farD l d).2.2) := by
  refine ⟨by unfold smD; rw [h]; rfl, ?_⟩
  unfold getD
  rw [h, if_neg (by decide)]
set_option maxHeartbeats 2000000 in
theorem getdelta_at (r : Nat) (l : List UInt8) (d : De) (w : World) (h : IsAt r 65 (dc l d) w) (ok : d.Ok) (ht : Tab w) (hl : l.length ≤ 100000) :
    Calls Tryd.prog 17 #[.pointer (some ⟨r, 0, none⟩)] w fun e w' => e = .returned (.int .i64 (getD l d).1) ∧ IsAt r 65 (dc l (getD l d).2) w' ∧ But r w w' := by
  have HI : Hid (IsAt r 65 (dc l d) w) := h
  have HT : Hid (Tab w) := ht
  have PF : Hid (placeF d 64 = (placeD d 64 : Int)) := placeF_nat d 64 (by decide) (by decide)
  have hrw : Hid (r < w.heap.size) := h.lt
  clear h ht
  go_enter Tryd.func17, Tryd.ntmps17
  go_wp2_with (fail)
  refine (diffs_any _).mono ?_
  rintro e w1 ⟨rfl, g1, b1⟩
  have I1 : Hid (IsAt r 65 (dc l d) w1) := HI.out.below b1
  have G1 : Hid (IsAt w.heap.size 89 edgeCells w1) := g1
  have T1 : Hid (Tab w1) := HT.out.below b1
  have B1 : Hid (But r w w1) := But.of_below b1
  clear g1 b1 HI HT
  go_wp2_with (fail)
  refine (place_at r l d 64 _ I1.out ok).mono ?_
  rintro e w2 ⟨rfl, n2, rfl⟩
  have I2 : Hid (IsAt r 65 (dc l d) (w1.drewN n2)) := I1.out.drewN n2
  have G2 : Hid (IsAt w.heap.size 89 edgeCells (w1.drewN n2)) := G1.out.drewN n2
  have T2 : Hid (Tab (w1.drewN n2)) := T1.out.drewN n2
  have B2 : Hid (But r w (w1.drewN n2)) := B1.out.drewN n2
  clear I1 G1 T1 B1
  generalize w1.drewN n2 = w2 at *
  rw [PF.out]
  have k0 : w2.cell? ⟨0, 0, none⟩ = some (.int .i64 0) := T2.out 0 (by decide)
  have k1 : w2.cell? ⟨0, 1, none⟩ = some (.int .i64 (-1)) := T2.out 1 (by decide)
  have k2 : w2.cell? ⟨0, 2, none⟩ = some (.int .i64 1) := T2.out 2 (by decide)
  have k3 : w2.cell? ⟨0, 3, none⟩ = some (.int .i64 (-2)) := T2.out 3 (by decide)
  have k4 : w2.cell? ⟨0, 4, none⟩ = some (.int .i64 2) := T2.out 4 (by decide)
  have k5 : w2.cell? ⟨0, 5, none⟩ = some (.int .i64 (-3)) := T2.out 5 (by decide)
  have k6 : w2.cell? ⟨0, 6, none⟩ = some (.int .i64 3) := T2.out 6 (by decide)
  have PD : Hid (plc (placeD d 64) = plD d) := rfl
  have hx := place_lt d 64 (by decide)
  generalize placeD d 64 = x at *
  go_wp2_with (fail)
  go_loopw [17] (fun i wr => ∃ j : Nat, j ≤ 7 ∧ i = .int .i64 (j : Int) ∧ edge j ≤ x ∧ IsAt r 65 (dc l d) wr ∧ IsAt w.heap.size 89 edgeCells wr ∧ But r w wr) (fun i _ => 7 - (intOf i).toNat)
  case atStart => exact ⟨0, by decide, rfl, Nat.zero_le _, I2.out, G2.out, B2.out⟩
  case round =>
    clear k0 k1 k2 k3 k4 k5 k6 I2 G2 B2 T2
    obtain ⟨j, hj, rfl, he, i1, g1, b1⟩ := hrel
    have I1 : Hid (IsAt r 65 (dc l d) wr) := i1
    have G1 : Hid (IsAt w.heap.size 89 edgeCells wr) := g1
    have B1 : Hid (But r w wr) := b1
    have E1 : Hid (edge j ≤ x) := he
    clear i1 g1 b1 he
    by_cases hj7 : j < 7
    · have hjj : j = 0 ∨ j = 1 ∨ j = 2 ∨ j = 3 ∨ j = 4 ∨ j = 5 ∨ j = 6 := by omega
      clear hj hj7
      rcases hjj with rfl | rfl | rfl | rfl | rfl | rfl | rfl
      · have D : Hid (Calls Tryd.prog 53 #[.int .i64 0, .pointer (some ⟨w.heap.size, 0, none⟩)] wr fun e w' => e = .returned (.tuple #[.int .i64 0, .int .i64 24, .int .i64 64]) ∧ Below wr.heap.size wr w') := diffs1_at w.heap.size 0 wr G1.out (by decide)
        have hix := ix0
        by_cases hlt : x < 24
        · have PDk : plD d = 0 := by rw [← PD.out]; exact plc_of 0 x (by decide) E1.out hlt
          have GS : Hid (getD l d = (smV 0, takeD l d 0 24 64)) := getD_small (by decide) PDk
          have hlt' : (x : Int) < 24 := by omega
          clear PDk hlt
          go_wp2_with (fail)
          refine D.out.mono ?_
          rintro e w3 ⟨rfl, b3⟩
          have I3 : Hid (IsAt r 65 (dc l d) w3) := I1.out.below b3
          have B3 : Hid (But r w w3) := B1.out.trans (But.of_below b3)
          clear b3 I1 B1 G1 D
          go_wp2_with (fail)
          refine (take_at r l d 0 24 64 _ I3.out ok (edge_step 0 (by decide)) hl).mono ?_
          rintro e w4 ⟨rfl, i4, b4⟩
          go_wp2
          go_ret
          rw [GS.out]
          exact ⟨rfl, i4, B3.out.trans b4⟩
        · have hlt' : 24 ≤ (x : Int) := by omega
          clear hlt
          go_wp2_with (fail)
          refine D.out.mono ?_
          rintro e w3 ⟨rfl, b3⟩
          have I3 : Hid (IsAt r 65 (dc l d) w3) := I1.out.below b3
          have G3 : Hid (IsAt w.heap.size 89 edgeCells w3) := G1.out.below b3
          have B3 : Hid (But r w w3) := B1.out.trans (But.of_below b3)
          clear b3 I1 B1 G1 D
          go_wp2
          go_roundw
          case rel => exact ⟨1, by decide, by go_num, by show 24 ≤ x; omega, I3.out, G3.out, B3.out⟩
          case measure => simp [intOf]
      · have D : Hid (Calls Tryd.prog 53 #[.int .i64 1, .pointer (some ⟨w.heap.size, 0, none⟩)] wr fun e w' => e = .returned (.tuple #[.int .i64 24, .int .i64 32, .int .i64 64]) ∧ Below wr.heap.size wr w') := diffs1_at w.heap.size 1 wr G1.out (by decide)
        have hix := ix1
        by_cases hlt : x < 32
        · have PDk : plD d = 1 := by rw [← PD.out]; exact plc_of 1 x (by decide) E1.out hlt
          have GS : Hid (getD l d = (smV 1, takeD l d 24 32 64)) := getD_small (by decide) PDk
          have hlt' : (x : Int) < 32 := by omega
          clear PDk hlt
          go_wp2_with (fail)
          refine D.out.mono ?_
          rintro e w3 ⟨rfl, b3⟩
          have I3 : Hid (IsAt r 65 (dc l d) w3) := I1.out.below b3
          have B3 : Hid (But r w w3) := B1.out.trans (But.of_below b3)
          clear b3 I1 B1 G1 D
          go_wp2_with (fail)
          refine (take_at r l d 24 32 64 _ I3.out ok (edge_step 1 (by decide)) hl).mono ?_
          rintro e w4 ⟨rfl, i4, b4⟩
          go_wp2
          go_ret
          rw [GS.out]
          exact ⟨rfl, i4, B3.out.trans b4⟩
        · have hlt' : 32 ≤ (x : Int) := by omega
          clear hlt
          go_wp2_with (fail)
          refine D.out.mono ?_
          rintro e w3 ⟨rfl, b3⟩
          have I3 : Hid (IsAt r 65 (dc l d) w3) := I1.out.below b3
          have G3 : Hid (IsAt w.heap.size 89 edgeCells w3) := G1.out.below b3
          have B3 : Hid (But r w w3) := B1.out.trans (But.of_below b3)
          clear b3 I1 B1 G1 D
          go_wp2
          go_roundw
          case rel => exact ⟨2, by decide, by go_num, by show 32 ≤ x; omega, I3.out, G3.out, B3.out⟩
          case measure => simp [intOf]
      · have D : Hid (Calls Tryd.prog 53 #[.int .i64 2, .pointer (some ⟨w.heap.size, 0, none⟩)] wr fun e w' => e = .returned (.tuple #[.int .i64 32, .int .i64 40, .int .i64 64]) ∧ Below wr.heap.size wr w') := diffs1_at w.heap.size 2 wr G1.out (by decide)
        have hix := ix2
        by_cases hlt : x < 40
        · have PDk : plD d = 2 := by rw [← PD.out]; exact plc_of 2 x (by decide) E1.out hlt
          have GS : Hid (getD l d = (smV 2, takeD l d 32 40 64)) := getD_small (by decide) PDk
          have hlt' : (x : Int) < 40 := by omega
          clear PDk hlt
          go_wp2_with (fail)
          refine D.out.mono ?_
          rintro e w3 ⟨rfl, b3⟩
          have I3 : Hid (IsAt r 65 (dc l d) w3) := I1.out.below b3
          have B3 : Hid (But r w w3) := B1.out.trans (But.of_below b3)
          clear b3 I1 B1 G1 D
          go_wp2_with (fail)
          refine (take_at r l d 32 40 64 _ I3.out ok (edge_step 2 (by decide)) hl).mono ?_
          rintro e w4 ⟨rfl, i4, b4⟩
          go_wp2
          go_ret
          rw [GS.out]
          exact ⟨rfl, i4, B3.out.trans b4⟩
        · have hlt' : 40 ≤ (x : Int) := by omega
          clear hlt
          go_wp2_with (fail)
          refine D.out.mono ?_
          rintro e w3 ⟨rfl, b3⟩
          have I3 : Hid (IsAt r 65 (dc l d) w3) := I1.out.below b3
          have G3 : Hid (IsAt w.heap.size 89 edgeCells w3) := G1.out.below b3
          have B3 : Hid (But r w w3) := B1.out.trans (But.of_below b3)
          clear b3 I1 B1 G1 D
          go_wp2
          go_roundw
          case rel => exact ⟨3, by decide, by go_num, by show 40 ≤ x; omega, I3.out, G3.out, B3.out⟩
          case measure => simp [intOf]
      · have D : Hid (Calls Tryd.prog 53 #[.int .i64 3, .pointer (some ⟨w.heap.size, 0, none⟩)] wr fun e w' => e = .returned (.tuple #[.int .i64 40, .int .i64 45, .int .i64 64]) ∧ Below wr.heap.size wr w') := diffs1_at w.heap.size 3 wr G1.out (by decide)
        have hix := ix3
        by_cases hlt : x < 45
        · have PDk : plD d = 3 := by rw [← PD.out]; exact plc_of 3 x (by decide) E1.out hlt
          have GS : Hid (getD l d = (smV 3, takeD l d 40 45 64)) := getD_small (by decide) PDk
          have hlt' : (x : Int) < 45 := by omega
          clear PDk hlt
          go_wp2_with (fail)
          refine D.out.mono ?_
          rintro e w3 ⟨rfl, b3⟩
          have I3 : Hid (IsAt r 65 (dc l d) w3) := I1.out.below b3
          have B3 : Hid (But r w w3) := B1.out.trans (But.of_below b3)
          clear b3 I1 B1 G1 D
          go_wp2_with (fail)
          refine (take_at r l d 40 45 64 _ I3.out ok (edge_step 3 (by decide)) hl).mono ?_
          rintro e w4 ⟨rfl, i4, b4⟩
          go_wp2
          go_ret
          rw [GS.out]
          exact ⟨rfl, i4, B3.out.trans b4⟩
        · have hlt' : 45 ≤ (x : Int) := by omega
          clear hlt
          go_wp2_with (fail)
          refine D.out.mono ?_
          rintro e w3 ⟨rfl, b3⟩
          have I3 : Hid (IsAt r 65 (dc l d) w3) := I1.out.below b3
          have G3 : Hid (IsAt w.heap.size 89 edgeCells w3) := G1.out.below b3
          have B3 : Hid (But r w w3) := B1.out.trans (But.of_below b3)
          clear b3 I1 B1 G1 D
          go_wp2
          go_roundw
          case rel => exact ⟨4, by decide, by go_num, by show 45 ≤ x; omega, I3.out, G3.out, B3.out⟩
          case measure => simp [intOf]
      · have D : Hid (Calls Tryd.prog 53 #[.int .i64 4, .pointer (some ⟨w.heap.size, 0, none⟩)] wr fun e w' => e = .returned (.tuple #[.int .i64 45, .int .i64 50, .int .i64 64]) ∧ Below wr.heap.size wr w') := diffs1_at w.heap.size 4 wr G1.out (by decide)
        have hix := ix4
        by_cases hlt : x < 50
        · have PDk : plD d = 4 := by rw [← PD.out]; exact plc_of 4 x (by decide) E1.out hlt
          have GS : Hid (getD l d = (smV 4, takeD l d 45 50 64)) := getD_small (by decide) PDk
          have hlt' : (x : Int) < 50 := by omega
          clear PDk hlt
          go_wp2_with (fail)
          refine D.out.mono ?_
          rintro e w3 ⟨rfl, b3⟩
          have I3 : Hid (IsAt r 65 (dc l d) w3) := I1.out.below b3
          have B3 : Hid (But r w w3) := B1.out.trans (But.of_below b3)
          clear b3 I1 B1 G1 D
          go_wp2_with (fail)
          refine (take_at r l d 45 50 64 _ I3.out ok (edge_step 4 (by decide)) hl).mono ?_
          rintro e w4 ⟨rfl, i4, b4⟩
          go_wp2
          go_ret
          rw [GS.out]
          exact ⟨rfl, i4, B3.out.trans b4⟩
        · have hlt' : 50 ≤ (x : Int) := by omega
          clear hlt
          go_wp2_with (fail)
          refine D.out.mono ?_
          rintro e w3 ⟨rfl, b3⟩
          have I3 : Hid (IsAt r 65 (dc l d) w3) := I1.out.below b3
          have G3 : Hid (IsAt w.heap.size 89 edgeCells w3) := G1.out.below b3
          have B3 : Hid (But r w w3) := B1.out.trans (But.of_below b3)
          clear b3 I1 B1 G1 D
          go_wp2
          go_roundw
          case rel => exact ⟨5, by decide, by go_num, by show 50 ≤ x; omega, I3.out, G3.out, B3.out⟩
          case measure => simp [intOf]
      · have D : Hid (Calls Tryd.prog 53 #[.int .i64 5, .pointer (some ⟨w.heap.size, 0, none⟩)] wr fun e w' => e = .returned (.tuple #[.int .i64 50, .int .i64 53, .int .i64 64]) ∧ Below wr.heap.size wr w') := diffs1_at w.heap.size 5 wr G1.out (by decide)
        have hix := ix5
        by_cases hlt : x < 53
        · have PDk : plD d = 5 := by rw [← PD.out]; exact plc_of 5 x (by decide) E1.out hlt
          have GS : Hid (getD l d = (smV 5, takeD l d 50 53 64)) := getD_small (by decide) PDk
          have hlt' : (x : Int) < 53 := by omega
          clear PDk hlt
          go_wp2_with (fail)
          refine D.out.mono ?_
          rintro e w3 ⟨rfl, b3⟩
          have I3 : Hid (IsAt r 65 (dc l d) w3) := I1.out.below b3
          have B3 : Hid (But r w w3) := B1.out.trans (But.of_below b3)
          clear b3 I1 B1 G1 D
          go_wp2_with (fail)
          refine (take_at r l d 50 53 64 _ I3.out ok (edge_step 5 (by decide)) hl).mono ?_
          rintro e w4 ⟨rfl, i4, b4⟩
          go_wp2
          go_ret
          rw [GS.out]
          exact ⟨rfl, i4, B3.out.trans b4⟩
        · have hlt' : 53 ≤ (x : Int) := by omega
          clear hlt
          go_wp2_with (fail)
          refine D.out.mono ?_
          rintro e w3 ⟨rfl, b3⟩
          have I3 : Hid (IsAt r 65 (dc l d) w3) := I1.out.below b3
          have G3 : Hid (IsAt w.heap.size 89 edgeCells w3) := G1.out.below b3
          have B3 : Hid (But r w w3) := B1.out.trans (But.of_below b3)
          clear b3 I1 B1 G1 D
          go_wp2
          go_roundw
          case rel => exact ⟨6, by decide, by go_num, by show 53 ≤ x; omega, I3.out, G3.out, B3.out⟩
          case measure => simp [intOf]
      · have D : Hid (Calls Tryd.prog 53 #[.int .i64 6, .pointer (some ⟨w.heap.size, 0, none⟩)] wr fun e w' => e = .returned (.tuple #[.int .i64 53, .int .i64 56, .int .i64 64]) ∧ Below wr.heap.size wr w') := diffs1_at w.heap.size 6 wr G1.out (by decide)
        have hix := ix6
        by_cases hlt : x < 56
        · have PDk : plD d = 6 := by rw [← PD.out]; exact plc_of 6 x (by decide) E1.out hlt
          have GS : Hid (getD l d = (smV 6, takeD l d 53 56 64)) := getD_small (by decide) PDk
          have hlt' : (x : Int) < 56 := by omega
          clear PDk hlt
          go_wp2_with (fail)
          refine D.out.mono ?_
          rintro e w3 ⟨rfl, b3⟩
          have I3 : Hid (IsAt r 65 (dc l d) w3) := I1.out.below b3
          have B3 : Hid (But r w w3) := B1.out.trans (But.of_below b3)
          clear b3 I1 B1 G1 D
          go_wp2_with (fail)
          refine (take_at r l d 53 56 64 _ I3.out ok (edge_step 6 (by decide)) hl).mono ?_
          rintro e w4 ⟨rfl, i4, b4⟩
          go_wp2
          go_ret
          rw [GS.out]
          exact ⟨rfl, i4, B3.out.trans b4⟩
        · have hlt' : 56 ≤ (x : Int) := by omega
          clear hlt
          go_wp2_with (fail)
          refine D.out.mono ?_
          rintro e w3 ⟨rfl, b3⟩
          have I3 : Hid (IsAt r 65 (dc l d) w3) := I1.out.below b3
          have G3 : Hid (IsAt w.heap.size 89 edgeCells w3) := G1.out.below b3
          have B3 : Hid (But r w w3) := B1.out.trans (But.of_below b3)
          clear b3 I1 B1 G1 D
          go_wp2
          go_roundw
          case rel => exact ⟨7, by decide, by go_num, by show 56 ≤ x; omega, I3.out, G3.out, B3.out⟩
          case measure => simp [intOf]
    · obtain rfl : j = 7 := by omega
      have PD7 : Hid (plD d = 7) := by show plD d = 7; rw [← PD.out]; exact plc_of 7 x (by decide) E1.out hx
      obtain ⟨S7, V7⟩ := getD_far (l := l) PD7.out
      have V7H : Hid (getD l d = (if (upD l d).1 = 1 then ((farD l d).1 : Int) + 4 else -((farD l d).1 : Int) - 4, (farD l d).2.2)) := V7
      clear V7
      have oks := (smD_ok l d ok).1
      have oku := (upD_ok l d ok).1
      have u2 := (upD_ok l d ok).2.2
      have f2 := (farD_ok l d ok).2.2
      go_wp2_with (fail)
      refine (diffs1_at _ 7 _ G1.out (by decide)).mono ?_
      rintro e w3 ⟨rfl, b3⟩
      have I3 : Hid (IsAt r 65 (dc l d) w3) := I1.out.below b3
      have B3 : Hid (But r w w3) := B1.out.trans (But.of_below b3)
      clear b3 I1 B1 G1
      go_wp2_with (fail)
      refine (take_at r l d 56 64 64 _ I3.out ok (edge_step 7 (by decide)) hl).mono ?_
      rintro e w4 ⟨rfl, i4, b4⟩
      rw [← S7] at i4
      have I4 : Hid (IsAt r 65 (dc l (smD l d)) w4) := i4
      have B4 : Hid (But r w w4) := B3.out.trans b4
      clear i4 b4 I3 B3
      go_wp2_with (fail)
      refine (getbits_at r l (smD l d) 1 _ I4.out oks (by decide) hl).mono ?_
      rintro e w5 ⟨rfl, i5, b5⟩
      have I5 : Hid (IsAt r 65 (dc l (upD l d).2) w5) := i5
      have B5 : Hid (But r w w5) := B4.out.trans b5
      clear i5 b5 I4 B4
      have UE : (getB l (smD l d) 1).1 = (upD l d).1 := rfl
      rw [UE]
      go_wp2_with (fail)
      refine (getbelow_at r l (upD l d).2 64 _ I5.out oku (by decide) (by decide) hl).mono ?_
      rintro e w6 ⟨rfl, i6, b6⟩
      have I6 : Hid (IsAt r 65 (dc l (farD l d).2.2) w6) := i6
      have B6 : Hid (But r w w6) := B5.out.trans b6
      clear i6 b6 I5 B5
      have FE : (getW l (upD l d).2 64).1 = (farD l d).1 := rfl
      rw [FE]
      clear UE FE S7
      generalize (farD l d).1 = f at *
      generalize (farD l d).2.2 = dz at *
      generalize (upD l d).1 = u at *
      have f3 : (f : Int) < 64 := by omega
      by_cases hu : u = 1
      · subst hu
        go_wp2
        go_ret
        rw [V7H.out]
        exact ⟨rfl, I6.out, B6.out⟩
      · have hu' : ¬ (u : Int) = 1 := by omega
        go_wp2
        go_ret
        rw [V7H.out, if_neg hu]
        exact ⟨rfl, I6.out, B6.out⟩
end Go.Proofs.YtdfpmhdgebajfaaDoor
