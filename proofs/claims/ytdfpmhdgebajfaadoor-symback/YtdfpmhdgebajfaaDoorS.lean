/-
  The contracts of the document's decoder (splicerref04): Place, Take.
-/
import Derived.Test.YtdfpmhdgebajfaaDoorR
import Derived.Test.YtdfpmhdgebajfaaDoorK
namespace Go.Proofs.YtdfpmhdgebajfaaDoor
open Go.ChangeShapes Go.WideShapes Go.ChangeAt Go.RowKit
set_option linter.unusedVariables false
set_option maxRecDepth 100000

theorem rplace_at (r : Nat) (l : List UInt8) (d : De) (t : Int) (w : World) (h : IsAt r 67 (rdc l d) w) (ok : d.Ok) :
    Calls Tryd.prog 20 #[.pointer (some ⟨r, 0, none⟩), .int .i64 t] w fun e w' => e = .returned (.int .i64 (placeF d t)) ∧ ∃ n, w' = w.drewN n := by
  have c2 : w.cell? ⟨r, 2, none⟩ = some (.int .i64 (d.code : Int)) := h.cell 2
  have c3 : w.cell? ⟨r, 3, none⟩ = some (.int .i64 (d.rng : Int)) := h.cell 3
  by_cases h1 : 1 ≤ t
  · by_cases h2 : t ≤ 65536
    · have ht : 1 ≤ t ∧ t ≤ 65536 := ⟨h1, h2⟩
      obtain ⟨t, rfl⟩ : ∃ n : Nat, t = n := ⟨t.toNat, by omega⟩
      have hsh := share_ge ok.lo (t := t) (by omega) (by omega)
      have hsl := quo_bd d.rng t ok.hi
      have hcode := ok.code
      have hrng := ok.hi
      have HP : Hid (placeF d (t : Int) = (min (d.code / (d.rng / t)) (t - 1) : Nat)) := by show _ = _; unfold placeF; rw [if_pos ht]; rfl
      have e1 := quo_nat d.rng t
      generalize hR : d.rng / t = R at *
      have q0 : ¬ (d.rng : Int) / (t : Int) = 0 := by omega
      have q1 : ((d.code : Int) / ((d.rng : Int) / (t : Int))) ≤ 4294967295 := by
        rw [e1]
        have := Nat.div_le_self d.code R
        have e := quo_nat d.code R
        omega
      have q2 : 0 ≤ (d.code : Int) / ((d.rng : Int) / (t : Int)) := by rw [e1]; exact Int.ediv_nonneg (by omega) (by omega)
      have q3 : 0 ≤ (d.rng : Int) / (t : Int) := by omega
      have q4 : (d.rng : Int) / (t : Int) ≤ 4294967295 := by omega
      have HE : Hid ((if (d.code : Int) / ((d.rng : Int) / (t : Int)) < (t : Int) - 1 then (d.code : Int) / ((d.rng : Int) / (t : Int)) else (t : Int) - 1) = placeF d (t : Int)) := by
        show _ = _
        rw [HP.out, e1, quo_nat]
        split <;> omega
      have hwt : IntKind.i64.wrap ((t : Int) - 1) = (t : Int) - 1 := by
        simp [IntKind.wrap, IntKind.signed, IntKind.bits]; omega
      have E1 : Hid ((d.rng : Int) / (t : Int) = (R : Int)) := e1
      clear h e1
      go_enter Tryd.func20, Tryd.ntmps20
      go_wp2
      go_quiet (fail)
      rw [HE.out]
      go_wp2
      go_ret
      exact ⟨rfl, nq, rfl⟩
    · have e : placeF d t = 0 := if_neg (by omega)
      rw [e]
      clear h
      go_enter Tryd.func20, Tryd.ntmps20
      go_wp2
      go_ret
      exact ⟨rfl, 0, rfl⟩
  · have e : placeF d t = 0 := if_neg (by omega)
    rw [e]
    clear h
    go_enter Tryd.func20, Tryd.ntmps20
    go_wp2
    go_ret
    exact ⟨rfl, 0, rfl⟩
theorem rtake_not (r : Nat) (lo hi t : Int) (w : World) (hp : isP lo hi t = false) : Calls Tryd.prog 33 #[.pointer (some ⟨r, 0, none⟩), .int .i64 lo, .int .i64 hi, .int .i64 t] w fun e w' => e = .returned (.tuple #[]) ∧ w' = w := by
  go_enter Tryd.func33, Tryd.ntmps33
  go_wp2_with (go_at_call 51; refine (right_any lo hi t _).mono ?_; rintro e w' ⟨rfl, rfl⟩; rw [hp])
  (try simp only [Exit.inBlock, Exit.then])
  refine bodyPost_ret (results_none rfl _ _ _) rfl ?_
  exact ⟨rfl, rfl⟩
theorem widD_pos {l : List UInt8} {d : De} (h : d.Half) : d.pos ≤ (widD l 3 d).pos := by
  rw [widD_three h]
  split
  · omega
  · split
    · show d.pos ≤ d.pos + 1; omega
    · show d.pos ≤ d.pos + 1 + 1; omega
set_option maxHeartbeats 4000000 in
theorem rtake_at (r : Nat) (l : List UInt8) (d : De) (lo hi t : Nat) (w : World) (h : IsAt r 67 (rdc l d) w) (ok : d.Ok) (p : IsPart lo hi t) (hl : l.length ≤ 100000) (hpos : d.pos ≤ 50000) :
    Calls Tryd.prog 33 #[.pointer (some ⟨r, 0, none⟩), .int .i64 (lo : Int), .int .i64 (hi : Int), .int .i64 (t : Int)] w fun e w' => e = .returned (.tuple #[]) ∧ IsAt r 67 (rdc l (takeD l d lo hi t)) w' ∧ But r w w' := by
  have hp := part_isP p
  have c2 : w.cell? ⟨r, 2, none⟩ = some (.int .i64 (d.code : Int)) := h.cell 2
  have c3 : w.cell? ⟨r, 3, none⟩ = some (.int .i64 (d.rng : Int)) := h.cell 3
  have f2 := h.frozen 2
  have f3 := h.frozen 3
  have pf := part_facts ok.hi p
  have pn := narrow_ge ok.lo p
  have hcode := ok.code
  have hrng := ok.hi
  have hq := quo_bd d.rng t hrng
  have HN : Hid (∀ W : World, Calls Tryd.prog 52 #[.int .i64 (d.rng : Int), .int .i64 (lo : Int), .int .i64 (hi : Int), .int .i64 (t : Int)] W fun e w' => e = .returned (.int .i64 ((narrowN d.rng lo hi t : Nat) : Int)) ∧ w' = W) := fun W => rnarrow_any d.rng lo hi t W hrng p
  have HTP : Hid ((takeD l d lo hi t).pos ≤ d.pos + 2) := (take_ok ok p).2
  have HPD : Hid (partD d lo hi t = ⟨d.pos, min (d.code - d.rng / t * lo) (narrowN d.rng lo hi t - 1), narrowN d.rng lo hi t⟩) := rfl
  have HH : Hid (partD d lo hi t).Half := partD_half ok p
  have HI : Hid (IsAt r 67 (rdc l d) w) := h
  have e0 := quo_nat d.rng t
  have e1 : (d.rng : Int) / (t : Int) * (lo : Int) = ((d.rng / t * lo : Nat) : Int) := by rw [e0]; exact cast_mul _ _
  have t1 := p.1
  have t2 := p.2.1
  generalize hA : d.rng / t * lo = A at *
  generalize hN : narrowN d.rng lo hi t = N at *
  have q1 : (d.rng : Int) / (t : Int) < 4294967296 := by omega
  have q2 : 0 ≤ (d.rng : Int) / (t : Int) := Int.ediv_nonneg (by omega) (by omega)
  have q3 : (d.rng : Int) / (t : Int) * (lo : Int) ≤ 4294967295 := by omega
  have q4 : 0 ≤ (d.rng : Int) / (t : Int) * (lo : Int) := by omega
  have E1 : Hid ((d.rng : Int) / (t : Int) * (lo : Int) = (A : Int)) := e1
  have hNi : (N : Int) ≤ 4294967295 := by omega
  have hNi2 : (256 : Int) ≤ (N : Int) := by omega
  have hci : (d.code : Int) ≤ 4294967295 := by omega
  have hA4 : A ≤ 4294967295 := by omega
  clear h ok p pf e0 e1 hq
  by_cases hc1 : (d.code : Int) - (A : Int) ≥ (N : Int)
  · have hd1 : decide ((d.code : Int) - (A : Int) ≥ (N : Int)) = true := decide_eq_true hc1
    have hd2 : decide ((N : Int) - 1 < 0) = false := decide_eq_false (by omega)
    go_enter Tryd.func33, Tryd.ntmps33
    go_wp2_with (go_at_call 51; refine (right_any lo hi t _).mono ?_; rintro e w' ⟨rfl, he⟩; rw [hp, he]; clear he w')
    go_region
    rw [E1.out]
    go_wp2_with (go_at_call 52; refine (HN.out _).mono ?_; rintro e w' ⟨rfl, rfl⟩)
    go_quiet (fail)
    go_wp2
    go_loopg [] 16777216 (fun k wr => ∃ q : De, q.Half ∧ IsAt r 67 (rdc l q) wr ∧ But r w wr ∧ widD l 3 q = takeD l d lo hi t ∧ 16777216 - q.rng ≤ k)
    case atStart =>
      refine ⟨partD d lo hi t, HH.out, ?_, ((((But.refl r w).setCell 2 _).setCell 3 _).drewN (1 + nq)).setCell 2 _, rfl, by omega⟩
      rw [show rdc l (partD d lo hi t) = #[.string ⟨l.toArray⟩, .int .i64 (d.pos : Int), .int .i64 ((N : Int) - 1), .int .i64 (N : Int)] by
        rw [HPD.out]
        show #[Value.string ⟨l.toArray⟩, .int .i64 (d.pos : Int), .int .i64 ((min (d.code - A) (N - 1) : Nat) : Int), .int .i64 (N : Int)] = _
        rw [show ((min (d.code - A) (N - 1) : Nat) : Int) = (N : Int) - 1 by omega]]
      exact (((HI.out.set 2 _).set 3 _).drewN (1 + nq)).set 2 _
    case round =>
      obtain ⟨q, hq, hco, hfr, hwid, hk⟩ := hrel
      have HW : Hid (widD l 3 q = takeD l d lo hi t) := hwid
      have HF : Hid (But r w wr) := hfr
      have HC : Hid (IsAt r 67 (rdc l q) wr) := hco
      have HHq : Hid q.Half := hq
      have c2 : wr.cell? ⟨r, 2, none⟩ = some (.int .i64 (q.code : Int)) := hco.cell 2
      have c3 : wr.cell? ⟨r, 3, none⟩ = some (.int .i64 (q.rng : Int)) := hco.cell 3
      have hqr := hq.hi
      have hqc : q.code < 4294967296 := Nat.lt_trans hq.code hq.hi
      have hqp : q.pos ≤ 60000 := by
        have e1 := widD_pos (l := l) hq
        rw [hwid] at e1
        have := HTP.out
        omega
      clear hwid hfr hco hq HH
      by_cases hr : 16777216 ≤ q.rng
      · have hdr : decide ((q.rng : Int) < 16777216) = false := decide_eq_false (by omega)
        go_wp2
        go_end0
        exact ⟨rfl, by rw [← HW.out, widD_no hr]; exact HC.out, HF.out⟩
      · have hr' : q.rng < 16777216 := by omega
        have hdr : decide ((q.rng : Int) < 16777216) = true := decide_eq_true (by omega)
        have hri : (q.rng : Int) < 16777216 := by omega
        have HN : Hid (Calls Tryd.prog 30 #[.pointer (some ⟨r, 0, none⟩)] wr.drew fun e w' => e = .returned (.int .i64 ((oct l q.pos : Nat) : Int)) ∧ (w'.cell? ⟨r, 2, none⟩ = some (.int .i64 (q.code : Int)) ∧ w'.cell? ⟨r, 3, none⟩ = some (.int .i64 (q.rng : Int)) ∧ w'.frozen? ⟨r, 2, none⟩ = false ∧ w'.frozen? ⟨r, 3, none⟩ = false) ∧
            Hid (IsAt r 67 #[.string ⟨l.toArray⟩, .int .i64 ((q.pos + 1 : Nat) : Int), .int .i64 (q.code : Int), .int .i64 (q.rng : Int)] w' ∧ But r w w')) := by
          refine (next_at r l q.pos _ _ wr.drew (HC.out.drewN 1) (by omega) hl).mono ?_
          rintro e w' ⟨rfl, q1, q2⟩
          exact ⟨rfl, ⟨q1.cell 2, q1.cell 3, q1.frozen 2, q1.frozen 3⟩, q1, (HF.out.drew).trans q2⟩
        have ho := oct_lt l q.pos
        have HO : Hid ((wid1D l q) = ⟨q.pos + 1, q.code * 256 + oct l q.pos, q.rng * 256⟩) := rfl
        generalize hOO : oct l q.pos = O at *
        have hoi : (O : Int) < 256 := by omega
        have hpi : (q.code : Int) ≤ 4294967295 := by omega
        have hw1 : IntKind.i64.wrap ((q.code : Int) * 256) = (q.code : Int) * 256 := by simp [IntKind.wrap, IntKind.signed, IntKind.bits]; omega
        have hw2 : IntKind.i64.wrap ((q.code : Int) * 256 + (O : Int)) = (q.code : Int) * 256 + (O : Int) := by simp [IntKind.wrap, IntKind.signed, IntKind.bits]; omega
        go_wp2
        go_region_with (first | (go_at_call 30; refine HN.out.mono ?_; rintro e w2 ⟨rfl, ⟨d2, d3, g2, g3⟩, hp2⟩))
        all_goals (
          go_wp2
          go_roundg (16777216 - q.rng * 256)
          case measure => have := HHq.out.lo; omega
          case rel =>
            obtain ⟨q1, q2⟩ := hp2.out
            obtain ⟨ws1, ws2⟩ := widD_step (l := l) HHq.out hr'
            refine ⟨wid1D l q, ws2, ?_, ((q2.setCell 2 _).drewN 0).setCell 3 _, by rw [← ws1]; exact HW.out, Nat.le_refl _⟩
            have hh := (q1.set 2 (.int .i64 ((q.code : Int) * 256 + (O : Int)))).set 3 (.int .i64 ((q.rng : Int) * 256))
            rw [HO.out]
            exact hh)
  · have hd1 : decide ((d.code : Int) - (A : Int) ≥ (N : Int)) = false := decide_eq_false hc1
    by_cases hc2 : (d.code : Int) - (A : Int) < 0
    · have hd2 : decide ((d.code : Int) - (A : Int) < 0) = true := decide_eq_true hc2
      go_enter Tryd.func33, Tryd.ntmps33
      go_wp2_with (go_at_call 51; refine (right_any lo hi t _).mono ?_; rintro e w' ⟨rfl, he⟩; rw [hp, he]; clear he w')
      go_region
      rw [E1.out]
      go_wp2_with (go_at_call 52; refine (HN.out _).mono ?_; rintro e w' ⟨rfl, rfl⟩)
      go_quiet (fail)
      go_wp2
      go_loopg [] 16777216 (fun k wr => ∃ q : De, q.Half ∧ IsAt r 67 (rdc l q) wr ∧ But r w wr ∧ widD l 3 q = takeD l d lo hi t ∧ 16777216 - q.rng ≤ k)
      case atStart =>
        refine ⟨partD d lo hi t, HH.out, ?_, ((((But.refl r w).setCell 2 _).setCell 3 _).drewN (1 + nq)).setCell 2 _, rfl, by omega⟩
        rw [show rdc l (partD d lo hi t) = #[.string ⟨l.toArray⟩, .int .i64 (d.pos : Int), .int .i64 ((0 : Int)), .int .i64 (N : Int)] by
          rw [HPD.out]
          show #[Value.string ⟨l.toArray⟩, .int .i64 (d.pos : Int), .int .i64 ((min (d.code - A) (N - 1) : Nat) : Int), .int .i64 (N : Int)] = _
          rw [show ((min (d.code - A) (N - 1) : Nat) : Int) = (0 : Int) by omega]]
        exact (((HI.out.set 2 _).set 3 _).drewN (1 + nq)).set 2 _
      case round =>
        obtain ⟨q, hq, hco, hfr, hwid, hk⟩ := hrel
        have HW : Hid (widD l 3 q = takeD l d lo hi t) := hwid
        have HF : Hid (But r w wr) := hfr
        have HC : Hid (IsAt r 67 (rdc l q) wr) := hco
        have HHq : Hid q.Half := hq
        have c2 : wr.cell? ⟨r, 2, none⟩ = some (.int .i64 (q.code : Int)) := hco.cell 2
        have c3 : wr.cell? ⟨r, 3, none⟩ = some (.int .i64 (q.rng : Int)) := hco.cell 3
        have hqr := hq.hi
        have hqc : q.code < 4294967296 := Nat.lt_trans hq.code hq.hi
        have hqp : q.pos ≤ 60000 := by
          have e1 := widD_pos (l := l) hq
          rw [hwid] at e1
          have := HTP.out
          omega
        clear hwid hfr hco hq HH
        by_cases hr : 16777216 ≤ q.rng
        · have hdr : decide ((q.rng : Int) < 16777216) = false := decide_eq_false (by omega)
          go_wp2
          go_end0
          exact ⟨rfl, by rw [← HW.out, widD_no hr]; exact HC.out, HF.out⟩
        · have hr' : q.rng < 16777216 := by omega
          have hdr : decide ((q.rng : Int) < 16777216) = true := decide_eq_true (by omega)
          have hri : (q.rng : Int) < 16777216 := by omega
          have HN : Hid (Calls Tryd.prog 30 #[.pointer (some ⟨r, 0, none⟩)] wr.drew fun e w' => e = .returned (.int .i64 ((oct l q.pos : Nat) : Int)) ∧ (w'.cell? ⟨r, 2, none⟩ = some (.int .i64 (q.code : Int)) ∧ w'.cell? ⟨r, 3, none⟩ = some (.int .i64 (q.rng : Int)) ∧ w'.frozen? ⟨r, 2, none⟩ = false ∧ w'.frozen? ⟨r, 3, none⟩ = false) ∧
              Hid (IsAt r 67 #[.string ⟨l.toArray⟩, .int .i64 ((q.pos + 1 : Nat) : Int), .int .i64 (q.code : Int), .int .i64 (q.rng : Int)] w' ∧ But r w w')) := by
            refine (next_at r l q.pos _ _ wr.drew (HC.out.drewN 1) (by omega) hl).mono ?_
            rintro e w' ⟨rfl, q1, q2⟩
            exact ⟨rfl, ⟨q1.cell 2, q1.cell 3, q1.frozen 2, q1.frozen 3⟩, q1, (HF.out.drew).trans q2⟩
          have ho := oct_lt l q.pos
          have HO : Hid ((wid1D l q) = ⟨q.pos + 1, q.code * 256 + oct l q.pos, q.rng * 256⟩) := rfl
          generalize hOO : oct l q.pos = O at *
          have hoi : (O : Int) < 256 := by omega
          have hpi : (q.code : Int) ≤ 4294967295 := by omega
          have hw1 : IntKind.i64.wrap ((q.code : Int) * 256) = (q.code : Int) * 256 := by simp [IntKind.wrap, IntKind.signed, IntKind.bits]; omega
          have hw2 : IntKind.i64.wrap ((q.code : Int) * 256 + (O : Int)) = (q.code : Int) * 256 + (O : Int) := by simp [IntKind.wrap, IntKind.signed, IntKind.bits]; omega
          go_wp2
          go_region_with (first | (go_at_call 30; refine HN.out.mono ?_; rintro e w2 ⟨rfl, ⟨d2, d3, g2, g3⟩, hp2⟩))
          all_goals (
            go_wp2
            go_roundg (16777216 - q.rng * 256)
            case measure => have := HHq.out.lo; omega
            case rel =>
              obtain ⟨q1, q2⟩ := hp2.out
              obtain ⟨ws1, ws2⟩ := widD_step (l := l) HHq.out hr'
              refine ⟨wid1D l q, ws2, ?_, ((q2.setCell 2 _).drewN 0).setCell 3 _, by rw [← ws1]; exact HW.out, Nat.le_refl _⟩
              have hh := (q1.set 2 (.int .i64 ((q.code : Int) * 256 + (O : Int)))).set 3 (.int .i64 ((q.rng : Int) * 256))
              rw [HO.out]
              exact hh)
    · have hd2 : decide ((d.code : Int) - (A : Int) < 0) = false := decide_eq_false hc2
      go_enter Tryd.func33, Tryd.ntmps33
      go_wp2_with (go_at_call 51; refine (right_any lo hi t _).mono ?_; rintro e w' ⟨rfl, he⟩; rw [hp, he]; clear he w')
      go_region
      rw [E1.out]
      go_wp2_with (go_at_call 52; refine (HN.out _).mono ?_; rintro e w' ⟨rfl, rfl⟩)
      go_quiet (fail)
      go_wp2
      go_loopg [] 16777216 (fun k wr => ∃ q : De, q.Half ∧ IsAt r 67 (rdc l q) wr ∧ But r w wr ∧ widD l 3 q = takeD l d lo hi t ∧ 16777216 - q.rng ≤ k)
      case atStart =>
        refine ⟨partD d lo hi t, HH.out, ?_, ((((But.refl r w).setCell 2 _).setCell 3 _).drewN (1 + nq)), rfl, by omega⟩
        rw [show rdc l (partD d lo hi t) = #[.string ⟨l.toArray⟩, .int .i64 (d.pos : Int), .int .i64 ((d.code : Int) - (A : Int)), .int .i64 (N : Int)] by
          rw [HPD.out]
          show #[Value.string ⟨l.toArray⟩, .int .i64 (d.pos : Int), .int .i64 ((min (d.code - A) (N - 1) : Nat) : Int), .int .i64 (N : Int)] = _
          rw [show ((min (d.code - A) (N - 1) : Nat) : Int) = (d.code : Int) - (A : Int) by omega]]
        exact (((HI.out.set 2 _).set 3 _).drewN (1 + nq))
      case round =>
        obtain ⟨q, hq, hco, hfr, hwid, hk⟩ := hrel
        have HW : Hid (widD l 3 q = takeD l d lo hi t) := hwid
        have HF : Hid (But r w wr) := hfr
        have HC : Hid (IsAt r 67 (rdc l q) wr) := hco
        have HHq : Hid q.Half := hq
        have c2 : wr.cell? ⟨r, 2, none⟩ = some (.int .i64 (q.code : Int)) := hco.cell 2
        have c3 : wr.cell? ⟨r, 3, none⟩ = some (.int .i64 (q.rng : Int)) := hco.cell 3
        have hqr := hq.hi
        have hqc : q.code < 4294967296 := Nat.lt_trans hq.code hq.hi
        have hqp : q.pos ≤ 60000 := by
          have e1 := widD_pos (l := l) hq
          rw [hwid] at e1
          have := HTP.out
          omega
        clear hwid hfr hco hq HH
        by_cases hr : 16777216 ≤ q.rng
        · have hdr : decide ((q.rng : Int) < 16777216) = false := decide_eq_false (by omega)
          go_wp2
          go_end0
          exact ⟨rfl, by rw [← HW.out, widD_no hr]; exact HC.out, HF.out⟩
        · have hr' : q.rng < 16777216 := by omega
          have hdr : decide ((q.rng : Int) < 16777216) = true := decide_eq_true (by omega)
          have hri : (q.rng : Int) < 16777216 := by omega
          have HN : Hid (Calls Tryd.prog 30 #[.pointer (some ⟨r, 0, none⟩)] wr.drew fun e w' => e = .returned (.int .i64 ((oct l q.pos : Nat) : Int)) ∧ (w'.cell? ⟨r, 2, none⟩ = some (.int .i64 (q.code : Int)) ∧ w'.cell? ⟨r, 3, none⟩ = some (.int .i64 (q.rng : Int)) ∧ w'.frozen? ⟨r, 2, none⟩ = false ∧ w'.frozen? ⟨r, 3, none⟩ = false) ∧
              Hid (IsAt r 67 #[.string ⟨l.toArray⟩, .int .i64 ((q.pos + 1 : Nat) : Int), .int .i64 (q.code : Int), .int .i64 (q.rng : Int)] w' ∧ But r w w')) := by
            refine (next_at r l q.pos _ _ wr.drew (HC.out.drewN 1) (by omega) hl).mono ?_
            rintro e w' ⟨rfl, q1, q2⟩
            exact ⟨rfl, ⟨q1.cell 2, q1.cell 3, q1.frozen 2, q1.frozen 3⟩, q1, (HF.out.drew).trans q2⟩
          have ho := oct_lt l q.pos
          have HO : Hid ((wid1D l q) = ⟨q.pos + 1, q.code * 256 + oct l q.pos, q.rng * 256⟩) := rfl
          generalize hOO : oct l q.pos = O at *
          have hoi : (O : Int) < 256 := by omega
          have hpi : (q.code : Int) ≤ 4294967295 := by omega
          have hw1 : IntKind.i64.wrap ((q.code : Int) * 256) = (q.code : Int) * 256 := by simp [IntKind.wrap, IntKind.signed, IntKind.bits]; omega
          have hw2 : IntKind.i64.wrap ((q.code : Int) * 256 + (O : Int)) = (q.code : Int) * 256 + (O : Int) := by simp [IntKind.wrap, IntKind.signed, IntKind.bits]; omega
          go_wp2
          go_region_with (first | (go_at_call 30; refine HN.out.mono ?_; rintro e w2 ⟨rfl, ⟨d2, d3, g2, g3⟩, hp2⟩))
          all_goals (
            go_wp2
            go_roundg (16777216 - q.rng * 256)
            case measure => have := HHq.out.lo; omega
            case rel =>
              obtain ⟨q1, q2⟩ := hp2.out
              obtain ⟨ws1, ws2⟩ := widD_step (l := l) HHq.out hr'
              refine ⟨wid1D l q, ws2, ?_, ((q2.setCell 2 _).drewN 0).setCell 3 _, by rw [← ws1]; exact HW.out, Nat.le_refl _⟩
              have hh := (q1.set 2 (.int .i64 ((q.code : Int) * 256 + (O : Int)))).set 3 (.int .i64 ((q.rng : Int) * 256))
              rw [HO.out]
              exact hh)
end Go.Proofs.YtdfpmhdgebajfaaDoor
