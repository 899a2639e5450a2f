/-
  The contracts of rc.Decoder: Place, Take.
-/
import Derived.Test.YtdfpmhdgebajfaaDoorJ
namespace Go.Proofs.YtdfpmhdgebajfaaDoor
open Go.ChangeShapes Go.WideShapes Go.ChangeAt Go.RowKit
set_option linter.unusedVariables false
set_option maxRecDepth 100000

theorem place_none (t : Int) (w : World) : Calls Tryd.prog 19 #[.pointer none, .int .i64 t] w fun e w' => e = .returned (.int .i64 0) ∧ w' = w := by
  go_enter Tryd.func19, Tryd.ntmps19
  go_wp2
  go_ret
  exact ⟨rfl, rfl⟩
theorem place_zero (r : Nat) (t : Int) (w : World) (h : w.cell? ⟨r, 1, none⟩ = some (.bool false)) : Calls Tryd.prog 19 #[.pointer (some ⟨r, 0, none⟩), .int .i64 t] w fun e w' => e = .returned (.int .i64 0) ∧ w' = w := by
  go_enter Tryd.func19, Tryd.ntmps19
  go_wp2
  go_ret
  exact ⟨rfl, rfl⟩
theorem take_none (lo hi t : Int) (w : World) : Calls Tryd.prog 38 #[.pointer none, .int .i64 lo, .int .i64 hi, .int .i64 t] w fun e w' => e = .returned (.tuple #[]) ∧ w' = w := by
  go_enter Tryd.func38, Tryd.ntmps38
  go_wp2
  (try simp only [Exit.inBlock, Exit.then])
  refine bodyPost_ret (results_none rfl _ _ _) rfl ?_
  exact ⟨rfl, rfl⟩
theorem take_zero (r : Nat) (lo hi t : Int) (w : World) (h : w.cell? ⟨r, 1, none⟩ = some (.bool false)) : Calls Tryd.prog 38 #[.pointer (some ⟨r, 0, none⟩), .int .i64 lo, .int .i64 hi, .int .i64 t] w fun e w' => e = .returned (.tuple #[]) ∧ w' = w := by
  go_enter Tryd.func38, Tryd.ntmps38
  go_wp2
  (try simp only [Exit.inBlock, Exit.then])
  refine bodyPost_ret (results_none rfl _ _ _) rfl ?_
  exact ⟨rfl, rfl⟩
/-- What Place tells. -/
def placeF (d : De) (t : Int) : Int := if 1 ≤ t ∧ t ≤ 65536 then (placeD d t.toNat : Int) else 0
theorem place_at (r : Nat) (l : List UInt8) (d : De) (t : Int) (w : World) (h : IsAt r 65 (dc l d) w) (ok : d.Ok) :
    Calls Tryd.prog 19 #[.pointer (some ⟨r, 0, none⟩), .int .i64 t] w fun e w' => e = .returned (.int .i64 (placeF d t)) ∧ ∃ n, w' = w.drewN n := by
  have c1 : w.cell? ⟨r, 1, none⟩ = some (.bool true) := h.cell 1
  by_cases ht : 1 ≤ t ∧ t ≤ 65536
  · have d1 : decide (1 ≤ t ∧ t ≤ 65536) = true := by simp [ht]
    have c0 : w.cell? ⟨r, 0, none⟩ = some (lacks d.rng) := h.cell 0
    have c2 : w.cell? ⟨r, 2, none⟩ = some (.int .i64 (d.code : Int)) := h.cell 2
    obtain ⟨t, rfl⟩ : ∃ n : Nat, t = n := ⟨t.toNat, by omega⟩
    have hsh := share_ge ok.lo (t := t) (by omega) (by omega)
    have hsl := quo_bd d.rng t ok.hi
    have hcode := ok.code
    have HS : Hid (∀ w' : World, w'.heap = w.heap → Calls Tryd.prog 41 #[.pointer (some ⟨r, 0, none⟩), .int .i64 (t : Int)] w' fun e w'' => e = .returned (.int .i64 ((d.rng / t : Nat) : Int)) ∧ w'' = w') := by
      intro w' hw
      have c0' : w'.cell? ⟨r, 0, none⟩ = some (lacks d.rng) := by unfold World.cell? at c0 ⊢; rw [hw]; exact c0
      exact share_any r d.rng t w' c0' ok.hi (by omega) (by omega)
    have HP : Hid (placeF d (t : Int) = (min (d.code / (d.rng / t)) (t - 1) : Nat)) := by show _ = _; unfold placeF; rw [if_pos ht]; rfl
    generalize hR : d.rng / t = R at *
    have q0 : (0 : Int) < (R : Int) := by omega
    have q1 : ((d.code : Int) / (R : Int)) ≤ 4294967295 := by
      have := Nat.div_le_self d.code R
      have e := quo_nat d.code R
      omega
    have q2 : 0 ≤ (d.code : Int) / (R : Int) := Int.ediv_nonneg (by omega) (by omega)
    have HE : Hid ((if (t : Int) - 1 < (d.code : Int) / (R : Int) then (t : Int) - 1 else (d.code : Int) / (R : Int)) = placeF d (t : Int)) := by
      show _ = _
      rw [HP.out, quo_nat]
      split <;> omega
    have hwt : IntKind.i64.wrap ((t : Int) - 1) = (t : Int) - 1 := by
      simp [IntKind.wrap, IntKind.signed, IntKind.bits]; omega
    clear h
    go_enter Tryd.func19, Tryd.ntmps19
    go_wp2_with (go_at_call 40; refine (whole_any _ _).mono ?_; rintro e w' ⟨rfl, rfl⟩; rw [d1])
    go_quiet ((go_at_call 41; exact Calls.quiet_of_same (HS.out _ rfl)))
    rw [HE.out]
    go_wp2
    go_ret
    exact ⟨rfl, nq, rfl⟩
  · have d1 : decide (1 ≤ t ∧ t ≤ 65536) = false := by simp; omega
    have e : placeF d t = 0 := if_neg ht
    rw [e]
    clear h
    go_enter Tryd.func19, Tryd.ntmps19
    go_wp2_with (go_at_call 40; refine (whole_any t _).mono ?_; rintro e w' ⟨rfl, rfl⟩; rw [d1])
    go_ret
    exact ⟨rfl, 0, rfl⟩
theorem take_not (r : Nat) (l : List UInt8) (d : De) (lo hi t : Int) (w : World) (h : IsAt r 65 (dc l d) w) (hp : isP lo hi t = false) : Calls Tryd.prog 38 #[.pointer (some ⟨r, 0, none⟩), .int .i64 lo, .int .i64 hi, .int .i64 t] w fun e w' => e = .returned (.tuple #[]) ∧ w' = w := by
  have c1 : w.cell? ⟨r, 1, none⟩ = some (.bool true) := h.cell 1
  clear h
  go_enter Tryd.func38, Tryd.ntmps38
  go_wp2_with (go_at_call 54; refine (ispart_any lo hi t _).mono ?_; rintro e w' ⟨rfl, rfl⟩; rw [hp])
  (try simp only [Exit.inBlock, Exit.then])
  refine bodyPost_ret (results_none rfl _ _ _) rfl ?_
  exact ⟨rfl, rfl⟩
theorem wrap_dif (a b : Nat) (ha : a ≤ 4294967296) (hb : b ≤ 4294967296) : IntKind.i64.wrap ((a : Int) - (b : Int)) = (a : Int) - (b : Int) := by
  simp [IntKind.wrap, IntKind.signed, IntKind.bits]
  omega
theorem widD_step {l : List UInt8} {d : De} (h : d.Half) (hr : d.rng < 16777216) : widD l 3 d = widD l 3 (wid1D l d) ∧ (wid1D l d).Half := by
  have h1 := wid1D_half (l := l) h hr
  refine ⟨?_, h1⟩
  have hl := h.lo
  have er : (wid1D l d).rng = d.rng * 256 := rfl
  rw [widD_three h, widD_three h1, if_neg (by omega), er]
  by_cases k : 65536 ≤ d.rng
  · rw [if_pos k, if_pos (by omega)]
  · rw [if_neg k, if_neg (by omega), if_pos (by omega)]
set_option maxHeartbeats 4000000 in
theorem take_at (r : Nat) (l : List UInt8) (d : De) (lo hi t : Nat) (w : World) (h : IsAt r 65 (dc l d) w) (ok : d.Ok) (p : IsPart lo hi t) (hl : l.length ≤ 100000) :
    Calls Tryd.prog 38 #[.pointer (some ⟨r, 0, none⟩), .int .i64 (lo : Int), .int .i64 (hi : Int), .int .i64 (t : Int)] w fun e w' => e = .returned (.tuple #[]) ∧ IsAt r 65 (dc l (takeD l d lo hi t)) w' ∧ But r w w' := by
  have hp := part_isP p
  have c0 : w.cell? ⟨r, 0, none⟩ = some (lacks d.rng) := h.cell 0
  have c1 : w.cell? ⟨r, 1, none⟩ = some (.bool true) := h.cell 1
  have c2 : w.cell? ⟨r, 2, none⟩ = some (.int .i64 (d.code : Int)) := h.cell 2
  have f0 := h.frozen 0
  have f2 := h.frozen 2
  have pf := part_facts ok.hi p
  have pn := narrow_ge ok.lo p
  have hcode := ok.code
  have hrng := ok.hi
  have HN : Hid (Calls Tryd.prog 55 #[.pointer (some ⟨r, 0, none⟩), .int .i64 (lo : Int), .int .i64 (hi : Int), .int .i64 (t : Int)] w.drew fun e w' => e = .returned (.int .i64 ((d.rng / t * lo : Nat) : Int)) ∧ w' = w.drew.setCell ⟨r, 0, none⟩ (lacks (narrowN d.rng lo hi t))) :=
    narrow_any r d.rng lo hi t w.drew c0 f0 hrng p
  have HPD : Hid (partD d lo hi t = ⟨d.pos, min (d.code - d.rng / t * lo) (narrowN d.rng lo hi t - 1), narrowN d.rng lo hi t⟩) := rfl
  have HH : Hid (partD d lo hi t).Half := partD_half ok p
  have HI : Hid (IsAt r 65 (dc l d) w) := h
  generalize hA : d.rng / t * lo = A at *
  generalize hN : narrowN d.rng lo hi t = N at *
  have hAi : (A : Int) ≤ 4294967295 := by omega
  have hNi : (N : Int) ≤ 4294967295 := by omega
  have hNi2 : (256 : Int) ≤ (N : Int) := by omega
  have hci : (d.code : Int) ≤ 4294967295 := by omega
  have hw1 := wrap_dif d.code A (by omega) (by omega)
  have hw2 : IntKind.i64.wrap ((N : Int) - 1) = (N : Int) - 1 := by
    simp [IntKind.wrap, IntKind.signed, IntKind.bits]; omega
  have HM : Hid (IsAt r 65 #[lacks N, .bool true, .int .i64 ((d.code : Int) - (A : Int)), .string (leftB l d.pos)] (((w.setCell ⟨r, 0, none⟩ (lacks N)).setCell ⟨r, 2, none⟩ (.int .i64 ((d.code : Int) - (A : Int)))).drew)) := ((h.set 0 _).set 2 _).drewN 1
  have HB : Hid (But r w (((w.setCell ⟨r, 0, none⟩ (lacks N)).setCell ⟨r, 2, none⟩ (.int .i64 ((d.code : Int) - (A : Int)))).drew)) := (((But.refl r w).setCell 0 _).setCell 2 _).drew
  have HV : Hid ((if (if (N : Int) - 1 < (d.code : Int) - (A : Int) then (N : Int) - 1 else (d.code : Int) - (A : Int)) < 0 then (0 : Int) else if (N : Int) - 1 < (d.code : Int) - (A : Int) then (N : Int) - 1 else (d.code : Int) - (A : Int)) = ((partD d lo hi t).code : Int)) := by
    show _ = _
    rw [HPD.out]
    show _ = ((min (d.code - A) (N - 1) : Nat) : Int)
    split
    · split at * <;> omega
    · split <;> omega
  clear h ok p pf
  go_enter Tryd.func38, Tryd.ntmps38
  go_wp2_with (go_at_call 54; refine (ispart_any lo hi t _).mono ?_; rintro e w' ⟨rfl, he⟩; rw [hp, he]; clear he w')
  go_region_with (first | (go_at_call 55; refine HN.out.mono ?_; rintro e w2 ⟨rfl, rfl⟩))
  · go_wp2_with (fail)
    generalize hW : ((w.setCell ⟨r, 0, none⟩ (lacks N)).setCell ⟨r, 2, none⟩ (.int .i64 ((d.code : Int) - (A : Int)))).drew = W at *
    have k0 : W.cell? ⟨r, 0, none⟩ = some (lacks N) := HM.out.cell 0
    have k2 : W.cell? ⟨r, 2, none⟩ = some (.int .i64 ((d.code : Int) - (A : Int))) := HM.out.cell 2
    have g2 := HM.out.frozen 2
    have HZ : Hid (Calls Tryd.prog 56 #[.pointer (some ⟨r, 0, none⟩)] W.drew fun e w' => e = .returned (.int .i64 (N : Int)) ∧ w' = W.drew) := size_any r N W.drew k0 (by omega)
    have HQ : Hid (IsAt r 65 (dc l (partD d lo hi t)) ((W.setCell ⟨r, 2, none⟩ (.int .i64 ((partD d lo hi t).code : Int))).drew)) := by
      have h := (HM.out.set 2 (.int .i64 ((partD d lo hi t).code : Int))).drewN 1
      show IsAt _ _ _ _
      rw [show dc l (partD d lo hi t) = #[lacks N, .bool true, .int .i64 ((partD d lo hi t).code : Int), .string (leftB l d.pos)] by rw [HPD.out]; rfl]
      exact h
    have FQ : Hid (But r w ((W.setCell ⟨r, 2, none⟩ (.int .i64 ((partD d lo hi t).code : Int))).drew)) := (HB.out.setCell 2 _).drew
    clear c0 c1 c2 f0 f2 HN HI hW
    go_region_with (first | (go_at_call 56; refine HZ.out.mono ?_; rintro e w2 ⟨rfl, rfl⟩))
    · rw [HV.out]
      generalize (if (N : Int) - 1 < (d.code : Int) - (A : Int) then (N : Int) - 1 else (d.code : Int) - (A : Int)) = M48
      generalize hW2 : (W.setCell ⟨r, 2, none⟩ (.int .i64 ((partD d lo hi t).code : Int))).drew = W2 at *
      clear hW2 HM HB k0 k2 g2 HZ HV
      go_wp2
      go_loopg [] 16777216 (fun k wr => ∃ q : De, q.Half ∧ IsAt r 65 (dc l q) wr ∧ But r w wr ∧ widD l 3 q = takeD l d lo hi t ∧ 16777216 - q.rng ≤ k)
      case atStart => exact ⟨partD d lo hi t, HH.out, HQ.out, FQ.out, rfl, by omega⟩
      case round =>
        obtain ⟨q, hq, hco, hfr, hwid, hk⟩ := hrel
        have HW : Hid (widD l 3 q = takeD l d lo hi t) := hwid
        have HF : Hid (But r w wr) := hfr
        have HC : Hid (IsAt r 65 (dc l q) wr) := hco
        have HHq : Hid q.Half := hq
        have c0 : wr.cell? ⟨r, 0, none⟩ = some (lacks q.rng) := hco.cell 0
        have f0 := hco.frozen 0
        have hqr := hq.hi
        have hqc : q.code < 4294967296 := Nat.lt_trans hq.code hq.hi
        clear hwid hfr hco hq HQ FQ HH
        by_cases hr : 16777216 ≤ q.rng
        · go_wp2_with (go_at_call 57; refine (widen_no r q.rng _ c0 hqr hr).mono ?_; rintro e w' ⟨rfl, rfl⟩)
          go_end0
          exact ⟨rfl, by rw [← HW.out, widD_no hr]; exact HC.out, HF.out⟩
        · have hr' : q.rng < 16777216 := by omega
          have HC2 : Hid (IsAt r 65 #[lacks (q.rng * 256), .bool true, .int .i64 (q.code : Int), .string (leftB l q.pos)] (wr.setCell ⟨r, 0, none⟩ (lacks (q.rng * 256)))) := HC.out.set 0 _
          go_wp2_with (first
            | (go_at_call 57; refine (widen_yes r q.rng _ c0 f0 hr').mono ?_; rintro e w' ⟨rfl, rfl⟩)
            | (go_at_call 29; refine (shift_at r l _ q.code q.pos _ HC2.out hqc hl).mono ?_; rintro e w3 ⟨rfl, h3, h4⟩))
          have H3 : Hid (IsAt r 65 (dc l (wid1D l q)) w3) := h3
          have H4 : Hid (But r w w3) := (HF.out.setCell 0 _).trans h4
          clear h3 h4
          go_roundg (16777216 - q.rng * 256)
          case measure => have := HHq.out.lo; omega
          case rel =>
            obtain ⟨ws1, ws2⟩ := widD_step (l := l) HHq.out hr'
            exact ⟨wid1D l q, ws2, H3.out, H4.out, by rw [← ws1]; exact HW.out, Nat.le_refl _⟩
    · rw [HV.out]
      generalize (if (N : Int) - 1 < (d.code : Int) - (A : Int) then (N : Int) - 1 else (d.code : Int) - (A : Int)) = M48
      generalize hW2 : (W.setCell ⟨r, 2, none⟩ (.int .i64 ((partD d lo hi t).code : Int))).drew = W2 at *
      clear hW2 HM HB k0 k2 g2 HZ HV
      go_wp2
      go_loopg [] 16777216 (fun k wr => ∃ q : De, q.Half ∧ IsAt r 65 (dc l q) wr ∧ But r w wr ∧ widD l 3 q = takeD l d lo hi t ∧ 16777216 - q.rng ≤ k)
      case atStart => exact ⟨partD d lo hi t, HH.out, HQ.out, FQ.out, rfl, by omega⟩
      case round =>
        obtain ⟨q, hq, hco, hfr, hwid, hk⟩ := hrel
        have HW : Hid (widD l 3 q = takeD l d lo hi t) := hwid
        have HF : Hid (But r w wr) := hfr
        have HC : Hid (IsAt r 65 (dc l q) wr) := hco
        have HHq : Hid q.Half := hq
        have c0 : wr.cell? ⟨r, 0, none⟩ = some (lacks q.rng) := hco.cell 0
        have f0 := hco.frozen 0
        have hqr := hq.hi
        have hqc : q.code < 4294967296 := Nat.lt_trans hq.code hq.hi
        clear hwid hfr hco hq HQ FQ HH
        by_cases hr : 16777216 ≤ q.rng
        · go_wp2_with (go_at_call 57; refine (widen_no r q.rng _ c0 hqr hr).mono ?_; rintro e w' ⟨rfl, rfl⟩)
          go_end0
          exact ⟨rfl, by rw [← HW.out, widD_no hr]; exact HC.out, HF.out⟩
        · have hr' : q.rng < 16777216 := by omega
          have HC2 : Hid (IsAt r 65 #[lacks (q.rng * 256), .bool true, .int .i64 (q.code : Int), .string (leftB l q.pos)] (wr.setCell ⟨r, 0, none⟩ (lacks (q.rng * 256)))) := HC.out.set 0 _
          go_wp2_with (first
            | (go_at_call 57; refine (widen_yes r q.rng _ c0 f0 hr').mono ?_; rintro e w' ⟨rfl, rfl⟩)
            | (go_at_call 29; refine (shift_at r l _ q.code q.pos _ HC2.out hqc hl).mono ?_; rintro e w3 ⟨rfl, h3, h4⟩))
          have H3 : Hid (IsAt r 65 (dc l (wid1D l q)) w3) := h3
          have H4 : Hid (But r w w3) := (HF.out.setCell 0 _).trans h4
          clear h3 h4
          go_roundg (16777216 - q.rng * 256)
          case measure => have := HHq.out.lo; omega
          case rel =>
            obtain ⟨ws1, ws2⟩ := widD_step (l := l) HHq.out hr'
            exact ⟨wid1D l q, ws2, H3.out, H4.out, by rw [← ws1]; exact HW.out, Nat.le_refl _⟩
  · go_wp2_with (fail)
    generalize hW : ((w.setCell ⟨r, 0, none⟩ (lacks N)).setCell ⟨r, 2, none⟩ (.int .i64 ((d.code : Int) - (A : Int)))).drew = W at *
    have k0 : W.cell? ⟨r, 0, none⟩ = some (lacks N) := HM.out.cell 0
    have k2 : W.cell? ⟨r, 2, none⟩ = some (.int .i64 ((d.code : Int) - (A : Int))) := HM.out.cell 2
    have g2 := HM.out.frozen 2
    have HZ : Hid (Calls Tryd.prog 56 #[.pointer (some ⟨r, 0, none⟩)] W.drew fun e w' => e = .returned (.int .i64 (N : Int)) ∧ w' = W.drew) := size_any r N W.drew k0 (by omega)
    have HQ : Hid (IsAt r 65 (dc l (partD d lo hi t)) ((W.setCell ⟨r, 2, none⟩ (.int .i64 ((partD d lo hi t).code : Int))).drew)) := by
      have h := (HM.out.set 2 (.int .i64 ((partD d lo hi t).code : Int))).drewN 1
      show IsAt _ _ _ _
      rw [show dc l (partD d lo hi t) = #[lacks N, .bool true, .int .i64 ((partD d lo hi t).code : Int), .string (leftB l d.pos)] by rw [HPD.out]; rfl]
      exact h
    have FQ : Hid (But r w ((W.setCell ⟨r, 2, none⟩ (.int .i64 ((partD d lo hi t).code : Int))).drew)) := (HB.out.setCell 2 _).drew
    clear c0 c1 c2 f0 f2 HN HI hW
    go_region_with (first | (go_at_call 56; refine HZ.out.mono ?_; rintro e w2 ⟨rfl, rfl⟩))
    · rw [HV.out]
      generalize (if (N : Int) - 1 < (d.code : Int) - (A : Int) then (N : Int) - 1 else (d.code : Int) - (A : Int)) = M48
      generalize hW2 : (W.setCell ⟨r, 2, none⟩ (.int .i64 ((partD d lo hi t).code : Int))).drew = W2 at *
      clear hW2 HM HB k0 k2 g2 HZ HV
      go_wp2
      go_loopg [] 16777216 (fun k wr => ∃ q : De, q.Half ∧ IsAt r 65 (dc l q) wr ∧ But r w wr ∧ widD l 3 q = takeD l d lo hi t ∧ 16777216 - q.rng ≤ k)
      case atStart => exact ⟨partD d lo hi t, HH.out, HQ.out, FQ.out, rfl, by omega⟩
      case round =>
        obtain ⟨q, hq, hco, hfr, hwid, hk⟩ := hrel
        have HW : Hid (widD l 3 q = takeD l d lo hi t) := hwid
        have HF : Hid (But r w wr) := hfr
        have HC : Hid (IsAt r 65 (dc l q) wr) := hco
        have HHq : Hid q.Half := hq
        have c0 : wr.cell? ⟨r, 0, none⟩ = some (lacks q.rng) := hco.cell 0
        have f0 := hco.frozen 0
        have hqr := hq.hi
        have hqc : q.code < 4294967296 := Nat.lt_trans hq.code hq.hi
        clear hwid hfr hco hq HQ FQ HH
        by_cases hr : 16777216 ≤ q.rng
        · go_wp2_with (go_at_call 57; refine (widen_no r q.rng _ c0 hqr hr).mono ?_; rintro e w' ⟨rfl, rfl⟩)
          go_end0
          exact ⟨rfl, by rw [← HW.out, widD_no hr]; exact HC.out, HF.out⟩
        · have hr' : q.rng < 16777216 := by omega
          have HC2 : Hid (IsAt r 65 #[lacks (q.rng * 256), .bool true, .int .i64 (q.code : Int), .string (leftB l q.pos)] (wr.setCell ⟨r, 0, none⟩ (lacks (q.rng * 256)))) := HC.out.set 0 _
          go_wp2_with (first
            | (go_at_call 57; refine (widen_yes r q.rng _ c0 f0 hr').mono ?_; rintro e w' ⟨rfl, rfl⟩)
            | (go_at_call 29; refine (shift_at r l _ q.code q.pos _ HC2.out hqc hl).mono ?_; rintro e w3 ⟨rfl, h3, h4⟩))
          have H3 : Hid (IsAt r 65 (dc l (wid1D l q)) w3) := h3
          have H4 : Hid (But r w w3) := (HF.out.setCell 0 _).trans h4
          clear h3 h4
          go_roundg (16777216 - q.rng * 256)
          case measure => have := HHq.out.lo; omega
          case rel =>
            obtain ⟨ws1, ws2⟩ := widD_step (l := l) HHq.out hr'
            exact ⟨wid1D l q, ws2, H3.out, H4.out, by rw [← ws1]; exact HW.out, Nat.le_refl _⟩
    · rw [HV.out]
      generalize (if (N : Int) - 1 < (d.code : Int) - (A : Int) then (N : Int) - 1 else (d.code : Int) - (A : Int)) = M48
      generalize hW2 : (W.setCell ⟨r, 2, none⟩ (.int .i64 ((partD d lo hi t).code : Int))).drew = W2 at *
      clear hW2 HM HB k0 k2 g2 HZ HV
      go_wp2
      go_loopg [] 16777216 (fun k wr => ∃ q : De, q.Half ∧ IsAt r 65 (dc l q) wr ∧ But r w wr ∧ widD l 3 q = takeD l d lo hi t ∧ 16777216 - q.rng ≤ k)
      case atStart => exact ⟨partD d lo hi t, HH.out, HQ.out, FQ.out, rfl, by omega⟩
      case round =>
        obtain ⟨q, hq, hco, hfr, hwid, hk⟩ := hrel
        have HW : Hid (widD l 3 q = takeD l d lo hi t) := hwid
        have HF : Hid (But r w wr) := hfr
        have HC : Hid (IsAt r 65 (dc l q) wr) := hco
        have HHq : Hid q.Half := hq
        have c0 : wr.cell? ⟨r, 0, none⟩ = some (lacks q.rng) := hco.cell 0
        have f0 := hco.frozen 0
        have hqr := hq.hi
        have hqc : q.code < 4294967296 := Nat.lt_trans hq.code hq.hi
        clear hwid hfr hco hq HQ FQ HH
        by_cases hr : 16777216 ≤ q.rng
        · go_wp2_with (go_at_call 57; refine (widen_no r q.rng _ c0 hqr hr).mono ?_; rintro e w' ⟨rfl, rfl⟩)
          go_end0
          exact ⟨rfl, by rw [← HW.out, widD_no hr]; exact HC.out, HF.out⟩
        · have hr' : q.rng < 16777216 := by omega
          have HC2 : Hid (IsAt r 65 #[lacks (q.rng * 256), .bool true, .int .i64 (q.code : Int), .string (leftB l q.pos)] (wr.setCell ⟨r, 0, none⟩ (lacks (q.rng * 256)))) := HC.out.set 0 _
          go_wp2_with (first
            | (go_at_call 57; refine (widen_yes r q.rng _ c0 f0 hr').mono ?_; rintro e w' ⟨rfl, rfl⟩)
            | (go_at_call 29; refine (shift_at r l _ q.code q.pos _ HC2.out hqc hl).mono ?_; rintro e w3 ⟨rfl, h3, h4⟩))
          have H3 : Hid (IsAt r 65 (dc l (wid1D l q)) w3) := h3
          have H4 : Hid (But r w w3) := (HF.out.setCell 0 _).trans h4
          clear h3 h4
          go_roundg (16777216 - q.rng * 256)
          case measure => have := HHq.out.lo; omega
          case rel =>
            obtain ⟨ws1, ws2⟩ := widD_step (l := l) HHq.out hr'
            exact ⟨wid1D l q, ws2, H3.out, H4.out, by rw [← ws1]; exact HW.out, Nat.le_refl _⟩
end Go.Proofs.YtdfpmhdgebajfaaDoor
