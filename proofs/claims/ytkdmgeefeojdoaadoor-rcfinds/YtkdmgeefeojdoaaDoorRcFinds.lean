/-
  Proved: for any string up to 200 octets and any list of up to 60 parts (above that the law answers by the chapter's example alone), and any whole, the decoder's places are the document's, whatever is taken. Conditions: none beside the row's own (the listed library tables read as Go's text lays them; the card ties them to the pruned copy).
-/
import Derived.Test.YtkdmgeefeojdoaaDoorCards
import Derived.Test.YtkdmgeefeojdoaaDoorTie
import Derived.Test.YtkdmgeefeojdoaaDoorN
import Derived.Test.YtkdmgeefeojdoaaDoorS
import Derived.Test.YtkdmgeefeojdoaaDoorO
import Derived.WalkKit
import Derived.ProofKit
import Derived.OpenShut
import Derived.ShutString
import Derived.ChangeOld
import Derived.Below
import Derived.Lay
import Derived.LaidOnce
import Derived.SevenTiedAt
namespace Go.Proofs.YtkdmgeefeojdoaaDoor.rcFinds
open Go.ChangeShapes Go.WideShapes Go.ChangeAt Go.RowKit
open Go.ChangeMaps (open_string shut_string)
set_option linter.unusedVariables false

theorem own : ownKnob Tryd.prog.godebug = none := by kernel_rfl
theorem laidOut : laidOutB Tryd.prog = true := by kernel_rfl

set_option maxRecDepth 100000
/-- What stands in RcFinds' loop: d and x. -/
structure St (w : World) (l : List UInt8) (r : Nat) (d : De) (wr : World) : Prop where
  ok : d.Ok
  dd : IsAt w.heap.size 55 (dc l d) wr
  xx : IsAt r 66 (rdc l d) wr
  bel : Below w.heap.size w wr
  ge : w.heap.size ≤ r
theorem St.below {w : World} {l : List UInt8} {r : Nat} {d : De} {wr w' : World} (h : St w l r d wr) (hb : Below wr.heap.size wr w') : St w l r d w' :=
  ⟨h.ok, h.dd.below hb, h.xx.below hb, h.bel.trans (hb.mono h.bel.size), h.ge⟩
theorem St.drewN {w : World} {l : List UInt8} {r : Nat} {d : De} {wr : World} (h : St w l r d wr) (n : Nat) : St w l r d (wr.drewN n) := h.below (below_drewN (Below.refl _ wr) n)
theorem but_at {r q t : Nat} {cs : Array Value} {w w' : World} (h : But r w w') (k : IsAt q t cs w) (hne : q ≠ r) : IsAt q t cs w' := (h.block q k.lt hne).trans k
theorem St.place {w : World} {l : List UInt8} {r : Nat} {d : De} {wr : World} (h : St w l r d wr) (t : Int) (n : Nat) :
    Calls Tryd.prog 15 #[.pointer (some ⟨w.heap.size, 0, none⟩), .int .i64 t] (wr.drewN n) fun e w' => e = .returned (.int .i64 (placeF d t)) ∧ ∃ m, w' = (wr.drewN n).drewN m :=
  place_at w.heap.size l d t (wr.drewN n) (h.drewN n).dd h.ok
theorem St.rplace {w : World} {l : List UInt8} {r : Nat} {d : De} {wr : World} (h : St w l r d wr) (t : Int) (n : Nat) :
    Calls Tryd.prog 16 #[.pointer (some ⟨r, 0, none⟩), .int .i64 t] (wr.drewN n) fun e w' => e = .returned (.int .i64 (placeF d t)) ∧ ∃ m, w' = (wr.drewN n).drewN m :=
  rplace_at r l d t (wr.drewN n) (h.drewN n).xx h.ok
theorem walkBig (w : World) (l : List UInt8) (a : Option Addr) (len cap : Nat) (t : Int) (hl : len ≤ maxLen) (hs : l.length ≤ maxLen) (h : 200 < l.length ∨ 60 < len) :
    Calls Tryd.prog 4 #[.string ⟨l.toArray⟩, .slice a len cap, .int .i64 t] w fun e w' => e = .returned (.bool true) ∧ Below w.heap.size w w' := by
  unfold maxLen at hl hs
  have hstr := str_len l
  by_cases h1 : 200 < l.length
  · have hi : decide ((l.length : Int) > 200) = true := decide_eq_true (by omega)
    go_enter Tryd.func4, Tryd.ntmps4
    go_wp2_with (go_at_call 7; refine (awake_any _).mono ?_; rintro e w7 ⟨rfl, hb7⟩)
    go_ret
    exact ⟨rfl, hb7⟩
  · have hi : decide ((l.length : Int) > 200) = false := decide_eq_false (by omega)
    have hj : decide ((len : Int) > 60) = true := decide_eq_true (by omega)
    go_enter Tryd.func4, Tryd.ntmps4
    go_wp2_with (go_at_call 7; refine (awake_any _).mono ?_; rintro e w7 ⟨rfl, hb7⟩)
    go_ret
    exact ⟨rfl, hb7⟩
set_option maxHeartbeats 4000000 in
theorem walkN (w : World) (l : List UInt8) (b off len cap : Nat) (X : Nat → Nat × Nat × Nat) (t : Int) (hs : l.length ≤ 200) (hb : b < w.heap.size) (hc : cap ≤ maxLen) (hlc : len ≤ cap) (hl : len ≤ 60) (hX : ∀ i, i < len → ThreeAt w b (off + i * 3) (X i) ∧ Small (X i)) :
    Calls Tryd.prog 4 #[.string ⟨l.toArray⟩, .slice (some ⟨b, off, none⟩) len cap, .int .i64 t] w fun e w' => e = .returned (.bool true) ∧ Below w.heap.size w w' := by
  unfold maxLen at hc
  have HX : Hid (∀ i, i < len → ThreeAt w b (off + i * 3) (X i) ∧ Small (X i)) := hX
  clear hX
  have hstr := str_len l
  have hi : decide ((l.length : Int) > 200) = false := decide_eq_false (by omega)
  have hj : decide ((len : Int) > 60) = false := decide_eq_false (by omega)
  have hli : (len : Int) ≤ 60 := by omega
  go_enter Tryd.func4, Tryd.ntmps4
  go_wp2_with (fail)
  refine (new_any l w (by omega)).mono ?_
  rintro e w1 ⟨rfl, h1, f1⟩
  have H1 : Hid (IsAt w.heap.size 55 (dc l (newD l)) w1) := h1
  have F1 : Hid (Below w.heap.size w w1) := f1
  clear h1 f1
  go_wp2_with (fail)
  refine (rnew_any l w1 (by omega)).mono ?_
  rintro e w2 ⟨rfl, h2, f2⟩
  have HS0 : Hid (St w l w1.heap.size (newD l) w2) := ⟨new_ok l, H1.out.below f2, h2, F1.out.trans (f2.mono F1.out.size), F1.out.size⟩
  clear h2 f2 H1
  generalize hr : w1.heap.size = r at *
  go_wp2
  go_loopw [9] (fun i wr => ∃ (k : Nat) (d : De), k ≤ len ∧ i = .int .i64 k ∧ d.pos ≤ 4 + 2 * k ∧ St w l r d wr) (fun i _ => len - (intOf i).toNat)
  case atStart => exact ⟨0, newD l, by omega, rfl, by show 4 ≤ _; omega, HS0.out⟩
  case round =>
    obtain ⟨k, d, hk, rfl, hpos, hst⟩ := hrel
    have HS : Hid (St w l r d wr) := hst
    have hbel := hst.bel
    clear hst HS0
    by_cases hlt : k < len
    · obtain ⟨h3, hsm⟩ := HX.out k hlt
      have h3' : ThreeAt wr b (off + k * 3) (X k) := ⟨by rw [hbel.cell (p := ⟨b, _, none⟩) hb]; exact h3.1, by rw [hbel.cell (p := ⟨b, _, none⟩) hb]; exact h3.2.1, by rw [hbel.cell (p := ⟨b, _, none⟩) hb]; exact h3.2.2⟩
      obtain ⟨c0, c1, c2⟩ := h3'
      have hki : (k : Int) < (len : Int) := by omega
      have HSM : Hid (Small (X k)) := hsm
      have HP : Hid (IsPart (prt (X k)).1 (prt (X k)).2.1 (prt (X k)).2.2) := prt_part (X k) hsm
      generalize hXk : X k = Y at *
      have HSK : Hid (∀ w', ThreeAt w' b (off + k * 3) Y → Calls Tryd.prog 8 #[.int .u16 (Y.1 : Int), .int .u16 (Y.2.1 : Int), .int .u16 (Y.2.2 : Int)] w' fun e w'' => e = .returned (.agg #[.int .i64 ((prt Y).1 : Int), .int .i64 ((prt Y).2.1 : Int), .int .i64 ((prt Y).2.2 : Int)]) ∧ ThreeAt w'' b (off + k * 3) Y ∧ Below w'.heap.size w' w'') := fun w' h => some_keep Y HSM.out b _ w' h
      have nb := World.new_ne wr _ c0
      clear h3 hsm hbel
      go_wp2
      go_region_held3 (fun w' => w'.cell? ⟨b, off + k * 3, none⟩ = some (.int .u16 (Y.1 : Int)) ∧ w'.cell? ⟨b, off + k * 3 + 1, none⟩ = some (.int .u16 (Y.2.1 : Int)) ∧ w'.cell? ⟨b, off + k * 3 + 2, none⟩ = some (.int .u16 (Y.2.2 : Int))) (go_keep)
        (first | (go_at_call 8; refine (HSK.out _ ⟨?_, ?_, ?_⟩).mono ?_; go_keep; go_keep; go_keep; rintro e w2 ⟨rfl, ⟨d0, d1, d2⟩, hb2⟩; have hcl := cells_of hb2; have hfl := frozen_of hb2; have nb2 := World.new_ne w2 _ d0))
      · have HPW : Hid (IsAt w2.heap.size 40 #[.int .i64 ((prt Y).1 : Int), .int .i64 ((prt Y).2.1 : Int), .int .i64 ((prt Y).2.2 : Int)] (w2.alloc (.cells #[.int .i64 ((prt Y).1 : Int), .int .i64 ((prt Y).2.1 : Int), .int .i64 ((prt Y).2.2 : Int)] 40))) := heap_alloc_new w2 _
        have HBW : Hid (Below wr.heap.size wr (w2.alloc (.cells #[.int .i64 ((prt Y).1 : Int), .int .i64 ((prt Y).2.1 : Int), .int .i64 ((prt Y).2.2 : Int)] 40))) := below_b hb2
        clear hcl hfl hb2 d0 d1 d2 nb nb2 c0 c1 c2
        generalize w2.alloc (.cells #[.int .i64 ((prt Y).1 : Int), .int .i64 ((prt Y).2.1 : Int), .int .i64 ((prt Y).2.2 : Int)] 40) = WP at *
        generalize hpb : w2.heap.size = pb at *
        have HS1 : Hid (St w l r d WP) := HS.out.below HBW.out
        have p0 : WP.cell? ⟨pb, 0, none⟩ = some (.int .i64 ((prt Y).1 : Int)) := HPW.out.cell 0
        have p1 : WP.cell? ⟨pb, 1, none⟩ = some (.int .i64 ((prt Y).2.1 : Int)) := HPW.out.cell 1
        have p2 : WP.cell? ⟨pb, 2, none⟩ = some (.int .i64 ((prt Y).2.2 : Int)) := HPW.out.cell 2
        clear HS HBW
        go_wp2_with (fail)
        go_quiet ((first
          | (go_at_call 15; exact Calls.quiet_of (HS1.out.place _ _))
          | (go_at_call 16; exact Calls.quiet_of (HS1.out.rplace _ _))))
        have HS2 : Hid (St w l r d (WP.drewN nq)) := HS1.out.drewN nq
        have HPW2 : Hid (IsAt pb 40 #[.int .i64 ((prt Y).1 : Int), .int .i64 ((prt Y).2.1 : Int), .int .i64 ((prt Y).2.2 : Int)] (WP.drewN nq)) := HPW.out.drewN nq
        generalize WP.drewN nq = WQ at *
        have p0' : WQ.cell? ⟨pb, 0, none⟩ = some (.int .i64 ((prt Y).1 : Int)) := HPW2.out.cell 0
        have p1' : WQ.cell? ⟨pb, 1, none⟩ = some (.int .i64 ((prt Y).2.1 : Int)) := HPW2.out.cell 1
        have p2' : WQ.cell? ⟨pb, 2, none⟩ = some (.int .i64 ((prt Y).2.2 : Int)) := HPW2.out.cell 2
        clear p0 p1 p2 HS1 HPW
        go_wp2_with (fail)
        refine (take_at w.heap.size l d _ _ _ WQ HS2.out.dd HS2.out.ok HP.out (by omega)).mono ?_
        rintro e w3 ⟨rfl, h3, g3⟩
        have n1 := isAt_ne HS2.out.xx HS2.out.dd (by decide)
        have n2 := isAt_ne HPW2.out HS2.out.dd (by decide)
        have HPW3 : Hid (IsAt pb 40 #[.int .i64 ((prt Y).1 : Int), .int .i64 ((prt Y).2.1 : Int), .int .i64 ((prt Y).2.2 : Int)] w3) := but_at g3 HPW2.out n2
        have HX3 : Hid (IsAt r 66 (rdc l d) w3) := but_at g3 HS2.out.xx n1
        have HD3 : Hid (IsAt w.heap.size 55 (dc l (takeD l d (prt Y).1 (prt Y).2.1 (prt Y).2.2)) w3) := h3
        have F3 : Hid (Below w.heap.size w w3) := HS2.out.bel.trans (g3.below (Nat.le_refl _) HS2.out.bel.size)
        have q0 : w3.cell? ⟨pb, 0, none⟩ = some (.int .i64 ((prt Y).1 : Int)) := HPW3.out.cell 0
        have q1 : w3.cell? ⟨pb, 1, none⟩ = some (.int .i64 ((prt Y).2.1 : Int)) := HPW3.out.cell 1
        have q2 : w3.cell? ⟨pb, 2, none⟩ = some (.int .i64 ((prt Y).2.2 : Int)) := HPW3.out.cell 2
        clear h3 g3 p0' p1' p2' HPW2 n2
        go_wp2_with (fail)
        refine (rtake_at r l d _ _ _ w3 HX3.out HS2.out.ok HP.out (by omega) (by omega)).mono ?_
        rintro e w4 ⟨rfl, h4, g4⟩
        have tk := take_ok (l := l) HS2.out.ok HP.out
        have HS4 : Hid (St w l r (takeD l d (prt Y).1 (prt Y).2.1 (prt Y).2.2) w4) := ⟨tk.1, but_at g4 HD3.out (Ne.symm n1), h4, F3.out.trans (g4.below HS2.out.ge F3.out.size), HS2.out.ge⟩
        have hpos2 := tk.2
        clear h4 g4 tk HD3 HX3 F3 HPW3 HS2 q0 q1 q2
        go_wp2
        exact ⟨⟨k + 1, _, by omega, by go_num, by omega, HS4.out⟩, by simp [intOf]; omega⟩
      · have HPW : Hid (IsAt wr.heap.size 40 #[.int .i64 ((prt Y).1 : Int), .int .i64 ((prt Y).2.1 : Int), .int .i64 ((prt Y).2.2 : Int)] (((w2.setCell ⟨wr.heap.size, 0, none⟩ (.int .i64 ((prt Y).1 : Int))).setCell ⟨wr.heap.size, 1, none⟩ (.int .i64 ((prt Y).2.1 : Int))).setCell ⟨wr.heap.size, 2, none⟩ (.int .i64 ((prt Y).2.2 : Int)))) := by
          have h0 : IsAt wr.heap.size 40 #[.int .i64 0, .int .i64 0, .int .i64 0] (wr.alloc (.cells #[.int .i64 0, .int .i64 0, .int .i64 0] 40)).drew := heap_alloc_new wr _
          exact (((h0.below hb2).set 0 _).set 1 _).set 2 _
        have HBW : Hid (Below wr.heap.size wr (((w2.setCell ⟨wr.heap.size, 0, none⟩ (.int .i64 ((prt Y).1 : Int))).setCell ⟨wr.heap.size, 1, none⟩ (.int .i64 ((prt Y).2.1 : Int))).setCell ⟨wr.heap.size, 2, none⟩ (.int .i64 ((prt Y).2.2 : Int)))) :=
          below_set (below_set (below_set (below_a hb2) (Nat.le_refl _) _ _) (Nat.le_refl _) _ _) (Nat.le_refl _) _ _
        clear hcl hfl hb2 d0 d1 d2 nb nb2 c0 c1 c2
        generalize (((w2.setCell ⟨wr.heap.size, 0, none⟩ (.int .i64 ((prt Y).1 : Int))).setCell ⟨wr.heap.size, 1, none⟩ (.int .i64 ((prt Y).2.1 : Int))).setCell ⟨wr.heap.size, 2, none⟩ (.int .i64 ((prt Y).2.2 : Int))) = WP at *
        obtain ⟨pb, hpb⟩ : ∃ pb, wr.heap.size = pb := ⟨_, rfl⟩; rw [hpb] at HPW ⊢
        have HS1 : Hid (St w l r d WP) := HS.out.below HBW.out
        have p0 : WP.cell? ⟨pb, 0, none⟩ = some (.int .i64 ((prt Y).1 : Int)) := HPW.out.cell 0
        have p1 : WP.cell? ⟨pb, 1, none⟩ = some (.int .i64 ((prt Y).2.1 : Int)) := HPW.out.cell 1
        have p2 : WP.cell? ⟨pb, 2, none⟩ = some (.int .i64 ((prt Y).2.2 : Int)) := HPW.out.cell 2
        clear HS HBW
        go_wp2_with (fail)
        go_quiet ((first
          | (go_at_call 15; exact Calls.quiet_of (HS1.out.place _ _))
          | (go_at_call 16; exact Calls.quiet_of (HS1.out.rplace _ _))))
        have HS2 : Hid (St w l r d (WP.drewN nq)) := HS1.out.drewN nq
        have HPW2 : Hid (IsAt pb 40 #[.int .i64 ((prt Y).1 : Int), .int .i64 ((prt Y).2.1 : Int), .int .i64 ((prt Y).2.2 : Int)] (WP.drewN nq)) := HPW.out.drewN nq
        generalize WP.drewN nq = WQ at *
        have p0' : WQ.cell? ⟨pb, 0, none⟩ = some (.int .i64 ((prt Y).1 : Int)) := HPW2.out.cell 0
        have p1' : WQ.cell? ⟨pb, 1, none⟩ = some (.int .i64 ((prt Y).2.1 : Int)) := HPW2.out.cell 1
        have p2' : WQ.cell? ⟨pb, 2, none⟩ = some (.int .i64 ((prt Y).2.2 : Int)) := HPW2.out.cell 2
        clear p0 p1 p2 HS1 HPW
        go_wp2_with (fail)
        refine (take_at w.heap.size l d _ _ _ WQ HS2.out.dd HS2.out.ok HP.out (by omega)).mono ?_
        rintro e w3 ⟨rfl, h3, g3⟩
        have n1 := isAt_ne HS2.out.xx HS2.out.dd (by decide)
        have n2 := isAt_ne HPW2.out HS2.out.dd (by decide)
        have HPW3 : Hid (IsAt pb 40 #[.int .i64 ((prt Y).1 : Int), .int .i64 ((prt Y).2.1 : Int), .int .i64 ((prt Y).2.2 : Int)] w3) := but_at g3 HPW2.out n2
        have HX3 : Hid (IsAt r 66 (rdc l d) w3) := but_at g3 HS2.out.xx n1
        have HD3 : Hid (IsAt w.heap.size 55 (dc l (takeD l d (prt Y).1 (prt Y).2.1 (prt Y).2.2)) w3) := h3
        have F3 : Hid (Below w.heap.size w w3) := HS2.out.bel.trans (g3.below (Nat.le_refl _) HS2.out.bel.size)
        have q0 : w3.cell? ⟨pb, 0, none⟩ = some (.int .i64 ((prt Y).1 : Int)) := HPW3.out.cell 0
        have q1 : w3.cell? ⟨pb, 1, none⟩ = some (.int .i64 ((prt Y).2.1 : Int)) := HPW3.out.cell 1
        have q2 : w3.cell? ⟨pb, 2, none⟩ = some (.int .i64 ((prt Y).2.2 : Int)) := HPW3.out.cell 2
        clear h3 g3 p0' p1' p2' HPW2 n2
        go_wp2_with (fail)
        refine (rtake_at r l d _ _ _ w3 HX3.out HS2.out.ok HP.out (by omega) (by omega)).mono ?_
        rintro e w4 ⟨rfl, h4, g4⟩
        have tk := take_ok (l := l) HS2.out.ok HP.out
        have HS4 : Hid (St w l r (takeD l d (prt Y).1 (prt Y).2.1 (prt Y).2.2) w4) := ⟨tk.1, but_at g4 HD3.out (Ne.symm n1), h4, F3.out.trans (g4.below HS2.out.ge F3.out.size), HS2.out.ge⟩
        have hpos2 := tk.2
        clear h4 g4 tk HD3 HX3 F3 HPW3 HS2 q0 q1 q2
        go_wp2
        exact ⟨⟨k + 1, _, by omega, by go_num, by omega, HS4.out⟩, by simp [intOf]; omega⟩
    · obtain rfl : k = len := by omega
      go_wp2_with (fail)
      refine (HS.out.place t 0).mono ?_
      rintro e w3 ⟨rfl, n3, rfl⟩
      go_wp2_with (fail)
      refine (HS.out.rplace t n3).mono ?_
      rintro e w4 ⟨rfl, n4, rfl⟩
      go_wp2_with (go_at_call 7; refine (awake_any _).mono ?_; rintro e w9 ⟨rfl, hb9⟩)
      go_ret
      exact ⟨rfl, (HS.out.drewN (n3 + n4)).bel.trans (hb9.mono (HS.out.drewN (n3 + n4)).bel.size)⟩
theorem walk0 (w : World) (l : List UInt8) (a : Option Addr) (cap : Nat) (t : Int) (hs : l.length ≤ 200) :
    Calls Tryd.prog 4 #[.string ⟨l.toArray⟩, .slice a 0 cap, .int .i64 t] w fun e w' => e = .returned (.bool true) ∧ Below w.heap.size w w' := by
  have hstr := str_len l
  have hi : decide ((l.length : Int) > 200) = false := decide_eq_false (by omega)
  go_enter Tryd.func4, Tryd.ntmps4
  go_wp2_with (fail)
  refine (new_any l w (by omega)).mono ?_
  rintro e w1 ⟨rfl, h1, f1⟩
  have H1 : Hid (IsAt w.heap.size 55 (dc l (newD l)) w1) := h1
  have F1 : Hid (Below w.heap.size w w1) := f1
  clear h1 f1
  go_wp2_with (fail)
  refine (rnew_any l w1 (by omega)).mono ?_
  rintro e w2 ⟨rfl, h2, f2⟩
  have HS0 : Hid (St w l w1.heap.size (newD l) w2) := ⟨new_ok l, H1.out.below f2, h2, F1.out.trans (f2.mono F1.out.size), F1.out.size⟩
  clear h2 f2 H1
  generalize hr : w1.heap.size = r at *
  go_wp2
  go_loopw [9] (fun i wr => i = .int .i64 0 ∧ wr = w2) (fun i _ => 0)
  case atStart => exact ⟨rfl, rfl⟩
  case round =>
    obtain ⟨rfl, hwr⟩ := hrel
    have HS : Hid (St w l r (newD l) wr) := by show St _ _ _ _ _; rw [hwr]; exact HS0.out
    clear hwr HS0
    go_wp2_with (fail)
    refine (HS.out.place t 0).mono ?_
    rintro e w3 ⟨rfl, n3, rfl⟩
    go_wp2_with (fail)
    refine (HS.out.rplace t n3).mono ?_
    rintro e w4 ⟨rfl, n4, rfl⟩
    go_wp2_with (go_at_call 7; refine (awake_any _).mono ?_; rintro e w9 ⟨rfl, hb9⟩)
    go_ret
    exact ⟨rfl, (HS.out.drewN (n3 + n4)).bel.trans (hb9.mono (HS.out.drewN (n3 + n4)).bel.size)⟩
theorem walk (w : World) (s : ByteArray) (hs : s.size ≤ maxLen) (a : Option Addr) (len cap : Nat) (X : Nat → Nat × Nat × Nat) (h : IsThrees w a len cap X) (t : Int) (ht : (Lit.int .i64 t).wf = true) :
    Calls Tryd.prog 4 #[.string s, .slice a len cap, .int .i64 t] w fun e w' => e = .returned (.bool true) ∧ Below w.heap.size w w' := by
  obtain ⟨l, rfl⟩ : ∃ l : List UInt8, s = ⟨l.toArray⟩ := ⟨s.data.toList, by simp⟩
  rw [str_len] at hs
  obtain ⟨hl, h⟩ := h
  by_cases hbig : 200 < l.length ∨ 60 < len
  · exact walkBig w l a len cap t hl hs hbig
  rcases h with rfl | ⟨b, off, rfl, hb, hlc, hc, hx⟩
  · exact walk0 w l a cap t (by omega)
  · exact walkN w l b off len cap X t (by omega) hb hc hlc (by omega) hx

set_option maxRecDepth 100000 in
theorem lifted (os : Os) (started : os.Started) (H : Type) (enc : TypeId × Value → H) :
    ReturnsInHanded {} Tryd.checked os 4 .any (fun w args => (Rows.rcFindsSpec.pre enc Tryd.prog Tryd.f4 [] false w args ∧ laidMetH Tryd.prog Rows.rcFindsRow.laid w) ∧ sizedMet enc Tryd.prog Tryd.f4 (OpenSpec.ofChange Rows.rcFindsSpec) false w args)
      (Rows.rcFindsSpec.post enc Tryd.prog Tryd.f4 false true false false) := by
  refine returnsInHanded_of_change_and (C := Tryd.checked) (X := fun w _ => laidMetH Tryd.prog Rows.rcFindsRow.laid w) (fun _ _ _ hh h => h.of_heap hh) own started (by kernel_rfl) Tryd.func4
    (ChangeSpec.witness_shaped (enc := enc) (C := Tryd.checked) (os := os) (X := fun w _ => laidMetH Tryd.prog Rows.rcFindsRow.laid w) false (World.laidAll Tryd.prog os Rows.rcFindsRow.laid) #[.string ByteArray.empty, .slice none 0 0, .int .i64 0] 8 (World.laidAll_os _ _ _)
      (World.shaped_of_ZipB (by kernel_rfl) (by kernel_rfl)) (by kernel_rfl) (by kernel_rfl) (by kernel_rfl)
      (by rw [MakeChecks.laidMetH_plain _ _ _ (by kernel_rfl)]; exact laidMet_laidAll _ (by kernel_rfl) (by kernel_rfl))) ?_
  intro W base args ds gs before hval0 hW _ _ hL _
  have hval : ∀ (j : Nat) t v, Tryd.f4.params[j]? = some t → args[j]? = some v → Value.okWide Tryd.prog W .any base t v := hval0
  have hW' := hW
  obtain ⟨p, q, hA0, hV, rfl, hfz, hnd⟩ := hW
  have hA : DataW.TrodAll enc Tryd.prog W 0 (fun _ => true) true Tryd.f4.params.toList args.toList ds p := hA0
  rw [Tryd.params4] at hA hval
  obtain ⟨v0, vs0, d0, ds0, p0, q0, hargs, rfl, rfl, h0, r0⟩ := trodAll_cons hA
  obtain ⟨v1, vs1, d1, ds1, p1, q1, rfl, rfl, rfl, h1, r1⟩ := trodAll_cons r0
  obtain ⟨v2, vs2, d2, ds2, p2, q2, rfl, rfl, rfl, h2, r2⟩ := trodAll_cons r1
  obtain ⟨rfl, rfl, rfl⟩ := trodAll_nil r2
  obtain rfl : args = #[v0, v1, v2] := by cases args; simp_all
  obtain ⟨rfl, rfl⟩ := trodVars_none hV
  obtain ⟨s0, rfl, rfl, rfl, w0⟩ := open_string Tryd.underlying9 (hval 0 9 v0 rfl rfl) h0
  obtain ⟨a1, len1, cap1, rfl⟩ := okWide_slice Tryd.underlying22 (hval 1 22 v1 rfl rfl)
  have k1 := h1
  have lt1 : ∀ x ∈ p1, x.block < W.heap.size := by obtain ⟨m, hm⟩ := k1; exact DataW.trod_lt m _ _ _ hm
  obtain ⟨x1, w1⟩ : ∃ X : Nat → Nat × Nat × Nat, IsThrees W a1 len1 cap1 X := by
    obtain ⟨fuel, hf⟩ := h1
    exact open_arr3 Tryd.underlying22 Tryd.underlying43 Tryd.underlying42 (by kernel_rfl) (by kernel_rfl) hf
  obtain ⟨a2, rfl, rfl, rfl, w2⟩ := open_int Tryd.underlying3 (hval 2 3 v2 rfl rfl) h2
  clear hA0 hval0
  refine (walk W s0 w0 a1 len1 cap1 x1 w1 a2 w2).mono fun e W' ⟨he, bel⟩ => ?_
  subst he
  exact ⟨_, rfl, _, _, _, [], _, [], hW', trodAll_mk1 (shut_bool Tryd.underlying4 _), (trodAll_cons_mk (shut_string Tryd.underlying9 w0) (trodAll_cons_mk (Below.trod laidOut (by kernel_rfl) (of_decide_eq_true (by kernel_rfl)) k1 bel lt1) (trodAll_cons_mk (shut_int Tryd.underlying3 w2) trodAll_mk0))), rfl, bel.frame _, fun h => by cases h⟩

theorem over : Rows.rcFindsRow.holds Tryd.pinned (OpenSpec.ofChange Rows.rcFindsSpec) :=
  OpenClaim.holds_of_wide 4 Tryd.f4 rfl rfl rfl rfl rfl rfl rfl ⟨rfl, rfl, rfl, rfl, rfl⟩ rfl rfl rfl rfl rfl (by kernel_rfl) Tryd.func4 (by kernel_rfl)
    (of_decide_eq_true (by kernel_rfl)) (by unfold Func.isWrapper; first | (rw [if_pos (by decide +kernel)]; kernel_rfl) | (rw [if_neg (by decide +kernel)]; exact ⟨rfl, rfl⟩))
    (fun os started H enc _ => lifted os started H enc)

theorem plain (f : FuncId) (fn : Func) (hf : Tryd.pinned.checked.prog.funcNamed "splicer/splicerlaw04.RcFinds" = some f) (hfn : Tryd.pinned.checked.prog.funcs[f]? = some fn) :
    false = Tryd.pinned.checked.prog.looks [] ∧ ∀ (j : Nat) t, fn.params[j]? = some t → Tryd.pinned.checked.prog.wantsStandIn t = false := by
  obtain rfl : f = 4 := Option.some.inj ((show Tryd.prog.funcNamed "splicer/splicerlaw04.RcFinds" = some 4 by kernel_rfl).symm.trans hf) |>.symm
  obtain rfl : fn = Tryd.f4 := (Option.some.inj (Tryd.func4.symm.trans hfn)).symm
  refine ⟨by kernel_rfl, fun j t ht => ?_⟩
  rw [Tryd.params4] at ht
  have hm : t ∈ [9, 22, 3] := by simpa using Array.mem_of_getElem? ht
  have hall : ([9, 22, 3].all fun u => !Tryd.prog.wantsStandIn u) = true := by kernel_rfl
  exact (show Tryd.prog.wantsStandIn t = false by simpa using List.all_eq_true.1 hall t hm)

/-- The statement. -/
theorem proved : Rows.RcFindsCardSaid :=
  Claim7.holds_tied_plain_at .later [] _ _ _ _ over (fun _ h => by cases h) (by kernel_rfl) (fun _ h => by cases h) rcFinds_row_tie rfl ⟨rfl, rfl⟩ (by kernel_rfl) rfl plain (by kernel_rfl)
#print axioms proved
end Go.Proofs.YtkdmgeefeojdoaaDoor.rcFinds
