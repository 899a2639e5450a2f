/-
  Proved: for any list of up to 60 parts (above that the law answers by the chapter's example alone) and any three numbers between, what the coder tells is what the document's coder tells, behind each of them. Conditions: none beside the row's own (the listed library tables read as Go's text lays them; the card ties them to the pruned copy).
-/
import Derived.Test.YtkdmgeefeojdoaaDoorCards
import Derived.Test.YtkdmgeefeojdoaaDoorTie
import Derived.Test.YtkdmgeefeojdoaaDoorN
import Derived.Test.YtkdmgeefeojdoaaDoorX
import Derived.Test.YtkdmgeefeojdoaaDoorO
import Derived.WalkKit
import Derived.ProofKit
import Derived.OpenShut
import Derived.ShutString
import Derived.ChangeOld
import Derived.Below
import Derived.Lay
import Derived.LaidOnce
import Derived.SevenTiedAt
namespace Go.Proofs.YtkdmgeefeojdoaaDoor.rcCodes
open Go.ChangeShapes Go.WideShapes Go.ChangeAt Go.RowKit
open Go.ChangeMaps (open_string shut_string)
set_option linter.unusedVariables false

theorem own : ownKnob Tryd.prog.godebug = none := by kernel_rfl
theorem laidOut : laidOutB Tryd.prog = true := by kernel_rfl

set_option maxRecDepth 100000
/-- What stands in RcCodes' loop: c, d, odd. -/
structure St (w : World) (x y z : Int) (s : Co) (wr : World) : Prop where
  ok : s.Ok
  co : CoAt w.heap.size (w.heap.size + 1) s wr
  dd : DoAt w.heap.size (w.heap.size + 2) s wr
  odd : IsAt w.heap.size 23 #[.int .i64 x, .int .i64 y, .int .i64 z] wr
  bel : Below w.heap.size w wr
theorem St.below {w : World} {x y z : Int} {s : Co} {wr w' : World} (h : St w x y z s wr) (hb : Below wr.heap.size wr w') : St w x y z s w' :=
  ⟨h.ok, h.co.below hb, h.dd.below hb, h.odd.below hb, h.bel.trans (hb.mono h.bel.size)⟩
/-- One Code of each. -/
theorem St.codes {w : World} {x y z : Int} {s : Co} {wr w1 w2 : World} (h : St w x y z s wr) (lo hi t : Int) (c1 : CoAt w.heap.size (w.heap.size + 1) (codeI s lo hi t) w1) (f1 : Fr w.heap.size wr w1)
    (d2 : DoAt w.heap.size (w.heap.size + 2) (codeI s lo hi t) w2) (g2 : Gr w.heap.size w1 w2) : St w x y z (codeI s lo hi t) w2 :=
  ⟨(codeI_ok h.ok lo hi t).1, g2.co c1, d2, g2.kept _ _ _ _ (f1.kept _ _ _ _ h.odd (by decide) (by decide) (by decide)) (by decide) (by decide), (h.bel.trans f1.below).trans g2.below⟩
theorem st_new (w : World) (x y z : Int) : St w x y z zeroC (((w.alloc (.cells #[.int .i64 x, .int .i64 y, .int .i64 z] 23)).alloc (.cells #[.int .i64 0, .int .i64 0, .pointer none, .int .i64 0, .bool false, .int .u8 0, .int .i64 0] 34)).alloc (.cells #[.slice none 0 0, .int .i64 0, .int .i64 0] 38)) := by
  have b1 : Below w.heap.size w (w.alloc (.cells #[.int .i64 x, .int .i64 y, .int .i64 z] 23)) := (Below.refl _ w).alloc (Nat.le_refl _) _
  have s1 : (w.alloc (.cells #[.int .i64 x, .int .i64 y, .int .i64 z] 23)).heap.size = w.heap.size + 1 := by simp
  have h1 : IsAt w.heap.size 23 #[.int .i64 x, .int .i64 y, .int .i64 z] (w.alloc (.cells #[.int .i64 x, .int .i64 y, .int .i64 z] 23)) := heap_alloc_new w _
  generalize w.alloc (.cells #[.int .i64 x, .int .i64 y, .int .i64 z] 23) = W1 at *
  have c2 := co_new W1 w.heap.size (by omega)
  have b2 := ((Below.refl _ W1).alloc (Nat.le_refl _) (.cells #[.int .i64 0, .int .i64 0, .pointer none, .int .i64 0, .bool false, .int .u8 0, .int .i64 0] 34))
  have s2 : (W1.alloc (.cells #[.int .i64 0, .int .i64 0, .pointer none, .int .i64 0, .bool false, .int .u8 0, .int .i64 0] 34)).heap.size = w.heap.size + 2 := by simp; omega
  have h2 := h1.below b2
  have b2' := b1.trans (b2.mono (by omega))
  rw [s1] at c2
  generalize W1.alloc (.cells #[.int .i64 0, .int .i64 0, .pointer none, .int .i64 0, .bool false, .int .u8 0, .int .i64 0] 34) = W2 at *
  have d3 := do_new W2 w.heap.size (by omega)
  have b3 := ((Below.refl _ W2).alloc (Nat.le_refl _) (.cells #[.slice none 0 0, .int .i64 0, .int .i64 0] 38))
  rw [s2] at d3
  exact ⟨zero_ok, c2.below b3, d3, h2.below b3, b2'.trans (b3.mono (by omega))⟩
theorem walk60 (w : World) (a : Option Addr) (len cap : Nat) (x y z : Int) (hl : len ≤ maxLen) (h : 60 < len) :
    Calls Tryd.prog 3 #[.slice a len cap, .agg #[.int .i64 x, .int .i64 y, .int .i64 z]] w fun e w' => e = .returned (.bool true) ∧ Below w.heap.size w w' := by
  unfold maxLen at hl
  have hi : (60 : Int) < (len : Int) := by omega
  have b1 : Below w.heap.size w (w.alloc (.cells #[.int .i64 x, .int .i64 y, .int .i64 z] 23)) := (Below.refl _ w).alloc (Nat.le_refl _) _
  go_enter Tryd.func3, Tryd.ntmps3
  go_wp2_with (go_at_call 7; refine (awake_any _).mono ?_; rintro e w7 ⟨rfl, hb7⟩)
  go_ret
  exact ⟨rfl, b1.trans (hb7.mono (by simp))⟩
set_option maxHeartbeats 4000000 in
theorem walkN (w : World) (b off len cap : Nat) (X : Nat → Nat × Nat × Nat) (x y z : Int) (hb : b < w.heap.size) (hc : cap ≤ maxLen) (hlc : len ≤ cap) (hl : len ≤ 60) (hX : ∀ i, i < len → ThreeAt w b (off + i * 3) (X i) ∧ Small (X i)) :
    Calls Tryd.prog 3 #[.slice (some ⟨b, off, none⟩) len cap, .agg #[.int .i64 x, .int .i64 y, .int .i64 z]] w fun e w' => e = .returned (.bool true) ∧ Below w.heap.size w w' := by
  unfold maxLen at hc
  have H0 := st_new w x y z
  have HH0 : Hid (St w x y z zeroC (((w.alloc (.cells #[.int .i64 x, .int .i64 y, .int .i64 z] 23)).alloc (.cells #[.int .i64 0, .int .i64 0, .pointer none, .int .i64 0, .bool false, .int .u8 0, .int .i64 0] 34)).alloc (.cells #[.slice none 0 0, .int .i64 0, .int .i64 0] 38))) := H0
  have HX : Hid (∀ i, i < len → ThreeAt w b (off + i * 3) (X i) ∧ Small (X i)) := hX
  have hd60 : decide ((len : Int) > 60) = false := decide_eq_false (by omega)
  have hli : (len : Int) ≤ 60 := by omega
  clear H0 hX
  go_enter Tryd.func3, Tryd.ntmps3
  go_wp2
  generalize (((w.alloc (.cells #[.int .i64 x, .int .i64 y, .int .i64 z] 23)).alloc (.cells #[.int .i64 0, .int .i64 0, .pointer none, .int .i64 0, .bool false, .int .u8 0, .int .i64 0] 34)).alloc (.cells #[.slice none 0 0, .int .i64 0, .int .i64 0] 38)) = W at *
  go_loopw [7] (fun i wr => ∃ (k : Nat) (s : Co), k ≤ len ∧ i = .int .i64 k ∧ s.T.length ≤ 4 * k ∧ St w x y z s wr) (fun i _ => len - (intOf i).toNat)
  case atStart => exact ⟨0, zeroC, by omega, rfl, by decide, HH0.out⟩
  case round =>
    obtain ⟨k, s, hk, rfl, hT, hst⟩ := hrel
    have HS : Hid (St w x y z s wr) := hst
    clear hst HH0
    by_cases hlt : k < len
    · obtain ⟨h3, hsm⟩ := HX.out k hlt
      have hbel := HS.out.bel
      have h3' : ThreeAt wr b (off + k * 3) (X k) := ⟨by rw [hbel.cell (p := ⟨b, _, none⟩) hb]; exact h3.1, by rw [hbel.cell (p := ⟨b, _, none⟩) hb]; exact h3.2.1, by rw [hbel.cell (p := ⟨b, _, none⟩) hb]; exact h3.2.2⟩
      obtain ⟨c0, c1, c2⟩ := h3'
      have hki : (k : Int) < (len : Int) := by omega
      have HSM : Hid (Small (X k)) := hsm
      have hp := prt_part (X k) hsm
      have HP : Hid (IsPart (prt (X k)).1 (prt (X k)).2.1 (prt (X k)).2.2) := hp
      generalize hXk : X k = Y at *
      have HSK : Hid (∀ w', ThreeAt w' b (off + k * 3) Y → Calls Tryd.prog 8 #[.int .u16 (Y.1 : Int), .int .u16 (Y.2.1 : Int), .int .u16 (Y.2.2 : Int)] w' fun e w'' => e = .returned (.agg #[.int .i64 ((prt Y).1 : Int), .int .i64 ((prt Y).2.1 : Int), .int .i64 ((prt Y).2.2 : Int)]) ∧ ThreeAt w'' b (off + k * 3) Y ∧ Below w'.heap.size w' w'') := fun w' h => some_keep Y HSM.out b _ w' h
      have nb := World.new_ne wr _ c0
      clear h3 hsm hp hbel
      go_wp2
      go_region_held3 (fun w' => w'.cell? ⟨b, off + k * 3, none⟩ = some (.int .u16 (Y.1 : Int)) ∧ w'.cell? ⟨b, off + k * 3 + 1, none⟩ = some (.int .u16 (Y.2.1 : Int)) ∧ w'.cell? ⟨b, off + k * 3 + 2, none⟩ = some (.int .u16 (Y.2.2 : Int))) (go_keep)
        (first | (go_at_call 8; refine (HSK.out _ ⟨?_, ?_, ?_⟩).mono ?_; go_keep; go_keep; go_keep; rintro e w2 ⟨rfl, ⟨d0, d1, d2⟩, hb2⟩; have hcl := cells_of hb2; have hfl := frozen_of hb2; have nb2 := World.new_ne w2 _ d0))
      · have HPW : Hid (IsAt w2.heap.size 40 #[.int .i64 ((prt Y).1 : Int), .int .i64 ((prt Y).2.1 : Int), .int .i64 ((prt Y).2.2 : Int)] (w2.alloc (.cells #[.int .i64 ((prt Y).1 : Int), .int .i64 ((prt Y).2.1 : Int), .int .i64 ((prt Y).2.2 : Int)] 40))) := heap_alloc_new w2 _
        have HBW : Hid (Below wr.heap.size wr (w2.alloc (.cells #[.int .i64 ((prt Y).1 : Int), .int .i64 ((prt Y).2.1 : Int), .int .i64 ((prt Y).2.2 : Int)] 40))) := below_b hb2
        clear hcl hfl hb2 d0 d1 d2 nb nb2 c0 c1 c2
        generalize w2.alloc (.cells #[.int .i64 ((prt Y).1 : Int), .int .i64 ((prt Y).2.1 : Int), .int .i64 ((prt Y).2.2 : Int)] 40) = WP at *
        generalize hpb : w2.heap.size = pb at *
        have HS1 : Hid (St w x y z s WP) := HS.out.below HBW.out
        have p0 : WP.cell? ⟨pb, 0, none⟩ = some (.int .i64 ((prt Y).1 : Int)) := HPW.out.cell 0
        have p1 : WP.cell? ⟨pb, 1, none⟩ = some (.int .i64 ((prt Y).2.1 : Int)) := HPW.out.cell 1
        have p2 : WP.cell? ⟨pb, 2, none⟩ = some (.int .i64 ((prt Y).2.2 : Int)) := HPW.out.cell 2
        clear HS HBW
        go_wp2_with (fail)
        refine (code_int w.heap.size (w.heap.size + 1) s _ _ _ WP HS1.out.co HS1.out.ok HS1.out.bel.size (by omega)).mono ?_
        rintro e w3 ⟨rfl, h3, f3⟩
        have HPW3 : Hid (IsAt pb 40 #[.int .i64 ((prt Y).1 : Int), .int .i64 ((prt Y).2.1 : Int), .int .i64 ((prt Y).2.2 : Int)] w3) := f3.kept _ _ _ _ HPW.out (by decide) (by decide) (by decide)
        have p0' : w3.cell? ⟨pb, 0, none⟩ = some (.int .i64 ((prt Y).1 : Int)) := HPW3.out.cell 0
        have p1' : w3.cell? ⟨pb, 1, none⟩ = some (.int .i64 ((prt Y).2.1 : Int)) := HPW3.out.cell 1
        have p2' : w3.cell? ⟨pb, 2, none⟩ = some (.int .i64 ((prt Y).2.2 : Int)) := HPW3.out.cell 2
        have H3 : Hid (CoAt w.heap.size (w.heap.size + 1) (codeI s ((prt Y).1 : Int) ((prt Y).2.1 : Int) ((prt Y).2.2 : Int)) w3) := h3
        have F3 : Hid (Fr w.heap.size WP w3) := f3
        clear h3 f3 p0 p1 p2 HPW
        go_wp2_with (fail)
        refine (rcode_int w.heap.size (w.heap.size + 1) (w.heap.size + 2) s _ _ _ w3 WP HS1.out.co (F3.out.three HS1.out.dd) HS1.out.ok (Nat.le_trans HS1.out.bel.size F3.out.below.size) (by omega)).mono ?_
        rintro e wE ⟨rfl, h4, g4⟩
        have HST : St w x y z (codeI s ((prt Y).1 : Int) ((prt Y).2.1 : Int) ((prt Y).2.2 : Int)) wE := HS1.out.codes _ _ _ H3.out F3.out h4 g4
        have hT1 := (codeI_ok HS1.out.ok ((prt Y).1 : Int) ((prt Y).2.1 : Int) ((prt Y).2.2 : Int)).2
        clear h4 g4 H3 F3 HS1 p0' p1' p2' HPW3
        generalize codeI s ((prt Y).1 : Int) ((prt Y).2.1 : Int) ((prt Y).2.2 : Int) = S at *
        by_cases h73 : k % 7 = 3
        · have hd7 : ((k : Int) % 7 == 3) = true := by simp; omega
          have o0 : wE.cell? ⟨w.heap.size, 0, none⟩ = some (.int .i64 x) := HST.odd.cell 0
          have o1 : wE.cell? ⟨w.heap.size, 1, none⟩ = some (.int .i64 y) := HST.odd.cell 1
          have o2 : wE.cell? ⟨w.heap.size, 2, none⟩ = some (.int .i64 z) := HST.odd.cell 2
          have HSE : Hid (St w x y z S wE) := HST
          clear HST
          go_wp2_with (fail)
          refine (code_int w.heap.size (w.heap.size + 1) S _ _ _ wE HSE.out.co HSE.out.ok HSE.out.bel.size (by omega)).mono ?_
          rintro e w5 ⟨rfl, h5, f5⟩
          have HO5 : IsAt w.heap.size 23 #[.int .i64 x, .int .i64 y, .int .i64 z] w5 := f5.kept _ _ _ _ HSE.out.odd (by decide) (by decide) (by decide)
          have q0 : w5.cell? ⟨w.heap.size, 0, none⟩ = some (.int .i64 x) := HO5.cell 0
          have q1 : w5.cell? ⟨w.heap.size, 1, none⟩ = some (.int .i64 y) := HO5.cell 1
          have q2 : w5.cell? ⟨w.heap.size, 2, none⟩ = some (.int .i64 z) := HO5.cell 2
          have H5 : Hid (CoAt w.heap.size (w.heap.size + 1) (codeI S x y z) w5) := h5
          have F5 : Hid (Fr w.heap.size wE w5) := f5
          clear h5 f5 HO5 o0 o1 o2
          go_wp2_with (fail)
          refine (rcode_int w.heap.size (w.heap.size + 1) (w.heap.size + 2) S _ _ _ w5 wE HSE.out.co (F5.out.three HSE.out.dd) HSE.out.ok (Nat.le_trans HSE.out.bel.size F5.out.below.size) (by omega)).mono ?_
          rintro e w6 ⟨rfl, h6, g6⟩
          have HST : St w x y z (codeI S x y z) w6 := HSE.out.codes _ _ _ H5.out F5.out h6 g6
          have hT2 := (codeI_ok HSE.out.ok x y z).2
          clear h6 g6 H5 F5 HSE q0 q1 q2
          generalize codeI S x y z = S2 at *
          have HS1 : Hid (St w x y z S2 w6) := HST
          clear HST
          go_wp2_with (fail)
          refine (end_at w.heap.size (w.heap.size + 1) S2 w6 HS1.out.co HS1.out.ok.low HS1.out.bel.size (by omega)).mono ?_
          rintro e w7 ⟨rfl, h7, f7⟩
          have HST7 : Hid (St w x y z S2 w7) := ⟨HS1.out.ok, h7, f7.three HS1.out.dd, f7.kept _ _ _ _ HS1.out.odd (by decide) (by decide) (by decide), HS1.out.bel.trans f7.below⟩
          clear h7 f7 HS1
          go_wp2_with (fail)
          refine (rend_at w.heap.size (w.heap.size + 2) S2 w7 HST7.out.dd HST7.out.ok.low HST7.out.bel.size (by omega)).mono ?_
          rintro e w8 ⟨rfl, h8⟩
          have HST8 : Hid (St w x y z S2 w8) := HST7.out.below h8
          clear h8 HST7
          go_wp2
          exact ⟨⟨k + 1, S2, by omega, by go_num, by omega, HST8.out⟩, by simp [intOf]; omega⟩
        · have hd7 : ((k : Int) % 7 == 3) = false := by simp; omega
          have HS1 : Hid (St w x y z S wE) := HST
          clear HST
          go_wp2_with (fail)
          refine (end_at w.heap.size (w.heap.size + 1) S wE HS1.out.co HS1.out.ok.low HS1.out.bel.size (by omega)).mono ?_
          rintro e w7 ⟨rfl, h7, f7⟩
          have HST7 : Hid (St w x y z S w7) := ⟨HS1.out.ok, h7, f7.three HS1.out.dd, f7.kept _ _ _ _ HS1.out.odd (by decide) (by decide) (by decide), HS1.out.bel.trans f7.below⟩
          clear h7 f7 HS1
          go_wp2_with (fail)
          refine (rend_at w.heap.size (w.heap.size + 2) S w7 HST7.out.dd HST7.out.ok.low HST7.out.bel.size (by omega)).mono ?_
          rintro e w8 ⟨rfl, h8⟩
          have HST8 : Hid (St w x y z S w8) := HST7.out.below h8
          clear h8 HST7
          go_wp2
          exact ⟨⟨k + 1, S, by omega, by go_num, by omega, HST8.out⟩, by simp [intOf]; omega⟩
      · have HPW : Hid (IsAt wr.heap.size 40 #[.int .i64 ((prt Y).1 : Int), .int .i64 ((prt Y).2.1 : Int), .int .i64 ((prt Y).2.2 : Int)] (((w2.setCell ⟨wr.heap.size, 0, none⟩ (.int .i64 ((prt Y).1 : Int))).setCell ⟨wr.heap.size, 1, none⟩ (.int .i64 ((prt Y).2.1 : Int))).setCell ⟨wr.heap.size, 2, none⟩ (.int .i64 ((prt Y).2.2 : Int)))) := by
          have h0 : IsAt wr.heap.size 40 #[.int .i64 0, .int .i64 0, .int .i64 0] (wr.alloc (.cells #[.int .i64 0, .int .i64 0, .int .i64 0] 40)).drew := heap_alloc_new wr _
          exact (((h0.below hb2).set 0 _).set 1 _).set 2 _
        have HBW : Hid (Below wr.heap.size wr (((w2.setCell ⟨wr.heap.size, 0, none⟩ (.int .i64 ((prt Y).1 : Int))).setCell ⟨wr.heap.size, 1, none⟩ (.int .i64 ((prt Y).2.1 : Int))).setCell ⟨wr.heap.size, 2, none⟩ (.int .i64 ((prt Y).2.2 : Int)))) :=
          below_set (below_set (below_set (below_a hb2) (Nat.le_refl _) _ _) (Nat.le_refl _) _ _) (Nat.le_refl _) _ _
        clear hcl hfl hb2 d0 d1 d2 nb nb2 c0 c1 c2
        generalize (((w2.setCell ⟨wr.heap.size, 0, none⟩ (.int .i64 ((prt Y).1 : Int))).setCell ⟨wr.heap.size, 1, none⟩ (.int .i64 ((prt Y).2.1 : Int))).setCell ⟨wr.heap.size, 2, none⟩ (.int .i64 ((prt Y).2.2 : Int))) = WP at *
        obtain ⟨pb, hpb⟩ : ∃ pb, wr.heap.size = pb := ⟨_, rfl⟩; rw [hpb] at HPW ⊢
        have HS1 : Hid (St w x y z s WP) := HS.out.below HBW.out
        have p0 : WP.cell? ⟨pb, 0, none⟩ = some (.int .i64 ((prt Y).1 : Int)) := HPW.out.cell 0
        have p1 : WP.cell? ⟨pb, 1, none⟩ = some (.int .i64 ((prt Y).2.1 : Int)) := HPW.out.cell 1
        have p2 : WP.cell? ⟨pb, 2, none⟩ = some (.int .i64 ((prt Y).2.2 : Int)) := HPW.out.cell 2
        clear HS HBW
        go_wp2_with (fail)
        refine (code_int w.heap.size (w.heap.size + 1) s _ _ _ WP HS1.out.co HS1.out.ok HS1.out.bel.size (by omega)).mono ?_
        rintro e w3 ⟨rfl, h3, f3⟩
        have HPW3 : Hid (IsAt pb 40 #[.int .i64 ((prt Y).1 : Int), .int .i64 ((prt Y).2.1 : Int), .int .i64 ((prt Y).2.2 : Int)] w3) := f3.kept _ _ _ _ HPW.out (by decide) (by decide) (by decide)
        have p0' : w3.cell? ⟨pb, 0, none⟩ = some (.int .i64 ((prt Y).1 : Int)) := HPW3.out.cell 0
        have p1' : w3.cell? ⟨pb, 1, none⟩ = some (.int .i64 ((prt Y).2.1 : Int)) := HPW3.out.cell 1
        have p2' : w3.cell? ⟨pb, 2, none⟩ = some (.int .i64 ((prt Y).2.2 : Int)) := HPW3.out.cell 2
        have H3 : Hid (CoAt w.heap.size (w.heap.size + 1) (codeI s ((prt Y).1 : Int) ((prt Y).2.1 : Int) ((prt Y).2.2 : Int)) w3) := h3
        have F3 : Hid (Fr w.heap.size WP w3) := f3
        clear h3 f3 p0 p1 p2 HPW
        go_wp2_with (fail)
        refine (rcode_int w.heap.size (w.heap.size + 1) (w.heap.size + 2) s _ _ _ w3 WP HS1.out.co (F3.out.three HS1.out.dd) HS1.out.ok (Nat.le_trans HS1.out.bel.size F3.out.below.size) (by omega)).mono ?_
        rintro e wE ⟨rfl, h4, g4⟩
        have HST : St w x y z (codeI s ((prt Y).1 : Int) ((prt Y).2.1 : Int) ((prt Y).2.2 : Int)) wE := HS1.out.codes _ _ _ H3.out F3.out h4 g4
        have hT1 := (codeI_ok HS1.out.ok ((prt Y).1 : Int) ((prt Y).2.1 : Int) ((prt Y).2.2 : Int)).2
        clear h4 g4 H3 F3 HS1 p0' p1' p2' HPW3
        generalize codeI s ((prt Y).1 : Int) ((prt Y).2.1 : Int) ((prt Y).2.2 : Int) = S at *
        by_cases h73 : k % 7 = 3
        · have hd7 : ((k : Int) % 7 == 3) = true := by simp; omega
          have o0 : wE.cell? ⟨w.heap.size, 0, none⟩ = some (.int .i64 x) := HST.odd.cell 0
          have o1 : wE.cell? ⟨w.heap.size, 1, none⟩ = some (.int .i64 y) := HST.odd.cell 1
          have o2 : wE.cell? ⟨w.heap.size, 2, none⟩ = some (.int .i64 z) := HST.odd.cell 2
          have HSE : Hid (St w x y z S wE) := HST
          clear HST
          go_wp2_with (fail)
          refine (code_int w.heap.size (w.heap.size + 1) S _ _ _ wE HSE.out.co HSE.out.ok HSE.out.bel.size (by omega)).mono ?_
          rintro e w5 ⟨rfl, h5, f5⟩
          have HO5 : IsAt w.heap.size 23 #[.int .i64 x, .int .i64 y, .int .i64 z] w5 := f5.kept _ _ _ _ HSE.out.odd (by decide) (by decide) (by decide)
          have q0 : w5.cell? ⟨w.heap.size, 0, none⟩ = some (.int .i64 x) := HO5.cell 0
          have q1 : w5.cell? ⟨w.heap.size, 1, none⟩ = some (.int .i64 y) := HO5.cell 1
          have q2 : w5.cell? ⟨w.heap.size, 2, none⟩ = some (.int .i64 z) := HO5.cell 2
          have H5 : Hid (CoAt w.heap.size (w.heap.size + 1) (codeI S x y z) w5) := h5
          have F5 : Hid (Fr w.heap.size wE w5) := f5
          clear h5 f5 HO5 o0 o1 o2
          go_wp2_with (fail)
          refine (rcode_int w.heap.size (w.heap.size + 1) (w.heap.size + 2) S _ _ _ w5 wE HSE.out.co (F5.out.three HSE.out.dd) HSE.out.ok (Nat.le_trans HSE.out.bel.size F5.out.below.size) (by omega)).mono ?_
          rintro e w6 ⟨rfl, h6, g6⟩
          have HST : St w x y z (codeI S x y z) w6 := HSE.out.codes _ _ _ H5.out F5.out h6 g6
          have hT2 := (codeI_ok HSE.out.ok x y z).2
          clear h6 g6 H5 F5 HSE q0 q1 q2
          generalize codeI S x y z = S2 at *
          have HS1 : Hid (St w x y z S2 w6) := HST
          clear HST
          go_wp2_with (fail)
          refine (end_at w.heap.size (w.heap.size + 1) S2 w6 HS1.out.co HS1.out.ok.low HS1.out.bel.size (by omega)).mono ?_
          rintro e w7 ⟨rfl, h7, f7⟩
          have HST7 : Hid (St w x y z S2 w7) := ⟨HS1.out.ok, h7, f7.three HS1.out.dd, f7.kept _ _ _ _ HS1.out.odd (by decide) (by decide) (by decide), HS1.out.bel.trans f7.below⟩
          clear h7 f7 HS1
          go_wp2_with (fail)
          refine (rend_at w.heap.size (w.heap.size + 2) S2 w7 HST7.out.dd HST7.out.ok.low HST7.out.bel.size (by omega)).mono ?_
          rintro e w8 ⟨rfl, h8⟩
          have HST8 : Hid (St w x y z S2 w8) := HST7.out.below h8
          clear h8 HST7
          go_wp2
          exact ⟨⟨k + 1, S2, by omega, by go_num, by omega, HST8.out⟩, by simp [intOf]; omega⟩
        · have hd7 : ((k : Int) % 7 == 3) = false := by simp; omega
          have HS1 : Hid (St w x y z S wE) := HST
          clear HST
          go_wp2_with (fail)
          refine (end_at w.heap.size (w.heap.size + 1) S wE HS1.out.co HS1.out.ok.low HS1.out.bel.size (by omega)).mono ?_
          rintro e w7 ⟨rfl, h7, f7⟩
          have HST7 : Hid (St w x y z S w7) := ⟨HS1.out.ok, h7, f7.three HS1.out.dd, f7.kept _ _ _ _ HS1.out.odd (by decide) (by decide) (by decide), HS1.out.bel.trans f7.below⟩
          clear h7 f7 HS1
          go_wp2_with (fail)
          refine (rend_at w.heap.size (w.heap.size + 2) S w7 HST7.out.dd HST7.out.ok.low HST7.out.bel.size (by omega)).mono ?_
          rintro e w8 ⟨rfl, h8⟩
          have HST8 : Hid (St w x y z S w8) := HST7.out.below h8
          clear h8 HST7
          go_wp2
          exact ⟨⟨k + 1, S, by omega, by go_num, by omega, HST8.out⟩, by simp [intOf]; omega⟩
    · obtain rfl : k = len := by omega
      have HS1 : Hid (St w x y z s wr) := HS.out
      go_wp2_with (fail)
      refine (end_at w.heap.size (w.heap.size + 1) s wr HS1.out.co HS1.out.ok.low HS1.out.bel.size (by omega)).mono ?_
      rintro e w7 ⟨rfl, h7, f7⟩
      have HST7 : Hid (St w x y z s w7) := ⟨HS1.out.ok, h7, f7.three HS1.out.dd, f7.kept _ _ _ _ HS1.out.odd (by decide) (by decide) (by decide), HS1.out.bel.trans f7.below⟩
      clear h7 f7 HS1 HS
      go_wp2_with (fail)
      refine (rend_at w.heap.size (w.heap.size + 2) s w7 HST7.out.dd HST7.out.ok.low HST7.out.bel.size (by omega)).mono ?_
      rintro e w8 ⟨rfl, h8⟩
      have HB8 : Hid (Below w.heap.size w w8) := HST7.out.bel.trans (h8.mono HST7.out.bel.size)
      clear h8 HST7
      go_wp2_with (go_at_call 7; refine (awake_any _).mono ?_; rintro e w9 ⟨rfl, hb9⟩)
      go_ret
      exact ⟨rfl, HB8.out.trans (hb9.mono HB8.out.size)⟩
theorem walk0 (w : World) (a : Option Addr) (cap : Nat) (x y z : Int) :
    Calls Tryd.prog 3 #[.slice a 0 cap, .agg #[.int .i64 x, .int .i64 y, .int .i64 z]] w fun e w' => e = .returned (.bool true) ∧ Below w.heap.size w w' := by
  have HH0 : Hid (St w x y z zeroC (((w.alloc (.cells #[.int .i64 x, .int .i64 y, .int .i64 z] 23)).alloc (.cells #[.int .i64 0, .int .i64 0, .pointer none, .int .i64 0, .bool false, .int .u8 0, .int .i64 0] 34)).alloc (.cells #[.slice none 0 0, .int .i64 0, .int .i64 0] 38))) := st_new w x y z
  go_enter Tryd.func3, Tryd.ntmps3
  go_wp2
  generalize (((w.alloc (.cells #[.int .i64 x, .int .i64 y, .int .i64 z] 23)).alloc (.cells #[.int .i64 0, .int .i64 0, .pointer none, .int .i64 0, .bool false, .int .u8 0, .int .i64 0] 34)).alloc (.cells #[.slice none 0 0, .int .i64 0, .int .i64 0] 38)) = W at *
  go_loopw [7] (fun i wr => i = .int .i64 0 ∧ wr = W) (fun i _ => 0)
  case atStart => exact ⟨rfl, rfl⟩
  case round =>
    obtain ⟨rfl, hwr⟩ := hrel
    have HS : Hid (St w x y z zeroC wr) := by show St _ _ _ _ _ _; rw [hwr]; exact HH0.out
    clear hwr HH0
    go_wp2_with (fail)
    refine (end_at w.heap.size (w.heap.size + 1) zeroC wr HS.out.co HS.out.ok.low HS.out.bel.size (by decide)).mono ?_
    rintro e w7 ⟨rfl, h7, f7⟩
    have HST7 : Hid (St w x y z zeroC w7) := ⟨HS.out.ok, h7, f7.three HS.out.dd, f7.kept _ _ _ _ HS.out.odd (by decide) (by decide) (by decide), HS.out.bel.trans f7.below⟩
    clear h7 f7 HS
    go_wp2_with (fail)
    refine (rend_at w.heap.size (w.heap.size + 2) zeroC w7 HST7.out.dd HST7.out.ok.low HST7.out.bel.size (by decide)).mono ?_
    rintro e w8 ⟨rfl, h8⟩
    have HB8 : Hid (Below w.heap.size w w8) := HST7.out.bel.trans (h8.mono HST7.out.bel.size)
    clear h8 HST7
    go_wp2_with (go_at_call 7; refine (awake_any _).mono ?_; rintro e w9 ⟨rfl, hb9⟩)
    go_ret
    exact ⟨rfl, HB8.out.trans (hb9.mono HB8.out.size)⟩
theorem walk (w : World) (a : Option Addr) (len cap : Nat) (X : Nat → Nat × Nat × Nat) (h : IsThrees w a len cap X) (x y z : Int) :
    Calls Tryd.prog 3 #[.slice a len cap, .agg #[.int .i64 x, .int .i64 y, .int .i64 z]] w fun e w' => e = .returned (.bool true) ∧ Below w.heap.size w w' := by
  obtain ⟨hl, h⟩ := h
  by_cases hbig : 60 < len
  · exact walk60 w a len cap x y z hl hbig
  rcases h with rfl | ⟨b, off, rfl, hb, hlc, hc, hx⟩
  · exact walk0 w a cap x y z
  · exact walkN w b off len cap X x y z hb hc hlc (by omega) hx

set_option maxRecDepth 100000 in
theorem lifted (os : Os) (started : os.Started) (H : Type) (enc : TypeId × Value → H) :
    ReturnsInHanded {} Tryd.checked os 3 .any (fun w args => (Rows.rcCodesSpec.pre enc Tryd.prog Tryd.f3 [] false w args ∧ laidMetH Tryd.prog Rows.rcCodesRow.laid w) ∧ sizedMet enc Tryd.prog Tryd.f3 (OpenSpec.ofChange Rows.rcCodesSpec) false w args)
      (Rows.rcCodesSpec.post enc Tryd.prog Tryd.f3 false true false false) := by
  refine returnsInHanded_of_change_and (C := Tryd.checked) (X := fun w _ => laidMetH Tryd.prog Rows.rcCodesRow.laid w) (fun _ _ _ hh h => h.of_heap hh) own started (by kernel_rfl) Tryd.func3
    (ChangeSpec.witness_shaped (enc := enc) (C := Tryd.checked) (os := os) (X := fun w _ => laidMetH Tryd.prog Rows.rcCodesRow.laid w) false (World.laidAll Tryd.prog os Rows.rcCodesRow.laid) #[.slice none 0 0, .agg #[.int .i64 0, .int .i64 0, .int .i64 0]] 8 (World.laidAll_os _ _ _)
      (World.shaped_of_ZipB (by kernel_rfl) (by kernel_rfl)) (by kernel_rfl) (by kernel_rfl) (by kernel_rfl)
      (by rw [MakeChecks.laidMetH_plain _ _ _ (by kernel_rfl)]; exact laidMet_laidAll _ (by kernel_rfl) (by kernel_rfl))) ?_
  intro W base args ds gs before hval0 hW _ _ hL _
  have hval : ∀ (j : Nat) t v, Tryd.f3.params[j]? = some t → args[j]? = some v → Value.okWide Tryd.prog W .any base t v := hval0
  have hW' := hW
  obtain ⟨p, q, hA0, hV, rfl, hfz, hnd⟩ := hW
  have hA : DataW.TrodAll enc Tryd.prog W 0 (fun _ => true) true Tryd.f3.params.toList args.toList ds p := hA0
  rw [Tryd.params3] at hA hval
  obtain ⟨v0, vs0, d0, ds0, p0, q0, hargs, rfl, rfl, h0, r0⟩ := trodAll_cons hA
  obtain ⟨v1, vs1, d1, ds1, p1, q1, rfl, rfl, rfl, h1, r1⟩ := trodAll_cons r0
  obtain ⟨rfl, rfl, rfl⟩ := trodAll_nil r1
  obtain rfl : args = #[v0, v1] := by cases args; simp_all
  obtain ⟨rfl, rfl⟩ := trodVars_none hV
  obtain ⟨a0, len0, cap0, rfl⟩ := okWide_slice Tryd.underlying22 (hval 0 22 v0 rfl rfl)
  have k0 := h0
  have lt0 : ∀ x ∈ p0, x.block < W.heap.size := by obtain ⟨m, hm⟩ := k0; exact DataW.trod_lt m _ _ _ hm
  obtain ⟨x0, w0⟩ : ∃ X : Nat → Nat × Nat × Nat, IsThrees W a0 len0 cap0 X := by
    obtain ⟨fuel, hf⟩ := h0
    exact open_arr3 Tryd.underlying22 Tryd.underlying43 Tryd.underlying42 (by kernel_rfl) (by kernel_rfl) hf
  have k1 := h1
  have lt1 : ∀ x ∈ p1, x.block < W.heap.size := by obtain ⟨m, hm⟩ := k1; exact DataW.trod_lt m _ _ _ hm
  obtain ⟨x1, y1, z1, rfl⟩ : ∃ x y z : Int, v1 = .agg #[.int .i64 x, .int .i64 y, .int .i64 z] := open_three Tryd.underlying23 Tryd.underlying3 (by kernel_rfl) (by kernel_rfl) (hval 1 23 v1 rfl rfl) h1
  clear hA0 hval0
  refine (walk W a0 len0 cap0 x0 w0 x1 y1 z1).mono fun e W' ⟨he, bel⟩ => ?_
  subst he
  exact ⟨_, rfl, _, _, _, [], _, [], hW', trodAll_mk1 (shut_bool Tryd.underlying4 _), (trodAll_cons_mk (Below.trod laidOut (by kernel_rfl) (of_decide_eq_true (by kernel_rfl)) k0 bel lt0) (trodAll_cons_mk (Below.trod laidOut (by kernel_rfl) (of_decide_eq_true (by kernel_rfl)) k1 bel lt1) trodAll_mk0)), rfl, bel.frame _, fun h => by cases h⟩

theorem over : Rows.rcCodesRow.holds Tryd.pinned (OpenSpec.ofChange Rows.rcCodesSpec) :=
  OpenClaim.holds_of_wide 3 Tryd.f3 rfl rfl rfl rfl rfl rfl rfl ⟨rfl, rfl, rfl, rfl, rfl⟩ rfl rfl rfl rfl rfl (by kernel_rfl) Tryd.func3 (by kernel_rfl)
    (of_decide_eq_true (by kernel_rfl)) (by unfold Func.isWrapper; first | (rw [if_pos (by decide +kernel)]; kernel_rfl) | (rw [if_neg (by decide +kernel)]; exact ⟨rfl, rfl⟩))
    (fun os started H enc _ => lifted os started H enc)

theorem plain (f : FuncId) (fn : Func) (hf : Tryd.pinned.checked.prog.funcNamed "splicer/splicerlaw04.RcCodes" = some f) (hfn : Tryd.pinned.checked.prog.funcs[f]? = some fn) :
    false = Tryd.pinned.checked.prog.looks [] ∧ ∀ (j : Nat) t, fn.params[j]? = some t → Tryd.pinned.checked.prog.wantsStandIn t = false := by
  obtain rfl : f = 3 := Option.some.inj ((show Tryd.prog.funcNamed "splicer/splicerlaw04.RcCodes" = some 3 by kernel_rfl).symm.trans hf) |>.symm
  obtain rfl : fn = Tryd.f3 := (Option.some.inj (Tryd.func3.symm.trans hfn)).symm
  refine ⟨by kernel_rfl, fun j t ht => ?_⟩
  rw [Tryd.params3] at ht
  have hm : t ∈ [22, 23] := by simpa using Array.mem_of_getElem? ht
  have hall : ([22, 23].all fun u => !Tryd.prog.wantsStandIn u) = true := by kernel_rfl
  exact (show Tryd.prog.wantsStandIn t = false by simpa using List.all_eq_true.1 hall t hm)

/-- The statement. -/
theorem proved : Rows.RcCodesCardSaid :=
  Claim7.holds_tied_plain_at .later [] _ _ _ _ over (fun _ h => by cases h) (by kernel_rfl) (fun _ h => by cases h) rcCodes_row_tie rfl ⟨rfl, rfl⟩ (by kernel_rfl) rfl plain (by kernel_rfl)
#print axioms proved
end Go.Proofs.YtkdmgeefeojdoaaDoor.rcCodes
