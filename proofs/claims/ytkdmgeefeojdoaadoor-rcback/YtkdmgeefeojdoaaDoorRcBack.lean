/-
  Proved: for any list of up to 60 parts (above that the law answers by the chapter's example alone), a decoder of what the coder told has its place in each of them when it takes them one by one. Conditions: none beside the row's own (the listed library tables read as Go's text lays them; the card ties them to the pruned copy).
-/
import Derived.Test.YtkdmgeefeojdoaaDoorCards
import Derived.Test.YtkdmgeefeojdoaaDoorTie
import Derived.Test.YtkdmgeefeojdoaaDoorN
import Derived.Test.YtkdmgeefeojdoaaDoorO
import Derived.WalkKit
import Derived.ProofKit
import Derived.OpenShut
import Derived.ShutString
import Derived.ChangeOld
import Derived.Below
import Derived.Lay
import Derived.LaidOnce
import Derived.SevenTiedAt
namespace Go.Proofs.YtkdmgeefeojdoaaDoor.rcBack
open Go.ChangeShapes Go.WideShapes Go.ChangeAt Go.RowKit
open Go.ChangeMaps (open_string shut_string)
set_option linter.unusedVariables false

theorem own : ownKnob Tryd.prog.godebug = none := by kernel_rfl
theorem laidOut : laidOutB Tryd.prog = true := by kernel_rfl

set_option maxRecDepth 100000
/-- The parts up to k. -/
def ps (X : Nat → Nat × Nat × Nat) (k : Nat) : List (Nat × Nat × Nat) := (List.range k).map fun i => prt (X i)
theorem ps_succ (X : Nat → Nat × Nat × Nat) (k : Nat) : ps X (k + 1) = ps X k ++ [prt (X k)] := by simp [ps, List.range_succ]
theorem ps_zero (X : Nat → Nat × Nat × Nat) : ps X 0 = [] := rfl
theorem codes_one (s : Co) (p : Nat × Nat × Nat) : codesC s [p] = codeC s p.1 p.2.1 p.2.2 := rfl
theorem codes_none (s : Co) : codesC s [] = s := rfl
theorem takes_none (l : List UInt8) (d : De) : takesD l d [] = d := rfl
theorem ps_len (X : Nat → Nat × Nat × Nat) (k : Nat) : (ps X k).length = k := by simp [ps]
theorem ps_part (X : Nat → Nat × Nat × Nat) (k n : Nat) (h : ∀ i, i < n → Small (X i)) (hk : k ≤ n) : ∀ p ∈ ps X k, IsPart p.1 p.2.1 p.2.2 := by
  intro p hp
  simp only [ps, List.mem_map, List.mem_range] at hp
  obtain ⟨i, hi, rfl⟩ := hp
  exact prt_part _ (h i (by omega))
theorem ps_split (X : Nat → Nat × Nat × Nat) (k n : Nat) (h : k < n) : ∃ r, ps X n = ps X k ++ (prt (X k) :: r) := by
  obtain ⟨m, rfl⟩ : ∃ m, n = k + 1 + m := ⟨n - (k + 1), by omega⟩
  induction m with
  | zero => exact ⟨[], ps_succ X k⟩
  | succ m ih =>
    obtain ⟨r, hr⟩ := ih (by omega)
    refine ⟨r ++ [prt (X (k + 1 + m))], ?_⟩
    rw [show k + 1 + (m + 1) = (k + 1 + m) + 1 by omega, ps_succ, hr]
    simp
theorem walk60 (w : World) (a : Option Addr) (len cap : Nat) (hl : len ≤ maxLen) (h : 60 < len) :
    Calls Tryd.prog 5 #[.slice a len cap] w fun e w' => e = .returned (.bool true) ∧ Below w.heap.size w w' := by
  unfold maxLen at hl
  have hi : (60 : Int) < (len : Int) := by omega
  go_enter Tryd.func5, Tryd.ntmps5
  go_wp2_with (go_at_call 7; refine (awake_any _).mono ?_; rintro e w7 ⟨rfl, hb7⟩)
  go_ret
  exact ⟨rfl, hb7⟩
theorem baclenps (X : Nat → Nat × Nat × Nat) (len : Nat) (h : ∀ i, i < len → Small (X i)) : ∀ k, k ≤ len → (takesD (endC (codesC zeroC (ps X len))) (newD (endC (codesC zeroC (ps X len)))) (ps X k)).Ok ∧ True ∧ True ∧
    (k < len → (prt (X k)).1 ≤ placeD (takesD (endC (codesC zeroC (ps X len))) (newD (endC (codesC zeroC (ps X len)))) (ps X k)) (prt (X k)).2.2 ∧ placeD (takesD (endC (codesC zeroC (ps X len))) (newD (endC (codesC zeroC (ps X len)))) (ps X k)) (prt (X k)).2.2 < (prt (X k)).2.1) := by
  intro k hk
  have hp := ps_part X len len h (Nat.le_refl _)
  by_cases hlt : k < len
  · obtain ⟨r, hr⟩ := ps_split X k len hlt
    rw [hr] at hp ⊢
    have := back (ps X k) (prt (X k) :: r) hp
    exact ⟨this.1, trivial, trivial, fun _ => this.2.2.2 _ _ rfl⟩
  · obtain rfl : k = len := by omega
    have := back (ps X k) [] (by simpa using hp)
    simp only [List.append_nil] at this
    exact ⟨this.1, trivial, trivial, fun h => absurd h hlt⟩
set_option maxHeartbeats 4000000 in
theorem walkN (w : World) (b off len cap : Nat) (X : Nat → Nat × Nat × Nat) (hb : b < w.heap.size) (hc : cap ≤ maxLen) (hlc : len ≤ cap) (hl : len ≤ 60) (hX : ∀ i, i < len → ThreeAt w b (off + i * 3) (X i) ∧ Small (X i)) :
    Calls Tryd.prog 5 #[.slice (some ⟨b, off, none⟩) len cap] w fun e w' => e = .returned (.bool true) ∧ Below w.heap.size w w' := by
  unfold maxLen at hc
  have HX : Hid (∀ i, i < len → ThreeAt w b (off + i * 3) (X i) ∧ Small (X i)) := hX
  have HSMA : Hid (∀ i, i < len → Small (X i)) := fun i hi => (hX i hi).2
  have OKK : Hid (∀ k, k ≤ len → (codesC zeroC (ps X k)).Ok ∧ (codesC zeroC (ps X k)).T.length ≤ 120) := by
    intro k hk
    have := codes_ok (ps X k) zero_ok (ps_part X k len HSMA.out hk)
    refine ⟨this.1, ?_⟩
    have h2 := this.2
    rw [ps_len] at h2
    have : zeroC.T.length = 0 := rfl
    omega
  have hd60 : decide ((len : Int) > 60) = false := decide_eq_false (by omega)
  have hli : (len : Int) ≤ 60 := by omega
  have HC0 : Hid (CoAt w.heap.size w.heap.size (codesC zeroC (ps X 0)) (w.alloc (.cells #[.int .i64 0, .int .i64 0, .pointer none, .int .i64 0, .bool false, .int .u8 0, .int .i64 0] 34))) := by
    show CoAt _ _ _ _
    rw [ps_zero, codes_none]
    exact co_new w w.heap.size (Nat.le_refl _)
  have HB0 : Hid (Below w.heap.size w (w.alloc (.cells #[.int .i64 0, .int .i64 0, .pointer none, .int .i64 0, .bool false, .int .u8 0, .int .i64 0] 34))) := (Below.refl _ w).alloc (Nat.le_refl _) _
  clear hX
  go_enter Tryd.func5, Tryd.ntmps5
  go_wp2
  generalize w.alloc (.cells #[.int .i64 0, .int .i64 0, .pointer none, .int .i64 0, .bool false, .int .u8 0, .int .i64 0] 34) = W at *
  go_loopw [4] (fun i wr => ∃ k : Nat, k ≤ len ∧ i = .int .i64 k ∧ CoAt w.heap.size w.heap.size (codesC zeroC (ps X k)) wr ∧ Below w.heap.size w wr) (fun i _ => len - (intOf i).toNat)
  case atStart => exact ⟨0, by omega, rfl, HC0.out, HB0.out⟩
  case round =>
    obtain ⟨k, hk, rfl, hst, hbel⟩ := hrel
    have HS : Hid (CoAt w.heap.size w.heap.size (codesC zeroC (ps X k)) wr) := hst
    have HB : Hid (Below w.heap.size w wr) := hbel
    clear hst HC0 HB0
    by_cases hlt : k < len
    · obtain ⟨h3, hsm⟩ := HX.out k hlt
      have h3' : ThreeAt wr b (off + k * 3) (X k) := ⟨by rw [hbel.cell (p := ⟨b, _, none⟩) hb]; exact h3.1, by rw [hbel.cell (p := ⟨b, _, none⟩) hb]; exact h3.2.1, by rw [hbel.cell (p := ⟨b, _, none⟩) hb]; exact h3.2.2⟩
      obtain ⟨c0, c1, c2⟩ := h3'
      have hki : (k : Int) < (len : Int) := by omega
      have HSM : Hid (Small (X k)) := hsm
      have HP : Hid (IsPart (prt (X k)).1 (prt (X k)).2.1 (prt (X k)).2.2) := prt_part (X k) hsm
      generalize hXk : X k = Y at *
      have HSK : Hid (∀ w', ThreeAt w' b (off + k * 3) Y → Calls Tryd.prog 8 #[.int .u16 (Y.1 : Int), .int .u16 (Y.2.1 : Int), .int .u16 (Y.2.2 : Int)] w' fun e w'' => e = .returned (.agg #[.int .i64 ((prt Y).1 : Int), .int .i64 ((prt Y).2.1 : Int), .int .i64 ((prt Y).2.2 : Int)]) ∧ ThreeAt w'' b (off + k * 3) Y ∧ Below w'.heap.size w' w'') := fun w' h => some_keep Y HSM.out b _ w' h
      have nb := World.new_ne wr _ c0
      clear h3 hsm hbel
      go_wp2
      go_region_held3 (fun w' => w'.cell? ⟨b, off + k * 3, none⟩ = some (.int .u16 (Y.1 : Int)) ∧ w'.cell? ⟨b, off + k * 3 + 1, none⟩ = some (.int .u16 (Y.2.1 : Int)) ∧ w'.cell? ⟨b, off + k * 3 + 2, none⟩ = some (.int .u16 (Y.2.2 : Int))) (go_keep)
        (first | (go_at_call 8; refine (HSK.out _ ⟨?_, ?_, ?_⟩).mono ?_; go_keep; go_keep; go_keep; rintro e w2 ⟨rfl, ⟨d0, d1, d2⟩, hb2⟩; have hcl := cells_of hb2; have hfl := frozen_of hb2; have nb2 := World.new_ne w2 _ d0))
      · have HPW : Hid (IsAt w2.heap.size 40 #[.int .i64 ((prt Y).1 : Int), .int .i64 ((prt Y).2.1 : Int), .int .i64 ((prt Y).2.2 : Int)] (w2.alloc (.cells #[.int .i64 ((prt Y).1 : Int), .int .i64 ((prt Y).2.1 : Int), .int .i64 ((prt Y).2.2 : Int)] 40))) := heap_alloc_new w2 _
        have HBW : Hid (Below wr.heap.size wr (w2.alloc (.cells #[.int .i64 ((prt Y).1 : Int), .int .i64 ((prt Y).2.1 : Int), .int .i64 ((prt Y).2.2 : Int)] 40))) := below_b hb2
        clear hcl hfl hb2 d0 d1 d2 nb nb2 c0 c1 c2
        generalize w2.alloc (.cells #[.int .i64 ((prt Y).1 : Int), .int .i64 ((prt Y).2.1 : Int), .int .i64 ((prt Y).2.2 : Int)] 40) = WP at *
        generalize hpb : w2.heap.size = pb at *
        have HS1 : Hid (CoAt w.heap.size w.heap.size (codesC zeroC (ps X k)) WP) := HS.out.below HBW.out
        have F1 : Hid (Below w.heap.size w WP) := HB.out.trans (HBW.out.mono HB.out.size)
        have p0 : WP.cell? ⟨pb, 0, none⟩ = some (.int .i64 ((prt Y).1 : Int)) := HPW.out.cell 0
        have p1 : WP.cell? ⟨pb, 1, none⟩ = some (.int .i64 ((prt Y).2.1 : Int)) := HPW.out.cell 1
        have p2 : WP.cell? ⟨pb, 2, none⟩ = some (.int .i64 ((prt Y).2.2 : Int)) := HPW.out.cell 2
        clear HS HB HBW
        go_wp2_with (fail)
        refine (code_at w.heap.size w.heap.size _ _ _ _ WP HS1.out (OKK.out k (by omega)).1 HP.out F1.out.size (by have := (OKK.out k (by omega)).2; omega)).mono ?_
        rintro e w3 ⟨rfl, h3, f3⟩
        have H3 : Hid (CoAt w.heap.size w.heap.size (codesC zeroC (ps X (k + 1))) w3) := by
          show CoAt _ _ _ _
          rw [ps_succ, codes_append, hXk, codes_one]
          exact h3
        have F3 : Hid (Below w.heap.size w w3) := F1.out.trans f3.below
        clear h3 f3 HS1 F1 p0 p1 p2 HPW
        go_wp2
        exact ⟨⟨k + 1, by omega, by go_num, H3.out, F3.out⟩, by simp [intOf]; omega⟩
      · have HPW : Hid (IsAt wr.heap.size 40 #[.int .i64 ((prt Y).1 : Int), .int .i64 ((prt Y).2.1 : Int), .int .i64 ((prt Y).2.2 : Int)] (((w2.setCell ⟨wr.heap.size, 0, none⟩ (.int .i64 ((prt Y).1 : Int))).setCell ⟨wr.heap.size, 1, none⟩ (.int .i64 ((prt Y).2.1 : Int))).setCell ⟨wr.heap.size, 2, none⟩ (.int .i64 ((prt Y).2.2 : Int)))) := by
          have h0 : IsAt wr.heap.size 40 #[.int .i64 0, .int .i64 0, .int .i64 0] (wr.alloc (.cells #[.int .i64 0, .int .i64 0, .int .i64 0] 40)).drew := heap_alloc_new wr _
          exact (((h0.below hb2).set 0 _).set 1 _).set 2 _
        have HBW : Hid (Below wr.heap.size wr (((w2.setCell ⟨wr.heap.size, 0, none⟩ (.int .i64 ((prt Y).1 : Int))).setCell ⟨wr.heap.size, 1, none⟩ (.int .i64 ((prt Y).2.1 : Int))).setCell ⟨wr.heap.size, 2, none⟩ (.int .i64 ((prt Y).2.2 : Int)))) :=
          below_set (below_set (below_set (below_a hb2) (Nat.le_refl _) _ _) (Nat.le_refl _) _ _) (Nat.le_refl _) _ _
        clear hcl hfl hb2 d0 d1 d2 nb nb2 c0 c1 c2
        generalize (((w2.setCell ⟨wr.heap.size, 0, none⟩ (.int .i64 ((prt Y).1 : Int))).setCell ⟨wr.heap.size, 1, none⟩ (.int .i64 ((prt Y).2.1 : Int))).setCell ⟨wr.heap.size, 2, none⟩ (.int .i64 ((prt Y).2.2 : Int))) = WP at *
        obtain ⟨pb, hpb⟩ : ∃ pb, wr.heap.size = pb := ⟨_, rfl⟩; rw [hpb] at HPW ⊢
        have HS1 : Hid (CoAt w.heap.size w.heap.size (codesC zeroC (ps X k)) WP) := HS.out.below HBW.out
        have F1 : Hid (Below w.heap.size w WP) := HB.out.trans (HBW.out.mono HB.out.size)
        have p0 : WP.cell? ⟨pb, 0, none⟩ = some (.int .i64 ((prt Y).1 : Int)) := HPW.out.cell 0
        have p1 : WP.cell? ⟨pb, 1, none⟩ = some (.int .i64 ((prt Y).2.1 : Int)) := HPW.out.cell 1
        have p2 : WP.cell? ⟨pb, 2, none⟩ = some (.int .i64 ((prt Y).2.2 : Int)) := HPW.out.cell 2
        clear HS HB HBW
        go_wp2_with (fail)
        refine (code_at w.heap.size w.heap.size _ _ _ _ WP HS1.out (OKK.out k (by omega)).1 HP.out F1.out.size (by have := (OKK.out k (by omega)).2; omega)).mono ?_
        rintro e w3 ⟨rfl, h3, f3⟩
        have H3 : Hid (CoAt w.heap.size w.heap.size (codesC zeroC (ps X (k + 1))) w3) := by
          show CoAt _ _ _ _
          rw [ps_succ, codes_append, hXk, codes_one]
          exact h3
        have F3 : Hid (Below w.heap.size w w3) := F1.out.trans f3.below
        clear h3 f3 HS1 F1 p0 p1 p2 HPW
        go_wp2
        exact ⟨⟨k + 1, by omega, by go_num, H3.out, F3.out⟩, by simp [intOf]; omega⟩
    · obtain rfl : len = k := by omega
      clear hbel
      go_wp2_with (fail)
      refine (end_at w.heap.size w.heap.size _ wr HS.out (OKK.out len (by omega)).1.low HB.out.size (by have := (OKK.out len (by omega)).2; omega)).mono ?_
      rintro e w5 ⟨rfl, h5, f5⟩
      have F5 : Hid (Below w.heap.size w w5) := HB.out.trans f5.below
      have HLE : Hid ((endC (codesC zeroC (ps X len))).length ≤ 100000) := by
        show _ ≤ _
        have h1 := strip_le (fullC (codesC zeroC (ps X len)))
        rw [full_len] at h1
        have h2 := (OKK.out len (by omega)).2
        unfold endC
        omega
      clear h5 f5 HS HB
      have BKK : Hid (∀ k, k ≤ len → (takesD (endC (codesC zeroC (ps X len))) (newD (endC (codesC zeroC (ps X len)))) (ps X k)).Ok ∧ True ∧ True ∧ (k < len → (prt (X k)).1 ≤ placeD (takesD (endC (codesC zeroC (ps X len))) (newD (endC (codesC zeroC (ps X len)))) (ps X k)) (prt (X k)).2.2 ∧ placeD (takesD (endC (codesC zeroC (ps X len))) (newD (endC (codesC zeroC (ps X len)))) (ps X k)) (prt (X k)).2.2 < (prt (X k)).2.1)) := baclenps X len HSMA.out
      generalize hLL : endC (codesC zeroC (ps X len)) = L at *
      have HLL : Hid (L.length ≤ 100000) := HLE.out
      have BK := BKK
      go_wp2_with (fail)
      refine (new_any L w5 HLL.out).mono ?_
      rintro e w6 ⟨rfl, h6, f6⟩
      have H6 : Hid (IsAt w5.heap.size 55 (dc L (takesD L (newD L) (ps X 0))) w6) := by
        show IsAt _ _ _ _
        rw [ps_zero, takes_none]
        exact h6
      have F6 : Hid (Below w.heap.size w w6) := F5.out.trans (f6.mono F5.out.size)
      have hrw : w.heap.size ≤ w5.heap.size := F5.out.size
      clear h6 f6 F5
      generalize hr : w5.heap.size = r at *
      go_wp2
      go_loopw [7] (fun i wr => ∃ k : Nat, k ≤ len ∧ i = .int .i64 k ∧ IsAt r 55 (dc L (takesD L (newD L) (ps X k))) wr ∧ Below w.heap.size w wr) (fun i _ => len - (intOf i).toNat)
      case atStart => exact ⟨0, by omega, rfl, H6.out, F6.out⟩
      case round =>
        obtain ⟨k, hk, rfl, hst, hbel⟩ := hrel
        have HS : Hid (IsAt r 55 (dc L (takesD L (newD L) (ps X k))) wr) := hst
        have HB : Hid (Below w.heap.size w wr) := hbel
        clear hst H6 F6
        by_cases hlt : k < len
        · obtain ⟨h3, hsm⟩ := HX.out k hlt
          have h3' : ThreeAt wr b (off + k * 3) (X k) := ⟨by rw [hbel.cell (p := ⟨b, _, none⟩) hb]; exact h3.1, by rw [hbel.cell (p := ⟨b, _, none⟩) hb]; exact h3.2.1, by rw [hbel.cell (p := ⟨b, _, none⟩) hb]; exact h3.2.2⟩
          obtain ⟨c0, c1, c2⟩ := h3'
          have hki : (k : Int) < (len : Int) := by omega
          have HSM : Hid (Small (X k)) := hsm
          have HP : Hid (IsPart (prt (X k)).1 (prt (X k)).2.1 (prt (X k)).2.2) := prt_part (X k) hsm
          generalize hXk : X k = Y at *
          have HSK : Hid (∀ w', ThreeAt w' b (off + k * 3) Y → Calls Tryd.prog 8 #[.int .u16 (Y.1 : Int), .int .u16 (Y.2.1 : Int), .int .u16 (Y.2.2 : Int)] w' fun e w'' => e = .returned (.agg #[.int .i64 ((prt Y).1 : Int), .int .i64 ((prt Y).2.1 : Int), .int .i64 ((prt Y).2.2 : Int)]) ∧ ThreeAt w'' b (off + k * 3) Y ∧ Below w'.heap.size w' w'') := fun w' h => some_keep Y HSM.out b _ w' h
          have nb := World.new_ne wr _ c0
          clear h3 hsm hbel
          go_wp2
          go_region_held3 (fun w' => w'.cell? ⟨b, off + k * 3, none⟩ = some (.int .u16 (Y.1 : Int)) ∧ w'.cell? ⟨b, off + k * 3 + 1, none⟩ = some (.int .u16 (Y.2.1 : Int)) ∧ w'.cell? ⟨b, off + k * 3 + 2, none⟩ = some (.int .u16 (Y.2.2 : Int))) (go_keep)
            (first | (go_at_call 8; refine (HSK.out _ ⟨?_, ?_, ?_⟩).mono ?_; go_keep; go_keep; go_keep; rintro e w2 ⟨rfl, ⟨d0, d1, d2⟩, hb2⟩; have hcl := cells_of hb2; have hfl := frozen_of hb2; have nb2 := World.new_ne w2 _ d0))
          · have HPW : Hid (IsAt w2.heap.size 40 #[.int .i64 ((prt Y).1 : Int), .int .i64 ((prt Y).2.1 : Int), .int .i64 ((prt Y).2.2 : Int)] (w2.alloc (.cells #[.int .i64 ((prt Y).1 : Int), .int .i64 ((prt Y).2.1 : Int), .int .i64 ((prt Y).2.2 : Int)] 40))) := heap_alloc_new w2 _
            have HBW : Hid (Below wr.heap.size wr (w2.alloc (.cells #[.int .i64 ((prt Y).1 : Int), .int .i64 ((prt Y).2.1 : Int), .int .i64 ((prt Y).2.2 : Int)] 40))) := below_b hb2
            clear hcl hfl hb2 d0 d1 d2 nb nb2 c0 c1 c2
            generalize w2.alloc (.cells #[.int .i64 ((prt Y).1 : Int), .int .i64 ((prt Y).2.1 : Int), .int .i64 ((prt Y).2.2 : Int)] 40) = WP at *
            generalize hpb : w2.heap.size = pb at *
            have HS1 : Hid (IsAt r 55 (dc L (takesD L (newD L) (ps X k))) WP) := HS.out.below HBW.out
            have F1 : Hid (Below w.heap.size w WP) := HB.out.trans (HBW.out.mono HB.out.size)
            have p0 : WP.cell? ⟨pb, 0, none⟩ = some (.int .i64 ((prt Y).1 : Int)) := HPW.out.cell 0
            have p1 : WP.cell? ⟨pb, 1, none⟩ = some (.int .i64 ((prt Y).2.1 : Int)) := HPW.out.cell 1
            have p2 : WP.cell? ⟨pb, 2, none⟩ = some (.int .i64 ((prt Y).2.2 : Int)) := HPW.out.cell 2
            obtain ⟨b1, b2, _, b4⟩ := BK.out k (by omega)
            have b5 := b4 (by omega)
            rw [hXk] at b5
            have HPL : Hid (placeF (takesD L (newD L) (ps X k)) ((prt Y).2.2 : Int) = (placeD (takesD L (newD L) (ps X k)) (prt Y).2.2 : Int)) := by
              show _ = _
              unfold placeF
              rw [if_pos ⟨by have := HP.out.1; omega, by have := HP.out.2.1; omega⟩]
              rfl
            have OKD : Hid (takesD L (newD L) (ps X k)).Ok := b1
            clear HS HB HBW b4 b1 b2
            go_wp2_with (fail)
            refine (place_at r L _ ((prt Y).2.2 : Int) WP HS1.out OKD.out).mono ?_
            rintro e w3 ⟨rfl, n3, rfl⟩
            rw [HPL.out]
            generalize placeD (takesD L (newD L) (ps X k)) (prt Y).2.2 = PL at *
            have nn1 : ¬ PL < (prt Y).1 := by omega
            have nn2 : ¬ (prt Y).2.1 ≤ PL := by omega
            have nn3 : decide (PL < (prt Y).1) = false := decide_eq_false nn1
            have nn4 : decide (PL ≥ (prt Y).2.1) = false := decide_eq_false nn2
            have nn5 : decide ((prt Y).2.1 ≤ PL) = false := decide_eq_false nn2
            have hd1 : decide ((PL : Int) < ((prt Y).1 : Int)) = false := decide_eq_false (by omega)
            have hd2 : decide ((PL : Int) ≥ ((prt Y).2.1 : Int)) = false := decide_eq_false (by omega)
            have HPW3 : Hid (IsAt pb 40 #[.int .i64 ((prt Y).1 : Int), .int .i64 ((prt Y).2.1 : Int), .int .i64 ((prt Y).2.2 : Int)] (WP.drewN n3)) := HPW.out.drewN n3
            have HS3 : Hid (IsAt r 55 (dc L (takesD L (newD L) (ps X k))) (WP.drewN n3)) := HS1.out.drewN n3
            have F3 : Hid (Below w.heap.size w (WP.drewN n3)) := below_drewN F1.out n3
            generalize WP.drewN n3 = WQ at *
            have q0 : WQ.cell? ⟨pb, 0, none⟩ = some (.int .i64 ((prt Y).1 : Int)) := HPW3.out.cell 0
            have q1 : WQ.cell? ⟨pb, 1, none⟩ = some (.int .i64 ((prt Y).2.1 : Int)) := HPW3.out.cell 1
            have q2 : WQ.cell? ⟨pb, 2, none⟩ = some (.int .i64 ((prt Y).2.2 : Int)) := HPW3.out.cell 2
            clear p0 p1 p2 HS1 F1 HPW b5
            go_wp2_with (fail)
            refine (take_at r L _ _ _ _ WQ HS3.out OKD.out HP.out HLL.out).mono ?_
            rintro e w4 ⟨rfl, h4, g4⟩
            have H4 : Hid (IsAt r 55 (dc L (takesD L (newD L) (ps X (k + 1)))) w4) := by
              show IsAt _ _ _ _
              rw [ps_succ, hXk, show takesD L (newD L) (ps X k ++ [prt Y]) = takeD L (takesD L (newD L) (ps X k)) (prt Y).1 (prt Y).2.1 (prt Y).2.2 by simp [takesD, List.foldl_append]]
              exact h4
            have F4 : Hid (Below w.heap.size w w4) := F3.out.trans (g4.below hrw F3.out.size)
            clear h4 g4 HS3 F3 HPW3 q0 q1 q2 OKD HPL
            go_wp2
            exact ⟨⟨k + 1, by omega, by go_num, H4.out, F4.out⟩, by simp [intOf]; omega⟩
          · have HPW : Hid (IsAt wr.heap.size 40 #[.int .i64 ((prt Y).1 : Int), .int .i64 ((prt Y).2.1 : Int), .int .i64 ((prt Y).2.2 : Int)] (((w2.setCell ⟨wr.heap.size, 0, none⟩ (.int .i64 ((prt Y).1 : Int))).setCell ⟨wr.heap.size, 1, none⟩ (.int .i64 ((prt Y).2.1 : Int))).setCell ⟨wr.heap.size, 2, none⟩ (.int .i64 ((prt Y).2.2 : Int)))) := by
              have h0 : IsAt wr.heap.size 40 #[.int .i64 0, .int .i64 0, .int .i64 0] (wr.alloc (.cells #[.int .i64 0, .int .i64 0, .int .i64 0] 40)).drew := heap_alloc_new wr _
              exact (((h0.below hb2).set 0 _).set 1 _).set 2 _
            have HBW : Hid (Below wr.heap.size wr (((w2.setCell ⟨wr.heap.size, 0, none⟩ (.int .i64 ((prt Y).1 : Int))).setCell ⟨wr.heap.size, 1, none⟩ (.int .i64 ((prt Y).2.1 : Int))).setCell ⟨wr.heap.size, 2, none⟩ (.int .i64 ((prt Y).2.2 : Int)))) :=
              below_set (below_set (below_set (below_a hb2) (Nat.le_refl _) _ _) (Nat.le_refl _) _ _) (Nat.le_refl _) _ _
            clear hcl hfl hb2 d0 d1 d2 nb nb2 c0 c1 c2
            generalize (((w2.setCell ⟨wr.heap.size, 0, none⟩ (.int .i64 ((prt Y).1 : Int))).setCell ⟨wr.heap.size, 1, none⟩ (.int .i64 ((prt Y).2.1 : Int))).setCell ⟨wr.heap.size, 2, none⟩ (.int .i64 ((prt Y).2.2 : Int))) = WP at *
            obtain ⟨pb, hpb⟩ : ∃ pb, wr.heap.size = pb := ⟨_, rfl⟩; rw [hpb] at HPW ⊢
            have HS1 : Hid (IsAt r 55 (dc L (takesD L (newD L) (ps X k))) WP) := HS.out.below HBW.out
            have F1 : Hid (Below w.heap.size w WP) := HB.out.trans (HBW.out.mono HB.out.size)
            have p0 : WP.cell? ⟨pb, 0, none⟩ = some (.int .i64 ((prt Y).1 : Int)) := HPW.out.cell 0
            have p1 : WP.cell? ⟨pb, 1, none⟩ = some (.int .i64 ((prt Y).2.1 : Int)) := HPW.out.cell 1
            have p2 : WP.cell? ⟨pb, 2, none⟩ = some (.int .i64 ((prt Y).2.2 : Int)) := HPW.out.cell 2
            obtain ⟨b1, b2, _, b4⟩ := BK.out k (by omega)
            have b5 := b4 (by omega)
            rw [hXk] at b5
            have HPL : Hid (placeF (takesD L (newD L) (ps X k)) ((prt Y).2.2 : Int) = (placeD (takesD L (newD L) (ps X k)) (prt Y).2.2 : Int)) := by
              show _ = _
              unfold placeF
              rw [if_pos ⟨by have := HP.out.1; omega, by have := HP.out.2.1; omega⟩]
              rfl
            have OKD : Hid (takesD L (newD L) (ps X k)).Ok := b1
            clear HS HB HBW b4 b1 b2
            go_wp2_with (fail)
            refine (place_at r L _ ((prt Y).2.2 : Int) WP HS1.out OKD.out).mono ?_
            rintro e w3 ⟨rfl, n3, rfl⟩
            rw [HPL.out]
            generalize placeD (takesD L (newD L) (ps X k)) (prt Y).2.2 = PL at *
            have nn1 : ¬ PL < (prt Y).1 := by omega
            have nn2 : ¬ (prt Y).2.1 ≤ PL := by omega
            have nn3 : decide (PL < (prt Y).1) = false := decide_eq_false nn1
            have nn4 : decide (PL ≥ (prt Y).2.1) = false := decide_eq_false nn2
            have nn5 : decide ((prt Y).2.1 ≤ PL) = false := decide_eq_false nn2
            have hd1 : decide ((PL : Int) < ((prt Y).1 : Int)) = false := decide_eq_false (by omega)
            have hd2 : decide ((PL : Int) ≥ ((prt Y).2.1 : Int)) = false := decide_eq_false (by omega)
            have HPW3 : Hid (IsAt pb 40 #[.int .i64 ((prt Y).1 : Int), .int .i64 ((prt Y).2.1 : Int), .int .i64 ((prt Y).2.2 : Int)] (WP.drewN n3)) := HPW.out.drewN n3
            have HS3 : Hid (IsAt r 55 (dc L (takesD L (newD L) (ps X k))) (WP.drewN n3)) := HS1.out.drewN n3
            have F3 : Hid (Below w.heap.size w (WP.drewN n3)) := below_drewN F1.out n3
            generalize WP.drewN n3 = WQ at *
            have q0 : WQ.cell? ⟨pb, 0, none⟩ = some (.int .i64 ((prt Y).1 : Int)) := HPW3.out.cell 0
            have q1 : WQ.cell? ⟨pb, 1, none⟩ = some (.int .i64 ((prt Y).2.1 : Int)) := HPW3.out.cell 1
            have q2 : WQ.cell? ⟨pb, 2, none⟩ = some (.int .i64 ((prt Y).2.2 : Int)) := HPW3.out.cell 2
            clear p0 p1 p2 HS1 F1 HPW b5
            go_wp2_with (fail)
            refine (take_at r L _ _ _ _ WQ HS3.out OKD.out HP.out HLL.out).mono ?_
            rintro e w4 ⟨rfl, h4, g4⟩
            have H4 : Hid (IsAt r 55 (dc L (takesD L (newD L) (ps X (k + 1)))) w4) := by
              show IsAt _ _ _ _
              rw [ps_succ, hXk, show takesD L (newD L) (ps X k ++ [prt Y]) = takeD L (takesD L (newD L) (ps X k)) (prt Y).1 (prt Y).2.1 (prt Y).2.2 by simp [takesD, List.foldl_append]]
              exact h4
            have F4 : Hid (Below w.heap.size w w4) := F3.out.trans (g4.below hrw F3.out.size)
            clear h4 g4 HS3 F3 HPW3 q0 q1 q2 OKD HPL
            go_wp2
            exact ⟨⟨k + 1, by omega, by go_num, H4.out, F4.out⟩, by simp [intOf]; omega⟩
        · obtain rfl : k = len := by omega
          clear hbel
          go_wp2_with (go_at_call 7; refine (awake_any _).mono ?_; rintro e w9 ⟨rfl, hb9⟩)
          go_ret
          exact ⟨rfl, HB.out.trans (hb9.mono HB.out.size)⟩
theorem walk0 (w : World) (a : Option Addr) (cap : Nat) : Calls Tryd.prog 5 #[.slice a 0 cap] w fun e w' => e = .returned (.bool true) ∧ Below w.heap.size w w' := by
  have HC0 : Hid (CoAt w.heap.size w.heap.size zeroC (w.alloc (.cells #[.int .i64 0, .int .i64 0, .pointer none, .int .i64 0, .bool false, .int .u8 0, .int .i64 0] 34))) := co_new w w.heap.size (Nat.le_refl _)
  have HB0 : Hid (Below w.heap.size w (w.alloc (.cells #[.int .i64 0, .int .i64 0, .pointer none, .int .i64 0, .bool false, .int .u8 0, .int .i64 0] 34))) := (Below.refl _ w).alloc (Nat.le_refl _) _
  go_enter Tryd.func5, Tryd.ntmps5
  go_wp2
  generalize w.alloc (.cells #[.int .i64 0, .int .i64 0, .pointer none, .int .i64 0, .bool false, .int .u8 0, .int .i64 0] 34) = W at *
  go_loopw [4] (fun i wr => i = .int .i64 0 ∧ wr = W) (fun i _ => 0)
  case atStart => exact ⟨rfl, rfl⟩
  case round =>
    obtain ⟨rfl, hwr⟩ := hrel
    have HS : Hid (CoAt w.heap.size w.heap.size zeroC wr) := by show CoAt _ _ _ _; rw [hwr]; exact HC0.out
    have HB : Hid (Below w.heap.size w wr) := by show Below _ _ _; rw [hwr]; exact HB0.out
    clear hwr HC0 HB0
    go_wp2_with (fail)
    refine (end_at w.heap.size w.heap.size zeroC wr HS.out zero_ok.low HB.out.size (by decide)).mono ?_
    rintro e w5 ⟨rfl, h5, f5⟩
    have F5 : Hid (Below w.heap.size w w5) := HB.out.trans f5.below
    clear h5 f5 HS HB
    rw [end_zero]
    go_wp2_with (fail)
    refine (new_any [] w5 (by decide)).mono ?_
    rintro e w6 ⟨rfl, h6, f6⟩
    have F6 : Hid (Below w.heap.size w w6) := F5.out.trans (f6.mono F5.out.size)
    clear h6 f6 F5
    go_wp2
    go_loopw [7] (fun i wr => i = .int .i64 0 ∧ wr = w6) (fun i _ => 0)
    case atStart => exact ⟨rfl, rfl⟩
    case round =>
      obtain ⟨rfl, hwr⟩ := hrel
      have HB : Hid (Below w.heap.size w wr) := by show Below _ _ _; rw [hwr]; exact F6.out
      clear hwr F6
      go_wp2_with (go_at_call 7; refine (awake_any _).mono ?_; rintro e w9 ⟨rfl, hb9⟩)
      go_ret
      exact ⟨rfl, HB.out.trans (hb9.mono HB.out.size)⟩
theorem walk (w : World) (a : Option Addr) (len cap : Nat) (X : Nat → Nat × Nat × Nat) (h : IsThrees w a len cap X) :
    Calls Tryd.prog 5 #[.slice a len cap] w fun e w' => e = .returned (.bool true) ∧ Below w.heap.size w w' := by
  obtain ⟨hl, h⟩ := h
  by_cases hbig : 60 < len
  · exact walk60 w a len cap hl hbig
  rcases h with rfl | ⟨b, off, rfl, hb, hlc, hc, hx⟩
  · exact walk0 w a cap
  · exact walkN w b off len cap X hb hc hlc (by omega) hx

set_option maxRecDepth 100000 in
theorem lifted (os : Os) (started : os.Started) (H : Type) (enc : TypeId × Value → H) :
    ReturnsInHanded {} Tryd.checked os 5 .any (fun w args => (Rows.rcBackSpec.pre enc Tryd.prog Tryd.f5 [] false w args ∧ laidMetH Tryd.prog Rows.rcBackRow.laid w) ∧ sizedMet enc Tryd.prog Tryd.f5 (OpenSpec.ofChange Rows.rcBackSpec) false w args)
      (Rows.rcBackSpec.post enc Tryd.prog Tryd.f5 false true false false) := by
  refine returnsInHanded_of_change_and (C := Tryd.checked) (X := fun w _ => laidMetH Tryd.prog Rows.rcBackRow.laid w) (fun _ _ _ hh h => h.of_heap hh) own started (by kernel_rfl) Tryd.func5
    (ChangeSpec.witness_shaped (enc := enc) (C := Tryd.checked) (os := os) (X := fun w _ => laidMetH Tryd.prog Rows.rcBackRow.laid w) false (World.laidAll Tryd.prog os Rows.rcBackRow.laid) #[.slice none 0 0] 8 (World.laidAll_os _ _ _)
      (World.shaped_of_ZipB (by kernel_rfl) (by kernel_rfl)) (by kernel_rfl) (by kernel_rfl) (by kernel_rfl)
      (by rw [MakeChecks.laidMetH_plain _ _ _ (by kernel_rfl)]; exact laidMet_laidAll _ (by kernel_rfl) (by kernel_rfl))) ?_
  intro W base args ds gs before hval0 hW _ _ hL _
  have hval : ∀ (j : Nat) t v, Tryd.f5.params[j]? = some t → args[j]? = some v → Value.okWide Tryd.prog W .any base t v := hval0
  have hW' := hW
  obtain ⟨p, q, hA0, hV, rfl, hfz, hnd⟩ := hW
  have hA : DataW.TrodAll enc Tryd.prog W 0 (fun _ => true) true Tryd.f5.params.toList args.toList ds p := hA0
  rw [Tryd.params5] at hA hval
  obtain ⟨v0, vs0, d0, ds0, p0, q0, hargs, rfl, rfl, h0, r0⟩ := trodAll_cons hA
  obtain ⟨rfl, rfl, rfl⟩ := trodAll_nil r0
  obtain rfl : args = #[v0] := by cases args; simp_all
  obtain ⟨rfl, rfl⟩ := trodVars_none hV
  obtain ⟨a0, len0, cap0, rfl⟩ := okWide_slice Tryd.underlying22 (hval 0 22 v0 rfl rfl)
  have k0 := h0
  have lt0 : ∀ x ∈ p0, x.block < W.heap.size := by obtain ⟨m, hm⟩ := k0; exact DataW.trod_lt m _ _ _ hm
  obtain ⟨x0, w0⟩ : ∃ X : Nat → Nat × Nat × Nat, IsThrees W a0 len0 cap0 X := by
    obtain ⟨fuel, hf⟩ := h0
    exact open_arr3 Tryd.underlying22 Tryd.underlying43 Tryd.underlying42 (by kernel_rfl) (by kernel_rfl) hf
  clear hA0 hval0
  refine (walk W a0 len0 cap0 x0 w0).mono fun e W' ⟨he, bel⟩ => ?_
  subst he
  exact ⟨_, rfl, _, _, _, [], _, [], hW', trodAll_mk1 (shut_bool Tryd.underlying4 _), (trodAll_cons_mk (Below.trod laidOut (by kernel_rfl) (of_decide_eq_true (by kernel_rfl)) k0 bel lt0) trodAll_mk0), rfl, bel.frame _, fun h => by cases h⟩

theorem over : Rows.rcBackRow.holds Tryd.pinned (OpenSpec.ofChange Rows.rcBackSpec) :=
  OpenClaim.holds_of_wide 5 Tryd.f5 rfl rfl rfl rfl rfl rfl rfl ⟨rfl, rfl, rfl, rfl, rfl⟩ rfl rfl rfl rfl rfl (by kernel_rfl) Tryd.func5 (by kernel_rfl)
    (of_decide_eq_true (by kernel_rfl)) (by unfold Func.isWrapper; first | (rw [if_pos (by decide +kernel)]; kernel_rfl) | (rw [if_neg (by decide +kernel)]; exact ⟨rfl, rfl⟩))
    (fun os started H enc _ => lifted os started H enc)

theorem plain (f : FuncId) (fn : Func) (hf : Tryd.pinned.checked.prog.funcNamed "splicer/splicerlaw04.RcBack" = some f) (hfn : Tryd.pinned.checked.prog.funcs[f]? = some fn) :
    false = Tryd.pinned.checked.prog.looks [] ∧ ∀ (j : Nat) t, fn.params[j]? = some t → Tryd.pinned.checked.prog.wantsStandIn t = false := by
  obtain rfl : f = 5 := Option.some.inj ((show Tryd.prog.funcNamed "splicer/splicerlaw04.RcBack" = some 5 by kernel_rfl).symm.trans hf) |>.symm
  obtain rfl : fn = Tryd.f5 := (Option.some.inj (Tryd.func5.symm.trans hfn)).symm
  refine ⟨by kernel_rfl, fun j t ht => ?_⟩
  rw [Tryd.params5] at ht
  have hm : t ∈ [22] := by simpa using Array.mem_of_getElem? ht
  have hall : ([22].all fun u => !Tryd.prog.wantsStandIn u) = true := by kernel_rfl
  exact (show Tryd.prog.wantsStandIn t = false by simpa using List.all_eq_true.1 hall t hm)

/-- The statement. -/
theorem proved : Rows.RcBackCardSaid :=
  Claim7.holds_tied_plain_at .later [] _ _ _ _ over (fun _ h => by cases h) (by kernel_rfl) (fun _ h => by cases h) rcBack_row_tie rfl ⟨rfl, rfl⟩ (by kernel_rfl) rfl plain (by kernel_rfl)
#print axioms proved
end Go.Proofs.YtkdmgeefeojdoaaDoor.rcBack
