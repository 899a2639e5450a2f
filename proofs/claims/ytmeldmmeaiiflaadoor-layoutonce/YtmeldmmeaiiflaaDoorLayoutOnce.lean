/-
  Proved: each place from 0 to 63 is in one band, the bands stand one behind the other, and any 64 numbers that are cut are joined again to what they were (of other lists nothing is cut). Conditions: none beside the row's own (the bands' widths read as the program's text lays them; the card ties it to the pruned copy).
-/
import Derived.Test.YtmeldmmeaiiflaaDoorCards
import Derived.Test.YtmeldmmeaiiflaaDoorTie
import Derived.Test.YtmeldmmeaiiflaaDoorLYX
import Derived.WalkKit
import Derived.ProofKit
import Derived.OpenShut
import Derived.ShutString
import Derived.ChangeOld
import Derived.Below
import Derived.Lay
import Derived.LaidOnce
import Derived.SevenTiedAt
namespace Go.Proofs.YtmeldmmeaiiflaaDoor.layoutOnce
open Go.ChangeShapes Go.WideShapes Go.ChangeAt Go.RowKit
open Go.ChangeMaps (open_string shut_string)
set_option linter.unusedVariables false

theorem own : ownKnob Tryd.prog.godebug = none := by kernel_rfl
theorem laidOut : laidOutB Tryd.prog = true := by kernel_rfl

theorem join_cut (X : Nat → Int) {i : Nat} (hi : i < 64) : joinF (cutF X) i = X i := by
  obtain ⟨b, hb, h1, h2⟩ := of_some (k := (i : Int)) (by omega) (by omega)
  obtain ⟨j, rfl⟩ : ∃ j, i = begN b + j := ⟨i - begN b, by omega⟩
  exact joinF_at (cutF X) hb (by omega)
theorem ints_lt {w : World} {a : Option Addr} {n c : Nat} {X : Nat → Int} (h : IsInts w a n c X) (h1 : 1 ≤ n) : ∀ x, a = some x → x.block < w.heap.size := by
  rcases h with h | ⟨b, off, e, h2, _⟩
  · omega
  · intro x hx
    rw [e] at hx; cases hx; exact h2
theorem walk (w : World) (hw : WTab w) (a : Option Addr) (len cap : Nat) (X : Nat → Int) (hx : len ≤ maxLen ∧ IsInts w a len cap X) (k : Int) (wk : (Lit.int .u8 k).wf = true) :
    Calls Tryd.prog 4 #[.slice a len cap, .int .u8 k] w fun e w' => e = .returned (.bool true) ∧ Below w.heap.size w w' := by
  have hk : 0 ≤ k ∧ k ≤ 255 := by simpa [Lit.wf, IntKind.min, IntKind.max, IntKind.signed, IntKind.bits] using wk
  have k0 := lyawake_to hw
  have k1 := width_to hw
  have k2 := start_to hw
  have k3 := of_to hw
  have HB0 := hid (Below.refl w.heap.size w)
  have HW := hid hw
  have HX := hid hx
  clear hw hx
  go_enter Tryd.func4, Tryd.ntmps4
  go_wp2_with (fail)
  obtain ⟨p, hp⟩ : ∃ p : Int, k % 64 = p := ⟨_, rfl⟩
  have hp1 : 0 ≤ p ∧ p ≤ 63 := by omega
  rw [hp]
  obtain ⟨b, hb, hb1, hb2⟩ := of_some hp1.1 hp1.2
  have he := of_in hb hb1 hb2
  have hbeg := begF_nat hb
  have hwid := widF_nat hb
  have h64 := begN_in hb
  refine Calls.mono (k3.out p w HB0.out) ?_
  rintro e w1 ⟨rfl, b1⟩
  rw [he]
  have B1 := hid b1
  have z1 : (b : Int) ≤ 12 := by omega
  have hd1 : decide ((b : Int) < 0) = false := decide_eq_false (by omega)
  have hd2 : decide ((b : Int) > 12) = false := decide_eq_false (by omega)
  have K2 := hid (fun W hW => k2.out (b : Int) W hW)
  have K1 := hid (fun W hW => k1.out (b : Int) W hW)
  rw [hbeg] at K2
  rw [hwid] at K1
  obtain ⟨y, hy⟩ : ∃ y, begN b = y := ⟨_, rfl⟩
  obtain ⟨v, hv⟩ : ∃ v, widN b = v := ⟨_, rfl⟩
  rw [hy] at K2 hb1 hb2 h64
  rw [hv] at K1 hb2 h64
  have hd3 : decide (p < (y : Int)) = false := decide_eq_false (by omega)
  obtain ⟨z, hz⟩ : ∃ z, z = y + v := ⟨_, rfl⟩
  have hs : (y : Int) + (v : Int) = (z : Int) := by omega
  have hz64 : z ≤ 64 := by omega
  have hd4 : decide ((z : Int) ≤ p) = false := decide_eq_false (by omega)
  have hd5 : p < (z : Int) := by omega
  clear hz
  clear b1 he hbeg hwid hp hb1 hy hv k3 HB0 hk wk
  go_wp2_with (fail)
  refine Calls.mono (K2.out _ B1.out) ?_
  rintro e w2 ⟨rfl, b2⟩
  have B2 := hid b2
  clear b2 B1
  go_wp2_with (fail)
  refine Calls.mono (K2.out _ B2.out) ?_
  rintro e w3 ⟨rfl, b3⟩
  have B3 := hid b3
  clear b3 B2
  go_wp2_with (fail)
  refine Calls.mono (K1.out _ B3.out) ?_
  rintro e w4 ⟨rfl, b4⟩
  have B4 := hid b4
  clear b4 B3 K1 K2 hd1 hd2 hd3 z1 hb2 h64
  go_wp2
  go_loopw [7, 8] (fun at_ i wr => ∃ k : Nat, k ≤ 13 ∧ i = .int .i64 k ∧ at_ = .int .i64 ((begN k : Nat) : Int) ∧ Hid (Below w.heap.size w wr)) (fun _ i _ => 13 - (intOf i).toNat)
  case atStart => exact ⟨0, Nat.zero_le _, rfl, rfl, B4.out⟩
  case round =>
    clear B4 hb
    obtain ⟨k, hk, rfl, rfl, HI⟩ := hrel
    by_cases hlt : k < 13
    · have K2 := hid (fun W hW => k2.out (k : Int) W hW)
      have K1 := hid (fun W hW => k1.out (k : Int) W hW)
      rw [begF_nat hlt] at K2
      rw [widF_nat hlt] at K1
      have hnx := begN_next hlt
      have h64 := begN_in hlt
      have hwd := widN_in k
      obtain ⟨z, hz⟩ : ∃ z, begN (k + 1) = z := ⟨_, rfl⟩
      have HZ := hid hz
      rw [hz] at hnx
      generalize begN k = y at *
      generalize widN k = v at *
      have hd1 : ((y : Int) != (y : Int)) = false := by simp
      have hd2 : decide ((v : Int) < 2) = false := decide_eq_false (by omega)
      have hs : (y : Int) + (v : Int) = (z : Int) := by omega
      clear hz hnx
      go_wp2_with (fail)
      refine Calls.mono (K2.out _ HI.out) ?_
      rintro e w5 ⟨rfl, b5⟩
      have B5 := hid b5
      clear b5 HI K2
      go_wp2_with (fail)
      refine Calls.mono (K1.out _ B5.out) ?_
      rintro e w6 ⟨rfl, b6⟩
      have B6 := hid b6
      clear b6 B5
      go_wp2_with (fail)
      refine Calls.mono (K1.out _ B6.out) ?_
      rintro e w7 ⟨rfl, b7⟩
      have B7 := hid b7
      clear b7 B6 K1
      go_wp2
      exact ⟨⟨k + 1, by omega, by go_num, by rw [HZ.out], B7.out⟩, by simp [intOf]; omega⟩
    · obtain rfl : k = 13 := by omega
      rw [begN_all]
      by_cases hl : len = 64
      · subst hl
        go_wp2_with (fail)
        refine Calls.mono (cut_yes a cap X _ (HW.out.frame HI.out HW.out.lt) (HX.out.2.frame HI.out (ints_lt HX.out.2 (by omega)) HI.out.size)) ?_
        rintro e w8 ⟨a8, c8, rfl, h8, b8⟩
        have B8 := hid (below_then HI.out b8)
        have H8 := hid h8
        clear h8 b8 HI
        go_wp2_with (fail)
        refine Calls.mono (join_any a8 c8 widN (cutF X) (fun i _ => by have := widN_in i; omega) w8 (HW.out.frame B8.out HW.out.lt) H8.out) ?_
        rintro e w9 ⟨(⟨_, a9, c9, rfl, h9⟩ | ⟨⟨i, _, hne⟩, _⟩), b9⟩
        · have B9 := hid (below_then B8.out b9)
          have K9 := hid (same_yes a9 a 64 c9 cap X (by omega) w9 (h9.congr (fun i hi => join_cut X hi)) (HX.out.2.frame B9.out (ints_lt HX.out.2 (by omega)) B9.out.size))
          clear h9 b9 B8 H8
          go_wp2_with (fail)
          refine Calls.mono K9.out ?_
          rintro e v1 ⟨rfl, b1⟩
          have D1 := hid (below_then B9.out b1)
          clear b1 K9 B9
          go_wp2_with (fail)
          refine Calls.mono (k0.out _ D1.out) ?_
          rintro e v2 ⟨rfl, b2⟩
          go_wp2
          go_ret
          exact ⟨rfl, b2⟩
        · exact (hne rfl).elim
      · have h1 : ((len : Int) != 64) = true := by
          have : ((len : Int) == 64) = false := by simp; omega
          rw [bne, this]; rfl
        have hmx := HX.out.1
        unfold maxLen at hmx
        go_wp2_with (fail)
        refine Calls.mono (cut_no a len cap HX.out.1 hl _) ?_
        rintro e w8 ⟨rfl, b8⟩
        have B8 := hid (below_then HI.out b8)
        clear b8 HI
        go_wp2_with (fail)
        refine Calls.mono (k0.out _ B8.out) ?_
        rintro e w9 ⟨rfl, b9⟩
        go_wp2
        go_ret
        exact ⟨rfl, b9⟩

set_option maxRecDepth 100000 in
theorem lifted (os : Os) (started : os.Started) (H : Type) (enc : TypeId × Value → H) :
    ReturnsInHanded {} Tryd.checked os 4 .any (fun w args => (Rows.layoutOnceSpec.pre enc Tryd.prog Tryd.f4 [] false w args ∧ laidMetH Tryd.prog Rows.layoutOnceRow.laid w) ∧ sizedMet enc Tryd.prog Tryd.f4 (OpenSpec.ofChange Rows.layoutOnceSpec) false w args)
      (Rows.layoutOnceSpec.post enc Tryd.prog Tryd.f4 false true false false) := by
  refine returnsInHanded_of_change_and (C := Tryd.checked) (X := fun w _ => laidMetH Tryd.prog Rows.layoutOnceRow.laid w) (fun _ _ _ hh h => h.of_heap hh) own started (by kernel_rfl) Tryd.func4
    (ChangeSpec.witness_shaped (enc := enc) (C := Tryd.checked) (os := os) (X := fun w _ => laidMetH Tryd.prog Rows.layoutOnceRow.laid w) false (World.laidAll Tryd.prog os Rows.layoutOnceRow.laid) #[.slice none 0 0, .int .u8 0] 8 (World.laidAll_os _ _ _)
      (World.shaped_of_ZipB (by kernel_rfl) (by kernel_rfl)) (by kernel_rfl) (by kernel_rfl) (by kernel_rfl)
      (by rw [MakeChecks.laidMetH_plain _ _ _ (by kernel_rfl)]; exact laidMet_laidAll _ (by kernel_rfl) (by kernel_rfl))) ?_
  intro W base args ds gs before hval0 hW _ _ hL _
  have hval : ∀ (j : Nat) t v, Tryd.f4.params[j]? = some t → args[j]? = some v → Value.okWide Tryd.prog W .any base t v := hval0
  have hW' := hW
  obtain ⟨p, q, hA0, hV, rfl, hfz, hnd⟩ := hW
  have hA : DataW.TrodAll enc Tryd.prog W 0 (fun _ => true) true Tryd.f4.params.toList args.toList ds p := hA0
  rw [Tryd.params4] at hA hval
  obtain ⟨v0, vs0, d0, ds0, p0, q0, hargs, rfl, rfl, h0, r0⟩ := trodAll_cons hA
  obtain ⟨v1, vs1, d1, ds1, p1, q1, rfl, rfl, rfl, h1, r1⟩ := trodAll_cons r0
  obtain ⟨rfl, rfl, rfl⟩ := trodAll_nil r1
  obtain rfl : args = #[v0, v1] := by cases args; simp_all
  obtain ⟨rfl, rfl⟩ := trodVars_none hV
  obtain ⟨a0, len0, cap0, rfl⟩ := okWide_slice Tryd.underlying22 (hval 0 22 v0 rfl rfl)
  have k0 := h0
  have lt0 : ∀ x ∈ p0, x.block < W.heap.size := by obtain ⟨m, hm⟩ := k0; exact DataW.trod_lt m _ _ _ hm
  obtain ⟨x0, w0⟩ : ∃ X : Nat → Int, len0 ≤ maxLen ∧ IsInts W a0 len0 cap0 X := by
    obtain ⟨fuel, hf⟩ := h0
    exact open_isints Tryd.underlying22 Tryd.underlying3 (by kernel_rfl) hf
  obtain ⟨a1, rfl, rfl, rfl, w1⟩ := open_int Tryd.underlying5 (hval 1 5 v1 rfl rfl) h1
  clear hA0 hval0
  refine (walk W (wtab_of_laid (by kernel_rfl) hL (by simp [Rows.layoutOnceRow])) a0 len0 cap0 x0 w0 a1 w1).mono fun e W' ⟨he, bel⟩ => ?_
  subst he
  exact ⟨_, rfl, _, _, _, [], _, [], hW', trodAll_mk1 (shut_bool Tryd.underlying4 _), (trodAll_cons_mk (Below.trod laidOut (by kernel_rfl) (of_decide_eq_true (by kernel_rfl)) k0 bel lt0) (trodAll_cons_mk (shut_int Tryd.underlying5 w1) trodAll_mk0)), rfl, bel.frame _, fun h => by cases h⟩

theorem over : Rows.layoutOnceRow.holds Tryd.pinned (OpenSpec.ofChange Rows.layoutOnceSpec) :=
  OpenClaim.holds_of_wide 4 Tryd.f4 rfl rfl rfl rfl rfl rfl rfl ⟨rfl, rfl, rfl, rfl, rfl⟩ rfl rfl rfl rfl rfl (by kernel_rfl) Tryd.func4 (by kernel_rfl)
    (of_decide_eq_true (by kernel_rfl)) (by unfold Func.isWrapper; first | (rw [if_pos (by decide +kernel)]; kernel_rfl) | (rw [if_neg (by decide +kernel)]; exact ⟨rfl, rfl⟩))
    (fun os started H enc _ => lifted os started H enc)

theorem plain (f : FuncId) (fn : Func) (hf : Tryd.pinned.checked.prog.funcNamed "splicer/splicerlaw13.LayoutOnce" = some f) (hfn : Tryd.pinned.checked.prog.funcs[f]? = some fn) :
    false = Tryd.pinned.checked.prog.looks [] ∧ ∀ (j : Nat) t, fn.params[j]? = some t → Tryd.pinned.checked.prog.wantsStandIn t = false := by
  obtain rfl : f = 4 := Option.some.inj ((show Tryd.prog.funcNamed "splicer/splicerlaw13.LayoutOnce" = some 4 by kernel_rfl).symm.trans hf) |>.symm
  obtain rfl : fn = Tryd.f4 := (Option.some.inj (Tryd.func4.symm.trans hfn)).symm
  refine ⟨by kernel_rfl, fun j t ht => ?_⟩
  rw [Tryd.params4] at ht
  have hm : t ∈ [22, 5] := by simpa using Array.mem_of_getElem? ht
  have hall : ([22, 5].all fun u => !Tryd.prog.wantsStandIn u) = true := by kernel_rfl
  exact (show Tryd.prog.wantsStandIn t = false by simpa using List.all_eq_true.1 hall t hm)

/-- The statement. -/
theorem proved : Rows.LayoutOnceCardSaid :=
  Claim7.holds_tied_plain_at .later [] _ _ _ _ over (fun _ h => by cases h) (by kernel_rfl) (fun _ h => by cases h) layoutOnce_row_tie rfl ⟨rfl, rfl⟩ (by kernel_rfl) rfl plain (by kernel_rfl)
#print axioms proved
end Go.Proofs.YtmeldmmeaiiflaaDoor.layoutOnce
