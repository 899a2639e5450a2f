/-
  Proved: for any list of ints and any Coarse and Fine, the coefficients, and for any list how loud it is and which Coarse and Fine that is, are the document's, or that there are none (lists longer than 12, or 70: the law answers by the chapter's example alone). Conditions: none beside the row's own (level's four steps read as the program's text lays them; the card ties it to the pruned copy).
-/
import Derived.Test.YtlfhjcalkokhiaaDoorCards
import Derived.Test.YtlfhjcalkokhiaaDoorTie
import Derived.Test.YtlfhjcalkokhiaaDoorSHJ
import Derived.WalkKit
import Derived.ProofKit
import Derived.OpenShut
import Derived.ShutString
import Derived.ChangeOld
import Derived.Below
import Derived.Lay
import Derived.LaidOnce
import Derived.SevenTiedAt
namespace Go.Proofs.YtlfhjcalkokhiaaDoor.shapeTells
open Go.ChangeShapes Go.WideShapes Go.ChangeAt Go.RowKit
open Go.ChangeMaps (open_string shut_string)
set_option linter.unusedVariables false

theorem own : ownKnob Tryd.prog.godebug = none := by kernel_rfl
theorem laidOut : laidOutB Tryd.prog = true := by kernel_rfl

theorem walkBig (w : World) (ht : ShTab w) (c f : Int) (a : Option Addr) (len cap : Nat) (a' : Option Addr) (len' cap' : Nat) (ml : len ≤ maxLen) (ml' : len' ≤ maxLen) (h : 12 < len ∨ len ≤ 12 ∧ 70 < len') :
    Calls Tryd.prog 3 #[.slice a len cap, .int .i64 c, .int .i64 f, .slice a' len' cap'] w fun e w' => e = .returned (.bool true) ∧ Below w.heap.size w w' := by
  unfold maxLen at ml ml'
  have k0 := hid (shawake_any w ht)
  clear ht
  rcases h with h | ⟨h, h'⟩
  · have hi : decide ((len : Int) > 12) = true := decide_eq_true (by omega)
    clear h
    go_enter Tryd.func3, Tryd.ntmps3
    go_wp2_with (fail)
    refine Calls.mono k0.out ?_
    rintro e w1 ⟨rfl, b1⟩
    go_wp2
    go_ret
    exact ⟨rfl, b1⟩
  · have hi : decide ((len : Int) > 12) = false := decide_eq_false (by omega)
    have hj : decide ((len' : Int) > 70) = true := decide_eq_true (by omega)
    clear h h'
    go_enter Tryd.func3, Tryd.ntmps3
    go_wp2_with (fail)
    refine Calls.mono k0.out ?_
    rintro e w1 ⟨rfl, b1⟩
    go_wp2
    go_ret
    exact ⟨rfl, b1⟩
set_option maxRecDepth 100000 in
theorem walk (w : World) (ht : ShTab w) (a : Option Addr) (len cap : Nat) (X : Nat → Int) (hx : len ≤ maxLen ∧ IsInts w a len cap X) (c : Int) (wc : (Lit.int .i64 c).wf = true) (f : Int) (wf : (Lit.int .i64 f).wf = true) (a' : Option Addr) (len' cap' : Nat) (Y : Nat → Int) (hy : len' ≤ maxLen ∧ IsInts w a' len' cap' Y) :
    Calls Tryd.prog 3 #[.slice a len cap, .int .i64 c, .int .i64 f, .slice a' len' cap'] w fun e w' => e = .returned (.bool true) ∧ Below w.heap.size w w' := by
  by_cases hbig : 12 < len ∨ len ≤ 12 ∧ 70 < len'
  · exact walkBig w ht c f a len cap a' len' cap' hx.1 hy.1 hbig
  obtain ⟨m, F, b, hm, hA, hR⟩ := shape_vals a len cap X c f hx.1
  have hi : decide ((len : Int) > 12) = false := decide_eq_false (by omega)
  have hj : decide ((len' : Int) > 70) = false := decide_eq_false (by omega)
  have hlen : len ≤ 12 := by omega
  have hlen' : len' ≤ 70 := by omega
  have K0 := shawake_to w ht
  have K1 : Hid (∀ W, Below w.heap.size w W → Calls Tryd.prog 6 #[.slice a len cap, .int .i64 c, .int .i64 f] W (VPost m F b W)) := fun W hW => hA W (ht.below hW) (hx.2.below hW)
  have K2 : Hid (∀ W, Below w.heap.size w W → Calls Tryd.prog 7 #[.slice a len cap, .int .i64 c, .int .i64 f] W (VPost m F b W)) := fun W hW => hR W (hx.2.below hW)
  have K3 : Hid (∀ W, Below w.heap.size w W → Calls Tryd.prog 8 #[.slice a' len' cap'] W (LvPost (powF len' Y) W)) := fun W hW => shape_level a' len' cap' Y (by omega) W (ht.below hW) (hy.2.below hW)
  have K4 : Hid (∀ W, Below w.heap.size w W → Calls Tryd.prog 9 #[.slice a' len' cap'] W (LvPost (powF len' Y) W)) := fun W hW => rlevel_any a' len' cap' Y (by omega) W (hy.2.below hW)
  have K6 : Hid (∀ W, Below w.heap.size w W → Calls Tryd.prog 11 #[.slice a' len' cap'] W fun e w' => e = .returned (.int .i64 (powF len' Y)) ∧ Below W.heap.size W w') := fun W hW => shape_power a' len' cap' Y (by omega) W (ht.below hW) (hy.2.below hW)
  have K7 : Hid (∀ W, Below w.heap.size w W → Calls Tryd.prog 12 #[.slice a' len' cap'] W fun e w' => e = .returned (.int .i64 (powF len' Y)) ∧ Below W.heap.size W w') := fun W hW => rpower_any a' len' cap' Y (by omega) W (hy.2.below hW)
  have HM := hid hm
  have B0 := hid (Below.refl w.heap.size w)
  generalize powF len' Y = P at *
  clear hA hR hm hx hy ht hbig wc wf
  go_enter Tryd.func3, Tryd.ntmps3
  go_wp2_with (fail)
  refine Calls.mono (K1.out _ B0.out) ?_
  rintro e w1 ⟨a1, c1, rfl, i1, b1, _⟩
  have B1 := hid (below_then B0.out b1)
  have I1 := hid i1
  clear b1 i1 K1 B0
  go_wp2_with (fail)
  refine Calls.mono (K2.out _ B1.out) ?_
  rintro e w2 ⟨a2, c2, rfl, i2, b2, _⟩
  have B2 := hid (below_then B1.out b2)
  have I2 := hid (And.intro (I1.out.below b2) i2)
  clear b2 i2 K2 I1 B1
  go_wp2_with (fail)
  refine Calls.mono (K3.out _ B2.out) ?_
  rintro e w3 ⟨c3, f3, rfl, h3, b3⟩
  have B3 := hid (below_then B2.out b3)
  have I3 := hid (And.intro (I2.out.1.below b3) (I2.out.2.below b3))
  have H3 := hid h3
  clear b3 h3 K3 I2 B2
  go_wp2_with (fail)
  refine Calls.mono (K4.out _ B3.out) ?_
  rintro e w4 ⟨c4, f4, rfl, h4, b4⟩
  have B4 := hid (below_then B3.out b4)
  have K5 := hid (same_yes a1 a2 m c1 c2 F (by have := HM.out; omega) w4 (I3.out.1.below b4) (I3.out.2.below b4))
  obtain ⟨rfl, rfl⟩ := H3.out.one h4
  clear b4 h4 H3 K4 I3 B3
  go_wp2_with (fail)
  refine Calls.mono K5.out ?_
  rintro e w5 ⟨rfl, b5⟩
  have B5 := hid (below_then B4.out b5)
  clear b5 K5 B4
  cases b
  all_goals
    go_wp2_with (fail)
    refine Calls.mono (K6.out _ B5.out) ?_
    rintro e w6 ⟨rfl, b6⟩
    have B6 := hid (below_then B5.out b6)
    clear b6
    go_wp2_with (fail)
    refine Calls.mono (K7.out _ B6.out) ?_
    rintro e w7 ⟨rfl, b7⟩
    have B7 := hid (below_then B6.out b7)
    clear b7
    go_wp2_with (fail)
    refine Calls.mono (K0.out _ B7.out) ?_
    rintro e w8 ⟨rfl, b8⟩
    go_wp2
    go_ret
    exact ⟨rfl, b8⟩

set_option maxRecDepth 100000 in
theorem lifted (os : Os) (started : os.Started) (H : Type) (enc : TypeId × Value → H) :
    ReturnsInHanded {} Tryd.checked os 3 .any (fun w args => (Rows.shapeTellsSpec.pre enc Tryd.prog Tryd.f3 [] false w args ∧ laidMetH Tryd.prog Rows.shapeTellsRow.laid w) ∧ sizedMet enc Tryd.prog Tryd.f3 (OpenSpec.ofChange Rows.shapeTellsSpec) false w args)
      (Rows.shapeTellsSpec.post enc Tryd.prog Tryd.f3 false true false false) := by
  refine returnsInHanded_of_change_and (C := Tryd.checked) (X := fun w _ => laidMetH Tryd.prog Rows.shapeTellsRow.laid w) (fun _ _ _ hh h => h.of_heap hh) own started (by kernel_rfl) Tryd.func3
    (ChangeSpec.witness_shaped (enc := enc) (C := Tryd.checked) (os := os) (X := fun w _ => laidMetH Tryd.prog Rows.shapeTellsRow.laid w) false (World.laidAll Tryd.prog os Rows.shapeTellsRow.laid) #[.slice none 0 0, .int .i64 0, .int .i64 0, .slice none 0 0] 8 (World.laidAll_os _ _ _)
      (World.shaped_of_ZipB (by kernel_rfl) (by kernel_rfl)) (by kernel_rfl) (by kernel_rfl) (by kernel_rfl)
      (by rw [MakeChecks.laidMetH_plain _ _ _ (by kernel_rfl)]; exact laidMet_laidAll _ (by kernel_rfl) (by kernel_rfl))) ?_
  intro W base args ds gs before hval0 hW _ _ hL _
  have hval : ∀ (j : Nat) t v, Tryd.f3.params[j]? = some t → args[j]? = some v → Value.okWide Tryd.prog W .any base t v := hval0
  have hW' := hW
  obtain ⟨p, q, hA0, hV, rfl, hfz, hnd⟩ := hW
  have hA : DataW.TrodAll enc Tryd.prog W 0 (fun _ => true) true Tryd.f3.params.toList args.toList ds p := hA0
  rw [Tryd.params3] at hA hval
  obtain ⟨v0, vs0, d0, ds0, p0, q0, hargs, rfl, rfl, h0, r0⟩ := trodAll_cons hA
  obtain ⟨v1, vs1, d1, ds1, p1, q1, rfl, rfl, rfl, h1, r1⟩ := trodAll_cons r0
  obtain ⟨v2, vs2, d2, ds2, p2, q2, rfl, rfl, rfl, h2, r2⟩ := trodAll_cons r1
  obtain ⟨v3, vs3, d3, ds3, p3, q3, rfl, rfl, rfl, h3, r3⟩ := trodAll_cons r2
  obtain ⟨rfl, rfl, rfl⟩ := trodAll_nil r3
  obtain rfl : args = #[v0, v1, v2, v3] := by cases args; simp_all
  obtain ⟨rfl, rfl⟩ := trodVars_none hV
  obtain ⟨a0, len0, cap0, rfl⟩ := okWide_slice Tryd.underlying22 (hval 0 22 v0 rfl rfl)
  have k0 := h0
  have lt0 : ∀ x ∈ p0, x.block < W.heap.size := by obtain ⟨m, hm⟩ := k0; exact DataW.trod_lt m _ _ _ hm
  obtain ⟨x0, w0⟩ : ∃ X : Nat → Int, len0 ≤ maxLen ∧ IsInts W a0 len0 cap0 X := by
    obtain ⟨fuel, hf⟩ := h0
    exact open_isints Tryd.underlying22 Tryd.underlying3 (by kernel_rfl) hf
  obtain ⟨a1, rfl, rfl, rfl, w1⟩ := open_int Tryd.underlying3 (hval 1 3 v1 rfl rfl) h1
  obtain ⟨a2, rfl, rfl, rfl, w2⟩ := open_int Tryd.underlying3 (hval 2 3 v2 rfl rfl) h2
  obtain ⟨a3, len3, cap3, rfl⟩ := okWide_slice Tryd.underlying22 (hval 3 22 v3 rfl rfl)
  have k3 := h3
  have lt3 : ∀ x ∈ p3, x.block < W.heap.size := by obtain ⟨m, hm⟩ := k3; exact DataW.trod_lt m _ _ _ hm
  obtain ⟨x3, w3⟩ : ∃ X : Nat → Int, len3 ≤ maxLen ∧ IsInts W a3 len3 cap3 X := by
    obtain ⟨fuel, hf⟩ := h3
    exact open_isints Tryd.underlying22 Tryd.underlying3 (by kernel_rfl) hf
  clear hA0 hval0
  refine (walk W (ltab_of_laid (by kernel_rfl) hL (by simp [Rows.shapeTellsRow])) a0 len0 cap0 x0 w0 a1 w1 a2 w2 a3 len3 cap3 x3 w3).mono fun e W' ⟨he, bel⟩ => ?_
  subst he
  exact ⟨_, rfl, _, _, _, [], _, [], hW', trodAll_mk1 (shut_bool Tryd.underlying4 _), (trodAll_cons_mk (Below.trod laidOut (by kernel_rfl) (of_decide_eq_true (by kernel_rfl)) k0 bel lt0) (trodAll_cons_mk (shut_int Tryd.underlying3 w1) (trodAll_cons_mk (shut_int Tryd.underlying3 w2) (trodAll_cons_mk (Below.trod laidOut (by kernel_rfl) (of_decide_eq_true (by kernel_rfl)) k3 bel lt3) trodAll_mk0)))), rfl, bel.frame _, fun h => by cases h⟩

theorem over : Rows.shapeTellsRow.holds Tryd.pinned (OpenSpec.ofChange Rows.shapeTellsSpec) :=
  OpenClaim.holds_of_wide 3 Tryd.f3 rfl rfl rfl rfl rfl rfl rfl ⟨rfl, rfl, rfl, rfl, rfl⟩ rfl rfl rfl rfl rfl (by kernel_rfl) Tryd.func3 (by kernel_rfl)
    (of_decide_eq_true (by kernel_rfl)) (by unfold Func.isWrapper; first | (rw [if_pos (by decide +kernel)]; kernel_rfl) | (rw [if_neg (by decide +kernel)]; exact ⟨rfl, rfl⟩))
    (fun os started H enc _ => lifted os started H enc)

theorem plain (f : FuncId) (fn : Func) (hf : Tryd.pinned.checked.prog.funcNamed "splicer/splicerlaw17.ShapeTells" = some f) (hfn : Tryd.pinned.checked.prog.funcs[f]? = some fn) :
    false = Tryd.pinned.checked.prog.looks [] ∧ ∀ (j : Nat) t, fn.params[j]? = some t → Tryd.pinned.checked.prog.wantsStandIn t = false := by
  obtain rfl : f = 3 := Option.some.inj ((show Tryd.prog.funcNamed "splicer/splicerlaw17.ShapeTells" = some 3 by kernel_rfl).symm.trans hf) |>.symm
  obtain rfl : fn = Tryd.f3 := (Option.some.inj (Tryd.func3.symm.trans hfn)).symm
  refine ⟨by kernel_rfl, fun j t ht => ?_⟩
  rw [Tryd.params3] at ht
  have hm : t ∈ [22, 3, 3, 22] := by simpa using Array.mem_of_getElem? ht
  have hall : ([22, 3, 3, 22].all fun u => !Tryd.prog.wantsStandIn u) = true := by kernel_rfl
  exact (show Tryd.prog.wantsStandIn t = false by simpa using List.all_eq_true.1 hall t hm)

/-- The statement. -/
theorem proved : Rows.ShapeTellsCardSaid :=
  Claim7.holds_tied_plain_at .later [] _ _ _ _ over (fun _ h => by cases h) (by kernel_rfl) (fun _ h => by cases h) shapeTells_row_tie rfl ⟨rfl, rfl⟩ (by kernel_rfl) rfl plain (by kernel_rfl)
#print axioms proved
end Go.Proofs.YtlfhjcalkokhiaaDoor.shapeTells
