/-
  Proved: for any list of ints and any three numbers, the pulses' number, and the pulses of the number, are the document's, or that there are none (lists longer than 12: the law answers by the chapter's example alone). Conditions: none beside the row's own.
-/
import Derived.Test.YtcjdgcfblilneaaRows
import Derived.Test.YtcjdgcfblilneaaPVJ
import Derived.WalkKit
import Derived.ProofKit
import Derived.OpenShut
import Derived.ShutString
import Derived.ChangeOld
import Derived.Below
namespace Go.Proofs.Ytcjdgcfblilneaa.pvqNumbers
open Go.ChangeShapes Go.WideShapes Go.ChangeAt Go.RowKit
open Go.ChangeMaps (open_string shut_string)
set_option linter.unusedVariables false

theorem own : ownKnob Try.prog.godebug = none := by kernel_rfl
theorem laidOut : laidOutB Try.prog = true := by kernel_rfl

theorem walkBig (w : World) (n k i : Int) (a : Option Addr) (len cap : Nat) (ml : len ≤ maxLen) (h : 12 < len) :
    Calls Try.prog 4 #[.slice a len cap, .int .i64 n, .int .i64 k, .int .i64 i] w fun e w' => e = .returned (.bool true) ∧ Below w.heap.size w w' := by
  unfold maxLen at ml
  have k0 := hid (pvawake_any w)
  have hi : decide ((len : Int) > 12) = true := decide_eq_true (by omega)
  clear h
  go_enter Try.func4, Try.ntmps4
  go_wp2_with (fail)
  refine Calls.mono k0.out ?_
  rintro e w1 ⟨rfl, b1⟩
  go_wp2
  go_ret
  exact ⟨rfl, b1⟩
set_option maxRecDepth 100000 in
theorem walk (w : World) (a : Option Addr) (len cap : Nat) (X : Nat → Int) (hx : len ≤ maxLen ∧ IsInts w a len cap X) (n : Int) (wn : (Lit.int .i64 n).wf = true) (k : Int) (wk : (Lit.int .i64 k).wf = true) (i : Int) (wi : (Lit.int .i64 i).wf = true) :
    Calls Try.prog 4 #[.slice a len cap, .int .i64 n, .int .i64 k, .int .i64 i] w fun e w' => e = .returned (.bool true) ∧ Below w.heap.size w w' := by
  by_cases hbig : 12 < len
  · exact walkBig w n k i a len cap hx.1 hbig
  have hi : decide ((len : Int) > 12) = false := decide_eq_false (by omega)
  have hlen : len ≤ 12 := by omega
  have K0 := pvawake_to w
  have K1 : Hid (∀ W, Below w.heap.size w W → Calls Try.prog 12 #[.slice a len cap] W fun e w' => e = .returned (.tuple #[.int .i64 (pvNum len X), .bool (pvOk len X)]) ∧ Below w.heap.size w w') := fun W hW =>
    (pvq_index a len cap X hx.1 W (hx.2.below hW)).mono fun e w' h => ⟨h.1, below_then hW h.2⟩
  have K2 : Hid (∀ W, Below w.heap.size w W → Calls Try.prog 13 #[.slice a len cap] W fun e w' => e = .returned (.tuple #[.int .i64 (pvNum len X), .bool (pvOk len X)]) ∧ Below w.heap.size w w') := fun W hW =>
    (rindex_any a len cap X hx.1 W (hx.2.below hW)).mono fun e w' h => ⟨h.1, below_then hW h.2⟩
  obtain ⟨m, F, b, hm, hv, hr⟩ := pvq_vecs n k i
  have HV := hid hv
  have HR := hid hr
  have HM := hid hm
  have HB0 := hid (Below.refl w.heap.size w)
  generalize pvNum len X = s at K1 K2
  generalize pvOk len X = o at K1 K2
  clear hx hbig wn wk wi hv hr hm
  go_enter Try.func4, Try.ntmps4
  go_wp2_with (fail)
  refine Calls.mono (K1.out _ HB0.out) ?_
  rintro e w1 ⟨rfl, b1⟩
  have B1 := hid b1
  clear b1 K1
  go_wp2_with (fail)
  refine Calls.mono (K2.out _ B1.out) ?_
  rintro e w2 ⟨rfl, b2⟩
  have B2 := hid b2
  clear b2 K2 B1
  go_wp2_with (fail)
  refine Calls.mono (HV.out _) ?_
  rintro e w3 ⟨a3, c3, rfl, i3, b3, _⟩
  have B3 := hid (below_then B2.out b3)
  have I3 := hid i3
  clear b3 i3 HV B2
  go_wp2_with (fail)
  refine Calls.mono (HR.out _) ?_
  rintro e w4 ⟨a4, c4, rfl, i4, b4, _⟩
  have B4 := hid (below_then B3.out b4)
  have S4 := hid (same_yes a3 a4 m c3 c4 F (Nat.le_trans HM.out (by decide)) w4 (I3.out.below b4) i4)
  clear b4 i4 HR B3 I3
  cases o
  all_goals
    go_wp2_with (fail)
    refine Calls.mono S4.out ?_
    rintro e w5 ⟨rfl, b5⟩
    have B5 := hid (below_then B4.out b5)
    clear b5 S4 B4
    cases b
    all_goals
      go_wp2_with (fail)
      refine Calls.mono (K0.out _ B5.out) ?_
      rintro e w6 ⟨rfl, b6⟩
      go_wp2
      go_ret
      exact ⟨rfl, b6⟩

set_option maxRecDepth 100000 in
theorem lifted (os : Os) (started : os.Started) (H : Type) (enc : TypeId × Value → H) :
    ReturnsInHanded {} Try.checked os 4 .any (Rows.pvqNumbersSpec.pre6 enc Try.prog Try.f4 Rows.pvqNumbersRow.domain false) (Rows.pvqNumbersSpec.post enc Try.prog Try.f4 false true false false) := by
  refine returnsInHanded_of_change (C := Try.checked) own started (by kernel_rfl) Try.func4
    (ChangeSpec.witness6 (enc := enc) (C := Try.checked) false ⟨#[], #[.slice none 0 0, .int .i64 0, .int .i64 0, .int .i64 0], []⟩ 8 (by kernel_rfl) (by kernel_rfl) (by kernel_rfl) (by kernel_rfl)) ?_
  intro W base args ds gs before hval0 hW hcnd _
  have hval : ∀ (j : Nat) t v, Try.f4.params[j]? = some t → args[j]? = some v → Value.okWide Try.prog W .any base t v := hval0
  have hW' := hW
  obtain ⟨p, q, hA0, hV, rfl, hfz, hnd⟩ := hW
  have hA : DataW.TrodAll enc Try.prog W 0 (fun _ => true) true Try.f4.params.toList args.toList ds p := hA0
  rw [Try.params4] at hA hval
  obtain ⟨v0, vs0, d0, ds0, p0, q0, hargs, rfl, rfl, h0, r0⟩ := trodAll_cons hA
  obtain ⟨v1, vs1, d1, ds1, p1, q1, rfl, rfl, rfl, h1, r1⟩ := trodAll_cons r0
  obtain ⟨v2, vs2, d2, ds2, p2, q2, rfl, rfl, rfl, h2, r2⟩ := trodAll_cons r1
  obtain ⟨v3, vs3, d3, ds3, p3, q3, rfl, rfl, rfl, h3, r3⟩ := trodAll_cons r2
  obtain ⟨rfl, rfl, rfl⟩ := trodAll_nil r3
  obtain rfl : args = #[v0, v1, v2, v3] := by cases args; simp_all
  obtain ⟨rfl, rfl⟩ := trodVars_none hV
  obtain ⟨a0, len0, cap0, rfl⟩ := okWide_slice Try.underlying22 (hval 0 22 v0 rfl rfl)
  have k0 := h0
  have lt0 : ∀ x ∈ p0, x.block < W.heap.size := by obtain ⟨m, hm⟩ := k0; exact DataW.trod_lt m _ _ _ hm
  obtain ⟨x0, w0⟩ : ∃ X : Nat → Int, len0 ≤ maxLen ∧ IsInts W a0 len0 cap0 X := by
    obtain ⟨fuel, hf⟩ := h0
    exact open_isints Try.underlying22 Try.underlying3 (by kernel_rfl) hf
  obtain ⟨a1, rfl, rfl, rfl, w1⟩ := open_int Try.underlying3 (hval 1 3 v1 rfl rfl) h1
  obtain ⟨a2, rfl, rfl, rfl, w2⟩ := open_int Try.underlying3 (hval 2 3 v2 rfl rfl) h2
  obtain ⟨a3, rfl, rfl, rfl, w3⟩ := open_int Try.underlying3 (hval 3 3 v3 rfl rfl) h3
  clear hA0 hval0
  refine (walk W a0 len0 cap0 x0 w0 a1 w1 a2 w2 a3 w3).mono fun e W' ⟨he, bel⟩ => ?_
  subst he
  exact ⟨_, rfl, _, _, _, [], _, [], hW', trodAll_mk1 (shut_bool Try.underlying4 _), (trodAll_cons_mk (Below.trod laidOut (by kernel_rfl) (of_decide_eq_true (by kernel_rfl)) k0 bel lt0) (trodAll_cons_mk (shut_int Try.underlying3 w1) (trodAll_cons_mk (shut_int Try.underlying3 w2) (trodAll_cons_mk (shut_int Try.underlying3 w3) trodAll_mk0)))), rfl, bel.frame _, fun h => by cases h⟩

theorem over : Rows.pvqNumbersRow.holds Try.pinned (OpenSpec.ofChange Rows.pvqNumbersSpec) :=
  OpenClaim.holds_of_wide 4 Try.f4 rfl rfl rfl rfl rfl rfl rfl ⟨rfl, rfl, rfl, rfl, rfl⟩ rfl rfl rfl rfl rfl (by kernel_rfl) Try.func4 (by kernel_rfl)
    (of_decide_eq_true (by kernel_rfl)) (by unfold Func.isWrapper; first | (rw [if_pos (by decide +kernel)]; kernel_rfl) | (rw [if_neg (by decide +kernel)]; exact ⟨rfl, rfl⟩))
    (fun os started H enc _ => lifted os started H enc)

/-- The statement. -/
theorem proved : Rows.PvqNumbersSaid := over
#print axioms proved
end Go.Proofs.Ytcjdgcfblilneaa.pvqNumbers
