/-
  Proved: for any two numbers and any list of ints, how many pulses there are, and how far the list is from 0 in all, are the document's, and which lists are pulses (lists longer than 12: the law answers by the chapter's example alone). Conditions: none beside the row's own.
-/
import Derived.Test.YtcjdgcfblilneaaRows
import Derived.Test.YtcjdgcfblilneaaPVJ
import Derived.WalkKit
import Derived.ProofKit
import Derived.OpenShut
import Derived.ShutString
import Derived.ChangeOld
import Derived.Below
namespace Go.Proofs.Ytcjdgcfblilneaa.pvqCounts
open Go.ChangeShapes Go.WideShapes Go.ChangeAt Go.RowKit
open Go.ChangeMaps (open_string shut_string)
set_option linter.unusedVariables false

theorem own : ownKnob Try.prog.godebug = none := by kernel_rfl
theorem laidOut : laidOutB Try.prog = true := by kernel_rfl

theorem walkBig (w : World) (n k : Int) (a : Option Addr) (len cap : Nat) (ml : len ≤ maxLen) (h : 12 < len) :
    Calls Try.prog 3 #[.int .i64 n, .int .i64 k, .slice a len cap] w fun e w' => e = .returned (.bool true) ∧ Below w.heap.size w w' := by
  unfold maxLen at ml
  have k0 := hid (pvawake_any w)
  have hi : decide ((len : Int) > 12) = true := decide_eq_true (by omega)
  clear h
  go_enter Try.func3, Try.ntmps3
  go_wp2_with (fail)
  refine Calls.mono k0.out ?_
  rintro e w1 ⟨rfl, b1⟩
  go_wp2
  go_ret
  exact ⟨rfl, b1⟩
set_option maxRecDepth 100000 in
theorem walk (w : World) (n : Int) (wn : (Lit.int .i64 n).wf = true) (k : Int) (wk : (Lit.int .i64 k).wf = true) (a : Option Addr) (len cap : Nat) (X : Nat → Int) (hx : len ≤ maxLen ∧ IsInts w a len cap X) :
    Calls Try.prog 3 #[.int .i64 n, .int .i64 k, .slice a len cap] w fun e w' => e = .returned (.bool true) ∧ Below w.heap.size w w' := by
  by_cases hbig : 12 < len
  · exact walkBig w n k a len cap hx.1 hbig
  have hi : decide ((len : Int) > 12) = false := decide_eq_false (by omega)
  have hlen : len ≤ 12 := by omega
  have K0 := pvawake_to w
  have K1 : Hid (∀ W, Below w.heap.size w W → Calls Try.prog 8 #[.slice a len cap] W fun e w' => e = .returned (.tuple #[.int .i64 (pvSz len X), .bool (pvOk len X)]) ∧ Below w.heap.size w w') := fun W hW =>
    (pvq_size a len cap X hx.1 W (hx.2.below hW)).mono fun e w' h => ⟨h.1, below_then hW h.2⟩
  have K2 : Hid (∀ W, Below w.heap.size w W → Calls Try.prog 9 #[.slice a len cap] W fun e w' => e = .returned (.tuple #[.int .i64 (pvSz len X), .bool (pvOk len X)]) ∧ Below w.heap.size w w') := fun W hW =>
    (rsize_any a len cap X hx.1 W (hx.2.below hW)).mono fun e w' h => ⟨h.1, by rw [h.2]; exact hW⟩
  have K3 : Hid (∀ W, Below w.heap.size w W → Calls Try.prog 10 #[.int .i64 n, .int .i64 k] W fun e w' => e = .returned (.int .i64 (pvCnt n k)) ∧ Below w.heap.size w w') := fun W hW =>
    (pvq_count n k W).mono fun e w' h => ⟨h.1, below_then hW h.2⟩
  have K4 : Hid (∀ W, Below w.heap.size w W → Calls Try.prog 11 #[.int .i64 n, .int .i64 k] W fun e w' => e = .returned (.int .i64 (pvCnt n k)) ∧ Below w.heap.size w w') := fun W hW =>
    (rcount_any n k W).mono fun e w' h => ⟨h.1, below_then hW h.2⟩
  have HB0 := hid (Below.refl w.heap.size w)
  generalize pvSz len X = s at K1 K2
  generalize pvOk len X = o at K1 K2
  generalize pvCnt n k = y at K3 K4
  clear hx hbig wn wk
  go_enter Try.func3, Try.ntmps3
  go_wp2_with (fail)
  refine Calls.mono (K1.out _ HB0.out) ?_
  rintro e w1 ⟨rfl, b1⟩
  have B1 := hid b1
  clear b1 K1
  go_wp2_with (fail)
  refine Calls.mono (K2.out _ B1.out) ?_
  rintro e w2 ⟨rfl, b2⟩
  have B2 := hid b2
  clear b2 K2 B1
  go_wp2_with (fail)
  refine Calls.mono (K3.out _ B2.out) ?_
  rintro e w3 ⟨rfl, b3⟩
  have B3 := hid b3
  clear b3 K3 B2
  go_wp2_with (fail)
  refine Calls.mono (K4.out _ B3.out) ?_
  rintro e w4 ⟨rfl, b4⟩
  have B4 := hid b4
  clear b4 K4 B3
  cases o
  all_goals
    go_wp2_with (fail)
    refine Calls.mono (K0.out _ B4.out) ?_
    rintro e w5 ⟨rfl, b5⟩
    go_wp2
    go_ret
    exact ⟨rfl, b5⟩

set_option maxRecDepth 100000 in
theorem lifted (os : Os) (started : os.Started) (H : Type) (enc : TypeId × Value → H) :
    ReturnsInHanded {} Try.checked os 3 .any (Rows.pvqCountsSpec.pre6 enc Try.prog Try.f3 Rows.pvqCountsRow.domain false) (Rows.pvqCountsSpec.post enc Try.prog Try.f3 false true false false) := by
  refine returnsInHanded_of_change (C := Try.checked) own started (by kernel_rfl) Try.func3
    (ChangeSpec.witness6 (enc := enc) (C := Try.checked) false ⟨#[], #[.int .i64 0, .int .i64 0, .slice none 0 0], []⟩ 8 (by kernel_rfl) (by kernel_rfl) (by kernel_rfl) (by kernel_rfl)) ?_
  intro W base args ds gs before hval0 hW hcnd _
  have hval : ∀ (j : Nat) t v, Try.f3.params[j]? = some t → args[j]? = some v → Value.okWide Try.prog W .any base t v := hval0
  have hW' := hW
  obtain ⟨p, q, hA0, hV, rfl, hfz, hnd⟩ := hW
  have hA : DataW.TrodAll enc Try.prog W 0 (fun _ => true) true Try.f3.params.toList args.toList ds p := hA0
  rw [Try.params3] at hA hval
  obtain ⟨v0, vs0, d0, ds0, p0, q0, hargs, rfl, rfl, h0, r0⟩ := trodAll_cons hA
  obtain ⟨v1, vs1, d1, ds1, p1, q1, rfl, rfl, rfl, h1, r1⟩ := trodAll_cons r0
  obtain ⟨v2, vs2, d2, ds2, p2, q2, rfl, rfl, rfl, h2, r2⟩ := trodAll_cons r1
  obtain ⟨rfl, rfl, rfl⟩ := trodAll_nil r2
  obtain rfl : args = #[v0, v1, v2] := by cases args; simp_all
  obtain ⟨rfl, rfl⟩ := trodVars_none hV
  obtain ⟨a0, rfl, rfl, rfl, w0⟩ := open_int Try.underlying3 (hval 0 3 v0 rfl rfl) h0
  obtain ⟨a1, rfl, rfl, rfl, w1⟩ := open_int Try.underlying3 (hval 1 3 v1 rfl rfl) h1
  obtain ⟨a2, len2, cap2, rfl⟩ := okWide_slice Try.underlying22 (hval 2 22 v2 rfl rfl)
  have k2 := h2
  have lt2 : ∀ x ∈ p2, x.block < W.heap.size := by obtain ⟨m, hm⟩ := k2; exact DataW.trod_lt m _ _ _ hm
  obtain ⟨x2, w2⟩ : ∃ X : Nat → Int, len2 ≤ maxLen ∧ IsInts W a2 len2 cap2 X := by
    obtain ⟨fuel, hf⟩ := h2
    exact open_isints Try.underlying22 Try.underlying3 (by kernel_rfl) hf
  clear hA0 hval0
  refine (walk W a0 w0 a1 w1 a2 len2 cap2 x2 w2).mono fun e W' ⟨he, bel⟩ => ?_
  subst he
  exact ⟨_, rfl, _, _, _, [], _, [], hW', trodAll_mk1 (shut_bool Try.underlying4 _), (trodAll_cons_mk (shut_int Try.underlying3 w0) (trodAll_cons_mk (shut_int Try.underlying3 w1) (trodAll_cons_mk (Below.trod laidOut (by kernel_rfl) (of_decide_eq_true (by kernel_rfl)) k2 bel lt2) trodAll_mk0))), rfl, bel.frame _, fun h => by cases h⟩

theorem over : Rows.pvqCountsRow.holds Try.pinned (OpenSpec.ofChange Rows.pvqCountsSpec) :=
  OpenClaim.holds_of_wide 3 Try.f3 rfl rfl rfl rfl rfl rfl rfl ⟨rfl, rfl, rfl, rfl, rfl⟩ rfl rfl rfl rfl rfl (by kernel_rfl) Try.func3 (by kernel_rfl)
    (of_decide_eq_true (by kernel_rfl)) (by unfold Func.isWrapper; first | (rw [if_pos (by decide +kernel)]; kernel_rfl) | (rw [if_neg (by decide +kernel)]; exact ⟨rfl, rfl⟩))
    (fun os started H enc _ => lifted os started H enc)

/-- The statement. -/
theorem proved : Rows.PvqCountsSaid := over
#print axioms proved
end Go.Proofs.Ytcjdgcfblilneaa.pvqCounts
