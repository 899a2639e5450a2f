/-
  Proved: any two lists merged, split, and which of both is better, are the document's (lists longer than 70: the law answers by the chapter's examples alone). Conditions: none beside the row's own.
-/
import Derived.Test.YtgbehapekfoaiaaRows
import Derived.Test.YtgbehapekfoaiaaSDJ
import Derived.WalkKit
import Derived.ProofKit
import Derived.OpenShut
import Derived.ShutString
import Derived.ChangeOld
import Derived.Below
namespace Go.Proofs.Ytgbehapekfoaiaa.sideTells
open Go.ChangeShapes Go.WideShapes Go.ChangeAt Go.RowKit
open Go.ChangeMaps (open_string shut_string)
set_option linter.unusedVariables false

theorem own : ownKnob Try.prog.godebug = none := by kernel_rfl
theorem laidOut : laidOutB Try.prog = true := by kernel_rfl

theorem walkBig (w : World) (a b : Option Addr) (n m cap cap' : Nat) (ml : n ≤ maxLen) (ml' : m ≤ maxLen) (h : 70 < n ∨ n ≤ 70 ∧ 70 < m) :
    Calls Try.prog 3 #[.slice a n cap, .slice b m cap'] w fun e w' => e = .returned (.bool true) ∧ Below w.heap.size w w' := by
  unfold maxLen at ml ml'
  have k0 := hid (sdawake_any w)
  rcases h with h | ⟨h, h'⟩
  · have hi : decide ((n : Int) > 70) = true := decide_eq_true (by omega)
    clear h
    go_enter Try.func3, Try.ntmps3
    go_wp2_with (fail)
    refine Calls.mono k0.out ?_
    rintro e w1 ⟨rfl, b1⟩
    go_wp2
    go_ret
    exact ⟨rfl, b1⟩
  · have hi : decide ((n : Int) > 70) = false := decide_eq_false (by omega)
    have hj : decide ((m : Int) > 70) = true := decide_eq_true (by omega)
    clear h h'
    go_enter Try.func3, Try.ntmps3
    go_wp2_with (fail)
    refine Calls.mono k0.out ?_
    rintro e w1 ⟨rfl, b1⟩
    go_wp2
    go_ret
    exact ⟨rfl, b1⟩
set_option maxRecDepth 100000 in
theorem walk (w : World) (a : Option Addr) (n cap : Nat) (A : Nat → Int) (ha : n ≤ maxLen ∧ IsInts w a n cap A) (b : Option Addr) (m cap' : Nat) (B : Nat → Int) (hb : m ≤ maxLen ∧ IsInts w b m cap' B) :
    Calls Try.prog 3 #[.slice a n cap, .slice b m cap'] w fun e w' => e = .returned (.bool true) ∧ Below w.heap.size w w' := by
  by_cases hbig : 70 < n ∨ n ≤ 70 ∧ 70 < m
  · exact walkBig w a b n m cap cap' ha.1 hb.1 hbig
  have hn : n ≤ 70 := by omega
  have hm : m ≤ 70 := by omega
  have hi : decide ((n : Int) > 70) = false := decide_eq_false (by omega)
  have hj : decide ((m : Int) > 70) = false := decide_eq_false (by omega)
  have K0 := sdawake_to w
  have K1 : Hid (∀ W, Below w.heap.size w W → Calls Try.prog 6 #[.slice a n cap, .slice b m cap'] W (SPost (sdN n m A B) (mgL A B) (mgR A B) W)) := fun W hW => side_merge a b n m cap cap' A B (by omega) (by omega) W (ha.2.below hW) (hb.2.below hW)
  have K2 : Hid (∀ W, Below w.heap.size w W → Calls Try.prog 7 #[.slice a n cap, .slice b m cap'] W (SPost (sdN n m A B) (mgL A B) (mgR A B) W)) := fun W hW => rmerge_any a b n m cap cap' A B (by omega) (by omega) W (ha.2.below hW) (hb.2.below hW)
  have K3 : Hid (∀ W, Below w.heap.size w W → Calls Try.prog 8 #[.slice a n cap, .slice b m cap'] W (SPost (sdN n m A B) (spM A B) (spS A B) W)) := fun W hW => side_split a b n m cap cap' A B (by omega) (by omega) W (ha.2.below hW) (hb.2.below hW)
  have K4 : Hid (∀ W, Below w.heap.size w W → Calls Try.prog 9 #[.slice a n cap, .slice b m cap'] W (SPost (sdN n m A B) (spM A B) (spS A B) W)) := fun W hW => rsplit_any a b n m cap cap' A B (by omega) (by omega) W (ha.2.below hW) (hb.2.below hW)
  have K5 : Hid (∀ W, Below w.heap.size w W → Calls Try.prog 11 #[.slice a n cap, .slice b m cap'] W fun e w' => e = .returned (.bool (sdBet n m A B)) ∧ Below W.heap.size W w') := fun W hW => side_better a b n m cap cap' A B (by omega) (by omega) W (ha.2.below hW) (hb.2.below hW)
  have K6 : Hid (∀ W, Below w.heap.size w W → Calls Try.prog 12 #[.slice a n cap, .slice b m cap'] W fun e w' => e = .returned (.bool (sdBet n m A B)) ∧ Below W.heap.size W w') := fun W hW => rbetter_any a b n m cap cap' A B (by omega) (by omega) W (ha.2.below hW) (hb.2.below hW)
  have hN := sdN_le n m A B hn
  have K7 : Hid (∀ (F : Nat → Int) a1 c1 a2 c2 W, IsInts W a1 (sdN n m A B) c1 F → IsInts W a2 (sdN n m A B) c2 F → Calls Try.prog 10 #[.slice a1 (sdN n m A B) c1, .slice a2 (sdN n m A B) c2] W fun e w' => e = .returned (.bool true) ∧ Below W.heap.size W w') := fun F a1 c1 a2 c2 W h h' => same_yes a1 a2 _ c1 c2 F hN W h h'
  have B0 := hid (Below.refl w.heap.size w)
  generalize sdN n m A B = p at *
  generalize sdBet n m A B = o at *
  generalize mgL A B = F1 at *
  generalize mgR A B = F2 at *
  generalize spM A B = F3 at *
  generalize spS A B = F4 at *
  clear ha hb hbig hN
  go_enter Try.func3, Try.ntmps3
  go_wp2_with (fail)
  refine Calls.mono (K1.out _ B0.out) ?_
  rintro e w1 ⟨a1, c1, a2, c2, rfl, i1, i2, b1⟩
  have B1 := hid b1
  have I1 := hid (And.intro i1 i2)
  clear b1 i1 i2 K1 B0
  go_wp2_with (fail)
  refine Calls.mono (K2.out _ B1.out) ?_
  rintro e w2 ⟨a3, c3, a4, c4, rfl, i3, i4, b2⟩
  have B2 := hid (below_then B1.out b2)
  have I2 := hid (And.intro (And.intro (I1.out.1.below b2) i3) (And.intro (I1.out.2.below b2) i4))
  clear b2 i3 i4 K2 I1 B1
  go_wp2_with (fail)
  refine Calls.mono (K3.out _ B2.out) ?_
  rintro e w3 ⟨a5, c5, a6, c6, rfl, i5, i6, b3⟩
  have B3 := hid (below_then B2.out b3)
  have I3 := hid (And.intro (And.intro (I2.out.1.1.below b3) (I2.out.1.2.below b3)) (And.intro (And.intro (I2.out.2.1.below b3) (I2.out.2.2.below b3)) (And.intro i5 i6)))
  clear b3 i5 i6 K3 I2 B2
  go_wp2_with (fail)
  refine Calls.mono (K4.out _ B3.out) ?_
  rintro e w4 ⟨a7, c7, a8, c8, rfl, i7, i8, b4⟩
  have B4 := hid (below_then B3.out b4)
  have I41 := hid (And.intro (I3.out.1.1.below b4) (I3.out.1.2.below b4))
  have I42 := hid (And.intro (I3.out.2.1.1.below b4) (I3.out.2.1.2.below b4))
  have I43 := hid (And.intro (I3.out.2.2.1.below b4) i7)
  have I44 := hid (And.intro (I3.out.2.2.2.below b4) i8)
  clear b4 i7 i8 K4 I3 B3
  have S1 := hid (K7.out _ _ _ _ _ _ I41.out.1 I41.out.2)
  go_wp2_with (fail)
  refine Calls.mono S1.out ?_
  rintro e w5 ⟨rfl, b5⟩
  have B5 := hid (below_then B4.out b5)
  have S2 := hid (K7.out _ _ _ _ _ _ (I42.out.1.below b5) (I42.out.2.below b5))
  have J43 := hid (And.intro (I43.out.1.below b5) (I43.out.2.below b5))
  have J44 := hid (And.intro (I44.out.1.below b5) (I44.out.2.below b5))
  clear b5 S1 I41 I42 I43 I44 B4
  go_wp2_with (fail)
  refine Calls.mono S2.out ?_
  rintro e w6 ⟨rfl, b6⟩
  have B6 := hid (below_then B5.out b6)
  have S3 := hid (K7.out _ _ _ _ _ _ (J43.out.1.below b6) (J43.out.2.below b6))
  have I44 := hid (And.intro (J44.out.1.below b6) (J44.out.2.below b6))
  clear b6 S2 J43 J44 B5
  go_wp2_with (fail)
  refine Calls.mono S3.out ?_
  rintro e w7 ⟨rfl, b7⟩
  have B7 := hid (below_then B6.out b7)
  have S4 := hid (K7.out _ _ _ _ _ _ (I44.out.1.below b7) (I44.out.2.below b7))
  clear b7 S3 I44 B6 K7
  go_wp2_with (fail)
  refine Calls.mono S4.out ?_
  rintro e w8 ⟨rfl, b8⟩
  have B8 := hid (below_then B7.out b8)
  clear b8 S4 B7
  go_wp2_with (fail)
  refine Calls.mono (K5.out _ B8.out) ?_
  rintro e w9 ⟨rfl, b9⟩
  have B9 := hid (below_then B8.out b9)
  clear b9 B8 K5
  go_wp2_with (fail)
  refine Calls.mono (K6.out _ B9.out) ?_
  rintro e w10 ⟨rfl, b10⟩
  have B10 := hid (below_then B9.out b10)
  clear b10 B9 K6
  cases o
  all_goals
    go_wp2_with (fail)
    refine Calls.mono (K0.out _ B10.out) ?_
    rintro e w11 ⟨rfl, b11⟩
    go_wp2
    go_ret
    exact ⟨rfl, b11⟩

set_option maxRecDepth 100000 in
theorem lifted (os : Os) (started : os.Started) (H : Type) (enc : TypeId × Value → H) :
    ReturnsInHanded {} Try.checked os 3 .any (Rows.sideTellsSpec.pre6 enc Try.prog Try.f3 Rows.sideTellsRow.domain false) (Rows.sideTellsSpec.post enc Try.prog Try.f3 false true false false) := by
  refine returnsInHanded_of_change (C := Try.checked) own started (by kernel_rfl) Try.func3
    (ChangeSpec.witness6 (enc := enc) (C := Try.checked) false ⟨#[], #[.slice none 0 0, .slice none 0 0], []⟩ 8 (by kernel_rfl) (by kernel_rfl) (by kernel_rfl) (by kernel_rfl)) ?_
  intro W base args ds gs before hval0 hW hcnd _
  have hval : ∀ (j : Nat) t v, Try.f3.params[j]? = some t → args[j]? = some v → Value.okWide Try.prog W .any base t v := hval0
  have hW' := hW
  obtain ⟨p, q, hA0, hV, rfl, hfz, hnd⟩ := hW
  have hA : DataW.TrodAll enc Try.prog W 0 (fun _ => true) true Try.f3.params.toList args.toList ds p := hA0
  rw [Try.params3] at hA hval
  obtain ⟨v0, vs0, d0, ds0, p0, q0, hargs, rfl, rfl, h0, r0⟩ := trodAll_cons hA
  obtain ⟨v1, vs1, d1, ds1, p1, q1, rfl, rfl, rfl, h1, r1⟩ := trodAll_cons r0
  obtain ⟨rfl, rfl, rfl⟩ := trodAll_nil r1
  obtain rfl : args = #[v0, v1] := by cases args; simp_all
  obtain ⟨rfl, rfl⟩ := trodVars_none hV
  obtain ⟨a0, len0, cap0, rfl⟩ := okWide_slice Try.underlying22 (hval 0 22 v0 rfl rfl)
  have k0 := h0
  have lt0 : ∀ x ∈ p0, x.block < W.heap.size := by obtain ⟨m, hm⟩ := k0; exact DataW.trod_lt m _ _ _ hm
  obtain ⟨x0, w0⟩ : ∃ X : Nat → Int, len0 ≤ maxLen ∧ IsInts W a0 len0 cap0 X := by
    obtain ⟨fuel, hf⟩ := h0
    exact open_isints Try.underlying22 Try.underlying3 (by kernel_rfl) hf
  obtain ⟨a1, len1, cap1, rfl⟩ := okWide_slice Try.underlying22 (hval 1 22 v1 rfl rfl)
  have k1 := h1
  have lt1 : ∀ x ∈ p1, x.block < W.heap.size := by obtain ⟨m, hm⟩ := k1; exact DataW.trod_lt m _ _ _ hm
  obtain ⟨x1, w1⟩ : ∃ X : Nat → Int, len1 ≤ maxLen ∧ IsInts W a1 len1 cap1 X := by
    obtain ⟨fuel, hf⟩ := h1
    exact open_isints Try.underlying22 Try.underlying3 (by kernel_rfl) hf
  clear hA0 hval0
  refine (walk W a0 len0 cap0 x0 w0 a1 len1 cap1 x1 w1).mono fun e W' ⟨he, bel⟩ => ?_
  subst he
  exact ⟨_, rfl, _, _, _, [], _, [], hW', trodAll_mk1 (shut_bool Try.underlying4 _), (trodAll_cons_mk (Below.trod laidOut (by kernel_rfl) (of_decide_eq_true (by kernel_rfl)) k0 bel lt0) (trodAll_cons_mk (Below.trod laidOut (by kernel_rfl) (of_decide_eq_true (by kernel_rfl)) k1 bel lt1) trodAll_mk0)), rfl, bel.frame _, fun h => by cases h⟩

theorem over : Rows.sideTellsRow.holds Try.pinned (OpenSpec.ofChange Rows.sideTellsSpec) :=
  OpenClaim.holds_of_wide 3 Try.f3 rfl rfl rfl rfl rfl rfl rfl ⟨rfl, rfl, rfl, rfl, rfl⟩ rfl rfl rfl rfl rfl (by kernel_rfl) Try.func3 (by kernel_rfl)
    (of_decide_eq_true (by kernel_rfl)) (by unfold Func.isWrapper; first | (rw [if_pos (by decide +kernel)]; kernel_rfl) | (rw [if_neg (by decide +kernel)]; exact ⟨rfl, rfl⟩))
    (fun os started H enc _ => lifted os started H enc)

/-- The statement. -/
theorem proved : Rows.SideTellsSaid := over
#print axioms proved
end Go.Proofs.Ytgbehapekfoaiaa.sideTells
