/-
  Proved: for any two lists of ints, and whether a row stands alone or not, which lists are rows, the differences, and the row of any differences (such as lead out of a row, or wrap round, too) are the document's, or that there are none (lists longer than 16: the law answers by the chapter's example alone). Conditions: none beside the row's own.
-/
import Derived.Test.YtfpbmgejjnifmaaRows
import Derived.Test.YtfpbmgejjnifmaaENL
import Derived.Test.YtfpbmgejjnifmaaIW
import Derived.WalkKit
import Derived.ProofKit
import Derived.OpenShut
import Derived.ShutString
import Derived.ChangeOld
import Derived.Below
namespace Go.Proofs.Ytfpbmgejjnifmaa.energyTells
open Go.ChangeShapes Go.WideShapes Go.ChangeAt Go.RowKit
open Go.ChangeMaps (open_string shut_string)
set_option linter.unusedVariables false

theorem own : ownKnob Try.prog.godebug = none := by kernel_rfl
theorem laidOut : laidOutB Try.prog = true := by kernel_rfl

theorem walkBig (w : World) (i : Bool) (a a' : Option Addr) (len cap len' cap' : Nat) (ml : len ≤ maxLen) (ml' : len' ≤ maxLen) (h : 16 < len ∨ 16 < len') :
    Calls Try.prog 3 #[.bool i, .slice a len cap, .slice a' len' cap'] w fun e w' => e = .returned (.bool true) ∧ Below w.heap.size w w' := by
  unfold maxLen at ml ml'
  have k0 := enawake_any w
  by_cases h1 : 16 < len
  · have hi : decide ((len : Int) > 16) = true := decide_eq_true (by omega)
    clear h
    go_enter Try.func3, Try.ntmps3
    go_wp2_with (go_at_call 5; refine k0.mono ?_; rintro e w1 ⟨rfl, b1⟩)
    go_ret
    exact ⟨rfl, b1⟩
  · have h2 : 16 < len' := by omega
    have hi : decide ((len : Int) > 16) = false := decide_eq_false (by omega)
    have hi' : decide ((len' : Int) > 16) = true := decide_eq_true (by omega)
    clear h
    go_enter Try.func3, Try.ntmps3
    go_wp2_with (go_at_call 5; refine k0.mono ?_; rintro e w1 ⟨rfl, b1⟩)
    go_ret
    exact ⟨rfl, b1⟩
set_option maxRecDepth 100000 in
theorem walk (w : World) (i : Bool) (a : Option Addr) (len cap : Nat) (P : Nat → Int) (hp : len ≤ maxLen ∧ (∀ i, i < len → -9223372036854775808 ≤ P i ∧ P i ≤ 9223372036854775807) ∧ IsInts w a len cap P)
    (a' : Option Addr) (len' cap' : Nat) (C : Nat → Int) (hc : len' ≤ maxLen ∧ (∀ i, i < len' → -9223372036854775808 ≤ C i ∧ C i ≤ 9223372036854775807) ∧ IsInts w a' len' cap' C) :
    Calls Try.prog 3 #[.bool i, .slice a len cap, .slice a' len' cap'] w fun e w' => e = .returned (.bool true) ∧ Below w.heap.size w w' := by
  by_cases hbig : 16 < len ∨ 16 < len'
  · exact walkBig w i a a' len cap len' cap' hp.1 hc.1 hbig
  obtain ⟨n, F, hn, hD, hD'⟩ := deltas_both i a len cap P hp.1 a' len' cap' hc.1 C w hp.2.2 hc.2.2
  obtain ⟨m, G, b, hm, hR, hR'⟩ := row_both i a len cap P hp.1 a' len' cap' hc.1 C hc.2.1 w hp.2.2 hc.2.2
  have hi : decide ((len : Int) > 16) = false := decide_eq_false (by omega)
  have hi' : decide ((len' : Int) > 16) = false := decide_eq_false (by omega)
  have hlen : len ≤ 16 := by omega
  have hlen' : len' ≤ 16 := by omega
  have k0 := enawake_to w
  have K1 : Hid (∀ W, Below w.heap.size w W → Calls Try.prog 8 #[.slice a' len' cap'] W fun e w' => e = .returned (.bool (eRightB len' C)) ∧ w' = W) := fun W hW => right_any a' len' cap' C hc.1 W (hc.2.2.below hW)
  have K2 : Hid (∀ W, Below w.heap.size w W → Calls Try.prog 9 #[.slice a' len' cap'] W fun e w' => e = .returned (.bool (eRightB len' C)) ∧ w' = W) := fun W hW => rright_any a' len' cap' C hc.1 W (hc.2.2.below hW)
  have HD := hid hD
  have HD' := hid hD'
  have HR := hid hR
  have HR' := hid hR'
  have HM := hid (And.intro hn hm)
  have HB0 := hid (Below.refl w.heap.size w)
  generalize eRightB len' C = z at K1 K2
  clear hD hD' hR hR' hn hm hp hc hbig
  go_enter Try.func3, Try.ntmps3
  go_wp2_with (fail)
  refine Calls.mono (HR.out _ HB0.out) ?_
  rintro e w1 ⟨a1, c1, rfl, i1, b1⟩
  have B1 := hid b1
  have I1 := hid i1
  clear b1 i1 HR HB0
  go_wp2_with (fail)
  refine Calls.mono (HR'.out _ B1.out) ?_
  rintro e w2 ⟨a2, c2, rfl, i2, b2⟩
  have B2 := hid (below_then B1.out b2)
  have S2 := hid (fun W (hW : Below w2.heap.size w2 W) => same_yes a1 a2 m c1 c2 G (Nat.le_trans HM.out.2 (by decide)) W ((I1.out.below b2).below hW) (i2.below hW))
  clear b2 i2 HR' B1 I1
  go_wp2_with (fail)
  refine Calls.mono (K1.out _ B2.out) ?_
  rintro e w3 ⟨rfl, rfl⟩
  go_wp2_with (fail)
  refine Calls.mono (K2.out _ B2.out) ?_
  rintro e w3 ⟨rfl, rfl⟩
  clear K1 K2
  cases z
  all_goals
    go_wp2_with (fail)
    refine Calls.mono (HD.out _ B2.out) ?_
    rintro e w4 ⟨a4, c4, rfl, i4, b4⟩
    have B4 := hid (below_then B2.out b4)
    have D4 := hid (b4.mono (Nat.le_refl _))
    have I4 := hid i4
    clear b4 i4 HD
    go_wp2_with (fail)
    refine Calls.mono (HD'.out _ B4.out) ?_
    rintro e w5 ⟨a5, c5, rfl, i5, b5⟩
    have S5 := hid (same_yes a4 a5 n c4 c5 F (Nat.le_trans HM.out.1 (by decide)) w5 (I4.out.below b5) i5)
    have B5 := hid (below_then B4.out b5)
    have D5 := hid (below_then D4.out b5)
    clear b5 i5 HD' I4 B4 D4
    go_wp2_with (fail)
    refine Calls.mono S5.out ?_
    rintro e w6 ⟨rfl, b6⟩
    have B6 := hid (below_then B5.out b6)
    have D6 := hid (below_then D5.out b6)
    clear b6 S5 B5 D5
    go_wp2_with (fail)
    refine Calls.mono (S2.out _ D6.out) ?_
    rintro e w7 ⟨rfl, b7⟩
    have B7 := hid (below_then B6.out b7)
    clear b7 S2 B6 D6
    cases b
    all_goals
      go_wp2_with (fail)
      refine Calls.mono (k0.out _ B7.out) ?_
      rintro e w8 ⟨rfl, b8⟩
      go_wp2
      go_ret
      exact ⟨rfl, b8⟩

set_option maxRecDepth 100000 in
theorem lifted (os : Os) (started : os.Started) (H : Type) (enc : TypeId × Value → H) :
    ReturnsInHanded {} Try.checked os 3 .any (Rows.energyTellsSpec.pre6 enc Try.prog Try.f3 Rows.energyTellsRow.domain false) (Rows.energyTellsSpec.post enc Try.prog Try.f3 false true false false) := by
  refine returnsInHanded_of_change (C := Try.checked) own started (by kernel_rfl) Try.func3
    (ChangeSpec.witness6 (enc := enc) (C := Try.checked) false ⟨#[], #[.bool false, .slice none 0 0, .slice none 0 0], []⟩ 8 (by kernel_rfl) (by kernel_rfl) (by kernel_rfl) (by kernel_rfl)) ?_
  intro W base args ds gs before hval0 hW hcnd _
  have hval : ∀ (j : Nat) t v, Try.f3.params[j]? = some t → args[j]? = some v → Value.okWide Try.prog W .any base t v := hval0
  have hW' := hW
  obtain ⟨p, q, hA0, hV, rfl, hfz, hnd⟩ := hW
  have hA : DataW.TrodAll enc Try.prog W 0 (fun _ => true) true Try.f3.params.toList args.toList ds p := hA0
  rw [Try.params3] at hA hval
  obtain ⟨v0, vs0, d0, ds0, p0, q0, hargs, rfl, rfl, h0, r0⟩ := trodAll_cons hA
  obtain ⟨v1, vs1, d1, ds1, p1, q1, rfl, rfl, rfl, h1, r1⟩ := trodAll_cons r0
  obtain ⟨v2, vs2, d2, ds2, p2, q2, rfl, rfl, rfl, h2, r2⟩ := trodAll_cons r1
  obtain ⟨rfl, rfl, rfl⟩ := trodAll_nil r2
  obtain rfl : args = #[v0, v1, v2] := by cases args; simp_all
  obtain ⟨rfl, rfl⟩ := trodVars_none hV
  obtain ⟨a0, rfl, rfl, rfl⟩ := open_bool Try.underlying4 (hval 0 4 v0 rfl rfl) h0
  obtain ⟨a1, len1, cap1, rfl⟩ := okWide_slice Try.underlying22 (hval 1 22 v1 rfl rfl)
  have k1 := h1
  have lt1 : ∀ x ∈ p1, x.block < W.heap.size := by obtain ⟨m, hm⟩ := k1; exact DataW.trod_lt m _ _ _ hm
  obtain ⟨x1, w1⟩ : ∃ X : Nat → Int, len1 ≤ maxLen ∧ (∀ i, i < len1 → -9223372036854775808 ≤ X i ∧ X i ≤ 9223372036854775807) ∧ IsInts W a1 len1 cap1 X := by
    obtain ⟨fuel, hf⟩ := h1
    exact open_wints Try.underlying22 Try.underlying3 (by kernel_rfl) hf
  obtain ⟨a2, len2, cap2, rfl⟩ := okWide_slice Try.underlying22 (hval 2 22 v2 rfl rfl)
  have k2 := h2
  have lt2 : ∀ x ∈ p2, x.block < W.heap.size := by obtain ⟨m, hm⟩ := k2; exact DataW.trod_lt m _ _ _ hm
  obtain ⟨x2, w2⟩ : ∃ X : Nat → Int, len2 ≤ maxLen ∧ (∀ i, i < len2 → -9223372036854775808 ≤ X i ∧ X i ≤ 9223372036854775807) ∧ IsInts W a2 len2 cap2 X := by
    obtain ⟨fuel, hf⟩ := h2
    exact open_wints Try.underlying22 Try.underlying3 (by kernel_rfl) hf
  clear hA0 hval0
  refine (walk W a0 a1 len1 cap1 x1 w1 a2 len2 cap2 x2 w2).mono fun e W' ⟨he, bel⟩ => ?_
  subst he
  exact ⟨_, rfl, _, _, _, [], _, [], hW', trodAll_mk1 (shut_bool Try.underlying4 _), (trodAll_cons_mk (shut_bool Try.underlying4 a0) (trodAll_cons_mk (Below.trod laidOut (by kernel_rfl) (of_decide_eq_true (by kernel_rfl)) k1 bel lt1) (trodAll_cons_mk (Below.trod laidOut (by kernel_rfl) (of_decide_eq_true (by kernel_rfl)) k2 bel lt2) trodAll_mk0))), rfl, bel.frame _, fun h => by cases h⟩

theorem over : Rows.energyTellsRow.holds Try.pinned (OpenSpec.ofChange Rows.energyTellsSpec) :=
  OpenClaim.holds_of_wide 3 Try.f3 rfl rfl rfl rfl rfl rfl rfl ⟨rfl, rfl, rfl, rfl, rfl⟩ rfl rfl rfl rfl rfl (by kernel_rfl) Try.func3 (by kernel_rfl)
    (of_decide_eq_true (by kernel_rfl)) (by unfold Func.isWrapper; first | (rw [if_pos (by decide +kernel)]; kernel_rfl) | (rw [if_neg (by decide +kernel)]; exact ⟨rfl, rfl⟩))
    (fun os started H enc _ => lifted os started H enc)

/-- The statement. -/
theorem proved : Rows.EnergyTellsSaid := over
#print axioms proved
end Go.Proofs.Ytfpbmgejjnifmaa.energyTells
