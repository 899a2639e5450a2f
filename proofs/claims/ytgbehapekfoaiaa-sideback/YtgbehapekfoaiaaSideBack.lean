/-
  Proved: of as many numbers of both, up to 64, from -2^24 to 2^24, what was merged is split again as it was, and what is split is merged again, but for 1. Conditions: none beside the row's own.
-/
import Derived.Test.YtgbehapekfoaiaaRows
import Derived.Test.YtgbehapekfoaiaaSDJ
import Derived.WalkKit
import Derived.ProofKit
import Derived.OpenShut
import Derived.ShutString
import Derived.ChangeOld
import Derived.Below
namespace Go.Proofs.Ytgbehapekfoaiaa.sideBack
open Go.ChangeShapes Go.WideShapes Go.ChangeAt Go.RowKit
open Go.ChangeMaps (open_string shut_string)
set_option linter.unusedVariables false

theorem own : ownKnob Try.prog.godebug = none := by kernel_rfl
theorem laidOut : laidOutB Try.prog = true := by kernel_rfl

theorem walkNo (w : World) (a b : Option Addr) (n m cap cap' : Nat) (A B : Nat → Int) (ml : n ≤ maxLen) (ml' : m ≤ maxLen) (hA : IsInts w a n cap A) (hB : IsInts w b m cap' B) (hno : ¬ (n = m ∧ SdBk n A B)) :
    Calls Try.prog 4 #[.slice a n cap, .slice b m cap'] w fun e w' => e = .returned (.bool true) ∧ Below w.heap.size w w' := by
  unfold maxLen at ml ml'
  have k0 := hid (sdawake_any w)
  by_cases e1 : n = m
  · subst e1
    have hd : ((n : Int) != (n : Int)) = false := by simp
    by_cases e2 : 64 < n
    · have hi : decide ((n : Int) > 64) = true := decide_eq_true (by omega)
      clear hA hB hno e2
      go_enter Try.func4, Try.ntmps4
      go_wp2_with (fail)
      refine Calls.mono k0.out ?_
      rintro e w1 ⟨rfl, b1⟩
      go_wp2
      go_ret
      exact ⟨rfl, b1⟩
    · have hi : decide ((n : Int) > 64) = false := decide_eq_false (by omega)
      have K1 := hid (rwithin_g (-16777216) 16777216 a n cap A (by omega) w hA)
      have K2 := hid (rwithin_g (-16777216) 16777216 b n cap' B (by omega) w hB)
      cases h3 : allIn (-16777216) 16777216 A n with
      | false =>
        rw [h3] at K1
        clear hA hB hno h3
        go_enter Try.func4, Try.ntmps4
        go_wp2_with (fail)
        refine Calls.mono K1.out ?_
        rintro e w1 ⟨rfl, rfl⟩
        go_wp2_with (fail)
        refine Calls.mono k0.out ?_
        rintro e w1 ⟨rfl, b1⟩
        go_wp2
        go_ret
        exact ⟨rfl, b1⟩
      | true =>
        have h4 : allIn (-16777216) 16777216 B n = false := by
          cases h4 : allIn (-16777216) 16777216 B n with
          | false => rfl
          | true => exact absurd ⟨rfl, by omega, (allIn_iff _ _ _ _).1 h3, (allIn_iff _ _ _ _).1 h4⟩ hno
        rw [h3] at K1
        rw [h4] at K2
        clear hA hB hno h3 h4
        go_enter Try.func4, Try.ntmps4
        go_wp2_with (fail)
        refine Calls.mono K1.out ?_
        rintro e w1 ⟨rfl, rfl⟩
        go_wp2_with (fail)
        refine Calls.mono K2.out ?_
        rintro e w1 ⟨rfl, rfl⟩
        go_wp2_with (fail)
        refine Calls.mono k0.out ?_
        rintro e w1 ⟨rfl, b1⟩
        go_wp2
        go_ret
        exact ⟨rfl, b1⟩
  · have hd : ((n : Int) != (m : Int)) = true := by simp; omega
    clear hA hB hno e1
    go_enter Try.func4, Try.ntmps4
    go_wp2_with (fail)
    refine Calls.mono k0.out ?_
    rintro e w1 ⟨rfl, b1⟩
    go_wp2
    go_ret
    exact ⟨rfl, b1⟩
set_option maxRecDepth 100000 in
set_option maxHeartbeats 1000000 in
theorem walk (w : World) (a : Option Addr) (n cap : Nat) (A : Nat → Int) (ha : n ≤ maxLen ∧ IsInts w a n cap A) (b : Option Addr) (m cap' : Nat) (B : Nat → Int) (hb : m ≤ maxLen ∧ IsInts w b m cap' B) :
    Calls Try.prog 4 #[.slice a n cap, .slice b m cap'] w fun e w' => e = .returned (.bool true) ∧ Below w.heap.size w w' := by
  by_cases hyes : n = m ∧ SdBk n A B
  rotate_left
  · exact walkNo w a b n m cap cap' A B ha.1 hb.1 ha.2 hb.2 hyes
  obtain ⟨rfl, hbk⟩ := hyes
  have hd : ((n : Int) != (n : Int)) = false := by simp
  have n64 := hbk.n64
  have hi : decide ((n : Int) > 64) = false := decide_eq_false (by omega)
  have K0 := sdawake_to w
  have K1 : Hid (Calls Try.prog 13 #[.slice a n cap, .int .i64 (-16777216), .int .i64 16777216] w fun e w' => e = .returned (.bool true) ∧ w' = w) := by
    have := rwithin_g (-16777216) 16777216 a n cap A (by omega) w ha.2
    rwa [(allIn_iff _ _ _ _).2 hbk.a] at this
  have K2 : Hid (Calls Try.prog 13 #[.slice b n cap', .int .i64 (-16777216), .int .i64 16777216] w fun e w' => e = .returned (.bool true) ∧ w' = w) := by
    have := rwithin_g (-16777216) 16777216 b n cap' B (by omega) w hb.2
    rwa [(allIn_iff _ _ _ _).2 hbk.b] at this
  have K3 := hid (side_merge a b n n cap cap' A B (by omega) (by omega) w ha.2 hb.2)
  rw [SdBk.of hbk.in] at K3
  have K4 : Hid (∀ a1 c1 a2 c2 W, IsInts W a1 n c1 (mgL A B) → IsInts W a2 n c2 (mgR A B) → Calls Try.prog 8 #[.slice a1 n c1, .slice a2 n c2] W (SPost n (spM (mgL A B) (mgR A B)) (spS (mgL A B) (mgR A B)) W)) := fun a1 c1 a2 c2 W h h' => by
    have := side_split a1 a2 n n c1 c2 _ _ (by omega) (by omega) W h h'
    rwa [SdBk.of hbk.mrg] at this
  have K5 : Hid (∀ W, Below w.heap.size w W → Calls Try.prog 8 #[.slice a n cap, .slice b n cap'] W (SPost n (spM A B) (spS A B) W)) := fun W hW => by
    have := side_split a b n n cap cap' A B (by omega) (by omega) W (ha.2.below hW) (hb.2.below hW)
    rwa [SdBk.of hbk.in] at this
  have K6 : Hid (∀ a1 c1 a2 c2 W, IsInts W a1 n c1 (spM A B) → IsInts W a2 n c2 (spS A B) → Calls Try.prog 6 #[.slice a1 n c1, .slice a2 n c2] W (SPost n (mgL (spM A B) (spS A B)) (mgR (spM A B) (spS A B)) W)) := fun a1 c1 a2 c2 W h h' => by
    have := side_merge a1 a2 n n c1 c2 _ _ (by omega) (by omega) W h h'
    rwa [SdBk.of hbk.mid] at this
  have K7 : Hid (∀ (F G : Nat → Int), (∀ i, i < n → F i = G i) → ∀ a1 c1 a2 c2 W, IsInts W a1 n c1 F → IsInts W a2 n c2 G → Calls Try.prog 10 #[.slice a1 n c1, .slice a2 n c2] W fun e w' => e = .returned (.bool true) ∧ Below W.heap.size W w') := fun F G e a1 c1 a2 c2 W h h' => same_yes a1 a2 n c1 c2 G hbk.n64 W (h.congr e) h'
  have HBK1 := hid (fun i hi => (hbk.back i hi).1)
  have HBK2 := hid (fun i hi => (hbk.back i hi).2)
  have HNr := hid hbk.near
  have HAb := hid (And.intro hbk.a hbk.b)
  have HA := hid ha.2
  have HB := hid hb.2
  have B0 := hid (Below.refl w.heap.size w)
  generalize spM (mgL A B) (mgR A B) = F3 at *
  generalize spS (mgL A B) (mgR A B) = F4 at *
  generalize mgL A B = F1 at *
  generalize mgR A B = F2 at *
  generalize mgL (spM A B) (spS A B) = F7 at *
  generalize mgR (spM A B) (spS A B) = F8 at *
  generalize spM A B = F5 at *
  generalize spS A B = F6 at *
  clear ha hb hbk
  go_enter Try.func4, Try.ntmps4
  go_wp2_with (fail)
  refine Calls.mono K1.out ?_
  rintro e w1 ⟨rfl, rfl⟩
  go_wp2_with (fail)
  refine Calls.mono K2.out ?_
  rintro e w1 ⟨rfl, rfl⟩
  go_wp2_with (fail)
  refine Calls.mono K3.out ?_
  rintro e w2 ⟨a2, c2, a3, c3, rfl, i2, i3, b2⟩
  have B2 := hid b2
  have k4 := hid (K4.out _ _ _ _ _ i2 i3)
  clear b2 i2 i3 K1 K2 K3 K4
  go_wp2_with (fail)
  refine Calls.mono k4.out ?_
  rintro e w3 ⟨a4, c4, a5, c5, rfl, i4, i5, b3⟩
  have B3 := hid (below_then B2.out b3)
  have I3 := hid (And.intro i4 i5)
  clear b3 i4 i5 k4 B2
  go_wp2_with (fail)
  refine Calls.mono (K5.out _ B3.out) ?_
  rintro e w4 ⟨a6, c6, a7, c7, rfl, i6, i7, b4⟩
  have B4 := hid (below_then B3.out b4)
  have I4 := hid (And.intro (I3.out.1.below b4) (I3.out.2.below b4))
  have k6 := hid (K6.out _ _ _ _ _ i6 i7)
  clear b4 i6 i7 K5 K6 I3 B3
  go_wp2_with (fail)
  refine Calls.mono k6.out ?_
  rintro e w5 ⟨a8, c8, a9, c9, rfl, i8, i9, b5⟩
  have B5 := hid (below_then B4.out b5)
  have I5 := hid (And.intro i8 i9)
  have s1 := hid (K7.out _ _ HBK1.out _ _ _ _ _ (I4.out.1.below b5) (HA.out.below B5.out))
  have I6 := hid (I4.out.2.below b5)
  clear b5 i8 i9 k6 I4 B4
  go_wp2_with (fail)
  refine Calls.mono s1.out ?_
  rintro e w6 ⟨rfl, b6⟩
  have B6 := hid (below_then B5.out b6)
  have I7 := hid (And.intro (I5.out.1.below b6) (I5.out.2.below b6))
  have s2 := hid (K7.out _ _ HBK2.out _ _ _ _ _ (I6.out.below b6) (HB.out.below B6.out))
  clear b6 s1 I5 I6 B5
  go_wp2_with (fail)
  refine Calls.mono s2.out ?_
  rintro e w7 ⟨rfl, b7⟩
  have B7 := hid (below_then B6.out b7)
  have I8 := hid (And.intro (I7.out.1.below b7) (I7.out.2.below b7))
  have IA := hid (HA.out.below B7.out)
  have IB := hid (HB.out.below B7.out)
  have BB := hid (Below.refl w7.heap.size w7)
  clear b7 s2 I7 K7 HA HB B6 HBK1 HBK2
  by_cases h0 : n = 0
  · subst h0
    clear I8 IA IB HNr HAb
    go_wp2
    go_loop [13] (fun i => i = .int .i64 0) (fun i => 0)
    case atStart => rfl
    case round =>
      subst hrel
      go_wp2_with (fail)
      refine Calls.mono (K0.out _ B7.out) ?_
      rintro e w8 ⟨rfl, b8⟩
      go_wp2
      go_ret
      exact ⟨rfl, b8⟩
  obtain ⟨p1, o1, rfl, h1⟩ := IA.out.cells (by omega)
  obtain ⟨p2, o2, rfl, h2⟩ := IB.out.cells (by omega)
  obtain ⟨p3, o3, rfl, h3⟩ := I8.out.1.cells (by omega)
  obtain ⟨p4, o4, rfl, h4⟩ := I8.out.2.cells (by omega)
  have H1 := hid h1
  have H2 := hid h2
  have H3 := hid h3
  have H4 := hid h4
  clear h1 h2 h3 h4 I8 IA IB
  go_wp2
  go_loopw [13] (fun i wr => ∃ k : Nat, k ≤ n ∧ i = .int .i64 k ∧ Hid (Below w7.heap.size w7 wr)) (fun i _ => n - (intOf i).toNat)
  case atStart => exact ⟨0, Nat.zero_le _, rfl, BB.out⟩
  case round =>
    clear BB
    obtain ⟨k, hk, rfl, HW⟩ := hrel
    obtain ⟨w8, e8⟩ : ∃ w8, w8 = wr := ⟨_, rfl⟩
    subst e8
    by_cases hlt : k < n
    · have hnr := HNr.out k hlt
      have hab := And.intro (HAb.out.1 k hlt) (HAb.out.2 k hlt)
      have D1 := hid (fun W (hW : Below w8.heap.size w8 W) => H1.out W (below_then HW.out hW) k hlt)
      have D2 := hid (fun W (hW : Below w8.heap.size w8 W) => H2.out W (below_then HW.out hW) k hlt)
      have D3 := hid (fun W (hW : Below w8.heap.size w8 W) => H3.out W (below_then HW.out hW) k hlt)
      have D4 := hid (fun W (hW : Below w8.heap.size w8 W) => H4.out W (below_then HW.out hW) k hlt)
      generalize A k = x1 at *
      generalize B k = x2 at *
      generalize F7 k = x3 at *
      generalize F8 k = x4 at *
      have e1 : (x3 - x1).natAbs ≤ 1 := by omega
      have e2 : (x4 - x2).natAbs ≤ 1 := by omega
      have KA : Hid (∀ z : Int, z.natAbs ≤ 268435456 → ∀ W, Below w8.heap.size w8 W → Calls Try.prog 14 #[.int .i64 z] W fun e w' => e = .returned (.int .i64 ((z.natAbs : Nat) : Int)) ∧ Below w8.heap.size w8 w') := fun z hz W hW =>
        (absR_any z W).mono fun e w' ⟨he, hb⟩ => ⟨by rw [he, absF_nat (by omega)], by rw [hb]; exact hW⟩
      have k1 := hid (KA.out (x3 - x1) (by omega))
      have k2 := hid (KA.out (x4 - x2) (by omega))
      clear KA
      have b1 : -16777216 ≤ x1 ∧ x1 ≤ 16777216 := hab.1
      have b2 : -16777216 ≤ x2 ∧ x2 ≤ 16777216 := hab.2
      have b3 : -16777217 ≤ x3 ∧ x3 ≤ 16777217 := by omega
      have b4 : -16777217 ≤ x4 ∧ x4 ≤ 16777217 := by omega
      have c1 : decide (1 < (((x3 - x1).natAbs : Nat) : Int)) = false := decide_eq_false (by omega)
      have c2 : decide (1 < (((x4 - x2).natAbs : Nat) : Int)) = false := decide_eq_false (by omega)
      generalize hg1 : (((x3 - x1).natAbs : Nat) : Int) = y1 at *
      generalize hg2 : (((x4 - x2).natAbs : Nat) : Int) = y2 at *
      clear hnr hab e1 e2 hg1 hg2
      go_wp2
      refine region_below (by kernel_rfl) (by kernel_rfl) ?_
      repeat (go_big_quiet_step (first
        | (intro hq; rfl)
        | (intro hq; rw [D1.out _ hq]; exact ⟨rfl, rfl⟩)
        | (intro hq; rw [D2.out _ hq]; exact ⟨rfl, rfl⟩)
        | (intro hq; rw [D3.out _ hq]; exact ⟨rfl, rfl⟩)
        | (intro hq; rw [D4.out _ hq]; exact ⟨rfl, rfl⟩)
        | (intro hq; go_at_call 14; (with_reducible exact k1.out _ hq))
        | (intro hq; go_at_call 14; (with_reducible exact k2.out _ hq))))
      refine wpQuiet_nil ?_
      intro w10 hw10
      go_wp2
      exact ⟨⟨k + 1, by omega, by go_num, below_then HW.out hw10⟩, by simp [intOf]; omega⟩
    · obtain rfl : k = n := by omega
      go_wp2_with (fail)
      refine Calls.mono (K0.out _ (below_then B7.out HW.out)) ?_
      rintro e w9 ⟨rfl, b9⟩
      go_wp2
      go_ret
      exact ⟨rfl, b9⟩

set_option maxRecDepth 100000 in
theorem lifted (os : Os) (started : os.Started) (H : Type) (enc : TypeId × Value → H) :
    ReturnsInHanded {} Try.checked os 4 .any (Rows.sideBackSpec.pre6 enc Try.prog Try.f4 Rows.sideBackRow.domain false) (Rows.sideBackSpec.post enc Try.prog Try.f4 false true false false) := by
  refine returnsInHanded_of_change (C := Try.checked) own started (by kernel_rfl) Try.func4
    (ChangeSpec.witness6 (enc := enc) (C := Try.checked) false ⟨#[], #[.slice none 0 0, .slice none 0 0], []⟩ 8 (by kernel_rfl) (by kernel_rfl) (by kernel_rfl) (by kernel_rfl)) ?_
  intro W base args ds gs before hval0 hW hcnd _
  have hval : ∀ (j : Nat) t v, Try.f4.params[j]? = some t → args[j]? = some v → Value.okWide Try.prog W .any base t v := hval0
  have hW' := hW
  obtain ⟨p, q, hA0, hV, rfl, hfz, hnd⟩ := hW
  have hA : DataW.TrodAll enc Try.prog W 0 (fun _ => true) true Try.f4.params.toList args.toList ds p := hA0
  rw [Try.params4] at hA hval
  obtain ⟨v0, vs0, d0, ds0, p0, q0, hargs, rfl, rfl, h0, r0⟩ := trodAll_cons hA
  obtain ⟨v1, vs1, d1, ds1, p1, q1, rfl, rfl, rfl, h1, r1⟩ := trodAll_cons r0
  obtain ⟨rfl, rfl, rfl⟩ := trodAll_nil r1
  obtain rfl : args = #[v0, v1] := by cases args; simp_all
  obtain ⟨rfl, rfl⟩ := trodVars_none hV
  obtain ⟨a0, len0, cap0, rfl⟩ := okWide_slice Try.underlying22 (hval 0 22 v0 rfl rfl)
  have k0 := h0
  have lt0 : ∀ x ∈ p0, x.block < W.heap.size := by obtain ⟨m, hm⟩ := k0; exact DataW.trod_lt m _ _ _ hm
  obtain ⟨x0, w0⟩ : ∃ X : Nat → Int, len0 ≤ maxLen ∧ IsInts W a0 len0 cap0 X := by
    obtain ⟨fuel, hf⟩ := h0
    exact open_isints Try.underlying22 Try.underlying3 (by kernel_rfl) hf
  obtain ⟨a1, len1, cap1, rfl⟩ := okWide_slice Try.underlying22 (hval 1 22 v1 rfl rfl)
  have k1 := h1
  have lt1 : ∀ x ∈ p1, x.block < W.heap.size := by obtain ⟨m, hm⟩ := k1; exact DataW.trod_lt m _ _ _ hm
  obtain ⟨x1, w1⟩ : ∃ X : Nat → Int, len1 ≤ maxLen ∧ IsInts W a1 len1 cap1 X := by
    obtain ⟨fuel, hf⟩ := h1
    exact open_isints Try.underlying22 Try.underlying3 (by kernel_rfl) hf
  clear hA0 hval0
  refine (walk W a0 len0 cap0 x0 w0 a1 len1 cap1 x1 w1).mono fun e W' ⟨he, bel⟩ => ?_
  subst he
  exact ⟨_, rfl, _, _, _, [], _, [], hW', trodAll_mk1 (shut_bool Try.underlying4 _), (trodAll_cons_mk (Below.trod laidOut (by kernel_rfl) (of_decide_eq_true (by kernel_rfl)) k0 bel lt0) (trodAll_cons_mk (Below.trod laidOut (by kernel_rfl) (of_decide_eq_true (by kernel_rfl)) k1 bel lt1) trodAll_mk0)), rfl, bel.frame _, fun h => by cases h⟩

theorem over : Rows.sideBackRow.holds Try.pinned (OpenSpec.ofChange Rows.sideBackSpec) :=
  OpenClaim.holds_of_wide 4 Try.f4 rfl rfl rfl rfl rfl rfl rfl ⟨rfl, rfl, rfl, rfl, rfl⟩ rfl rfl rfl rfl rfl (by kernel_rfl) Try.func4 (by kernel_rfl)
    (of_decide_eq_true (by kernel_rfl)) (by unfold Func.isWrapper; first | (rw [if_pos (by decide +kernel)]; kernel_rfl) | (rw [if_neg (by decide +kernel)]; exact ⟨rfl, rfl⟩))
    (fun os started H enc _ => lifted os started H enc)

/-- The statement. -/
theorem proved : Rows.SideBackSaid := over
#print axioms proved
end Go.Proofs.Ytgbehapekfoaiaa.sideBack
