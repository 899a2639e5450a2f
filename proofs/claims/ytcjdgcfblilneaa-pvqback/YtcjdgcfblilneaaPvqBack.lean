/-
  Proved: any pulses have a number below their count and come back from it; any number below the count of 1 to 8 numbers, 0 to 24 from 0, has pulses, as many and as far from 0, whose number it is. Conditions: none beside the row's own.
-/
import Derived.Test.YtcjdgcfblilneaaRows
import Derived.Test.YtcjdgcfblilneaaPVJ
import Derived.WalkKit
import Derived.ProofKit
import Derived.OpenShut
import Derived.ShutString
import Derived.ChangeOld
import Derived.Below
namespace Go.Proofs.Ytcjdgcfblilneaa.pvqBack
open Go.ChangeShapes Go.WideShapes Go.ChangeAt Go.RowKit
open Go.ChangeMaps (open_string shut_string)
set_option linter.unusedVariables false

theorem own : ownKnob Try.prog.godebug = none := by kernel_rfl
theorem laidOut : laidOutB Try.prog = true := by kernel_rfl

theorem walkBig (w : World) (n k i : Int) (a : Option Addr) (len cap : Nat) (ml : len ≤ maxLen) (h : 12 < len) :
    Calls Try.prog 5 #[.slice a len cap, .int .u8 n, .int .u8 k, .int .u32 i] w fun e w' => e = .returned (.bool true) ∧ Below w.heap.size w w' := by
  unfold maxLen at ml
  have k0 := hid (pvawake_any w)
  have hi : decide ((len : Int) > 12) = true := decide_eq_true (by omega)
  clear h
  go_enter Try.func5, Try.ntmps5
  go_wp2_with (fail)
  refine Calls.mono k0.out ?_
  rintro e w1 ⟨rfl, b1⟩
  go_wp2
  go_ret
  exact ⟨rfl, b1⟩
set_option maxRecDepth 100000 in
theorem walk (w : World) (a : Option Addr) (len cap : Nat) (X : Nat → Int) (hx : len ≤ maxLen ∧ IsInts w a len cap X) (n : Int) (wn : (Lit.int .u8 n).wf = true) (k : Int) (wk : (Lit.int .u8 k).wf = true) (i : Int) (wi : (Lit.int .u32 i).wf = true) :
    Calls Try.prog 5 #[.slice a len cap, .int .u8 n, .int .u8 k, .int .u32 i] w fun e w' => e = .returned (.bool true) ∧ Below w.heap.size w w' := by
  by_cases hbig : 12 < len
  · exact walkBig w n k i a len cap hx.1 hbig
  have hn : 0 ≤ n ∧ n ≤ 255 := by simpa [Lit.wf, IntKind.min, IntKind.max, IntKind.signed, IntKind.bits] using wn
  have hk : 0 ≤ k ∧ k ≤ 255 := by simpa [Lit.wf, IntKind.min, IntKind.max, IntKind.signed, IntKind.bits] using wk
  have hi0 : 0 ≤ i ∧ i ≤ 4294967295 := by simpa [Lit.wf, IntKind.min, IntKind.max, IntKind.signed, IntKind.bits] using wi
  have hi : decide ((len : Int) > 12) = false := decide_eq_false (by omega)
  have hlen : len ≤ 12 := by omega
  obtain ⟨p, hp⟩ : ∃ p : Nat, 1 + n % 8 = (p : Int) := ⟨(1 + n % 8).toNat, by omega⟩
  obtain ⟨q, hq⟩ : ∃ q : Nat, k % 25 = (q : Int) := ⟨(k % 25).toNat, by omega⟩
  have hp1 : 1 ≤ p ∧ p ≤ 8 := by omega
  have hq1 : q ≤ 24 := by omega
  have hc1 : 1 ≤ pvC p q := by obtain ⟨r, rfl⟩ : ∃ r, p = r + 1 := ⟨p - 1, by omega⟩; exact pvC_pos r q
  have hc9 := pvC_bd (n := p) (k := q) hp1.2 hq1
  obtain ⟨c, hc⟩ : ∃ c : Int, c = ((pvC p q : Nat) : Int) := ⟨_, rfl⟩
  have hcb : 1 ≤ c ∧ c ≤ 33232930569601 := by omega
  have hmb : 0 ≤ i % c ∧ i % c < c := ⟨Int.emod_nonneg _ (by omega), Int.emod_lt_of_pos _ (by omega)⟩
  obtain ⟨j, hj⟩ : ∃ j : Nat, i % c = (j : Int) := ⟨(i % c).toNat, by omega⟩
  have hjc : j < pvC p q := by omega
  obtain ⟨hv1, hv2, hv3⟩ := pvOk_vec hp1.1 hp1.2 hq1 hjc
  have K0 := pvawake_to w
  have K1 : Hid (∀ W, Below w.heap.size w W → Calls Try.prog 8 #[.slice a len cap] W fun e w' => e = .returned (.tuple #[.int .i64 (pvSz len X), .bool (pvOk len X)]) ∧ Below w.heap.size w w') := fun W hW =>
    (pvq_size a len cap X hx.1 W (hx.2.below hW)).mono fun e w' h => ⟨h.1, below_then hW h.2⟩
  have K2 : Hid (∀ W, Below w.heap.size w W → Calls Try.prog 12 #[.slice a len cap] W fun e w' => e = .returned (.tuple #[.int .i64 (pvNum len X), .bool (pvOk len X)]) ∧ Below w.heap.size w w') := fun W hW =>
    (pvq_index a len cap X hx.1 W (hx.2.below hW)).mono fun e w' h => ⟨h.1, below_then hW h.2⟩
  have K3 : Hid (∀ W, Calls Try.prog 10 #[.int .i64 (p : Int), .int .i64 (q : Int)] W fun e w' => e = .returned (.int .i64 c) ∧ Below W.heap.size W w') := fun W => by
    have := pvq_count (p : Int) (q : Int) W
    rwa [pvCnt_nat hp1.2 hq1, ← hc] at this
  have K4 := hid (fun W => pvq_vec p q j hp1.1 hp1.2 hq1 hjc W)
  obtain ⟨V, hV⟩ : ∃ V, V = pvVec p q j := ⟨_, rfl⟩
  rw [← hV] at hv1 hv2 hv3 K4
  have K5 : Hid (∀ W a c, IsInts W a p c V → Calls Try.prog 8 #[.slice a p c] W fun e w' => e = .returned (.tuple #[.int .i64 (q : Int), .bool true]) ∧ Below W.heap.size W w') := fun W a c h => by
    have := pvq_size a p c V (by unfold maxLen; omega) W h
    rwa [hv1, hv2] at this
  have K6 : Hid (∀ W a c, IsInts W a p c V → Calls Try.prog 12 #[.slice a p c] W fun e w' => e = .returned (.tuple #[.int .i64 (j : Int), .bool true]) ∧ Below W.heap.size W w') := fun W a c h => by
    have := pvq_index a p c V (by unfold maxLen; omega) W h
    rwa [hv1, hv3] at this
  have HP := hid hp
  have HQ := hid hq
  have HJ := hid hj
  have HB0 := hid (Below.refl w.heap.size w)
  have HX := hid hx
  clear hV hv1 hv2 hv3 hc hc9 hc1 hp hq hj hjc hmb hx hbig wn wk wi
  cases hok : pvOk len X with
  | false =>
    rw [pvSz, if_neg (by rw [hok]; simp), hok] at K1
    rw [pvNum, if_neg (by rw [hok]; simp), hok] at K2
    clear hok
    go_enter Try.func5, Try.ntmps5
    go_wp2_with (fail)
    refine Calls.mono (K1.out _ HB0.out) ?_
    rintro e w1 ⟨rfl, b1⟩
    have B1 := hid b1
    clear b1 K1
    go_wp2_with (fail)
    refine Calls.mono (K2.out _ B1.out) ?_
    rintro e w2 ⟨rfl, b2⟩
    have B9 := hid b2
    clear b2 K2 B1
    go_wp2_with (fail)
    rw [HP.out, HQ.out]
    refine Calls.mono (K3.out _) ?_
    rintro e w10 ⟨rfl, b10⟩
    have B10 := hid (below_then B9.out b10)
    clear b10 B9
    go_wp2_with (fail)
    rw [HJ.out]
    refine Calls.mono (K4.out _) ?_
    rintro e w11 ⟨a11, c11, rfl, i11, b11, _⟩
    have B11 := hid (below_then B10.out b11)
    have I11 := hid i11
    clear b11 i11 B10
    go_wp2_with (fail)
    refine Calls.mono (K5.out _ _ _ I11.out) ?_
    rintro e w12 ⟨rfl, b12⟩
    have B12 := hid (below_then B11.out b12)
    have I12 := hid (I11.out.below b12)
    clear b12 B11 I11
    go_wp2_with (fail)
    refine Calls.mono (K6.out _ _ _ I12.out) ?_
    rintro e w13 ⟨rfl, b13⟩
    have B13 := hid (below_then B12.out b13)
    clear b13 B12 I12
    have hj' := HJ.out
    go_wp2_with (fail)
    refine Calls.mono (K0.out _ B13.out) ?_
    rintro e w14 ⟨rfl, b14⟩
    go_wp2
    go_ret
    exact ⟨rfl, b14⟩
  | true =>
    obtain ⟨t1, t2, t3, t4, t5, t6⟩ := pvOk_facts hok
    rw [t5, hok] at K1
    rw [t6, hok] at K2
    have K7 := hid (fun W => pvq_vec len (pvK X len len) (pvI X len len) t1 t2 t3 t4 W)
    have K8 : Hid (∀ W, Calls Try.prog 10 #[.int .i64 (len : Int), .int .i64 ((pvK X len len : Nat) : Int)] W fun e w' => e = .returned (.int .i64 ((pvC len (pvK X len len) : Nat) : Int)) ∧ Below W.heap.size W w') := fun W => by
      have := pvq_count (len : Int) ((pvK X len len : Nat) : Int) W
      rwa [pvCnt_nat t2 t3] at this
    have HT := hid (fun p hp => pv_there (n := len) X p hp)
    have t7 := pvC_bd (n := len) (k := pvK X len len) t2 t3
    generalize hV2 : pvVec len (pvK X len len) (pvI X len len) = V2 at K7 HT
    generalize pvC len (pvK X len len) = C at K8 t4 t7
    generalize pvK X len len = S at *
    generalize pvI X len len = I at *
    clear hok t5 t6 hV2
    go_enter Try.func5, Try.ntmps5
    go_wp2_with (fail)
    refine Calls.mono (K1.out _ HB0.out) ?_
    rintro e w1 ⟨rfl, b1⟩
    have B1 := hid b1
    clear b1 K1
    go_wp2_with (fail)
    refine Calls.mono (K2.out _ B1.out) ?_
    rintro e w2 ⟨rfl, b2⟩
    have B2 := hid b2
    clear b2 K2 B1
    go_wp2_with (fail)
    refine Calls.mono (K7.out _) ?_
    rintro e w3 ⟨a3, c3, rfl, i3, b3, _⟩
    have B3 := hid (below_then B2.out b3)
    have I3 := hid i3
    clear b3 i3 B2 K7
    go_wp2_with (fail)
    refine Calls.mono (K8.out _) ?_
    rintro e w4 ⟨rfl, b4⟩
    have B4 := hid (below_then B3.out b4)
    have S4 := hid (same_yes a a3 len cap c3 X (by omega) w4 (HX.out.2.below B4.out) ((I3.out.below b4).congr HT.out))
    clear b4 B3 I3 K8 HT
    go_wp2_with (fail)
    refine Calls.mono S4.out ?_
    rintro e w5 ⟨rfl, b5⟩
    have B9 := hid (below_then B4.out b5)
    clear b5 B4 S4
    go_wp2_with (fail)
    rw [HP.out, HQ.out]
    refine Calls.mono (K3.out _) ?_
    rintro e w10 ⟨rfl, b10⟩
    have B10 := hid (below_then B9.out b10)
    clear b10 B9
    go_wp2_with (fail)
    rw [HJ.out]
    refine Calls.mono (K4.out _) ?_
    rintro e w11 ⟨a11, c11, rfl, i11, b11, _⟩
    have B11 := hid (below_then B10.out b11)
    have I11 := hid i11
    clear b11 i11 B10
    go_wp2_with (fail)
    refine Calls.mono (K5.out _ _ _ I11.out) ?_
    rintro e w12 ⟨rfl, b12⟩
    have B12 := hid (below_then B11.out b12)
    have I12 := hid (I11.out.below b12)
    clear b12 B11 I11
    go_wp2_with (fail)
    refine Calls.mono (K6.out _ _ _ I12.out) ?_
    rintro e w13 ⟨rfl, b13⟩
    have B13 := hid (below_then B12.out b13)
    clear b13 B12 I12
    have hj' := HJ.out
    go_wp2_with (fail)
    refine Calls.mono (K0.out _ B13.out) ?_
    rintro e w14 ⟨rfl, b14⟩
    go_wp2
    go_ret
    exact ⟨rfl, b14⟩

set_option maxRecDepth 100000 in
theorem lifted (os : Os) (started : os.Started) (H : Type) (enc : TypeId × Value → H) :
    ReturnsInHanded {} Try.checked os 5 .any (Rows.pvqBackSpec.pre6 enc Try.prog Try.f5 Rows.pvqBackRow.domain false) (Rows.pvqBackSpec.post enc Try.prog Try.f5 false true false false) := by
  refine returnsInHanded_of_change (C := Try.checked) own started (by kernel_rfl) Try.func5
    (ChangeSpec.witness6 (enc := enc) (C := Try.checked) false ⟨#[], #[.slice none 0 0, .int .u8 0, .int .u8 0, .int .u32 0], []⟩ 8 (by kernel_rfl) (by kernel_rfl) (by kernel_rfl) (by kernel_rfl)) ?_
  intro W base args ds gs before hval0 hW hcnd _
  have hval : ∀ (j : Nat) t v, Try.f5.params[j]? = some t → args[j]? = some v → Value.okWide Try.prog W .any base t v := hval0
  have hW' := hW
  obtain ⟨p, q, hA0, hV, rfl, hfz, hnd⟩ := hW
  have hA : DataW.TrodAll enc Try.prog W 0 (fun _ => true) true Try.f5.params.toList args.toList ds p := hA0
  rw [Try.params5] at hA hval
  obtain ⟨v0, vs0, d0, ds0, p0, q0, hargs, rfl, rfl, h0, r0⟩ := trodAll_cons hA
  obtain ⟨v1, vs1, d1, ds1, p1, q1, rfl, rfl, rfl, h1, r1⟩ := trodAll_cons r0
  obtain ⟨v2, vs2, d2, ds2, p2, q2, rfl, rfl, rfl, h2, r2⟩ := trodAll_cons r1
  obtain ⟨v3, vs3, d3, ds3, p3, q3, rfl, rfl, rfl, h3, r3⟩ := trodAll_cons r2
  obtain ⟨rfl, rfl, rfl⟩ := trodAll_nil r3
  obtain rfl : args = #[v0, v1, v2, v3] := by cases args; simp_all
  obtain ⟨rfl, rfl⟩ := trodVars_none hV
  obtain ⟨a0, len0, cap0, rfl⟩ := okWide_slice Try.underlying22 (hval 0 22 v0 rfl rfl)
  have k0 := h0
  have lt0 : ∀ x ∈ p0, x.block < W.heap.size := by obtain ⟨m, hm⟩ := k0; exact DataW.trod_lt m _ _ _ hm
  obtain ⟨x0, w0⟩ : ∃ X : Nat → Int, len0 ≤ maxLen ∧ IsInts W a0 len0 cap0 X := by
    obtain ⟨fuel, hf⟩ := h0
    exact open_isints Try.underlying22 Try.underlying3 (by kernel_rfl) hf
  obtain ⟨a1, rfl, rfl, rfl, w1⟩ := open_int Try.underlying5 (hval 1 5 v1 rfl rfl) h1
  obtain ⟨a2, rfl, rfl, rfl, w2⟩ := open_int Try.underlying5 (hval 2 5 v2 rfl rfl) h2
  obtain ⟨a3, rfl, rfl, rfl, w3⟩ := open_int Try.underlying32 (hval 3 32 v3 rfl rfl) h3
  clear hA0 hval0
  refine (walk W a0 len0 cap0 x0 w0 a1 w1 a2 w2 a3 w3).mono fun e W' ⟨he, bel⟩ => ?_
  subst he
  exact ⟨_, rfl, _, _, _, [], _, [], hW', trodAll_mk1 (shut_bool Try.underlying4 _), (trodAll_cons_mk (Below.trod laidOut (by kernel_rfl) (of_decide_eq_true (by kernel_rfl)) k0 bel lt0) (trodAll_cons_mk (shut_int Try.underlying5 w1) (trodAll_cons_mk (shut_int Try.underlying5 w2) (trodAll_cons_mk (shut_int Try.underlying32 w3) trodAll_mk0)))), rfl, bel.frame _, fun h => by cases h⟩

theorem over : Rows.pvqBackRow.holds Try.pinned (OpenSpec.ofChange Rows.pvqBackSpec) :=
  OpenClaim.holds_of_wide 5 Try.f5 rfl rfl rfl rfl rfl rfl rfl ⟨rfl, rfl, rfl, rfl, rfl⟩ rfl rfl rfl rfl rfl (by kernel_rfl) Try.func5 (by kernel_rfl)
    (of_decide_eq_true (by kernel_rfl)) (by unfold Func.isWrapper; first | (rw [if_pos (by decide +kernel)]; kernel_rfl) | (rw [if_neg (by decide +kernel)]; exact ⟨rfl, rfl⟩))
    (fun os started H enc _ => lifted os started H enc)

/-- The statement. -/
theorem proved : Rows.PvqBackSaid := over
#print axioms proved
end Go.Proofs.Ytcjdgcfblilneaa.pvqBack
