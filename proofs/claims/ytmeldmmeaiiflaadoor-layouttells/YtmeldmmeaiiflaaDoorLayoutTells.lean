/-
  Proved: for any number, any list of ints and any list of lists of ints, a band's width and beginning, a place's band, the numbers cut into bands and joined again are the document's, or none where the document has none (lists longer than 70, 15 and 10: the law answers by the chapter's example alone). Conditions: none beside the row's own (the bands' widths read as the program's text lays them; the card ties it to the pruned copy).
-/
import Derived.Test.YtmeldmmeaiiflaaDoorCards
import Derived.Test.YtmeldmmeaiiflaaDoorTie
import Derived.Test.YtmeldmmeaiiflaaDoorLYX
import Derived.Test.YtmeldmmeaiiflaaDoorOL
import Derived.WalkKit
import Derived.ProofKit
import Derived.OpenShut
import Derived.ShutString
import Derived.ChangeOld
import Derived.Below
import Derived.Lay
import Derived.LaidOnce
import Derived.SevenTiedAt
namespace Go.Proofs.YtmeldmmeaiiflaaDoor.layoutTells
open Go.ChangeShapes Go.WideShapes Go.ChangeAt Go.RowKit
open Go.ChangeMaps (open_string shut_string)
set_option linter.unusedVariables false

theorem own : ownKnob Tryd.prog.godebug = none := by kernel_rfl
theorem laidOut : laidOutB Tryd.prog = true := by kernel_rfl

/-- A list of m numbers; m lists. -/
def IPost (m : Nat) (G : Nat → Int) (w : World) (e : Ending) (w' : World) : Prop := ∃ a cap, e = .returned (.slice a m cap) ∧ IsInts w' a m cap G ∧ Below w.heap.size w w'
def CPost (m : Nat) (N : Nat → Nat) (Y : Nat → Nat → Int) (w : World) (e : Ending) (w' : World) : Prop := ∃ a cap, e = .returned (.slice a m cap) ∧ IsListsV w' a m cap N Y ∧ Below w.heap.size w w'
theorem walkBig (w : World) (hw : WTab w) (b : Int) (a a' : Option Addr) (len cap len' cap' : Nat) (ml : len ≤ maxLen) (ml' : len' ≤ maxLen) (h : 70 < len ∨ 15 < len') :
    Calls Tryd.prog 3 #[.int .i64 b, .slice a len cap, .slice a' len' cap'] w fun e w' => e = .returned (.bool true) ∧ Below w.heap.size w w' := by
  unfold maxLen at ml ml'
  have k0 := lyawake_any w hw
  clear hw
  by_cases h1 : 70 < len
  · have hi : decide ((len : Int) > 70) = true := decide_eq_true (by omega)
    clear h
    go_enter Tryd.func3, Tryd.ntmps3
    go_wp2_with (go_at_call 5; refine k0.mono ?_; rintro e w1 ⟨rfl, b1⟩)
    go_ret
    exact ⟨rfl, b1⟩
  · have h2 : 15 < len' := by omega
    have hi : decide ((len : Int) > 70) = false := decide_eq_false (by omega)
    have hi' : decide ((len' : Int) > 15) = true := decide_eq_true (by omega)
    clear h
    go_enter Tryd.func3, Tryd.ntmps3
    go_wp2_with (go_at_call 5; refine k0.mono ?_; rintro e w1 ⟨rfl, b1⟩)
    go_ret
    exact ⟨rfl, b1⟩
set_option maxRecDepth 100000 in
theorem walkMain (w : World) (hw : WTab w) (b : Int) (a a' : Option Addr) (len cap len' cap' : Nat) (ml : len ≤ 70) (ml' : len' ≤ 15) (N : Nat → Nat) (Y : Nat → Nat → Int) (hN : ∀ i, i < len' → N i ≤ maxLen) (hl : IsListsV w a' len' cap' N Y)
    (m : Nat) (NC : Nat → Nat) (YC : Nat → Nat → Int) (hm : m ≤ 64) (hNC : ∀ i, i < m → NC i ≤ 64) (m' : Nat) (G : Nat → Int) (hm' : m' ≤ 64)
    (hC : ∀ W, Below w.heap.size w W → Calls Tryd.prog 13 #[.slice a len cap] W (CPost m NC YC W))
    (hC' : ∀ W, Below w.heap.size w W → Calls Tryd.prog 14 #[.slice a len cap] W (CPost m NC YC W))
    (hJ : (∀ i, i < len' → N i ≤ 10) → ∀ W, Below w.heap.size w W → Calls Tryd.prog 16 #[.slice a' len' cap'] W (IPost m' G W))
    (hJ' : (∀ i, i < len' → N i ≤ 10) → ∀ W, Below w.heap.size w W → Calls Tryd.prog 17 #[.slice a' len' cap'] W (IPost m' G W)) :
    Calls Tryd.prog 3 #[.int .i64 b, .slice a len cap, .slice a' len' cap'] w fun e w' => e = .returned (.bool true) ∧ Below w.heap.size w w' := by
  have k0 := lyawake_to hw
  have k1 := width_to hw
  have k2 := start_to hw
  have k3 := of_to hw
  have hi : decide ((len : Int) > 70) = false := decide_eq_false (by omega)
  have hi' : decide ((len' : Int) > 15) = false := decide_eq_false (by omega)
  have HB0 := hid (Below.refl w.heap.size w)
  have HC := hid hC
  have HC' := hid hC'
  have HJ := hid hJ
  have HJ' := hid hJ'
  have HN := hid hN
  have HLL := hid hl
  have HM := hid (And.intro hm (And.intro hNC hm'))
  clear hC hC' hJ hJ' hN hl hm hNC hm' hw
  go_enter Tryd.func3, Tryd.ntmps3
  go_wp2
  go_loopw [7] (fun i wr => ∃ k : Nat, k ≤ len' ∧ i = .int .i64 k ∧ Hid (Below w.heap.size w wr) ∧ Hid (∀ j, j < k → N j ≤ 10)) (fun i _ => len' - (intOf i).toNat)
  case atStart => exact ⟨0, Nat.zero_le _, rfl, HB0.out, fun j hj => by omega⟩
  case round =>
    clear HB0
    obtain ⟨k, hk, rfl, HI, HA⟩ := hrel
    by_cases hlt : k < len'
    · obtain ⟨lb, lo, rfl, _, hcc⟩ := HLL.out.get (by omega)
      obtain ⟨ai, ci, c1, _⟩ := hcc k hlt
      have hcell := c1 wr HI.out
      have hmx := HN.out k hlt
      unfold maxLen at hmx
      clear hcc c1
      by_cases h10 : N k ≤ 10
      · have hd : decide ((N k : Int) > 10) = false := decide_eq_false (by omega)
        generalize hnk : N k = nk at hcell hmx h10 hd
        have HNK := hid hnk
        clear hnk
        go_wp2
        exact ⟨⟨k + 1, by omega, by go_num, HI.out, fun j hj => by
          by_cases e : j = k
          · subst e; rw [HNK.out]; exact h10
          · exact HA.out j (by omega)⟩, by simp [intOf]; omega⟩
      · have hd : decide ((N k : Int) > 10) = true := decide_eq_true (by omega)
        generalize N k = nk at hcell hmx h10 hd
        go_wp2_with (go_at_call 5; refine (k0.out _ HI.out).mono ?_; rintro e w1 ⟨rfl, b1⟩)
        go_ret
        exact ⟨rfl, b1⟩
    · obtain rfl : k = len' := by omega
      have HJ1 := hid (HJ.out HA.out)
      have HJ1' := hid (HJ'.out HA.out)
      clear HJ HJ' HLL HN
      go_wp2_with (fail)
      refine Calls.mono (k1.out b _ HI.out) ?_
      rintro e w1 ⟨rfl, b1⟩
      have B1 := hid b1
      clear b1 k1 HI
      go_wp2_with (fail)
      refine Calls.mono (rwidth_any b w1) ?_
      rintro e w2 ⟨rfl, rfl⟩
      go_wp2_with (fail)
      refine Calls.mono (k2.out b _ B1.out) ?_
      rintro e w3 ⟨rfl, b3⟩
      have B3 := hid b3
      clear b3 k2 B1
      go_wp2_with (fail)
      refine Calls.mono (rstart_any b w3) ?_
      rintro e w4 ⟨rfl, rfl⟩
      go_wp2_with (fail)
      refine Calls.mono (k3.out b _ B3.out) ?_
      rintro e w5 ⟨rfl, b5⟩
      have B5 := hid b5
      clear b5 k3 B3
      go_wp2_with (fail)
      refine Calls.mono (rof_any b w5) ?_
      rintro e w6 ⟨rfl, rfl⟩
      go_wp2_with (fail)
      refine Calls.mono (HC.out _ B5.out) ?_
      rintro e w7 ⟨a7, c7, rfl, h7, b7⟩
      have H7 := hid h7
      have B7 := hid (below_then B5.out b7)
      clear h7 b7 HC B5
      go_wp2_with (fail)
      refine Calls.mono (HC'.out _ B7.out) ?_
      rintro e w8 ⟨a8, c8, rfl, h8, b8⟩
      have K8 := hid (sameall_yes a7 a8 m c7 c8 NC YC HM.out.1 HM.out.2.1 w8 (H7.out.below b8) h8)
      have B8 := hid (below_then B7.out b8)
      clear h8 b8 HC' B7 H7
      go_wp2_with (fail)
      refine Calls.mono K8.out ?_
      rintro e w9 ⟨rfl, b9⟩
      have B9 := hid (below_then B8.out b9)
      clear b9 B8 K8
      go_wp2_with (fail)
      refine Calls.mono (HJ1.out _ B9.out) ?_
      rintro e v1 ⟨a1, c1, rfl, h1, b1⟩
      have H1 := hid h1
      have D1 := hid (below_then B9.out b1)
      clear h1 b1 HJ1 B9
      go_wp2_with (fail)
      refine Calls.mono (HJ1'.out _ D1.out) ?_
      rintro e v2 ⟨a2, c2, rfl, h2, b2⟩
      have K2 := hid (same_yes a1 a2 m' c1 c2 G HM.out.2.2 v2 (H1.out.below b2) h2)
      have D2 := hid (below_then D1.out b2)
      clear h2 b2 HJ1' D1 H1
      go_wp2_with (fail)
      refine Calls.mono K2.out ?_
      rintro e v3 ⟨rfl, b3⟩
      have D3 := hid (below_then D2.out b3)
      clear b3 D2 K2
      go_wp2_with (fail)
      refine Calls.mono (k0.out _ D3.out) ?_
      rintro e v4 ⟨rfl, b4⟩
      go_wp2
      go_ret
      exact ⟨rfl, b4⟩
theorem walk (w : World) (hw : WTab w) (b : Int) (wb : (Lit.int .i64 b).wf = true) (a : Option Addr) (len cap : Nat) (X : Nat → Int) (hx : len ≤ maxLen ∧ IsInts w a len cap X)
    (a' : Option Addr) (len' cap' : Nat) (N : Nat → Nat) (Y : Nat → Nat → Int) (hl : len' ≤ maxLen ∧ (∀ i, i < len' → N i ≤ maxLen) ∧ IsListsV w a' len' cap' N Y) :
    Calls Tryd.prog 3 #[.int .i64 b, .slice a len cap, .slice a' len' cap'] w fun e w' => e = .returned (.bool true) ∧ Below w.heap.size w w' := by
  by_cases hbig : 70 < len ∨ 15 < len'
  · exact walkBig w hw b a a' len cap len' cap' hx.1 hl.1 hbig
  obtain ⟨m, NC, YC, hm, hNC, hC, hC'⟩ : ∃ (m : Nat) (NC : Nat → Nat) (YC : Nat → Nat → Int), m ≤ 64 ∧ (∀ i, i < m → NC i ≤ 64) ∧
      (∀ W, Below w.heap.size w W → Calls Tryd.prog 13 #[.slice a len cap] W (CPost m NC YC W)) ∧ (∀ W, Below w.heap.size w W → Calls Tryd.prog 14 #[.slice a len cap] W (CPost m NC YC W)) := by
    by_cases h : len = 64
    · subst h
      refine ⟨13, widN, cutF X, by omega, fun i _ => by have := widN_in i; omega, fun W hb => ?_, fun W hb => ?_⟩
      · exact cut_yes a cap X W (hw.below hb) (hx.2.below hb)
      · exact rcut_yes a cap X W (hx.2.below hb)
    · refine ⟨0, fun _ => 0, fun _ _ => 0, by omega, fun i hi => by omega, fun W hb => ?_, fun W hb => ?_⟩
      · exact (cut_no a len cap hx.1 h W).mono fun e w' ⟨he, hb⟩ => ⟨none, 0, he, .inl rfl, hb⟩
      · exact (rcut_no a len cap hx.1 h W).mono fun e w' ⟨he, hb⟩ => ⟨none, 0, he, .inl rfl, by rw [hb]; exact Below.refl _ _⟩
  obtain ⟨m', G, hm', hJ, hJ'⟩ : ∃ (m' : Nat) (G : Nat → Int), m' ≤ 64 ∧
      ((∀ i, i < len' → N i ≤ 10) → ∀ W, Below w.heap.size w W → Calls Tryd.prog 16 #[.slice a' len' cap'] W (IPost m' G W)) ∧ ((∀ i, i < len' → N i ≤ 10) → ∀ W, Below w.heap.size w W → Calls Tryd.prog 17 #[.slice a' len' cap'] W (IPost m' G W)) := by
    by_cases h : len' = 13
    · subst h
      by_cases hg : ∀ i, i < 13 → N i = widN i
      · refine ⟨64, joinF Y, by omega, fun h10 W hb => ?_, fun h10 W hb => ?_⟩
        · refine (join_any a' cap' N Y (fun i hi => by have := h10 i hi; omega) W (hw.below hb) (hl.2.2.below hb)).mono ?_
          rintro e w' ⟨(⟨_, a1, c1, rfl, h1⟩ | ⟨⟨i, hi, hne⟩, _⟩), h2⟩
          · exact ⟨a1, c1, rfl, h1, h2⟩
          · exact (hne (hg i hi)).elim
        · refine (rjoin_any true 13 (Nat.le_refl _) a' cap' N Y hg (fun _ => rfl) (fun h => by cases h) W (hl.2.2.below hb)).mono ?_
          rintro e w' ⟨h1, h2⟩
          rw [if_pos rfl] at h1
          obtain ⟨a1, c1, rfl, h1⟩ := h1
          exact ⟨a1, c1, rfl, h1, h2⟩
      · obtain ⟨b1, hb1, hlow, hne⟩ : ∃ b1, b1 < 13 ∧ (∀ i, i < b1 → N i = widN i) ∧ N b1 ≠ widN b1 := by
          refine Decidable.byContradiction fun hno => hg ?_
          intro i
          induction i using Nat.strongRecOn with
          | _ i ih => exact fun hi => Decidable.byContradiction fun hx => hno ⟨i, hi, fun j hj => ih j hj (by omega), hx⟩
        refine ⟨0, fun _ => 0, by omega, fun h10 W hb => ?_, fun h10 W hb => ?_⟩
        · refine (join_any a' cap' N Y (fun i hi => by have := h10 i hi; omega) W (hw.below hb) (hl.2.2.below hb)).mono ?_
          rintro e w' ⟨(⟨hall, _⟩ | ⟨_, rfl⟩), h2⟩
          · exact (hne (hall b1 hb1)).elim
          · exact ⟨none, 0, rfl, .inl rfl, h2⟩
        · refine (rjoin_any false b1 (by omega) a' cap' N Y hlow (fun h => by cases h) (fun _ => ⟨hb1, hne, hl.2.1 b1 hb1⟩) W (hl.2.2.below hb)).mono ?_
          rintro e w' ⟨h1, h2⟩
          simp only [Bool.false_eq_true, if_false] at h1
          exact ⟨none, 0, h1, .inl rfl, h2⟩
    · refine ⟨0, fun _ => 0, by omega, fun h10 W hb => ?_, fun h10 W hb => ?_⟩
      · exact (join_no a' len' cap' hl.1 h W).mono fun e w' ⟨he, hb⟩ => ⟨none, 0, he, .inl rfl, hb⟩
      · exact (rjoin_no a' len' cap' hl.1 h W).mono fun e w' ⟨he, hb⟩ => ⟨none, 0, he, .inl rfl, by rw [hb]; exact Below.refl _ _⟩
  exact walkMain w hw b a a' len cap len' cap' (by omega) (by omega) N Y hl.2.1 hl.2.2 m NC YC hm hNC m' G hm' hC hC' hJ hJ'

set_option maxRecDepth 100000 in
theorem lifted (os : Os) (started : os.Started) (H : Type) (enc : TypeId × Value → H) :
    ReturnsInHanded {} Tryd.checked os 3 .any (fun w args => (Rows.layoutTellsSpec.pre enc Tryd.prog Tryd.f3 [] false w args ∧ laidMetH Tryd.prog Rows.layoutTellsRow.laid w) ∧ sizedMet enc Tryd.prog Tryd.f3 (OpenSpec.ofChange Rows.layoutTellsSpec) false w args)
      (Rows.layoutTellsSpec.post enc Tryd.prog Tryd.f3 false true false false) := by
  refine returnsInHanded_of_change_and (C := Tryd.checked) (X := fun w _ => laidMetH Tryd.prog Rows.layoutTellsRow.laid w) (fun _ _ _ hh h => h.of_heap hh) own started (by kernel_rfl) Tryd.func3
    (ChangeSpec.witness_shaped (enc := enc) (C := Tryd.checked) (os := os) (X := fun w _ => laidMetH Tryd.prog Rows.layoutTellsRow.laid w) false (World.laidAll Tryd.prog os Rows.layoutTellsRow.laid) #[.int .i64 0, .slice none 0 0, .slice none 0 0] 8 (World.laidAll_os _ _ _)
      (World.shaped_of_ZipB (by kernel_rfl) (by kernel_rfl)) (by kernel_rfl) (by kernel_rfl) (by kernel_rfl)
      (by rw [MakeChecks.laidMetH_plain _ _ _ (by kernel_rfl)]; exact laidMet_laidAll _ (by kernel_rfl) (by kernel_rfl))) ?_
  intro W base args ds gs before hval0 hW _ _ hL _
  have hval : ∀ (j : Nat) t v, Tryd.f3.params[j]? = some t → args[j]? = some v → Value.okWide Tryd.prog W .any base t v := hval0
  have hW' := hW
  obtain ⟨p, q, hA0, hV, rfl, hfz, hnd⟩ := hW
  have hA : DataW.TrodAll enc Tryd.prog W 0 (fun _ => true) true Tryd.f3.params.toList args.toList ds p := hA0
  rw [Tryd.params3] at hA hval
  obtain ⟨v0, vs0, d0, ds0, p0, q0, hargs, rfl, rfl, h0, r0⟩ := trodAll_cons hA
  obtain ⟨v1, vs1, d1, ds1, p1, q1, rfl, rfl, rfl, h1, r1⟩ := trodAll_cons r0
  obtain ⟨v2, vs2, d2, ds2, p2, q2, rfl, rfl, rfl, h2, r2⟩ := trodAll_cons r1
  obtain ⟨rfl, rfl, rfl⟩ := trodAll_nil r2
  obtain rfl : args = #[v0, v1, v2] := by cases args; simp_all
  obtain ⟨rfl, rfl⟩ := trodVars_none hV
  obtain ⟨a0, rfl, rfl, rfl, w0⟩ := open_int Tryd.underlying3 (hval 0 3 v0 rfl rfl) h0
  obtain ⟨a1, len1, cap1, rfl⟩ := okWide_slice Tryd.underlying22 (hval 1 22 v1 rfl rfl)
  have k1 := h1
  have lt1 : ∀ x ∈ p1, x.block < W.heap.size := by obtain ⟨m, hm⟩ := k1; exact DataW.trod_lt m _ _ _ hm
  obtain ⟨x1, w1⟩ : ∃ X : Nat → Int, len1 ≤ maxLen ∧ IsInts W a1 len1 cap1 X := by
    obtain ⟨fuel, hf⟩ := h1
    exact open_isints Tryd.underlying22 Tryd.underlying3 (by kernel_rfl) hf
  obtain ⟨a2, len2, cap2, rfl⟩ := okWide_slice Tryd.underlying23 (hval 2 23 v2 rfl rfl)
  have k2 := h2
  have lt2 : ∀ x ∈ p2, x.block < W.heap.size := by obtain ⟨m, hm⟩ := k2; exact DataW.trod_lt m _ _ _ hm
  obtain ⟨n2, x2, w2⟩ : ∃ (N : Nat → Nat) (Y : Nat → Nat → Int), len2 ≤ maxLen ∧ (∀ i, i < len2 → N i ≤ maxLen) ∧ IsListsV W a2 len2 cap2 N Y := by
    obtain ⟨fuel, hf⟩ := h2
    exact open_islists Tryd.underlying23 Tryd.underlying22 Tryd.underlying3 (by kernel_rfl) (by kernel_rfl) hf
  clear hA0 hval0
  refine (walk W (wtab_of_laid (by kernel_rfl) hL (by simp [Rows.layoutTellsRow])) a0 w0 a1 len1 cap1 x1 w1 a2 len2 cap2 n2 x2 w2).mono fun e W' ⟨he, bel⟩ => ?_
  subst he
  exact ⟨_, rfl, _, _, _, [], _, [], hW', trodAll_mk1 (shut_bool Tryd.underlying4 _), (trodAll_cons_mk (shut_int Tryd.underlying3 w0) (trodAll_cons_mk (Below.trod laidOut (by kernel_rfl) (of_decide_eq_true (by kernel_rfl)) k1 bel lt1) (trodAll_cons_mk (Below.trod laidOut (by kernel_rfl) (of_decide_eq_true (by kernel_rfl)) k2 bel lt2) trodAll_mk0))), rfl, bel.frame _, fun h => by cases h⟩

theorem over : Rows.layoutTellsRow.holds Tryd.pinned (OpenSpec.ofChange Rows.layoutTellsSpec) :=
  OpenClaim.holds_of_wide 3 Tryd.f3 rfl rfl rfl rfl rfl rfl rfl ⟨rfl, rfl, rfl, rfl, rfl⟩ rfl rfl rfl rfl rfl (by kernel_rfl) Tryd.func3 (by kernel_rfl)
    (of_decide_eq_true (by kernel_rfl)) (by unfold Func.isWrapper; first | (rw [if_pos (by decide +kernel)]; kernel_rfl) | (rw [if_neg (by decide +kernel)]; exact ⟨rfl, rfl⟩))
    (fun os started H enc _ => lifted os started H enc)

theorem plain (f : FuncId) (fn : Func) (hf : Tryd.pinned.checked.prog.funcNamed "splicer/splicerlaw13.LayoutTells" = some f) (hfn : Tryd.pinned.checked.prog.funcs[f]? = some fn) :
    false = Tryd.pinned.checked.prog.looks [] ∧ ∀ (j : Nat) t, fn.params[j]? = some t → Tryd.pinned.checked.prog.wantsStandIn t = false := by
  obtain rfl : f = 3 := Option.some.inj ((show Tryd.prog.funcNamed "splicer/splicerlaw13.LayoutTells" = some 3 by kernel_rfl).symm.trans hf) |>.symm
  obtain rfl : fn = Tryd.f3 := (Option.some.inj (Tryd.func3.symm.trans hfn)).symm
  refine ⟨by kernel_rfl, fun j t ht => ?_⟩
  rw [Tryd.params3] at ht
  have hm : t ∈ [3, 22, 23] := by simpa using Array.mem_of_getElem? ht
  have hall : ([3, 22, 23].all fun u => !Tryd.prog.wantsStandIn u) = true := by kernel_rfl
  exact (show Tryd.prog.wantsStandIn t = false by simpa using List.all_eq_true.1 hall t hm)

/-- The statement. -/
theorem proved : Rows.LayoutTellsCardSaid :=
  Claim7.holds_tied_plain_at .later [] _ _ _ _ over (fun _ h => by cases h) (by kernel_rfl) (fun _ h => by cases h) layoutTells_row_tie rfl ⟨rfl, rfl⟩ (by kernel_rfl) rfl plain (by kernel_rfl)
#print axioms proved
end Go.Proofs.YtmeldmmeaiiflaaDoor.layoutTells
