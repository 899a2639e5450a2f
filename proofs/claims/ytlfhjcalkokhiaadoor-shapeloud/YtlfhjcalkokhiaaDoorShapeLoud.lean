/-
  Proved: for any pulses and any band that is not silent, the power of the coefficients is off from how loud the band is by as many as it has, one, and a thousandth at most; each lies on the side of its pulse, and who has more is no less. Conditions: none beside the row's own (level's four steps read as the program's text lays them; the card ties it to the pruned copy).
-/
import Derived.Test.YtlfhjcalkokhiaaDoorCards
import Derived.Test.YtlfhjcalkokhiaaDoorTie
import Derived.Test.YtlfhjcalkokhiaaDoorSHK
import Derived.WalkKit
import Derived.ProofKit
import Derived.OpenShut
import Derived.ShutString
import Derived.ChangeOld
import Derived.Below
import Derived.Lay
import Derived.LaidOnce
import Derived.SevenTiedAt
namespace Go.Proofs.YtlfhjcalkokhiaaDoor.shapeLoud
open Go.ChangeShapes Go.WideShapes Go.ChangeAt Go.RowKit
open Go.ChangeMaps (open_string shut_string)
set_option linter.unusedVariables false

theorem own : ownKnob Tryd.prog.godebug = none := by kernel_rfl
theorem laidOut : laidOutB Tryd.prog = true := by kernel_rfl

theorem walkNo (w : World) (ht : ShTab w) (a : Option Addr) (len cap : Nat) (X : Nat → Int) (ml : len ≤ maxLen) (hI : IsInts w a len cap X) (c f : Int) (hno : pvOk len X = false ∨ pvF X len = 0) :
    Calls Tryd.prog 4 #[.slice a len cap, .int .u8 c, .int .u8 f] w fun e w' => e = .returned (.bool true) ∧ Below w.heap.size w w' := by
  have K1 := hid (rsize_any a len cap X ml w hI)
  have K0 := hid (shawake_any w ht)
  unfold maxLen at ml
  rcases (by cases hk : pvOk len X <;> simp_all : pvOk len X = false ∨ pvOk len X = true ∧ pvF X len = 0) with hp | ⟨hp, hz⟩
  · rw [hp] at K1
    generalize pvSz len X = s at *
    clear hI hno hp ht
    go_enter Tryd.func4, Tryd.ntmps4
    go_wp2_with (go_at_call 13; (with_reducible refine Calls.mono K1.out ?_); rintro e w1 ⟨rfl, rfl⟩)
    refine Calls.mono K0.out ?_
    rintro e w2 ⟨rfl, b2⟩
    go_wp2
    go_ret
    exact ⟨rfl, b2⟩
  · rw [pvSz, if_pos hp, hp, hz] at K1
    clear hI hno hp hz ht
    go_enter Tryd.func4, Tryd.ntmps4
    go_wp2_with (go_at_call 13; (with_reducible refine Calls.mono K1.out ?_); rintro e w1 ⟨rfl, rfl⟩)
    refine Calls.mono K0.out ?_
    rintro e w2 ⟨rfl, b2⟩
    go_wp2
    go_ret
    exact ⟨rfl, b2⟩
set_option maxRecDepth 100000 in
set_option maxHeartbeats 4000000 in
theorem walk (w : World) (ht : ShTab w) (a : Option Addr) (len cap : Nat) (X : Nat → Int) (hx : len ≤ maxLen ∧ IsInts w a len cap X) (c : Int) (wc : (Lit.int .u8 c).wf = true) (f : Int) (wf : (Lit.int .u8 f).wf = true) :
    Calls Tryd.prog 4 #[.slice a len cap, .int .u8 c, .int .u8 f] w fun e w' => e = .returned (.bool true) ∧ Below w.heap.size w w' := by
  by_cases hno : pvOk len X = false ∨ pvF X len = 0
  · exact walkNo w ht a len cap X hx.1 hx.2 c f hno
  have hp : pvOk len X = true := by cases hk : pvOk len X <;> simp_all
  have hk1 : 1 ≤ pvF X len := by omega
  have hc : 0 ≤ c ∧ c ≤ 255 := by simpa [Lit.wf, IntKind.min, IntKind.max, IntKind.signed, IntKind.bits] using wc
  have hf : 0 ≤ f ∧ f ≤ 255 := by simpa [Lit.wf, IntKind.min, IntKind.max, IntKind.signed, IntKind.bits] using wf
  obtain ⟨n1, n8, k24⟩ := pvOk_iff.1 hp
  obtain ⟨p, hpp⟩ : ∃ p : Int, 1 + c % 23 = p := ⟨_, rfl⟩
  obtain ⟨q, hqq⟩ : ∃ q : Int, f % 4 = q := ⟨_, rfl⟩
  have hin : ShIn len X p q := ⟨n1, n8, hk1, k24, by omega, by omega, by omega, by omega⟩
  have hL := hin.law
  have HL := hid hL
  have K0 := shawake_to w ht
  have K1 := hid (rsize_any a len cap X hx.1 w hx.2)
  rw [pvSz, if_pos hp, hp] at K1
  have K2 : Hid (∀ W, Below w.heap.size w W → Calls Tryd.prog 6 #[.slice a len cap, .int .i64 p, .int .i64 q] W (VPost len (shV len X p q) true W)) := fun W hW =>
    shape_values_yes a len cap X p q (shOk_iff.2 ⟨hp, by have := hin.c1; omega, hin.c23, hin.f0, hin.f3⟩) W (ht.below hW) (hx.2.below hW)
  have K3 := hid (fun W => rlamp_any p q W)
  have K4 : Hid (∀ a1 c1 W, Below w.heap.size w W → IsInts W a1 len c1 (shV len X p q) → Calls Tryd.prog 11 #[.slice a1 len c1] W fun e w' => e = .returned (.int .i64 (powF len (shV len X p q))) ∧ Below W.heap.size W w') := fun a1 c1 W hW h => shape_power a1 len c1 _ (by omega) W (ht.below hW) h
  obtain ⟨b, off, rfl, hcx⟩ := hx.2.cells (by omega)
  have HC := hid hcx
  have HP := hid hpp
  have HQ := hid hqq
  have B0 := hid (Below.refl w.heap.size w)
  have hk0 : (((pvF X len : Nat) : Int) == 0) = false := by simp; omega
  generalize powF len (shV len X p q) = pw at *
  generalize shV len X p q = V at *
  generalize ampF p q = A at *
  generalize pvF X len = k at *
  clear hno hp hk1 k24 hin hpp hqq hx ht hcx wc wf
  have n1' := hL.n1
  have a0 := hL.a0
  have a1 := hL.a1
  have up := hL.up
  have down := hL.down
  have pw0 := hL.p0
  have pw1 := hL.p1
  clear hL
  go_enter Tryd.func4, Tryd.ntmps4
  go_wp2_with (go_at_call 13; (with_reducible refine Calls.mono K1.out ?_); rintro e w1 ⟨rfl, rfl⟩)
  rw [HP.out, HQ.out]
  refine Calls.mono (K2.out _ B0.out) ?_
  rintro e w2 ⟨a2, c2, rfl, i2, b2, _⟩
  have B2 := hid b2
  have I2 := hid i2
  clear b2 i2 K2
  go_wp2_with (fail)
  refine Calls.mono (K3.out _) ?_
  rintro e w3 ⟨rfl, b3⟩
  have B3 := hid (below_then B2.out b3)
  have I3 := hid (I2.out.below b3)
  clear b3 I2 B2 K3
  go_wp2_with (fail)
  refine Calls.mono (K4.out _ _ _ B3.out I3.out) ?_
  rintro e w4 ⟨rfl, b4⟩
  have B4 := hid (below_then B3.out b4)
  have i4 := I3.out.below b4
  obtain ⟨b', off', rfl, hcv⟩ := i4.cells (by omega)
  have HV := hid hcv
  have BB := hid (Below.refl w4.heap.size w4)
  clear b4 i4 hcv I3 B3 K4
  go_wp2
  clear hk0 K1 up down pw0 pw1 a0 a1 hc hf n1
  go_loopw [16] (fun i wr => ∃ k : Nat, k ≤ len ∧ i = .int .i64 k ∧ Hid (Below w4.heap.size w4 wr)) (fun i _ => len - (intOf i).toNat)
  case atStart => exact ⟨0, Nat.zero_le _, rfl, BB.out⟩
  case round =>
    clear BB
    obtain ⟨i, hi, rfl, HW⟩ := hrel
    obtain ⟨w5, e5⟩ : ∃ w5, w5 = wr := ⟨_, rfl⟩
    subst e5
    by_cases hlt : i < len
    · have d1 := HC.out w5 (B4.out.trans (HW.out.mono B4.out.size)) i hlt
      have d2 := HV.out w5 HW.out i hlt
      have hs := HL.out.side i hlt
      have hxi := HL.out.x24 i hlt
      have hvi := HL.out.v26 i hlt
      have HMo := hid (HL.out.more i hlt)
      have BB := hid (Below.refl w5.heap.size w5)
      have HCi := hid (fun W (hW : Below w5.heap.size w5 W) => HC.out W (B4.out.trans ((below_then HW.out hW).mono B4.out.size)) i hlt)
      have HVi := hid (fun W (hW : Below w5.heap.size w5 W) => HV.out W (below_then HW.out hW) i hlt)
      generalize X i = x at *
      generalize V i = v at *
      rcases hs with ⟨s1, s2⟩ | ⟨s1, s2⟩ | ⟨s1, s2⟩
      all_goals
        go_wp2
        clear s1 s2
        go_loopw [17] (fun j wr => ∃ k : Nat, k ≤ len ∧ j = .int .i64 k ∧ Hid (Below w5.heap.size w5 wr)) (fun j _ => len - (intOf j).toNat)
        case atStart => exact ⟨0, Nat.zero_le _, rfl, BB.out⟩
        case round =>
          clear BB
          obtain ⟨j, hj, rfl, HW6⟩ := hrel
          obtain ⟨w6, e6⟩ : ∃ w6, w6 = wr := ⟨_, rfl⟩
          subst e6
          by_cases hlt2 : j < len
          · have hxj := HL.out.x24 j hlt2
            have hvj := HL.out.v26 j hlt2
            have hmo := HMo.out j hlt2
            have D1 := hid (fun W (hW : Below w6.heap.size w6 W) => HCi.out W (below_then HW6.out hW))
            have D2 := hid (fun W (hW : Below w6.heap.size w6 W) => HVi.out W (below_then HW6.out hW))
            have D3 := hid (fun W (hW : Below w6.heap.size w6 W) => HC.out W (B4.out.trans ((below_then HW.out (below_then HW6.out hW)).mono B4.out.size)) j hlt2)
            have D4 := hid (fun W (hW : Below w6.heap.size w6 W) => HV.out W (below_then HW.out (below_then HW6.out hW)) j hlt2)
            have KA : Hid (∀ z : Int, z.natAbs ≤ 67108864 → ∀ W, Below w6.heap.size w6 W → Calls Tryd.prog 15 #[.int .i64 z] W fun e w' => e = .returned (.int .i64 ((z.natAbs : Nat) : Int)) ∧ Below w6.heap.size w6 w') := fun z hz W hW =>
              (absR_any z W).mono fun e w' ⟨he, hb⟩ => ⟨by rw [he, absF_nat (by omega)], by rw [hb]; exact hW⟩
            have k1 := hid (KA.out x (by omega))
            have k2 := hid (KA.out (X j) (by omega))
            have k3 := hid (KA.out v (by omega))
            have k4 := hid (KA.out (V j) (by omega))
            clear KA
            generalize X j = xj at *
            generalize V j = vj at *
            generalize hx1 : ((x.natAbs : Nat) : Int) = ax at *
            generalize hx2 : ((xj.natAbs : Nat) : Int) = axj at *
            generalize hx3 : ((v.natAbs : Nat) : Int) = av at *
            generalize hx4 : ((vj.natAbs : Nat) : Int) = avj at *
            by_cases hle : ax ≤ axj
            · have hv : ¬ avj < av := by have := hmo (by omega); omega
              clear hmo hx1 hx2 hx3 hx4 hxi hvi hxj hvj
              go_wp2
              refine region_below (by kernel_rfl) (by kernel_rfl) ?_
              repeat (go_big_quiet_step (first
                | (intro hq; rfl)
                | (intro hq; rw [D1.out _ hq]; exact ⟨rfl, rfl⟩)
                | (intro hq; rw [D2.out _ hq]; exact ⟨rfl, rfl⟩)
                | (intro hq; rw [D3.out _ hq]; exact ⟨rfl, rfl⟩)
                | (intro hq; rw [D4.out _ hq]; exact ⟨rfl, rfl⟩)
                | (intro hq; go_at_call 15; (with_reducible exact k1.out _ hq))
                | (intro hq; go_at_call 15; (with_reducible exact k2.out _ hq))
                | (intro hq; go_at_call 15; (with_reducible exact k3.out _ hq))
                | (intro hq; go_at_call 15; (with_reducible exact k4.out _ hq))))
              refine wpQuiet_nil ?_
              intro w8 hw8
              go_wp2
              exact ⟨⟨j + 1, by omega, by go_num, below_then HW6.out hw8⟩, by simp [intOf]; omega⟩
            · have hle2 : decide (ax ≤ axj) = false := by simpa using hle
              clear hmo hx1 hx2 hx3 hx4 hxi hvi hxj hvj
              go_wp2
              refine region_below (by kernel_rfl) (by kernel_rfl) ?_
              repeat (go_big_quiet_step (first
                | (intro hq; rfl)
                | (intro hq; rw [D1.out _ hq]; exact ⟨rfl, rfl⟩)
                | (intro hq; rw [D2.out _ hq]; exact ⟨rfl, rfl⟩)
                | (intro hq; rw [D3.out _ hq]; exact ⟨rfl, rfl⟩)
                | (intro hq; rw [D4.out _ hq]; exact ⟨rfl, rfl⟩)
                | (intro hq; go_at_call 15; (with_reducible exact k1.out _ hq))
                | (intro hq; go_at_call 15; (with_reducible exact k2.out _ hq))
                | (intro hq; go_at_call 15; (with_reducible exact k3.out _ hq))
                | (intro hq; go_at_call 15; (with_reducible exact k4.out _ hq))))
              refine wpQuiet_nil ?_
              intro w8 hw8
              go_wp2
              exact ⟨⟨j + 1, by omega, by go_num, below_then HW6.out hw8⟩, by simp [intOf]; omega⟩
          · obtain rfl : j = len := by omega
            go_wp2
            exact ⟨⟨i + 1, by omega, by go_num, below_then HW.out HW6.out⟩, by simp [intOf]; omega⟩
    · obtain rfl : i = len := by omega
      go_wp2_with (fail)
      refine Calls.mono (K0.out _ (B4.out.trans (HW.out.mono B4.out.size))) ?_
      rintro e w8 ⟨rfl, b8⟩
      go_wp2
      go_ret
      exact ⟨rfl, b8⟩

set_option maxRecDepth 100000 in
theorem lifted (os : Os) (started : os.Started) (H : Type) (enc : TypeId × Value → H) :
    ReturnsInHanded {} Tryd.checked os 4 .any (fun w args => (Rows.shapeLoudSpec.pre enc Tryd.prog Tryd.f4 [] false w args ∧ laidMetH Tryd.prog Rows.shapeLoudRow.laid w) ∧ sizedMet enc Tryd.prog Tryd.f4 (OpenSpec.ofChange Rows.shapeLoudSpec) false w args)
      (Rows.shapeLoudSpec.post enc Tryd.prog Tryd.f4 false true false false) := by
  refine returnsInHanded_of_change_and (C := Tryd.checked) (X := fun w _ => laidMetH Tryd.prog Rows.shapeLoudRow.laid w) (fun _ _ _ hh h => h.of_heap hh) own started (by kernel_rfl) Tryd.func4
    (ChangeSpec.witness_shaped (enc := enc) (C := Tryd.checked) (os := os) (X := fun w _ => laidMetH Tryd.prog Rows.shapeLoudRow.laid w) false (World.laidAll Tryd.prog os Rows.shapeLoudRow.laid) #[.slice none 0 0, .int .u8 0, .int .u8 0] 8 (World.laidAll_os _ _ _)
      (World.shaped_of_ZipB (by kernel_rfl) (by kernel_rfl)) (by kernel_rfl) (by kernel_rfl) (by kernel_rfl)
      (by rw [MakeChecks.laidMetH_plain _ _ _ (by kernel_rfl)]; exact laidMet_laidAll _ (by kernel_rfl) (by kernel_rfl))) ?_
  intro W base args ds gs before hval0 hW _ _ hL _
  have hval : ∀ (j : Nat) t v, Tryd.f4.params[j]? = some t → args[j]? = some v → Value.okWide Tryd.prog W .any base t v := hval0
  have hW' := hW
  obtain ⟨p, q, hA0, hV, rfl, hfz, hnd⟩ := hW
  have hA : DataW.TrodAll enc Tryd.prog W 0 (fun _ => true) true Tryd.f4.params.toList args.toList ds p := hA0
  rw [Tryd.params4] at hA hval
  obtain ⟨v0, vs0, d0, ds0, p0, q0, hargs, rfl, rfl, h0, r0⟩ := trodAll_cons hA
  obtain ⟨v1, vs1, d1, ds1, p1, q1, rfl, rfl, rfl, h1, r1⟩ := trodAll_cons r0
  obtain ⟨v2, vs2, d2, ds2, p2, q2, rfl, rfl, rfl, h2, r2⟩ := trodAll_cons r1
  obtain ⟨rfl, rfl, rfl⟩ := trodAll_nil r2
  obtain rfl : args = #[v0, v1, v2] := by cases args; simp_all
  obtain ⟨rfl, rfl⟩ := trodVars_none hV
  obtain ⟨a0, len0, cap0, rfl⟩ := okWide_slice Tryd.underlying22 (hval 0 22 v0 rfl rfl)
  have k0 := h0
  have lt0 : ∀ x ∈ p0, x.block < W.heap.size := by obtain ⟨m, hm⟩ := k0; exact DataW.trod_lt m _ _ _ hm
  obtain ⟨x0, w0⟩ : ∃ X : Nat → Int, len0 ≤ maxLen ∧ IsInts W a0 len0 cap0 X := by
    obtain ⟨fuel, hf⟩ := h0
    exact open_isints Tryd.underlying22 Tryd.underlying3 (by kernel_rfl) hf
  obtain ⟨a1, rfl, rfl, rfl, w1⟩ := open_int Tryd.underlying5 (hval 1 5 v1 rfl rfl) h1
  obtain ⟨a2, rfl, rfl, rfl, w2⟩ := open_int Tryd.underlying5 (hval 2 5 v2 rfl rfl) h2
  clear hA0 hval0
  refine (walk W (ltab_of_laid (by kernel_rfl) hL (by simp [Rows.shapeLoudRow])) a0 len0 cap0 x0 w0 a1 w1 a2 w2).mono fun e W' ⟨he, bel⟩ => ?_
  subst he
  exact ⟨_, rfl, _, _, _, [], _, [], hW', trodAll_mk1 (shut_bool Tryd.underlying4 _), (trodAll_cons_mk (Below.trod laidOut (by kernel_rfl) (of_decide_eq_true (by kernel_rfl)) k0 bel lt0) (trodAll_cons_mk (shut_int Tryd.underlying5 w1) (trodAll_cons_mk (shut_int Tryd.underlying5 w2) trodAll_mk0))), rfl, bel.frame _, fun h => by cases h⟩

theorem over : Rows.shapeLoudRow.holds Tryd.pinned (OpenSpec.ofChange Rows.shapeLoudSpec) :=
  OpenClaim.holds_of_wide 4 Tryd.f4 rfl rfl rfl rfl rfl rfl rfl ⟨rfl, rfl, rfl, rfl, rfl⟩ rfl rfl rfl rfl rfl (by kernel_rfl) Tryd.func4 (by kernel_rfl)
    (of_decide_eq_true (by kernel_rfl)) (by unfold Func.isWrapper; first | (rw [if_pos (by decide +kernel)]; kernel_rfl) | (rw [if_neg (by decide +kernel)]; exact ⟨rfl, rfl⟩))
    (fun os started H enc _ => lifted os started H enc)

theorem plain (f : FuncId) (fn : Func) (hf : Tryd.pinned.checked.prog.funcNamed "splicer/splicerlaw17.ShapeLoud" = some f) (hfn : Tryd.pinned.checked.prog.funcs[f]? = some fn) :
    false = Tryd.pinned.checked.prog.looks [] ∧ ∀ (j : Nat) t, fn.params[j]? = some t → Tryd.pinned.checked.prog.wantsStandIn t = false := by
  obtain rfl : f = 4 := Option.some.inj ((show Tryd.prog.funcNamed "splicer/splicerlaw17.ShapeLoud" = some 4 by kernel_rfl).symm.trans hf) |>.symm
  obtain rfl : fn = Tryd.f4 := (Option.some.inj (Tryd.func4.symm.trans hfn)).symm
  refine ⟨by kernel_rfl, fun j t ht => ?_⟩
  rw [Tryd.params4] at ht
  have hm : t ∈ [22, 5, 5] := by simpa using Array.mem_of_getElem? ht
  have hall : ([22, 5, 5].all fun u => !Tryd.prog.wantsStandIn u) = true := by kernel_rfl
  exact (show Tryd.prog.wantsStandIn t = false by simpa using List.all_eq_true.1 hall t hm)

/-- The statement. -/
theorem proved : Rows.ShapeLoudCardSaid :=
  Claim7.holds_tied_plain_at .later [] _ _ _ _ over (fun _ h => by cases h) (by kernel_rfl) (fun _ h => by cases h) shapeLoud_row_tie rfl ⟨rfl, rfl⟩ (by kernel_rfl) rfl plain (by kernel_rfl)
#print axioms proved
end Go.Proofs.YtlfhjcalkokhiaaDoor.shapeLoud
