/-
  Proved: for any 24 samples (of 16 bits), folded into two short blocks that meet, what both leave where they meet is the samples again, each off by 3 at most. Conditions: none beside the row's own (the slope's eight numbers read as the program's text lays them; the card ties it to the pruned copy).
-/
import Derived.Test.YtjeglfhdgabdoaaDoorCards
import Derived.Test.YtjeglfhdgabdoaaDoorTie
import Derived.Test.YtjeglfhdgabdoaaDoorWK
import Derived.WalkKit
import Derived.ProofKit
import Derived.OpenShut
import Derived.ShutString
import Derived.ChangeOld
import Derived.Below
import Derived.Lay
import Derived.LaidOnce
import Derived.SevenTiedAt
namespace Go.Proofs.YtjeglfhdgabdoaaDoor.windowMeets
open Go.ChangeShapes Go.WideShapes Go.ChangeAt Go.RowKit
open Go.ChangeMaps (open_string shut_string)
set_option linter.unusedVariables false

theorem own : ownKnob Tryd.prog.godebug = none := by kernel_rfl
theorem laidOut : laidOutB Tryd.prog = true := by kernel_rfl

theorem walkAll (w : World) (ht : STab w) (X : Nat → Int) (hb : ∀ i, -32768 ≤ X i ∧ X i ≤ 32767) :
    Calls Tryd.prog 5 #[.agg (Array.ofFn (n := 24) fun i => Value.int .i16 (X i))] w fun e w' => e = .returned (.bool true) ∧ Below w.heap.size w w' := by
  obtain ⟨i0, hi, hz0, hz1, hz2⟩ := infoI
  have HI : Hid (Tryd.prog.info? 3 = some i0) := hi
  obtain ⟨cs, hcs⟩ : ∃ cs, cs = Array.ofFn (n := 24) fun i => Value.int .i16 (X i) := ⟨_, rfl⟩
  have hw1 := al_new w (.cells cs 34)
  have HC : Hid (∀ W, Below (w.alloc (.cells cs 34)).heap.size (w.alloc (.cells cs 34)) W → ∀ i, i < 24 → W.cell? ⟨w.heap.size, i, none⟩ = some (.int .i16 (X i))) := fun W hW i hi => by
    rw [hW.cell (p := ⟨w.heap.size, i, none⟩) (show w.heap.size < _ by rw [al_size]; omega), cell_of_row _ _ i _ _ _ hw1, hcs]
    simp [hi]
  have HBW : Hid (Below w.heap.size w (w.alloc (.cells cs 34))) := (Below.refl _ w).alloc (Nat.le_refl _) _
  have HX := hid hb
  have HT := hid ht
  rw [← hcs]
  clear hcs hw1 hb ht hi
  go_enter Tryd.func5, Tryd.ntmps5
  go_wp2
  generalize w.alloc (.cells cs 34) = W0 at HC HBW ⊢
  have HT0 : Hid (STab W0) := HT.out.below HBW.out
  obtain ⟨B, hB⟩ : ∃ B, B = W0.heap.size := ⟨_, rfl⟩
  rw [← hB] at HC
  have HB := hid hB
  clear hB HT
  obtain ⟨s0, hs0⟩ : ∃ s0, s0 = w.heap.size := ⟨_, rfl⟩
  rw [← hs0] at HBW
  have HS0 := hid hs0
  clear hs0
  generalize w.heap.size = p at HC ⊢
  go_loopw [3, 4] (fun o i wr => ∃ k : Nat, k ≤ 24 ∧ i = .int .i64 k ∧ Hid (wr.ownsRow B 3 1 o k (intL k X)) ∧ Hid (Below B W0 wr) ∧ Hid (B ≤ wr.heap.size)) (fun _ i _ => 24 - (intOf i).toNat)
  case atStart => exact ⟨0, by omega, rfl, World.ownsRow_nil _ _ _ _, by rw [HB.out]; exact Below.refl _ _, by rw [HB.out]; exact Nat.le_refl _⟩
  case round =>
    obtain ⟨k, hk, rfl, HO, HW, HZ⟩ := hrel
    by_cases hlt : k < 24
    · have hck := HC.out _ HW.out k hlt
      have hbx := HX.out k
      obtain ⟨c, hc⟩ : ∃ c, c = X k := ⟨_, rfl⟩
      rw [← hc] at hck hbx
      have HCC := hid hc
      have hwr : IntKind.i64.wrap c = c := by
        simp [IntKind.wrap, IntKind.signed, IntKind.bits]
        omega
      have hwr2 : wrap64 c = c := wwr_in (by omega)
      clear hc hbx
      have HA : Hid ((wr.alloc (.cells #[.int .i64 c] 3)).ownsRow B 3 1 u3 k (intL k X)) := HO.out.alloc _
      have HS : Hid (B ≤ (wr.alloc (.cells #[.int .i64 c] 3)).heap.size) := Nat.le_trans HZ.out (by simp)
      go_wp2_with (at_builtin; refine wpList_append_lies _ rfl _ _ _ rfl B 3 i0 (.int .i64 0) 1 8 Tryd.underlying22 HI.out hz0 hz1 hz2 rfl (by omega) _ _ _ rfl HA.out ⟨wr.heap.size, 0, none⟩ 1 1 [.int .i64 c] rfl rfl (World.news_of_block (cs := #[.int .i64 c]) (heap_alloc_new wr _)) (by intro u hu; simp at hu; subst hu; rfl) (by omega) (by unfold maxLen; omega) (by omega) HS.out _ rfl ?_)
      intro gg cap1 w4 hown hgr _ _
      obtain ⟨o1, o2, o3⟩ := oi_step HO.out HW.out HZ.out HCC.out hown hgr
      have O1 := hid o1
      have O2 := hid o2
      have O3 := hid o3
      clear hown hgr o1 o2 o3 HA HS
      go_wp2
      exact ⟨⟨k + 1, by omega, by go_num, O1, O2, O3⟩, by simp [intOf]; omega⟩
    · obtain rfl : k = 24 := by omega
      obtain ⟨a1, c1, rfl, i1⟩ := own_ints HO.out
      obtain ⟨b, off, rfl, hcl⟩ := i1.cells (by omega)
      have hcap : 24 ≤ c1 := by
        rcases i1 with h | ⟨_, _, _, _, h, _, _⟩
        · omega
        · exact h
      have hcap2 : c1 ≤ maxLen := by
        rcases i1 with h | ⟨_, _, _, _, _, h, _⟩
        · omega
        · exact h
      have hbl : b < wr.heap.size := by
        rcases i1 with h | ⟨_, _, e, h, _, _, _⟩
        · omega
        · cases e; exact h
      have I1 : ∀ W, Below wr.heap.size wr W → IsInts W (some ⟨b, off, none⟩) 16 c1 X := fun W hW => .inr ⟨b, off, rfl, Nat.lt_of_lt_of_le hbl hW.size, by omega, hcap2, fun i hi => hcl W hW i (by omega)⟩
      have I2 : ∀ W, Below wr.heap.size wr W → IsInts W (some ⟨b, off + 8, none⟩) 16 (c1 - 8) (fun i => X (8 + i)) := fun W hW => .inr ⟨b, off + 8, rfl, Nat.lt_of_lt_of_le hbl hW.size, by omega, by omega, fun i hi => by rw [Nat.add_assoc]; exact hcl W hW (8 + i) (by omega)⟩
      have T1 : ∀ W, Below wr.heap.size wr W → STab W := fun W hW => HT0.out.below (by rw [← HB.out]; exact HW.out.trans (hW.mono HZ.out))
      have K1 : Hid (∀ W, Below wr.heap.size wr W → Calls Tryd.prog 9 #[.slice (some ⟨b, off, none⟩) 16 c1] W (FPost 8 (foldF 8 X) W)) := fun W hW =>
        fold_yes 8 16 (.inl rfl) rfl _ c1 X (fun i _ => by have := HX.out i; omega) W (T1 W hW) (I1 W hW)
      have K2 : Hid (∀ W, Below wr.heap.size wr W → Calls Tryd.prog 9 #[.slice (some ⟨b, off + 8, none⟩) 16 (c1 - 8)] W (FPost 8 (foldF 8 fun i => X (8 + i)) W)) := fun W hW =>
        fold_yes 8 16 (.inl rfl) rfl _ (c1 - 8) (fun i => X (8 + i)) (fun i _ => by have := HX.out (8 + i); show -16777216 ≤ X (8 + i) ∧ X (8 + i) ≤ 16777216; omega) W (T1 W hW) (I2 W hW)
      have HCL := hid hcl
      have HT1 := hid T1
      have b0 : Below wr.heap.size wr wr.drew := (Below.refl _ _).drew
      clear hcl i1 I1 I2 T1 HO HC
      go_wp2
      go_region_with (first
        | (go_at_call 9; (with_reducible refine (K1.out _ b0).mono ?_); rintro e w2 ⟨ra, rfl, a2, b2, _⟩; have b3 := below_then b0 b2; have J2 := hid (a2.ints (by decide)); clear a2)
        | (go_at_call 9; (with_reducible refine (K2.out _ b3).mono ?_); rintro e w4 ⟨rb, rfl, a4, b4, _⟩; have b5 := below_then b3 b4; have J4 := hid (a4.ints (by decide)); have J3 := hid (J2.out.below b4); clear a4 b4))
      all_goals
        have F1 : Fit30 (foldF 8 X) 8 := fun i hi => by
          have := fold_bd (n := 8) (X := X) (B := 32768) (.inl rfl) (by omega) (fun j _ => by have := HX.out j; omega) hi
          omega
        have F2 : Fit30 (foldF 8 fun i => X (8 + i)) 8 := fun i hi => by
          have := fold_bd (n := 8) (X := fun i => X (8 + i)) (B := 32768) (.inl rfl) (by omega) (fun j _ => by have := HX.out (8 + j); show -32768 ≤ X (8 + j) ∧ X (8 + j) ≤ 32768; omega) hi
          omega
        have K3 : Hid (∀ W, Below w4.heap.size w4 W → Calls Tryd.prog 14 #[.slice (some ⟨ra, 0, none⟩) 8 8] W fun e w' => e = .returned (arr8 (rightF 8 (foldF 8 X))) ∧ Below W.heap.size W w') := fun W hW =>
          right_yes 8 (.inl rfl) _ 8 (foldF 8 X) F1 W (HT1.out _ (below_then b5 hW)) (J3.out.below hW)
        have K4 : Hid (∀ W, Below w4.heap.size w4 W → Calls Tryd.prog 12 #[.slice (some ⟨rb, 0, none⟩) 8 8] W fun e w' => e = .returned (arr8 (leftF (foldF 8 fun i => X (8 + i)))) ∧ Below W.heap.size W w') := fun W hW =>
          left_yes 8 (.inl rfl) _ 8 (foldF 8 fun i => X (8 + i)) F2 W (HT1.out _ (below_then b5 hW)) (J4.out.below hW)
        have HM : Hid (∀ j, j < 8 → -3 ≤ meetF (rightF 8 (foldF 8 X) j) (leftF (foldF 8 fun i => X (8 + i)) j) - X (8 + j) ∧ meetF (rightF 8 (foldF 8 X) j) (leftF (foldF 8 fun i => X (8 + i)) j) - X (8 + j) ≤ 3) := fun j hj => meets HX.out j hj
        have B5 := hid b5
        clear F1 F2 b5 b3 b2 b0 J2 J3 J4 K1 K2
        generalize rightF 8 (foldF 8 X) = R at *
        generalize leftF (foldF 8 fun i => X (8 + i)) = L at *
        have c0 := Below.refl w4.heap.size w4
        go_wp2_with (first
          | (go_at_call 14; (with_reducible refine (K3.out _ c0).mono ?_); rintro e w6 ⟨rfl, b6⟩)
          | (go_at_call 12; (with_reducible refine (K4.out _ b6).mono ?_); rintro e w7 ⟨rfl, b7⟩; have b8 := below_then b6 b7)
          | (go_at_call 16; refine (meet_any R L _).mono ?_; rintro e w9 ⟨rfl, b9⟩
             have B9 := hid (below_then b8 b9)
             have hn := hid (arr_new0 w9)
             have H9 := hid (made_arr (fun j => meetF (R j) (L j)) w9)
             clear b6 b7 b8 b9)
          | (refine wp_store8 rfl rfl rfl rfl hn.out ?_))
        clear hn K3 K4
        generalize (w9.alloc (.cells #[Value.int .i64 0, Value.int .i64 0, Value.int .i64 0, Value.int .i64 0, Value.int .i64 0, Value.int .i64 0, Value.int .i64 0, Value.int .i64 0] 24)).setRow w9.heap.size (rowA 8 fun j => meetF (R j) (L j)) = W9 at H9 ⊢
        have HA9 := hid H9.out.1
        have HW9 : Hid (Below wr.heap.size wr W9) := below_then B5.out (below_then B9.out H9.out.2)
        clear H9 B9 B5
        generalize w9.heap.size = mb at HA9 ⊢
        go_loopw [8] (fun i wx => ∃ k : Nat, k ≤ 8 ∧ i = .int .i64 k ∧ Hid (Below W9.heap.size W9 wx)) (fun i _ => 8 - (intOf i).toNat)
        case atStart => exact ⟨0, by omega, rfl, Below.refl _ _⟩
        case round =>
          obtain ⟨k, hk, rfl, HK⟩ := hrel
          by_cases hlt : k < 8
          · have hcm := (HA9.out.below HK.out).get hlt
            have hcx := HCL.out _ (below_then HW9.out HK.out) (8 + k) (by omega)
            have h8k : (8 : Int) + (k : Int) = ((8 + k : Nat) : Int) := by omega
            have h24 : 8 + k < 24 := by omega
            have hm := HM.out k hlt
            generalize meetF (R k) (L k) = m at *
            generalize X (8 + k) = x at *
            generalize 8 + k = u at *
            have hmx : wrap64 (m - x) = m - x := wwr_in (by omega)
            have hg1 : ¬ (3 < m - x) := by omega
            have hg2 : ¬ (m - x < -3) := by omega
            clear hm
            go_wp2
            go_region
            have HK2 := hid HK.out.drew
            clear HK
            go_wp2
            exact ⟨⟨k + 1, by omega, by go_num, HK2⟩, by simp [intOf]; omega⟩
          · obtain rfl : k = 8 := by omega
            have k0 := wawake_to (HT1.out _ (below_then HW9.out HK.out))
            have c9 := Below.refl wr.heap.size wr
            go_wp2_with (go_at_call 6; (with_reducible refine (k0.out _ c9).mono ?_); rintro e w10 ⟨rfl, b10⟩)
            go_ret
            refine ⟨rfl, ?_⟩
            have e1 := below_then HW9.out (below_then HK.out b10)
            have e2 := HW.out.trans (e1.mono HZ.out)
            have e3 := HBW.out.trans (e2.mono (by rw [HB.out, HS0.out]; exact HBW.out.size))
            rw [HS0.out] at e3
            exact e3
theorem walk (w : World) (ht : STab w) (X : Nat → Int) (wf : ∀ i, i < 24 → (Lit.int .i16 (X i)).wf = true) :
    Calls Tryd.prog 5 #[.agg (Array.ofFn (n := 24) fun i => Value.int .i16 (X i))] w fun e w' => e = .returned (.bool true) ∧ Below w.heap.size w w' := by
  obtain ⟨Y, hY⟩ : ∃ Y : Nat → Int, Y = fun i => if i < 24 then X i else 0 := ⟨_, rfl⟩
  have e : (Array.ofFn (n := 24) fun i => Value.int .i16 (X i)) = Array.ofFn (n := 24) fun i => Value.int .i16 (Y i) := by
    congr 1
    funext i
    rw [hY]
    simp [i.2]
  rw [e]
  refine walkAll w ht Y (fun i => ?_)
  rw [hY]
  show -32768 ≤ (if i < 24 then X i else 0) ∧ (if i < 24 then X i else 0) ≤ 32767
  by_cases h : i < 24
  · rw [if_pos h]; exact bounds_i16 (wf i h)
  · rw [if_neg h]; omega

set_option maxRecDepth 100000 in
theorem lifted (os : Os) (started : os.Started) (H : Type) (enc : TypeId × Value → H) :
    ReturnsInHanded {} Tryd.checked os 5 .any (fun w args => (Rows.windowMeetsSpec.pre enc Tryd.prog Tryd.f5 [] false w args ∧ laidMetH Tryd.prog Rows.windowMeetsRow.laid w) ∧ sizedMet enc Tryd.prog Tryd.f5 (OpenSpec.ofChange Rows.windowMeetsSpec) false w args)
      (Rows.windowMeetsSpec.post enc Tryd.prog Tryd.f5 false true false false) := by
  refine returnsInHanded_of_change_and (C := Tryd.checked) (X := fun w _ => laidMetH Tryd.prog Rows.windowMeetsRow.laid w) (fun _ _ _ hh h => h.of_heap hh) own started (by kernel_rfl) Tryd.func5
    (ChangeSpec.witness_shaped (enc := enc) (C := Tryd.checked) (os := os) (X := fun w _ => laidMetH Tryd.prog Rows.windowMeetsRow.laid w) false (World.laidAll Tryd.prog os Rows.windowMeetsRow.laid) #[.agg #[.int .i16 0, .int .i16 0, .int .i16 0, .int .i16 0, .int .i16 0, .int .i16 0, .int .i16 0, .int .i16 0, .int .i16 0, .int .i16 0, .int .i16 0, .int .i16 0, .int .i16 0, .int .i16 0, .int .i16 0, .int .i16 0, .int .i16 0, .int .i16 0, .int .i16 0, .int .i16 0, .int .i16 0, .int .i16 0, .int .i16 0, .int .i16 0]] 8 (World.laidAll_os _ _ _)
      (World.shaped_of_ZipB (by kernel_rfl) (by kernel_rfl)) (by kernel_rfl) (by kernel_rfl) (by kernel_rfl)
      (by rw [MakeChecks.laidMetH_plain _ _ _ (by kernel_rfl)]; exact laidMet_laidAll _ (by kernel_rfl) (by kernel_rfl))) ?_
  intro W base args ds gs before hval0 hW _ _ hL _
  have hval : ∀ (j : Nat) t v, Tryd.f5.params[j]? = some t → args[j]? = some v → Value.okWide Tryd.prog W .any base t v := hval0
  have hW' := hW
  obtain ⟨p, q, hA0, hV, rfl, hfz, hnd⟩ := hW
  have hA : DataW.TrodAll enc Tryd.prog W 0 (fun _ => true) true Tryd.f5.params.toList args.toList ds p := hA0
  rw [Tryd.params5] at hA hval
  obtain ⟨v0, vs0, d0, ds0, p0, q0, hargs, rfl, rfl, h0, r0⟩ := trodAll_cons hA
  obtain ⟨rfl, rfl, rfl⟩ := trodAll_nil r0
  obtain rfl : args = #[v0] := by cases args; simp_all
  obtain ⟨rfl, rfl⟩ := trodVars_none hV
  have k0 := h0
  have lt0 : ∀ x ∈ p0, x.block < W.heap.size := by obtain ⟨m, hm⟩ := k0; exact DataW.trod_lt m _ _ _ hm
  obtain ⟨x0, rfl, wf0⟩ : ∃ X : Nat → Int, v0 = .agg (Array.ofFn (n := 24) fun i => Value.int .i16 (X i)) ∧ ∀ i, i < 24 → (Lit.int .i16 (X i)).wf = true := open_arr Tryd.underlying34 Tryd.underlying33 (by kernel_rfl) (by kernel_rfl) (hval 0 34 v0 rfl rfl) h0
  clear hA0 hval0
  refine (walk W (stab_of_laid (by kernel_rfl) hL (by simp [Rows.windowMeetsRow])) x0 wf0).mono fun e W' ⟨he, bel⟩ => ?_
  subst he
  exact ⟨_, rfl, _, _, _, [], _, [], hW', trodAll_mk1 (shut_bool Tryd.underlying4 _), (trodAll_cons_mk (Below.trod laidOut (by kernel_rfl) (of_decide_eq_true (by kernel_rfl)) k0 bel lt0) trodAll_mk0), rfl, bel.frame _, fun h => by cases h⟩

theorem over : Rows.windowMeetsRow.holds Tryd.pinned (OpenSpec.ofChange Rows.windowMeetsSpec) :=
  OpenClaim.holds_of_wide 5 Tryd.f5 rfl rfl rfl rfl rfl rfl rfl ⟨rfl, rfl, rfl, rfl, rfl⟩ rfl rfl rfl rfl rfl (by kernel_rfl) Tryd.func5 (by kernel_rfl)
    (of_decide_eq_true (by kernel_rfl)) (by unfold Func.isWrapper; first | (rw [if_pos (by decide +kernel)]; kernel_rfl) | (rw [if_neg (by decide +kernel)]; exact ⟨rfl, rfl⟩))
    (fun os started H enc _ => lifted os started H enc)

theorem plain (f : FuncId) (fn : Func) (hf : Tryd.pinned.checked.prog.funcNamed "splicer/splicerlaw11.WindowMeets" = some f) (hfn : Tryd.pinned.checked.prog.funcs[f]? = some fn) :
    false = Tryd.pinned.checked.prog.looks [] ∧ ∀ (j : Nat) t, fn.params[j]? = some t → Tryd.pinned.checked.prog.wantsStandIn t = false := by
  obtain rfl : f = 5 := Option.some.inj ((show Tryd.prog.funcNamed "splicer/splicerlaw11.WindowMeets" = some 5 by kernel_rfl).symm.trans hf) |>.symm
  obtain rfl : fn = Tryd.f5 := (Option.some.inj (Tryd.func5.symm.trans hfn)).symm
  refine ⟨by kernel_rfl, fun j t ht => ?_⟩
  rw [Tryd.params5] at ht
  have hm : t ∈ [34] := by simpa using Array.mem_of_getElem? ht
  have hall : ([34].all fun u => !Tryd.prog.wantsStandIn u) = true := by kernel_rfl
  exact (show Tryd.prog.wantsStandIn t = false by simpa using List.all_eq_true.1 hall t hm)

/-- The statement. -/
theorem proved : Rows.WindowMeetsCardSaid :=
  Claim7.holds_tied_plain_at .later [] _ _ _ _ over (fun _ h => by cases h) (by kernel_rfl) (fun _ h => by cases h) windowMeets_row_tie rfl ⟨rfl, rfl⟩ (by kernel_rfl) rfl plain (by kernel_rfl)
#print axioms proved
end Go.Proofs.YtjeglfhdgabdoaaDoor.windowMeets
