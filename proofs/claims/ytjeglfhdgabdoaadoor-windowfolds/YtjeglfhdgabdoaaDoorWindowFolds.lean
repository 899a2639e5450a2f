/-
  Proved: for any list of ints of up to 80 numbers, what is folded is the document's, or none where the document has none, and the slope is the document's (longer lists: the law answers by the chapter's example alone). Conditions: none beside the row's own (the slope's eight numbers read as the program's text lays them; the card ties it to the pruned copy).
-/
import Derived.Test.YtjeglfhdgabdoaaDoorCards
import Derived.Test.YtjeglfhdgabdoaaDoorTie
import Derived.Test.YtjeglfhdgabdoaaDoorWK
import Derived.WalkKit
import Derived.ProofKit
import Derived.OpenShut
import Derived.ShutString
import Derived.ChangeOld
import Derived.Below
import Derived.Lay
import Derived.LaidOnce
import Derived.SevenTiedAt
namespace Go.Proofs.YtjeglfhdgabdoaaDoor.windowFolds
open Go.ChangeShapes Go.WideShapes Go.ChangeAt Go.RowKit
open Go.ChangeMaps (open_string shut_string)
set_option linter.unusedVariables false

theorem own : ownKnob Tryd.prog.godebug = none := by kernel_rfl
theorem laidOut : laidOutB Tryd.prog = true := by kernel_rfl

theorem walkBig (w : World) (ht : STab w) (a : Option Addr) (len cap : Nat) (ml : len ≤ maxLen) (h : 80 < len) :
    Calls Tryd.prog 3 #[.slice a len cap] w fun e w' => e = .returned (.bool true) ∧ Below w.heap.size w w' := by
  unfold maxLen at ml
  have k0 := wawake_to ht
  have b0 := Below.refl w.heap.size w
  have hi : decide ((len : Int) > 80) = true := decide_eq_true (by omega)
  clear ht
  go_enter Tryd.func3, Tryd.ntmps3
  go_wp2_with (go_at_call 6; refine (k0.out _ b0).mono ?_; rintro e w1 ⟨rfl, b1⟩)
  go_ret
  exact ⟨rfl, b1⟩
theorem walkNo (w : World) (ht : STab w) (a : Option Addr) (len cap : Nat) (X : Nat → Int) (h80 : len ≤ 80) (h : IsInts w a len cap X) (hr : fold24 X len = false) :
    Calls Tryd.prog 3 #[.slice a len cap] w fun e w' => e = .returned (.bool true) ∧ Below w.heap.size w w' := by
  have hi : decide ((len : Int) > 80) = false := decide_eq_false (by omega)
  have HT := hid ht
  have K1 : Hid (∀ W, Below w.heap.size w W → Calls Tryd.prog 9 #[.slice a len cap] W fun e w' => e = .returned (.slice none 0 0) ∧ w' = W) := fun W hW => fold_no len a cap X (by omega) hr W (h.below hW)
  have K2 : Hid (∀ W, Below w.heap.size w W → Calls Tryd.prog 10 #[.slice a len cap] W fun e w' => e = .returned (.slice none 0 0) ∧ w' = W) := fun W hW => rfold_no len a cap X (by omega) hr W (h.below hW)
  clear h hr ht
  go_enter Tryd.func3, Tryd.ntmps3
  go_wp2_with (first
    | (go_at_call 7; refine (slope_any _ HT.out).mono ?_; rintro e w1 ⟨rfl, b1⟩
       have B1 := hid b1
       have hn := hid (arr_new0 w1)
       have H2 := hid (made_arr wF w1)
       clear b1)
    | (refine wp_store8 rfl rfl rfl rfl hn.out ?_))
  clear hn
  generalize (w1.alloc (.cells #[Value.int .i64 0, Value.int .i64 0, Value.int .i64 0, Value.int .i64 0, Value.int .i64 0, Value.int .i64 0, Value.int .i64 0, Value.int .i64 0] 24)).setRow w1.heap.size (rowA 8 wF) = W at H2 ⊢
  have HB := hid (below_then B1.out H2.out.2)
  have HI := hid H2.out.1.ints
  clear H2 B1
  generalize w1.heap.size = sb at HI ⊢
  have k0 := wawake_to (HT.out.below HB.out)
  have b0 : Below W.heap.size W W.drew := (Below.refl _ _).drew
  go_wp2
  go_region_with (first
    | (go_at_call 9; (with_reducible refine (K1.out _ (below_then HB.out b0)).mono ?_); rintro e w2 ⟨rfl, rfl⟩)
    | (go_at_call 10; (with_reducible refine (K2.out _ (below_then HB.out b0)).mono ?_); rintro e w3 ⟨rfl, rfl⟩)
    | (go_at_call 8; (with_reducible refine (same_none _).mono ?_); rintro e w4 ⟨rfl, b4⟩; have b5 := below_then b0 b4)
    | (go_at_call 11; refine (rW_any _).mono ?_; rintro e w6 ⟨rfl, rfl⟩)
    | (go_at_call 8; (with_reducible refine (same_new (HI.out.below b5)).mono ?_); rintro e w7 ⟨rfl, b6⟩; have b7 := below_then b5 b6)
    | (go_at_call 6; (with_reducible refine (k0.out _ b7).mono ?_); rintro e w8 ⟨rfl, b8⟩))
  all_goals
    have B8 := hid b8
    clear b8
    go_wp2
    go_ret
    exact ⟨rfl, below_then HB.out B8.out⟩
theorem walkYes (w : World) (ht : STab w) (a : Option Addr) (n len cap : Nat) (X : Nat → Int) (hn : n = 8 ∨ n = 64) (hlen : len = n + 8) (hX : Fit24 X len) (h : IsInts w a len cap X) :
    Calls Tryd.prog 3 #[.slice a len cap] w fun e w' => e = .returned (.bool true) ∧ Below w.heap.size w w' := by
  have hi : decide ((len : Int) > 80) = false := decide_eq_false (by omega)
  have HT := hid ht
  have K1 : Hid (∀ W, Below w.heap.size w W → Calls Tryd.prog 9 #[.slice a len cap] W (FPost n (foldF n X) W)) := fun W hW => fold_yes n len hn hlen a cap X hX W (ht.below hW) (h.below hW)
  have K2 : Hid (∀ W, Below w.heap.size w W → Calls Tryd.prog 10 #[.slice a len cap] W (OPost n (foldF n X) W)) := fun W hW => rfold_yes n len hn hlen a cap X hX W (h.below hW)
  have HM : Hid (n ≤ maxLen) := Nat.le_trans (show n ≤ 64 by omega) (by decide)
  have H64 : Hid (n ≤ 64) := by
    show n ≤ 64
    omega
  clear h hX hn hlen ht
  go_enter Tryd.func3, Tryd.ntmps3
  go_wp2_with (first
    | (go_at_call 7; refine (slope_any _ HT.out).mono ?_; rintro e w1 ⟨rfl, b1⟩
       have B1 := hid b1
       have hn := hid (arr_new0 w1)
       have H2 := hid (made_arr wF w1)
       clear b1)
    | (refine wp_store8 rfl rfl rfl rfl hn.out ?_))
  clear hn
  generalize (w1.alloc (.cells #[Value.int .i64 0, Value.int .i64 0, Value.int .i64 0, Value.int .i64 0, Value.int .i64 0, Value.int .i64 0, Value.int .i64 0, Value.int .i64 0] 24)).setRow w1.heap.size (rowA 8 wF) = W at H2 ⊢
  have HB := hid (below_then B1.out H2.out.2)
  have HI := hid H2.out.1.ints
  clear H2 B1
  generalize w1.heap.size = sb at HI ⊢
  have k0 := wawake_to (HT.out.below HB.out)
  have b0 : Below W.heap.size W W.drew := (Below.refl _ _).drew
  go_wp2
  go_region_with (first
    | (go_at_call 9; (with_reducible refine (K1.out _ (below_then HB.out b0)).mono ?_); rintro e w2 ⟨r, rfl, h2, b2, _⟩; have b3 := below_then b0 b2; have I2 := hid (h2.ints HM.out); clear h2)
    | (go_at_call 10; (with_reducible refine (K2.out _ (below_then HB.out b3)).mono ?_); rintro e w3 ⟨a3, c3, rfl, i3, b3'⟩; have b4 := below_then b3 b3'; have S1 := hid (same_yes _ _ n n c3 (foldF n X) H64.out w3 (I2.out.below b3') i3); clear i3 b3')
    | (go_at_call 8; (with_reducible refine S1.out.mono ?_); rintro e w4 ⟨rfl, b4'⟩; have b5 := below_then b4 b4')
    | (go_at_call 11; refine (rW_any _).mono ?_; rintro e w6 ⟨rfl, rfl⟩)
    | (go_at_call 8; (with_reducible refine (same_new (HI.out.below b5)).mono ?_); rintro e w7 ⟨rfl, b6⟩; have b7 := below_then b5 b6)
    | (go_at_call 6; (with_reducible refine (k0.out _ b7).mono ?_); rintro e w8 ⟨rfl, b8⟩))
  all_goals
    have B8 := hid b8
    clear b8
    go_wp2
    go_ret
    exact ⟨rfl, below_then HB.out B8.out⟩
theorem walk (w : World) (ht : STab w) (a : Option Addr) (len cap : Nat) (X : Nat → Int) (h : len ≤ maxLen ∧ IsInts w a len cap X) :
    Calls Tryd.prog 3 #[.slice a len cap] w fun e w' => e = .returned (.bool true) ∧ Below w.heap.size w w' := by
  by_cases h80 : 80 < len
  · exact walkBig w ht a len cap h.1 h80
  cases hr : fold24 X len with
  | false => exact walkNo w ht a len cap X (by omega) h.2 hr
  | true =>
    obtain ⟨hn, hX⟩ := fold24_iff.1 hr
    exact walkYes w ht a (len - 8) len cap X (by omega) (by omega) hX h.2

set_option maxRecDepth 100000 in
theorem lifted (os : Os) (started : os.Started) (H : Type) (enc : TypeId × Value → H) :
    ReturnsInHanded {} Tryd.checked os 3 .any (fun w args => (Rows.windowFoldsSpec.pre enc Tryd.prog Tryd.f3 [] false w args ∧ laidMetH Tryd.prog Rows.windowFoldsRow.laid w) ∧ sizedMet enc Tryd.prog Tryd.f3 (OpenSpec.ofChange Rows.windowFoldsSpec) false w args)
      (Rows.windowFoldsSpec.post enc Tryd.prog Tryd.f3 false true false false) := by
  refine returnsInHanded_of_change_and (C := Tryd.checked) (X := fun w _ => laidMetH Tryd.prog Rows.windowFoldsRow.laid w) (fun _ _ _ hh h => h.of_heap hh) own started (by kernel_rfl) Tryd.func3
    (ChangeSpec.witness_shaped (enc := enc) (C := Tryd.checked) (os := os) (X := fun w _ => laidMetH Tryd.prog Rows.windowFoldsRow.laid w) false (World.laidAll Tryd.prog os Rows.windowFoldsRow.laid) #[.slice none 0 0] 8 (World.laidAll_os _ _ _)
      (World.shaped_of_ZipB (by kernel_rfl) (by kernel_rfl)) (by kernel_rfl) (by kernel_rfl) (by kernel_rfl)
      (by rw [MakeChecks.laidMetH_plain _ _ _ (by kernel_rfl)]; exact laidMet_laidAll _ (by kernel_rfl) (by kernel_rfl))) ?_
  intro W base args ds gs before hval0 hW _ _ hL _
  have hval : ∀ (j : Nat) t v, Tryd.f3.params[j]? = some t → args[j]? = some v → Value.okWide Tryd.prog W .any base t v := hval0
  have hW' := hW
  obtain ⟨p, q, hA0, hV, rfl, hfz, hnd⟩ := hW
  have hA : DataW.TrodAll enc Tryd.prog W 0 (fun _ => true) true Tryd.f3.params.toList args.toList ds p := hA0
  rw [Tryd.params3] at hA hval
  obtain ⟨v0, vs0, d0, ds0, p0, q0, hargs, rfl, rfl, h0, r0⟩ := trodAll_cons hA
  obtain ⟨rfl, rfl, rfl⟩ := trodAll_nil r0
  obtain rfl : args = #[v0] := by cases args; simp_all
  obtain ⟨rfl, rfl⟩ := trodVars_none hV
  obtain ⟨a0, len0, cap0, rfl⟩ := okWide_slice Tryd.underlying22 (hval 0 22 v0 rfl rfl)
  have k0 := h0
  have lt0 : ∀ x ∈ p0, x.block < W.heap.size := by obtain ⟨m, hm⟩ := k0; exact DataW.trod_lt m _ _ _ hm
  obtain ⟨x0, w0⟩ : ∃ X : Nat → Int, len0 ≤ maxLen ∧ IsInts W a0 len0 cap0 X := by
    obtain ⟨fuel, hf⟩ := h0
    exact open_isints Tryd.underlying22 Tryd.underlying3 (by kernel_rfl) hf
  clear hA0 hval0
  refine (walk W (stab_of_laid (by kernel_rfl) hL (by simp [Rows.windowFoldsRow])) a0 len0 cap0 x0 w0).mono fun e W' ⟨he, bel⟩ => ?_
  subst he
  exact ⟨_, rfl, _, _, _, [], _, [], hW', trodAll_mk1 (shut_bool Tryd.underlying4 _), (trodAll_cons_mk (Below.trod laidOut (by kernel_rfl) (of_decide_eq_true (by kernel_rfl)) k0 bel lt0) trodAll_mk0), rfl, bel.frame _, fun h => by cases h⟩

theorem over : Rows.windowFoldsRow.holds Tryd.pinned (OpenSpec.ofChange Rows.windowFoldsSpec) :=
  OpenClaim.holds_of_wide 3 Tryd.f3 rfl rfl rfl rfl rfl rfl rfl ⟨rfl, rfl, rfl, rfl, rfl⟩ rfl rfl rfl rfl rfl (by kernel_rfl) Tryd.func3 (by kernel_rfl)
    (of_decide_eq_true (by kernel_rfl)) (by unfold Func.isWrapper; first | (rw [if_pos (by decide +kernel)]; kernel_rfl) | (rw [if_neg (by decide +kernel)]; exact ⟨rfl, rfl⟩))
    (fun os started H enc _ => lifted os started H enc)

theorem plain (f : FuncId) (fn : Func) (hf : Tryd.pinned.checked.prog.funcNamed "splicer/splicerlaw11.WindowFolds" = some f) (hfn : Tryd.pinned.checked.prog.funcs[f]? = some fn) :
    false = Tryd.pinned.checked.prog.looks [] ∧ ∀ (j : Nat) t, fn.params[j]? = some t → Tryd.pinned.checked.prog.wantsStandIn t = false := by
  obtain rfl : f = 3 := Option.some.inj ((show Tryd.prog.funcNamed "splicer/splicerlaw11.WindowFolds" = some 3 by kernel_rfl).symm.trans hf) |>.symm
  obtain rfl : fn = Tryd.f3 := (Option.some.inj (Tryd.func3.symm.trans hfn)).symm
  refine ⟨by kernel_rfl, fun j t ht => ?_⟩
  rw [Tryd.params3] at ht
  have hm : t ∈ [22] := by simpa using Array.mem_of_getElem? ht
  have hall : ([22].all fun u => !Tryd.prog.wantsStandIn u) = true := by kernel_rfl
  exact (show Tryd.prog.wantsStandIn t = false by simpa using List.all_eq_true.1 hall t hm)

/-- The statement. -/
theorem proved : Rows.WindowFoldsCardSaid :=
  Claim7.holds_tied_plain_at .later [] _ _ _ _ over (fun _ h => by cases h) (by kernel_rfl) (fun _ h => by cases h) windowFolds_row_tie rfl ⟨rfl, rfl⟩ (by kernel_rfl) rfl plain (by kernel_rfl)
#print axioms proved
end Go.Proofs.YtjeglfhdgabdoaaDoor.windowFolds
