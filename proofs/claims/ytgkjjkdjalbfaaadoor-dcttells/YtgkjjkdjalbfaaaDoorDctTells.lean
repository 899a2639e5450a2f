/-
  Proved: for any list of ints of up to 70 numbers, the spectrum and the block of a spectrum are the document's, or none where the document has none, and who has no table tells none (longer lists: the law answers by the chapter's example alone). Conditions: none beside the row's own (the library's table of bits reads as its text lays it; the card ties it to the pruned copy).
-/
import Derived.Test.YtgkjjkdjalbfaaaDoorCards
import Derived.Test.YtgkjjkdjalbfaaaDoorTie
import Derived.Test.YtgkjjkdjalbfaaaDoorXL
import Derived.WalkKit
import Derived.ProofKit
import Derived.OpenShut
import Derived.ShutString
import Derived.ChangeOld
import Derived.Below
import Derived.Lay
import Derived.LaidOnce
import Derived.SevenTiedAt
namespace Go.Proofs.YtgkjjkdjalbfaaaDoor.dctTells
open Go.ChangeShapes Go.WideShapes Go.ChangeAt Go.RowKit
open Go.ChangeMaps (open_string shut_string)
set_option linter.unusedVariables false

theorem own : ownKnob Tryd.prog.godebug = none := by kernel_rfl
theorem laidOut : laidOutB Tryd.prog = true := by kernel_rfl

theorem same_none (W : World) : Calls Tryd.prog 7 #[.slice none 0 0, .slice none 0 0] W fun e w' => e = .returned (.bool true) ∧ Below W.heap.size W w' :=
  same_yes none none 0 0 0 (fun _ => 0) (by omega) W (.inl rfl) (.inl rfl)
theorem walkBig (w : World) (a : Option Addr) (len cap : Nat) (ml : len ≤ maxLen) (h : 70 < len) :
    Calls Tryd.prog 3 #[.slice a len cap] w fun e w' => e = .returned (.bool true) ∧ Below w.heap.size w w' := by
  unfold maxLen at ml
  have k0 := xawake_to w
  have b0 := Below.refl w.heap.size w
  have hi : decide ((len : Int) > 70) = true := decide_eq_true (by omega)
  go_enter Tryd.func3, Tryd.ntmps3
  go_wp2_with (go_at_call 5; refine (k0.out _ b0).mono ?_; rintro e w1 ⟨rfl, b1⟩)
  go_ret
  exact ⟨rfl, b1⟩
theorem walkNo (w : World) (a : Option Addr) (len cap : Nat) (X : Nat → Int) (h70 : len ≤ 70) (h : IsInts w a len cap X) (hr : rightF X len 33554432 = false) :
    Calls Tryd.prog 3 #[.slice a len cap] w fun e w' => e = .returned (.bool true) ∧ Below w.heap.size w w' := by
  have ml : len ≤ maxLen := Nat.le_trans h70 (by decide)
  have hi : decide ((len : Int) > 70) = false := decide_eq_false (by omega)
  have k0 := xawake_to w
  have K1 : Hid (∀ W, Below w.heap.size w W → ∀ t, Calls Tryd.prog 8 #[.pointer (some ⟨t, 0, none⟩), .slice a len cap] W fun e w' => e = .returned (.slice none 0 0) ∧ w' = W) := fun W hW t => four_no t a len cap X ml hr W (h.below hW)
  have K2 : Hid (∀ W, Below w.heap.size w W → Calls Tryd.prog 9 #[.slice a len cap] W fun e w' => e = .returned (.slice none 0 0) ∧ w' = W) := fun W hW => rfour_no a len cap X ml hr W (h.below hW)
  have K3 : Hid (∀ W, Below w.heap.size w W → ∀ t, Calls Tryd.prog 10 #[.pointer (some ⟨t, 0, none⟩), .slice a len cap] W fun e w' => e = .returned (.slice none 0 0) ∧ w' = W) := fun W hW t => back_no t a len cap X ml hr W (h.below hW)
  have K4 : Hid (∀ W, Below w.heap.size w W → Calls Tryd.prog 11 #[.slice a len cap] W fun e w' => e = .returned (.slice none 0 0) ∧ w' = W) := fun W hW => rback_no a len cap X ml hr W (h.below hW)
  clear h hr ml
  go_enter Tryd.func3, Tryd.ntmps3
  go_wp2_with (first
    | (go_at_call 6; refine (make_any _).mono ?_; rintro e w1 ⟨rfl, _, b1⟩)
    | (go_at_call 8; (with_reducible refine (four_nil _ _ _ _).mono ?_); rintro e w2 ⟨rfl, rfl⟩)
    | (go_at_call 10; (with_reducible refine (back_nil _ _ _ _).mono ?_); rintro e w2 ⟨rfl, rfl⟩)
    | (go_at_call 12; (with_reducible refine (fast_nil _ _ _ _).mono ?_); rintro e w2 ⟨rfl, rfl⟩)
    | (go_at_call 8; (with_reducible refine (K1.out _ b1 _).mono ?_); rintro e w2 ⟨rfl, rfl⟩)
    | (go_at_call 9; (with_reducible refine (K2.out _ b1).mono ?_); rintro e w2 ⟨rfl, rfl⟩)
    | (go_at_call 10; (with_reducible refine (K3.out _ b1 _).mono ?_); rintro e w2 ⟨rfl, rfl⟩)
    | (go_at_call 11; (with_reducible refine (K4.out _ b1).mono ?_); rintro e w2 ⟨rfl, rfl⟩)
    | (go_at_call 7; (with_reducible refine (same_none _).mono ?_); rintro e w2 ⟨rfl, b2⟩; replace b1 := below_then b1 b2; clear b2)
    | (go_at_call 5; (with_reducible refine (k0.out _ b1).mono ?_); rintro e w2 ⟨rfl, b1⟩))
  go_ret
  exact ⟨rfl, b1⟩
theorem walkYes (w : World) {n : Nat} (hN : IsN n) (a : Option Addr) (cap : Nat) (X : Nat → Int) (hX : ∀ i, i < n → -33554432 ≤ X i ∧ X i ≤ 33554432) (h : IsInts w a n cap X) :
    Calls Tryd.prog 3 #[.slice a n cap] w fun e w' => e = .returned (.bool true) ∧ Below w.heap.size w w' := by
  have hle := hN.le
  have hi : decide ((n : Int) > 70) = false := decide_eq_false (by omega)
  have HM : Hid (n ≤ maxLen) := Nat.le_trans hle (by decide)
  have k0 := xawake_to w
  have K1 : Hid (∀ W, Below w.heap.size w W → ∀ t, Tab t W → Calls Tryd.prog 8 #[.pointer (some ⟨t, 0, none⟩), .slice a n cap] W (SPost n (fourF n X) W)) := fun W hW t ht => four_yes hN t a cap X hX W ht (h.below hW)
  have K2 : Hid (∀ W, Below w.heap.size w W → Calls Tryd.prog 9 #[.slice a n cap] W (OPost n (fourF n X) W)) := fun W hW => rfour_yes hN a cap X hX W (h.below hW)
  have K3 : Hid (∀ W, Below w.heap.size w W → ∀ t, Tab t W → Calls Tryd.prog 10 #[.pointer (some ⟨t, 0, none⟩), .slice a n cap] W (SPost n (backF n X) W)) := fun W hW t ht => back_yes hN t a cap X hX W ht (h.below hW)
  have K4 : Hid (∀ W, Below w.heap.size w W → Calls Tryd.prog 11 #[.slice a n cap] W (OPost n (backF n X) W)) := fun W hW => rback_yes hN a cap X hX W (h.below hW)
  clear h hX hN
  go_enter Tryd.func3, Tryd.ntmps3
  go_wp2_with (go_at_call 6; refine (make_any _).mono ?_; rintro e w1 ⟨rfl, ht, b1⟩)
  refine (K1.out _ b1 _ ht).mono ?_
  rintro e w2 ⟨r, rfl, _, h2, b2⟩
  have HT : Hid (∀ W, Below w1.heap.size w1 W → Tab _ W) := fun W hW => ht.below ht.1 hW
  have B1 : Hid (Below w.heap.size w w1) := b1
  have B2 : Hid (Below w1.heap.size w1 w2) := b2
  have I2 : Hid (IsInts w2 (some ⟨r, 0, none⟩) n n (fourF n X)) := h2.ints HM.out
  clear ht b1 h2 b2 K1
  go_wp2_with (fail)
  refine (K2.out _ (below_then B1.out B2.out)).mono ?_
  rintro e w3 ⟨a3, c3, rfl, i3, b3⟩
  have B3 : Hid (Below w2.heap.size w2 w3) := b3
  have S1 : Hid (Calls Tryd.prog 7 #[.slice (some ⟨r, 0, none⟩) n n, .slice a3 n c3] w3 fun e w' => e = .returned (.bool true) ∧ Below w3.heap.size w3 w') := same_yes _ _ n n c3 (fourF n X) hle w3 (I2.out.below b3) i3
  clear i3 b3 I2 K2
  go_wp2_with (fail)
  refine Calls.mono S1.out ?_
  rintro e w4 ⟨rfl, b4⟩
  have B4 : Hid (Below w3.heap.size w3 w4) := b4
  have B14 : Hid (Below w1.heap.size w1 w4) := below_then B2.out (below_then B3.out b4)
  clear b4 S1
  go_wp2_with (fail)
  refine (K3.out _ (below_then B1.out B14.out) _ (HT.out _ B14.out)).mono ?_
  rintro e w5 ⟨q, rfl, _, h5, b5⟩
  have B5 : Hid (Below w4.heap.size w4 w5) := b5
  have I5 : Hid (IsInts w5 (some ⟨q, 0, none⟩) n n (backF n X)) := h5.ints HM.out
  clear h5 b5 K3
  go_wp2_with (fail)
  refine (K4.out _ (below_then B1.out (below_then B14.out B5.out))).mono ?_
  rintro e w6 ⟨a6, c6, rfl, i6, b6⟩
  have B6 : Hid (Below w5.heap.size w5 w6) := b6
  have S2 : Hid (Calls Tryd.prog 7 #[.slice (some ⟨q, 0, none⟩) n n, .slice a6 n c6] w6 fun e w' => e = .returned (.bool true) ∧ Below w6.heap.size w6 w') := same_yes _ _ n n c6 (backF n X) hle w6 (I5.out.below b6) i6
  clear i6 b6 I5 K4
  go_wp2_with (fail)
  refine Calls.mono S2.out ?_
  rintro e w7 ⟨rfl, b7⟩
  have b1 : Below w.heap.size w w7 := below_then B1.out (below_then B14.out (below_then B5.out (below_then B6.out b7)))
  clear b7 S2 HT
  go_wp2_with (first
    | (go_at_call 8; (with_reducible refine (four_nil _ _ _ _).mono ?_); rintro e w2 ⟨rfl, rfl⟩)
    | (go_at_call 10; (with_reducible refine (back_nil _ _ _ _).mono ?_); rintro e w2 ⟨rfl, rfl⟩)
    | (go_at_call 12; (with_reducible refine (fast_nil _ _ _ _).mono ?_); rintro e w2 ⟨rfl, rfl⟩)
    | (go_at_call 5; (with_reducible refine (k0.out _ b1).mono ?_); rintro e w8 ⟨rfl, b8⟩))
  go_ret
  exact ⟨rfl, b8⟩
theorem walk (w : World) (hd : DTab w) (a : Option Addr) (len cap : Nat) (X : Nat → Int) (h : len ≤ maxLen ∧ IsInts w a len cap X) :
    Calls Tryd.prog 3 #[.slice a len cap] w fun e w' => e = .returned (.bool true) ∧ Below w.heap.size w w' := by
  by_cases h70 : 70 < len
  · exact walkBig w a len cap h.1 h70
  cases hr : rightF X len 33554432 with
  | false => exact walkNo w a len cap X (by omega) h.2 hr
  | true =>
    obtain ⟨hN, hX⟩ := rightF_yes hr
    exact walkYes w hN a cap X hX h.2

set_option maxRecDepth 100000 in
theorem lifted (os : Os) (started : os.Started) (H : Type) (enc : TypeId × Value → H) :
    ReturnsInHanded {} Tryd.checked os 3 .any (fun w args => (Rows.dctTellsSpec.pre enc Tryd.prog Tryd.f3 [] false w args ∧ laidMetH Tryd.prog Rows.dctTellsRow.laid w) ∧ sizedMet enc Tryd.prog Tryd.f3 (OpenSpec.ofChange Rows.dctTellsSpec) false w args)
      (Rows.dctTellsSpec.post enc Tryd.prog Tryd.f3 false true false false) := by
  refine returnsInHanded_of_change_and (C := Tryd.checked) (X := fun w _ => laidMetH Tryd.prog Rows.dctTellsRow.laid w) (fun _ _ _ hh h => h.of_heap hh) own started (by kernel_rfl) Tryd.func3
    (ChangeSpec.witness_shaped (enc := enc) (C := Tryd.checked) (os := os) (X := fun w _ => laidMetH Tryd.prog Rows.dctTellsRow.laid w) false (World.laidAll Tryd.prog os Rows.dctTellsRow.laid) #[.slice none 0 0] 8 (World.laidAll_os _ _ _)
      (World.shaped_of_ZipB (by kernel_rfl) (by kernel_rfl)) (by kernel_rfl) (by kernel_rfl) (by kernel_rfl)
      (by rw [MakeChecks.laidMetH_plain _ _ _ (by kernel_rfl)]; exact laidMet_laidAll _ (by kernel_rfl) (by kernel_rfl))) ?_
  intro W base args ds gs before hval0 hW _ _ hL _
  have hval : ∀ (j : Nat) t v, Tryd.f3.params[j]? = some t → args[j]? = some v → Value.okWide Tryd.prog W .any base t v := hval0
  have hW' := hW
  obtain ⟨p, q, hA0, hV, rfl, hfz, hnd⟩ := hW
  have hA : DataW.TrodAll enc Tryd.prog W 0 (fun _ => true) true Tryd.f3.params.toList args.toList ds p := hA0
  rw [Tryd.params3] at hA hval
  obtain ⟨v0, vs0, d0, ds0, p0, q0, hargs, rfl, rfl, h0, r0⟩ := trodAll_cons hA
  obtain ⟨rfl, rfl, rfl⟩ := trodAll_nil r0
  obtain rfl : args = #[v0] := by cases args; simp_all
  obtain ⟨rfl, rfl⟩ := trodVars_none hV
  obtain ⟨a0, len0, cap0, rfl⟩ := okWide_slice Tryd.underlying22 (hval 0 22 v0 rfl rfl)
  have k0 := h0
  have lt0 : ∀ x ∈ p0, x.block < W.heap.size := by obtain ⟨m, hm⟩ := k0; exact DataW.trod_lt m _ _ _ hm
  obtain ⟨x0, w0⟩ : ∃ X : Nat → Int, len0 ≤ maxLen ∧ IsInts W a0 len0 cap0 X := by
    obtain ⟨fuel, hf⟩ := h0
    exact open_isints Tryd.underlying22 Tryd.underlying3 (by kernel_rfl) hf
  clear hA0 hval0
  refine (walk W (dtab_of_laid (by kernel_rfl) hL (by simp [Rows.dctTellsRow])) a0 len0 cap0 x0 w0).mono fun e W' ⟨he, bel⟩ => ?_
  subst he
  exact ⟨_, rfl, _, _, _, [], _, [], hW', trodAll_mk1 (shut_bool Tryd.underlying4 _), (trodAll_cons_mk (Below.trod laidOut (by kernel_rfl) (of_decide_eq_true (by kernel_rfl)) k0 bel lt0) trodAll_mk0), rfl, bel.frame _, fun h => by cases h⟩

theorem over : Rows.dctTellsRow.holds Tryd.pinned (OpenSpec.ofChange Rows.dctTellsSpec) :=
  OpenClaim.holds_of_wide 3 Tryd.f3 rfl rfl rfl rfl rfl rfl rfl ⟨rfl, rfl, rfl, rfl, rfl⟩ rfl rfl rfl rfl rfl (by kernel_rfl) Tryd.func3 (by kernel_rfl)
    (of_decide_eq_true (by kernel_rfl)) (by unfold Func.isWrapper; first | (rw [if_pos (by decide +kernel)]; kernel_rfl) | (rw [if_neg (by decide +kernel)]; exact ⟨rfl, rfl⟩))
    (fun os started H enc _ => lifted os started H enc)

theorem plain (f : FuncId) (fn : Func) (hf : Tryd.pinned.checked.prog.funcNamed "splicer/splicerlaw10.DctTells" = some f) (hfn : Tryd.pinned.checked.prog.funcs[f]? = some fn) :
    false = Tryd.pinned.checked.prog.looks [] ∧ ∀ (j : Nat) t, fn.params[j]? = some t → Tryd.pinned.checked.prog.wantsStandIn t = false := by
  obtain rfl : f = 3 := Option.some.inj ((show Tryd.prog.funcNamed "splicer/splicerlaw10.DctTells" = some 3 by kernel_rfl).symm.trans hf) |>.symm
  obtain rfl : fn = Tryd.f3 := (Option.some.inj (Tryd.func3.symm.trans hfn)).symm
  refine ⟨by kernel_rfl, fun j t ht => ?_⟩
  rw [Tryd.params3] at ht
  have hm : t ∈ [22] := by simpa using Array.mem_of_getElem? ht
  have hall : ([22].all fun u => !Tryd.prog.wantsStandIn u) = true := by kernel_rfl
  exact (show Tryd.prog.wantsStandIn t = false by simpa using List.all_eq_true.1 hall t hm)

/-- The statement. -/
theorem proved : Rows.DctTellsCardSaid :=
  Claim7.holds_tied_plain_at .later [] _ _ _ _ over (fun _ h => by cases h) (by kernel_rfl) (fun _ h => by cases h) dctTells_row_tie rfl ⟨rfl, rfl⟩ (by kernel_rfl) rfl plain (by kernel_rfl)
#print axioms proved
end Go.Proofs.YtgkjjkdjalbfaaaDoor.dctTells
