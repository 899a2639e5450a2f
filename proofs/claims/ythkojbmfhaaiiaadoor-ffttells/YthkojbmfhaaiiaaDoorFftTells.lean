/-
  Proved: for any two lists of ints of up to 70 numbers, the waves are the document's, or none where the document has none, and who has no table tells none (longer lists: the law answers by the chapter's example alone). Conditions: none beside the row's own (the library's table of bits reads as its text lays it; the card ties it to the pruned copy).
-/
import Derived.Test.YthkojbmfhaaiiaaDoorCards
import Derived.Test.YthkojbmfhaaiiaaDoorTie
import Derived.Test.YthkojbmfhaaiiaaDoorFL
import Derived.WalkKit
import Derived.ProofKit
import Derived.OpenShut
import Derived.ShutString
import Derived.ChangeOld
import Derived.Below
import Derived.Lay
import Derived.LaidOnce
import Derived.SevenTiedAt
namespace Go.Proofs.YthkojbmfhaaiiaaDoor.fftTells
open Go.ChangeShapes Go.WideShapes Go.ChangeAt Go.RowKit
open Go.ChangeMaps (open_string shut_string)
set_option linter.unusedVariables false

theorem own : ownKnob Tryd.prog.godebug = none := by kernel_rfl
theorem laidOut : laidOutB Tryd.prog = true := by kernel_rfl

theorem walkBig (w : World) (hd : DTab w) (a c : Option Addr) (la ca lb cb : Nat) (ma : la ≤ maxLen) (mb : lb ≤ maxLen) (h : 70 < la ∨ 70 < lb) :
    Calls Tryd.prog 3 #[.slice a la ca, .slice c lb cb] w fun e w' => e = .returned (.bool true) ∧ Below w.heap.size w w' := by
  unfold maxLen at ma mb
  have k0 := awake_to hd
  have b0 := Below.refl w.heap.size w
  clear hd
  by_cases h1 : 70 < la
  · have hi : decide ((la : Int) > 70) = true := decide_eq_true (by omega)
    go_enter Tryd.func3, Tryd.ntmps3
    go_wp2_with (go_at_call 5; refine (k0.out _ b0).mono ?_; rintro e w1 ⟨rfl, b1⟩)
    go_ret
    exact ⟨rfl, b1⟩
  · have hi : decide ((la : Int) > 70) = false := decide_eq_false (by omega)
    have hj : decide ((lb : Int) > 70) = true := decide_eq_true (by omega)
    go_enter Tryd.func3, Tryd.ntmps3
    go_wp2_with (go_at_call 5; refine (k0.out _ b0).mono ?_; rintro e w1 ⟨rfl, b1⟩)
    go_ret
    exact ⟨rfl, b1⟩
theorem same_to {w1 : World} (a c : Option Addr) (len cap cap' : Nat) (X : Nat → Int) (hl : len ≤ 64) (h : IsInts w1 a len cap X) (h' : IsInts w1 c len cap' X) :
    Hid (∀ W, Below w1.heap.size w1 W → Calls Tryd.prog 9 #[.slice a len cap, .slice c len cap'] W fun e w' => e = .returned (.bool true) ∧ Below w1.heap.size w1 w') :=
  fun W hW => (same_yes a c len cap cap' X hl W (h.below hW) (h'.below hW)).mono fun e w' ⟨he, hb⟩ => ⟨he, below_then hW hb⟩
theorem walkNo (w : World) (hd : DTab w) (a c : Option Addr) (la ca lb cb : Nat) (X Y : Nat → Int) (ha : la ≤ 70) (hb : lb ≤ 70) (h : IsInts w a la ca X) (h' : IsInts w c lb cb Y) (hr : rightB X Y la lb = false) :
    Calls Tryd.prog 3 #[.slice a la ca, .slice c lb cb] w fun e w' => e = .returned (.bool true) ∧ Below w.heap.size w w' := by
  have mx : ∀ n, n ≤ 70 → n ≤ maxLen := fun n hn => Nat.le_trans hn (by decide)
  have hi : decide ((la : Int) > 70) = false := decide_eq_false (by omega)
  have hj : decide ((lb : Int) > 70) = false := decide_eq_false (by omega)
  have k0 := awake_to hd
  have K1 : Hid (∀ W, Below w.heap.size w W → ∀ t, Calls Tryd.prog 6 #[.pointer (some ⟨t, 0, none⟩), .slice a la ca, .slice c lb cb] W fun e w' => e = .returned (.tuple #[.slice none 0 0, .slice none 0 0]) ∧ w' = W) :=
    fun W hW t => waves_no t a c la ca lb cb X Y W (fun _ => h.below hW) (fun _ => h'.below hW) (mx _ ha) (mx _ hb) hr
  have K2 : Hid (∀ W, Below w.heap.size w W → Calls Tryd.prog 8 #[.slice a la ca, .slice c lb cb] W fun e w' => e = .returned (.tuple #[.slice none 0 0, .slice none 0 0]) ∧ w' = W) :=
    fun W hW => rwaves_no a c la ca lb cb X Y W (fun _ => h.below hW) (fun _ => h'.below hW) (mx _ ha) (mx _ hb) hr
  have K3 := same_to (w1 := w) none none 0 0 0 X (by omega) (.inl rfl) (.inl rfl)
  clear h h' hr hd mx
  go_enter Tryd.func3, Tryd.ntmps3
  go_wp2_with (first
    | (go_at_call 7; refine (make_any _).mono ?_; rintro e w1 ⟨rfl, _, b1⟩)
    | (go_at_call 6; (with_reducible refine (K1.out _ b1 _).mono ?_); rintro e w2 ⟨rfl, rfl⟩)
    | (go_at_call 8; (with_reducible refine (K2.out _ b1).mono ?_); rintro e w2 ⟨rfl, rfl⟩)
    | (go_at_call 6; (with_reducible refine (waves_nil _ _ _ _ _ _ _).mono ?_); rintro e w2 ⟨rfl, rfl⟩)
    | (go_at_call 9; (with_reducible refine (K3.out _ b1).mono ?_); rintro e w2 ⟨rfl, b1⟩)
    | (go_at_call 5; (with_reducible refine (k0.out _ b1).mono ?_); rintro e w2 ⟨rfl, b1⟩))
  go_ret
  exact ⟨rfl, b1⟩
theorem walkYes (w : World) (hd : DTab w) {m : Nat} (hm : m ≤ 6) (n : Nat) (hn : n = 2 ^ m) (a c : Option Addr) (ca cb : Nat) (F : Nat → P2) (bd : ∀ x, Bd 1048576 (F x)) (h : IsInts w a n ca (fst F)) (h' : IsInts w c n cb (snd F)) :
    Calls Tryd.prog 3 #[.slice a n ca, .slice c n cb] w fun e w' => e = .returned (.bool true) ∧ Below w.heap.size w w' := by
  have H64 : n ≤ 64 := by rw [hn]; exact Nat.pow_le_pow_right (by omega) (show m ≤ 6 from hm)
  have hi : decide ((n : Int) > 70) = false := decide_eq_false (by omega)
  have K1 : Hid (∀ W, Below w.heap.size w W → ∀ t, Tab t W → Calls Tryd.prog 6 #[.pointer (some ⟨t, 0, none⟩), .slice a n ca, .slice c n cb] W (WPost m n (wav m F) W)) :=
    fun W hW t ht => waves_yes hm n hn t a c ca cb F bd W ht (hd.below hW) (h.below hW) (h'.below hW)
  have K2 : Hid (∀ W, Below w.heap.size w W → Calls Tryd.prog 8 #[.slice a n ca, .slice c n cb] W (RPost m n F W)) :=
    fun W hW => rwaves_yes hm n hn a c ca cb F bd W (h.below hW) (h'.below hW)
  have HM : Hid (n ≤ maxLen) := Nat.le_trans H64 (by decide)
  have HN : Hid (n ≤ 64) := H64
  have HD : Hid (DTab w) := hd
  clear h h' hd hn bd
  go_enter Tryd.func3, Tryd.ntmps3
  go_wp2_with (go_at_call 7; refine (make_any _).mono ?_; rintro e w1 ⟨rfl, ht, b1⟩)
  refine (K1.out _ b1 _ ht).mono ?_
  rintro e w2 ⟨r, q, rfl, h2⟩
  have B2 : Hid (Below w.heap.size w w2) := b1.trans (h2.bel.mono b1.size)
  have HA : Hid (IsInts w2 (some ⟨r, 0, none⟩) n n (fst (wav m F))) := h2.a.ints HM.out
  have HB : Hid (IsInts w2 (some ⟨q, 0, none⟩) n n (snd (wav m F))) := h2.b.ints HM.out
  clear h2 b1 ht K1
  go_wp2_with (fail)
  refine (K2.out _ B2.out).mono ?_
  rintro e w3 ⟨a1, c1, a2, c2, rfl, i1, i2, b3⟩
  have S1 := same_to (some ⟨r, 0, none⟩) a1 n n c1 (fst (wav m F)) HN.out (HA.out.below b3) i1
  have S2 := same_to (some ⟨q, 0, none⟩) a2 n n c2 (snd (wav m F)) HN.out (HB.out.below b3) i2
  have B3 : Hid (Below w.heap.size w w3) := B2.out.trans (b3.mono B2.out.size)
  have b0 := Below.refl w3.heap.size w3
  have k1 := awake_to (HD.out.below B3.out)
  clear HA HB i1 i2 b3 K2 B2
  go_wp2_with (first
    | (go_at_call 6; (with_reducible refine (waves_nil _ _ _ _ _ _ _).mono ?_); rintro e w2 ⟨rfl, rfl⟩)
    | (go_at_call 9; (with_reducible refine (S1.out _ b0).mono ?_); rintro e w4 ⟨rfl, b0⟩)
    | (go_at_call 9; (with_reducible refine (S2.out _ b0).mono ?_); rintro e w4 ⟨rfl, b0⟩)
    | (go_at_call 5; (with_reducible refine (k1.out _ b0).mono ?_); rintro e w5 ⟨rfl, b0⟩))
  go_ret
  exact ⟨rfl, B3.out.trans (b0.mono B3.out.size)⟩
theorem walk (w : World) (hd : DTab w) (a : Option Addr) (la ca : Nat) (X : Nat → Int) (h : la ≤ maxLen ∧ IsInts w a la ca X) (c : Option Addr) (lb cb : Nat) (Y : Nat → Int) (h' : lb ≤ maxLen ∧ IsInts w c lb cb Y) :
    Calls Tryd.prog 3 #[.slice a la ca, .slice c lb cb] w fun e w' => e = .returned (.bool true) ∧ Below w.heap.size w w' := by
  by_cases hb : 70 < la ∨ 70 < lb
  · exact walkBig w hd a c la ca lb cb h.1 h'.1 hb
  cases hr : rightB X Y la lb with
  | false => exact walkNo w hd a c la ca lb cb X Y (by omega) (by omega) h.2 h'.2 hr
  | true =>
    obtain ⟨rfl, m, F, hm, hn, bd, e1, e2⟩ := right_ex hr
    exact walkYes w hd hm _ hn a c ca cb F bd (h.2.congr e1) (h'.2.congr e2)

set_option maxRecDepth 100000 in
theorem lifted (os : Os) (started : os.Started) (H : Type) (enc : TypeId × Value → H) :
    ReturnsInHanded {} Tryd.checked os 3 .any (fun w args => (Rows.fftTellsSpec.pre enc Tryd.prog Tryd.f3 [] false w args ∧ laidMetH Tryd.prog Rows.fftTellsRow.laid w) ∧ sizedMet enc Tryd.prog Tryd.f3 (OpenSpec.ofChange Rows.fftTellsSpec) false w args)
      (Rows.fftTellsSpec.post enc Tryd.prog Tryd.f3 false true false false) := by
  refine returnsInHanded_of_change_and (C := Tryd.checked) (X := fun w _ => laidMetH Tryd.prog Rows.fftTellsRow.laid w) (fun _ _ _ hh h => h.of_heap hh) own started (by kernel_rfl) Tryd.func3
    (ChangeSpec.witness_shaped (enc := enc) (C := Tryd.checked) (os := os) (X := fun w _ => laidMetH Tryd.prog Rows.fftTellsRow.laid w) false (World.laidAll Tryd.prog os Rows.fftTellsRow.laid) #[.slice none 0 0, .slice none 0 0] 8 (World.laidAll_os _ _ _)
      (World.shaped_of_ZipB (by kernel_rfl) (by kernel_rfl)) (by kernel_rfl) (by kernel_rfl) (by kernel_rfl)
      (by rw [MakeChecks.laidMetH_plain _ _ _ (by kernel_rfl)]; exact laidMet_laidAll _ (by kernel_rfl) (by kernel_rfl))) ?_
  intro W base args ds gs before hval0 hW _ _ hL _
  have hval : ∀ (j : Nat) t v, Tryd.f3.params[j]? = some t → args[j]? = some v → Value.okWide Tryd.prog W .any base t v := hval0
  have hW' := hW
  obtain ⟨p, q, hA0, hV, rfl, hfz, hnd⟩ := hW
  have hA : DataW.TrodAll enc Tryd.prog W 0 (fun _ => true) true Tryd.f3.params.toList args.toList ds p := hA0
  rw [Tryd.params3] at hA hval
  obtain ⟨v0, vs0, d0, ds0, p0, q0, hargs, rfl, rfl, h0, r0⟩ := trodAll_cons hA
  obtain ⟨v1, vs1, d1, ds1, p1, q1, rfl, rfl, rfl, h1, r1⟩ := trodAll_cons r0
  obtain ⟨rfl, rfl, rfl⟩ := trodAll_nil r1
  obtain rfl : args = #[v0, v1] := by cases args; simp_all
  obtain ⟨rfl, rfl⟩ := trodVars_none hV
  obtain ⟨a0, len0, cap0, rfl⟩ := okWide_slice Tryd.underlying22 (hval 0 22 v0 rfl rfl)
  have k0 := h0
  have lt0 : ∀ x ∈ p0, x.block < W.heap.size := by obtain ⟨m, hm⟩ := k0; exact DataW.trod_lt m _ _ _ hm
  obtain ⟨x0, w0⟩ : ∃ X : Nat → Int, len0 ≤ maxLen ∧ IsInts W a0 len0 cap0 X := by
    obtain ⟨fuel, hf⟩ := h0
    exact open_isints Tryd.underlying22 Tryd.underlying3 (by kernel_rfl) hf
  obtain ⟨a1, len1, cap1, rfl⟩ := okWide_slice Tryd.underlying22 (hval 1 22 v1 rfl rfl)
  have k1 := h1
  have lt1 : ∀ x ∈ p1, x.block < W.heap.size := by obtain ⟨m, hm⟩ := k1; exact DataW.trod_lt m _ _ _ hm
  obtain ⟨x1, w1⟩ : ∃ X : Nat → Int, len1 ≤ maxLen ∧ IsInts W a1 len1 cap1 X := by
    obtain ⟨fuel, hf⟩ := h1
    exact open_isints Tryd.underlying22 Tryd.underlying3 (by kernel_rfl) hf
  clear hA0 hval0
  refine (walk W (dtab_of_laid (by kernel_rfl) hL (by simp [Rows.fftTellsRow])) a0 len0 cap0 x0 w0 a1 len1 cap1 x1 w1).mono fun e W' ⟨he, bel⟩ => ?_
  subst he
  exact ⟨_, rfl, _, _, _, [], _, [], hW', trodAll_mk1 (shut_bool Tryd.underlying4 _), (trodAll_cons_mk (Below.trod laidOut (by kernel_rfl) (of_decide_eq_true (by kernel_rfl)) k0 bel lt0) (trodAll_cons_mk (Below.trod laidOut (by kernel_rfl) (of_decide_eq_true (by kernel_rfl)) k1 bel lt1) trodAll_mk0)), rfl, bel.frame _, fun h => by cases h⟩

theorem over : Rows.fftTellsRow.holds Tryd.pinned (OpenSpec.ofChange Rows.fftTellsSpec) :=
  OpenClaim.holds_of_wide 3 Tryd.f3 rfl rfl rfl rfl rfl rfl rfl ⟨rfl, rfl, rfl, rfl, rfl⟩ rfl rfl rfl rfl rfl (by kernel_rfl) Tryd.func3 (by kernel_rfl)
    (of_decide_eq_true (by kernel_rfl)) (by unfold Func.isWrapper; first | (rw [if_pos (by decide +kernel)]; kernel_rfl) | (rw [if_neg (by decide +kernel)]; exact ⟨rfl, rfl⟩))
    (fun os started H enc _ => lifted os started H enc)

theorem plain (f : FuncId) (fn : Func) (hf : Tryd.pinned.checked.prog.funcNamed "splicer/splicerlaw09.FftTells" = some f) (hfn : Tryd.pinned.checked.prog.funcs[f]? = some fn) :
    false = Tryd.pinned.checked.prog.looks [] ∧ ∀ (j : Nat) t, fn.params[j]? = some t → Tryd.pinned.checked.prog.wantsStandIn t = false := by
  obtain rfl : f = 3 := Option.some.inj ((show Tryd.prog.funcNamed "splicer/splicerlaw09.FftTells" = some 3 by kernel_rfl).symm.trans hf) |>.symm
  obtain rfl : fn = Tryd.f3 := (Option.some.inj (Tryd.func3.symm.trans hfn)).symm
  refine ⟨by kernel_rfl, fun j t ht => ?_⟩
  rw [Tryd.params3] at ht
  have hm : t ∈ [22, 22] := by simpa using Array.mem_of_getElem? ht
  have hall : ([22, 22].all fun u => !Tryd.prog.wantsStandIn u) = true := by kernel_rfl
  exact (show Tryd.prog.wantsStandIn t = false by simpa using List.all_eq_true.1 hall t hm)

/-- The statement. -/
theorem proved : Rows.FftTellsCardSaid :=
  Claim7.holds_tied_plain_at .later [] _ _ _ _ over (fun _ h => by cases h) (by kernel_rfl) (fun _ h => by cases h) fftTells_row_tie rfl ⟨rfl, rfl⟩ (by kernel_rfl) rfl plain (by kernel_rfl)
#print axioms proved
end Go.Proofs.YthkojbmfhaaiiaaDoor.fftTells
