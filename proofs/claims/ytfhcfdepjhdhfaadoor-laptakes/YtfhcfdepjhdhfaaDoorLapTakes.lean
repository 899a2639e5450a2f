/-
  Proved: for any list of ints of up to 80 numbers, long or short, the spectrum is the document's, or none where the document has none, and who has no table tells none (longer lists: the law answers by the chapter's example alone). Conditions: none beside the row's own (the slope's eight numbers and the library's tables of bits read as their texts lay them; the card ties it to the pruned copy).
-/
import Derived.Test.YtfhcfdepjhdhfaaDoorCards
import Derived.Test.YtfhcfdepjhdhfaaDoorTie
import Derived.Test.YtfhcfdepjhdhfaaDoorYV
import Derived.Test.YtfhcfdepjhdhfaaDoorYU
import Derived.Test.YtfhcfdepjhdhfaaDoorYE
import Derived.Test.YtfhcfdepjhdhfaaDoorYG
import Derived.Test.YtfhcfdepjhdhfaaDoorZL
import Derived.WalkKit
import Derived.ProofKit
import Derived.OpenShut
import Derived.ShutString
import Derived.ChangeOld
import Derived.Below
import Derived.Lay
import Derived.LaidOnce
import Derived.SevenTiedAt
namespace Go.Proofs.YtfhcfdepjhdhfaaDoor.lapTakes
open Go.ChangeShapes Go.WideShapes Go.ChangeAt Go.RowKit
open Go.ChangeMaps (open_string shut_string)
set_option linter.unusedVariables false

theorem own : ownKnob Tryd.prog.godebug = none := by kernel_rfl
theorem laidOut : laidOutB Tryd.prog = true := by kernel_rfl

theorem walkBig (w : World) (hs : STab w) (a : Option Addr) (len cap : Nat) (ml : len ≤ maxLen) (h : 80 < len) (b : Bool) :
    Calls Tryd.prog 6 #[.slice a len cap, .bool b] w fun e w' => e = .returned (.bool true) ∧ Below w.heap.size w w' := by
  unfold maxLen at ml
  have k0 := lawake_to hs
  have b0 := Below.refl w.heap.size w
  have hi : decide ((len : Int) > 80) = true := decide_eq_true (by omega)
  clear hs
  go_enter Tryd.func6, Tryd.ntmps6
  go_wp2_with (go_at_call 7; refine (k0.out _ b0).mono ?_; rintro e w1 ⟨rfl, b1⟩)
  go_ret
  exact ⟨rfl, b1⟩
theorem walkNo (w : World) (hs : STab w) (a : Option Addr) (len cap : Nat) (X : Nat → Int) (h80 : len ≤ 80) (h : IsInts w a len cap X) (hX : ¬ (len = 72 ∧ Fit15 X 72)) (b : Bool) :
    Calls Tryd.prog 6 #[.slice a len cap, .bool b] w fun e w' => e = .returned (.bool true) ∧ Below w.heap.size w w' := by
  have ml : len ≤ maxLen := Nat.le_trans h80 (by decide)
  have hi : decide ((len : Int) > 80) = false := decide_eq_false (by omega)
  have k0 := lawake_to hs
  have K1 : Hid (∀ W, Below w.heap.size w W → ∀ t, Calls Tryd.prog 20 #[.pointer (some ⟨t, 0, none⟩), .slice a len cap, .bool b] W fun e w' => e = .returned (.slice none 0 0) ∧ w' = W) := fun W hW t => take_no b t a len cap X ml hX W (h.below hW)
  have K2 : Hid (∀ W, Below w.heap.size w W → Calls Tryd.prog 21 #[.slice a len cap, .bool b] W fun e w' => e = .returned (.slice none 0 0) ∧ w' = W) := fun W hW => rtake_no b a len cap X (by omega) hX W (h.below hW)
  have K3 : Hid (∀ W, Calls Tryd.prog 11 #[.slice none 0 0, .slice none 0 0] W fun e w' => e = .returned (.bool true) ∧ Below W.heap.size W w') := fun W => same_yes none none 0 0 0 (fun _ => 0) (by omega) W (.inl rfl) (.inl rfl)
  clear h hX ml hs
  go_enter Tryd.func6, Tryd.ntmps6
  go_wp2_with (first
    | (go_at_call 8; refine (make_any _).mono ?_; rintro e w1 ⟨rfl, _, b1⟩)
    | (go_at_call 20; (with_reducible refine (K1.out _ b1 _).mono ?_); rintro e w2 ⟨rfl, rfl⟩)
    | (go_at_call 21; (with_reducible refine (K2.out _ b1).mono ?_); rintro e w2 ⟨rfl, rfl⟩)
    | (go_at_call 11; (with_reducible refine (K3.out _).mono ?_); rintro e w3 ⟨rfl, b3⟩; have b13 := below_then b1 b3)
    | (go_at_call 20; (with_reducible refine (take_nil _ _ _ _ _).mono ?_); rintro e w2 ⟨rfl, rfl⟩)
    | (go_at_call 7; (with_reducible refine (k0.out _ b13).mono ?_); rintro e w8 ⟨rfl, b8⟩))
  go_ret
  exact ⟨rfl, b8⟩
theorem walkYes (w : World) (hd : DTab w) (hs : STab w) (a : Option Addr) (cap : Nat) (X : Nat → Int) (h : IsInts w a 72 cap X) (hX : Fit15 X 72) (b : Bool) :
    Calls Tryd.prog 6 #[.slice a 72 cap, .bool b] w fun e w' => e = .returned (.bool true) ∧ Below w.heap.size w w' := by
  have k0 := lawake_to hs
  have K1 : Hid (∀ W t, Below w.heap.size w W → Tab t W → Calls Tryd.prog 20 #[.pointer (some ⟨t, 0, none⟩), .slice a 72 cap, .bool b] W (SPost 64 (takeF b X) W)) := fun W t hW ht => by
    cases b
    · exact take_long t a cap X hX W ht (hd.below hW) (hs.below hW) (h.below hW)
    · exact take_short t a cap X hX W ht (hd.below hW) (hs.below hW) (h.below hW)
  have K2 : Hid (∀ W, Below w.heap.size w W → Calls Tryd.prog 21 #[.slice a 72 cap, .bool b] W (SPost 64 (takeF b X) W)) := fun W hW => by
    cases b
    · exact rtake_long a cap X hX W (h.below hW)
    · exact rtake_short a cap X hX W (h.below hW)
  clear h hX hs hd
  go_enter Tryd.func6, Tryd.ntmps6
  go_wp2_with (go_at_call 8; refine (make_any _).mono ?_; rintro e w1 ⟨rfl, ht, b1⟩)
  have B1 := hid b1
  refine (K1.out w1 _ b1 ht).mono ?_
  rintro e w2 ⟨r2, rfl, _, h2, b2⟩
  have H2 := hid h2
  have B2 := hid (below_then B1.out b2)
  clear h2 b2 b1 ht K1
  go_wp2_with (fail)
  refine (K2.out w2 B2.out).mono ?_
  rintro e w3 ⟨r3, rfl, _, h3, b3⟩
  have S1 := hid (same_yes (some ⟨r2, 0, none⟩) (some ⟨r3, 0, none⟩) 64 64 64 (takeF b X) (by omega) w3 ((H2.out.below b3).ints (by decide)) (h3.ints (by decide)))
  have B3 := hid (below_then B2.out b3)
  clear h3 b3 H2 K2
  go_wp2_with (fail)
  refine Calls.mono S1.out ?_
  rintro e w4 ⟨rfl, b4⟩
  have b14 := below_then B3.out b4
  clear b4 S1
  go_wp2_with (first
    | (go_at_call 20; (with_reducible refine (take_nil _ _ _ _ _).mono ?_); rintro e w2 ⟨rfl, rfl⟩)
    | (go_at_call 7; (with_reducible refine (k0.out _ b14).mono ?_); rintro e w8 ⟨rfl, b8⟩))
  go_ret
  exact ⟨rfl, b8⟩
theorem walk (w : World) (hd : DTab w) (hs : STab w) (a : Option Addr) (len cap : Nat) (X : Nat → Int) (h : len ≤ maxLen ∧ IsInts w a len cap X) (b : Bool) :
    Calls Tryd.prog 6 #[.slice a len cap, .bool b] w fun e w' => e = .returned (.bool true) ∧ Below w.heap.size w w' := by
  by_cases h80 : 80 < len
  · exact walkBig w hs a len cap h.1 h80 b
  by_cases hX : len = 72 ∧ Fit15 X 72
  · obtain ⟨rfl, hX⟩ := hX
    exact walkYes w hd hs a cap X h.2 hX b
  · exact walkNo w hs a len cap X (by omega) h.2 hX b

set_option maxRecDepth 100000 in
theorem lifted (os : Os) (started : os.Started) (H : Type) (enc : TypeId × Value → H) :
    ReturnsInHanded {} Tryd.checked os 6 .any (fun w args => (Rows.lapTakesSpec.pre enc Tryd.prog Tryd.f6 [] false w args ∧ laidMetH Tryd.prog Rows.lapTakesRow.laid w) ∧ sizedMet enc Tryd.prog Tryd.f6 (OpenSpec.ofChange Rows.lapTakesSpec) false w args)
      (Rows.lapTakesSpec.post enc Tryd.prog Tryd.f6 false true false false) := by
  refine returnsInHanded_of_change_and (C := Tryd.checked) (X := fun w _ => laidMetH Tryd.prog Rows.lapTakesRow.laid w) (fun _ _ _ hh h => h.of_heap hh) own started (by kernel_rfl) Tryd.func6
    (ChangeSpec.witness_shaped (enc := enc) (C := Tryd.checked) (os := os) (X := fun w _ => laidMetH Tryd.prog Rows.lapTakesRow.laid w) false (World.laidAll Tryd.prog os Rows.lapTakesRow.laid) #[.slice none 0 0, .bool false] 8 (World.laidAll_os _ _ _)
      (World.shaped_of_ZipB (by kernel_rfl) (by kernel_rfl)) (by kernel_rfl) (by kernel_rfl) (by kernel_rfl)
      (by rw [MakeChecks.laidMetH_plain _ _ _ (by kernel_rfl)]; exact laidMet_laidAll _ (by kernel_rfl) (by kernel_rfl))) ?_
  intro W base args ds gs before hval0 hW _ _ hL _
  have hval : ∀ (j : Nat) t v, Tryd.f6.params[j]? = some t → args[j]? = some v → Value.okWide Tryd.prog W .any base t v := hval0
  have hW' := hW
  obtain ⟨p, q, hA0, hV, rfl, hfz, hnd⟩ := hW
  have hA : DataW.TrodAll enc Tryd.prog W 0 (fun _ => true) true Tryd.f6.params.toList args.toList ds p := hA0
  rw [Tryd.params6] at hA hval
  obtain ⟨v0, vs0, d0, ds0, p0, q0, hargs, rfl, rfl, h0, r0⟩ := trodAll_cons hA
  obtain ⟨v1, vs1, d1, ds1, p1, q1, rfl, rfl, rfl, h1, r1⟩ := trodAll_cons r0
  obtain ⟨rfl, rfl, rfl⟩ := trodAll_nil r1
  obtain rfl : args = #[v0, v1] := by cases args; simp_all
  obtain ⟨rfl, rfl⟩ := trodVars_none hV
  obtain ⟨a0, len0, cap0, rfl⟩ := okWide_slice Tryd.underlying23 (hval 0 23 v0 rfl rfl)
  have k0 := h0
  have lt0 : ∀ x ∈ p0, x.block < W.heap.size := by obtain ⟨m, hm⟩ := k0; exact DataW.trod_lt m _ _ _ hm
  obtain ⟨x0, w0⟩ : ∃ X : Nat → Int, len0 ≤ maxLen ∧ IsInts W a0 len0 cap0 X := by
    obtain ⟨fuel, hf⟩ := h0
    exact open_isints Tryd.underlying23 Tryd.underlying3 (by kernel_rfl) hf
  obtain ⟨a1, rfl, rfl, rfl⟩ := open_bool Tryd.underlying4 (hval 1 4 v1 rfl rfl) h1
  clear hA0 hval0
  refine (walk W (dtab_of_laid (by kernel_rfl) hL (by simp [Rows.lapTakesRow])) (stab_of_laid (by kernel_rfl) hL (by simp [Rows.lapTakesRow])) a0 len0 cap0 x0 w0 a1).mono fun e W' ⟨he, bel⟩ => ?_
  subst he
  exact ⟨_, rfl, _, _, _, [], _, [], hW', trodAll_mk1 (shut_bool Tryd.underlying4 _), (trodAll_cons_mk (Below.trod laidOut (by kernel_rfl) (of_decide_eq_true (by kernel_rfl)) k0 bel lt0) (trodAll_cons_mk (shut_bool Tryd.underlying4 a1) trodAll_mk0)), rfl, bel.frame _, fun h => by cases h⟩

theorem over : Rows.lapTakesRow.holds Tryd.pinned (OpenSpec.ofChange Rows.lapTakesSpec) :=
  OpenClaim.holds_of_wide 6 Tryd.f6 rfl rfl rfl rfl rfl rfl rfl ⟨rfl, rfl, rfl, rfl, rfl⟩ rfl rfl rfl rfl rfl (by kernel_rfl) Tryd.func6 (by kernel_rfl)
    (of_decide_eq_true (by kernel_rfl)) (by unfold Func.isWrapper; first | (rw [if_pos (by decide +kernel)]; kernel_rfl) | (rw [if_neg (by decide +kernel)]; exact ⟨rfl, rfl⟩))
    (fun os started H enc _ => lifted os started H enc)

theorem plain (f : FuncId) (fn : Func) (hf : Tryd.pinned.checked.prog.funcNamed "splicer/splicerlaw12.LapTakes" = some f) (hfn : Tryd.pinned.checked.prog.funcs[f]? = some fn) :
    false = Tryd.pinned.checked.prog.looks [] ∧ ∀ (j : Nat) t, fn.params[j]? = some t → Tryd.pinned.checked.prog.wantsStandIn t = false := by
  obtain rfl : f = 6 := Option.some.inj ((show Tryd.prog.funcNamed "splicer/splicerlaw12.LapTakes" = some 6 by kernel_rfl).symm.trans hf) |>.symm
  obtain rfl : fn = Tryd.f6 := (Option.some.inj (Tryd.func6.symm.trans hfn)).symm
  refine ⟨by kernel_rfl, fun j t ht => ?_⟩
  rw [Tryd.params6] at ht
  have hm : t ∈ [23, 4] := by simpa using Array.mem_of_getElem? ht
  have hall : ([23, 4].all fun u => !Tryd.prog.wantsStandIn u) = true := by kernel_rfl
  exact (show Tryd.prog.wantsStandIn t = false by simpa using List.all_eq_true.1 hall t hm)

/-- The statement. -/
theorem proved : Rows.LapTakesCardSaid :=
  Claim7.holds_tied_plain_at .later [] _ _ _ _ over (fun _ h => by cases h) (by kernel_rfl) (fun _ h => by cases h) lapTakes_row_tie rfl ⟨rfl, rfl⟩ (by kernel_rfl) rfl plain (by kernel_rfl)
#print axioms proved
end Go.Proofs.YtfhcfdepjhdhfaaDoor.lapTakes
