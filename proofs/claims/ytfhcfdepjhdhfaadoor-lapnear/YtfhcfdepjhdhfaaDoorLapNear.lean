/-
  Proved: for any two spectra of 64 numbers from -2^25 to 2^25, one behind the other, long or short, each sample of the second frame is off by 2 at most from the exact sum of what both spectra say there, rounded down and held (other lists: the law answers by the chapter's example alone). Conditions: none beside the row's own (the slope's eight numbers read as the program's text lays them; the card ties it to the pruned copy).
-/
import Derived.Test.YtfhcfdepjhdhfaaDoorCards
import Derived.Test.YtfhcfdepjhdhfaaDoorTie
import Derived.Test.YtfhcfdepjhdhfaaDoorYV
import Derived.Test.YtfhcfdepjhdhfaaDoorYJ
import Derived.Test.YtfhcfdepjhdhfaaDoorZL
import Derived.WalkKit
import Derived.ProofKit
import Derived.OpenShut
import Derived.ShutString
import Derived.ChangeOld
import Derived.Below
import Derived.Lay
import Derived.LaidOnce
import Derived.SevenTiedAt
namespace Go.Proofs.YtfhcfdepjhdhfaaDoor.lapNear
open Go.ChangeShapes Go.WideShapes Go.ChangeAt Go.RowKit
open Go.ChangeMaps (open_string shut_string)
set_option linter.unusedVariables false

theorem own : ownKnob Tryd.prog.godebug = none := by kernel_rfl
theorem laidOut : laidOutB Tryd.prog = true := by kernel_rfl

theorem right_in {n : Nat} {u : Nat → Int} (hb : ∀ k, -67108864 ≤ u k ∧ u k ≤ 67108864) (j : Nat) : -35184372088832 ≤ wRightF n u j ∧ wRightF n u j ≤ 35184372088832 := by
  have w2 := wF_bd (7 - j)
  unfold wRightF
  split
  · have m := mul_bd' w2.1 w2.2 (hb (n - 4 + j)).1 (hb (n - 4 + j)).2
    omega
  · have m := mul_bd' w2.1 w2.2 (hb (n + 3 - j)).1 (hb (n + 3 - j)).2
    rw [Int.neg_mul]
    omega
theorem end_right (short : Bool) (T X : Nat → Int) : endF short T X = wRightF (nS short) (backF (nS short) (xS short X (kS short - 1))) := by
  unfold endF tlF
  rw [if_neg (by cases short <;> decide)]
  rfl
theorem end_in (short : Bool) (T : Nat → Int) {X : Nat → Int} (hX : ∀ i, i < 64 → -33554432 ≤ X i ∧ X i ≤ 33554432) : allIn (-35184372088832) 35184372088832 (endF short T X) 8 = true := by
  refine (allIn_iff _ _ _ _).2 fun j _ => ?_
  rw [end_right]
  exact right_in (fun k => back_lo (isNS short) (xS_bd short hX _ (by cases short <;> decide)) k) j
theorem walkNo (w : World) (hs : STab w) (a a' : Option Addr) (len cap len' cap' : Nat) (X Y : Nat → Int) (ml : len ≤ maxLen) (ml' : len' ≤ maxLen) (h : IsInts w a len cap X) (h' : IsInts w a' len' cap' Y) (sx sy : Bool)
    (hno : ¬ (len = 64 ∧ len' = 64 ∧ rightF X 64 33554432 = true ∧ rightF Y 64 33554432 = true)) :
    Calls Tryd.prog 4 #[.slice a len cap, .slice a' len' cap', .bool sx, .bool sy] w fun e w' => e = .returned (.bool true) ∧ Below w.heap.size w w' := by
  have k0 := lawake_to hs
  have b0 := Below.refl w.heap.size w
  clear hs
  by_cases h1 : len = 64
  · subst h1
    by_cases h2 : len' = 64
    · subst h2
      have K1 := hid (xright_any 33554432 (by omega) (by omega) a 64 cap X ml w h)
      have K2 := hid (xright_any 33554432 (by omega) (by omega) a' 64 cap' Y ml' w h')
      clear h h' ml ml'
      cases hr : rightF X 64 33554432 with
      | false =>
        rw [hr] at K1
        clear hr hno K2
        go_enter Tryd.func4, Tryd.ntmps4
        go_wp2_with (fail)
        refine Calls.mono K1.out ?_
        rintro e w1 ⟨rfl, rfl⟩
        clear K1
        go_wp2_with (go_at_call 7; (with_reducible refine (k0.out _ b0).mono ?_); rintro e w8 ⟨rfl, b8⟩)
        go_ret
        exact ⟨rfl, b8⟩
      | true =>
        have hr2 : rightF Y 64 33554432 = false := by
          cases e : rightF Y 64 33554432 with
          | false => rfl
          | true => exact (hno ⟨rfl, rfl, hr, e⟩).elim
        rw [hr] at K1
        rw [hr2] at K2
        clear hr hno hr2
        go_enter Tryd.func4, Tryd.ntmps4
        go_wp2_with (fail)
        refine Calls.mono K1.out ?_
        rintro e w1 ⟨rfl, rfl⟩
        clear K1
        go_wp2_with (fail)
        refine Calls.mono K2.out ?_
        rintro e w2 ⟨rfl, rfl⟩
        clear K2
        go_wp2_with (go_at_call 7; (with_reducible refine (k0.out _ b0).mono ?_); rintro e w8 ⟨rfl, b8⟩)
        go_ret
        exact ⟨rfl, b8⟩
    · have h1' : ((len' : Int) != 64) = true := by
        have : ((len' : Int) == 64) = false := by simp; omega
        rw [bne, this]; rfl
      unfold maxLen at ml ml'
      clear h h' hno
      go_enter Tryd.func4, Tryd.ntmps4
      go_wp2_with (go_at_call 7; (with_reducible refine (k0.out _ b0).mono ?_); rintro e w8 ⟨rfl, b8⟩)
      go_ret
      exact ⟨rfl, b8⟩
  · have h1' : ((len : Int) != 64) = true := by
      have : ((len : Int) == 64) = false := by simp; omega
      rw [bne, this]; rfl
    unfold maxLen at ml ml'
    clear h h' hno
    go_enter Tryd.func4, Tryd.ntmps4
    go_wp2_with (go_at_call 7; (with_reducible refine (k0.out _ b0).mono ?_); rintro e w8 ⟨rfl, b8⟩)
    go_ret
    exact ⟨rfl, b8⟩
theorem walkYes (w : World) (hs : STab w) (a a' : Option Addr) (cap cap' : Nat) (X Y : Nat → Int) (h : IsInts w a 64 cap X) (h' : IsInts w a' 64 cap' Y) (sx sy : Bool) (hX : rightF X 64 33554432 = true) (hY : rightF Y 64 33554432 = true) :
    Calls Tryd.prog 4 #[.slice a 64 cap, .slice a' 64 cap', .bool sx, .bool sy] w fun e w' => e = .returned (.bool true) ∧ Below w.heap.size w w' := by
  have bX := (rightF_yes hX).2
  have bY := (rightF_yes hY).2
  have k0 := lawake_to hs
  have aX : allIn (-33554432) 33554432 X 64 = true := (allIn_iff _ _ _ _).2 bX
  have aY : allIn (-33554432) 33554432 Y 64 = true := (allIn_iff _ _ _ _).2 bY
  refine lnear_yes (nS sx) (kS sx) (nS sy) (kS sy) (nkS sx) (nkS sy) sx sy a a' cap cap' X Y (xS sx X) (xS sy Y) hX hY (xS_bd sx bX) (xS_bd sy bY) w h h' (fun W hW => rspectra_ok sx a cap X W (h.below hW)) (fun W hW => rspectra_ok sy a' cap' Y W (h'.below hW))
    w.heap.size (smpF sx (fun _ => 0) X) (fun W => Tab w.heap.size W) ?_ (fun W W' h hb => h.below h.1 hb) (fun W hW hT => ?_) (endF sy (endF sx (fun _ => 0) X) Y) (fun W hW hT => ?_) (fun W hW => ?_)
  · refine (make_any w).mono ?_
    rintro e w1 ⟨rfl, ht, hb⟩
    exact ⟨rfl, hb, ht⟩
  · refine (frame_ok sx w.heap.size a cap X (fun _ => 0) aX ok_tail W hT (hs.below hW) (h.below hW)).mono ?_
    rintro e w1 ⟨r, rfl, _, h1, h2⟩
    rw [← end_right sx (fun _ => 0) X]
    exact ⟨_, _, rfl, h1.ints (by decide), h2⟩
  · rw [← end_right sx (fun _ => 0) X]
    refine (frame_ok sy w.heap.size a' cap' Y (endF sx (fun _ => 0) X) aY (end_in sx _ bX) W hT (hs.below hW) (h'.below hW)).mono ?_
    rintro e w1 ⟨r, rfl, _, h1, h2⟩
    exact ⟨_, _, rfl, h1.ints (by decide), h2⟩
  · exact lawake_any W (hs.below hW)
theorem walk (w : World) (hs : STab w) (a : Option Addr) (len cap : Nat) (X : Nat → Int) (h : len ≤ maxLen ∧ IsInts w a len cap X) (a' : Option Addr) (len' cap' : Nat) (Y : Nat → Int) (h' : len' ≤ maxLen ∧ IsInts w a' len' cap' Y) (sx sy : Bool) :
    Calls Tryd.prog 4 #[.slice a len cap, .slice a' len' cap', .bool sx, .bool sy] w fun e w' => e = .returned (.bool true) ∧ Below w.heap.size w w' := by
  by_cases hno : len = 64 ∧ len' = 64 ∧ rightF X 64 33554432 = true ∧ rightF Y 64 33554432 = true
  · obtain ⟨rfl, rfl, h1, h2⟩ := hno
    exact walkYes w hs a a' cap cap' X Y h.2 h'.2 sx sy h1 h2
  · exact walkNo w hs a a' len cap len' cap' X Y h.1 h'.1 h.2 h'.2 sx sy hno

set_option maxRecDepth 100000 in
theorem lifted (os : Os) (started : os.Started) (H : Type) (enc : TypeId × Value → H) :
    ReturnsInHanded {} Tryd.checked os 4 .any (fun w args => (Rows.lapNearSpec.pre enc Tryd.prog Tryd.f4 [] false w args ∧ laidMetH Tryd.prog Rows.lapNearRow.laid w) ∧ sizedMet enc Tryd.prog Tryd.f4 (OpenSpec.ofChange Rows.lapNearSpec) false w args)
      (Rows.lapNearSpec.post enc Tryd.prog Tryd.f4 false true false false) := by
  refine returnsInHanded_of_change_and (C := Tryd.checked) (X := fun w _ => laidMetH Tryd.prog Rows.lapNearRow.laid w) (fun _ _ _ hh h => h.of_heap hh) own started (by kernel_rfl) Tryd.func4
    (ChangeSpec.witness_shaped (enc := enc) (C := Tryd.checked) (os := os) (X := fun w _ => laidMetH Tryd.prog Rows.lapNearRow.laid w) false (World.laidAll Tryd.prog os Rows.lapNearRow.laid) #[.slice none 0 0, .slice none 0 0, .bool false, .bool false] 8 (World.laidAll_os _ _ _)
      (World.shaped_of_ZipB (by kernel_rfl) (by kernel_rfl)) (by kernel_rfl) (by kernel_rfl) (by kernel_rfl)
      (by rw [MakeChecks.laidMetH_plain _ _ _ (by kernel_rfl)]; exact laidMet_laidAll _ (by kernel_rfl) (by kernel_rfl))) ?_
  intro W base args ds gs before hval0 hW _ _ hL _
  have hval : ∀ (j : Nat) t v, Tryd.f4.params[j]? = some t → args[j]? = some v → Value.okWide Tryd.prog W .any base t v := hval0
  have hW' := hW
  obtain ⟨p, q, hA0, hV, rfl, hfz, hnd⟩ := hW
  have hA : DataW.TrodAll enc Tryd.prog W 0 (fun _ => true) true Tryd.f4.params.toList args.toList ds p := hA0
  rw [Tryd.params4] at hA hval
  obtain ⟨v0, vs0, d0, ds0, p0, q0, hargs, rfl, rfl, h0, r0⟩ := trodAll_cons hA
  obtain ⟨v1, vs1, d1, ds1, p1, q1, rfl, rfl, rfl, h1, r1⟩ := trodAll_cons r0
  obtain ⟨v2, vs2, d2, ds2, p2, q2, rfl, rfl, rfl, h2, r2⟩ := trodAll_cons r1
  obtain ⟨v3, vs3, d3, ds3, p3, q3, rfl, rfl, rfl, h3, r3⟩ := trodAll_cons r2
  obtain ⟨rfl, rfl, rfl⟩ := trodAll_nil r3
  obtain rfl : args = #[v0, v1, v2, v3] := by cases args; simp_all
  obtain ⟨rfl, rfl⟩ := trodVars_none hV
  obtain ⟨a0, len0, cap0, rfl⟩ := okWide_slice Tryd.underlying23 (hval 0 23 v0 rfl rfl)
  have k0 := h0
  have lt0 : ∀ x ∈ p0, x.block < W.heap.size := by obtain ⟨m, hm⟩ := k0; exact DataW.trod_lt m _ _ _ hm
  obtain ⟨x0, w0⟩ : ∃ X : Nat → Int, len0 ≤ maxLen ∧ IsInts W a0 len0 cap0 X := by
    obtain ⟨fuel, hf⟩ := h0
    exact open_isints Tryd.underlying23 Tryd.underlying3 (by kernel_rfl) hf
  obtain ⟨a1, len1, cap1, rfl⟩ := okWide_slice Tryd.underlying23 (hval 1 23 v1 rfl rfl)
  have k1 := h1
  have lt1 : ∀ x ∈ p1, x.block < W.heap.size := by obtain ⟨m, hm⟩ := k1; exact DataW.trod_lt m _ _ _ hm
  obtain ⟨x1, w1⟩ : ∃ X : Nat → Int, len1 ≤ maxLen ∧ IsInts W a1 len1 cap1 X := by
    obtain ⟨fuel, hf⟩ := h1
    exact open_isints Tryd.underlying23 Tryd.underlying3 (by kernel_rfl) hf
  obtain ⟨a2, rfl, rfl, rfl⟩ := open_bool Tryd.underlying4 (hval 2 4 v2 rfl rfl) h2
  obtain ⟨a3, rfl, rfl, rfl⟩ := open_bool Tryd.underlying4 (hval 3 4 v3 rfl rfl) h3
  clear hA0 hval0
  refine (walk W (stab_of_laid (by kernel_rfl) hL (by simp [Rows.lapNearRow])) a0 len0 cap0 x0 w0 a1 len1 cap1 x1 w1 a2 a3).mono fun e W' ⟨he, bel⟩ => ?_
  subst he
  exact ⟨_, rfl, _, _, _, [], _, [], hW', trodAll_mk1 (shut_bool Tryd.underlying4 _), (trodAll_cons_mk (Below.trod laidOut (by kernel_rfl) (of_decide_eq_true (by kernel_rfl)) k0 bel lt0) (trodAll_cons_mk (Below.trod laidOut (by kernel_rfl) (of_decide_eq_true (by kernel_rfl)) k1 bel lt1) (trodAll_cons_mk (shut_bool Tryd.underlying4 a2) (trodAll_cons_mk (shut_bool Tryd.underlying4 a3) trodAll_mk0)))), rfl, bel.frame _, fun h => by cases h⟩

theorem over : Rows.lapNearRow.holds Tryd.pinned (OpenSpec.ofChange Rows.lapNearSpec) :=
  OpenClaim.holds_of_wide 4 Tryd.f4 rfl rfl rfl rfl rfl rfl rfl ⟨rfl, rfl, rfl, rfl, rfl⟩ rfl rfl rfl rfl rfl (by kernel_rfl) Tryd.func4 (by kernel_rfl)
    (of_decide_eq_true (by kernel_rfl)) (by unfold Func.isWrapper; first | (rw [if_pos (by decide +kernel)]; kernel_rfl) | (rw [if_neg (by decide +kernel)]; exact ⟨rfl, rfl⟩))
    (fun os started H enc _ => lifted os started H enc)

theorem plain (f : FuncId) (fn : Func) (hf : Tryd.pinned.checked.prog.funcNamed "splicer/splicerlaw12.LapNear" = some f) (hfn : Tryd.pinned.checked.prog.funcs[f]? = some fn) :
    false = Tryd.pinned.checked.prog.looks [] ∧ ∀ (j : Nat) t, fn.params[j]? = some t → Tryd.pinned.checked.prog.wantsStandIn t = false := by
  obtain rfl : f = 4 := Option.some.inj ((show Tryd.prog.funcNamed "splicer/splicerlaw12.LapNear" = some 4 by kernel_rfl).symm.trans hf) |>.symm
  obtain rfl : fn = Tryd.f4 := (Option.some.inj (Tryd.func4.symm.trans hfn)).symm
  refine ⟨by kernel_rfl, fun j t ht => ?_⟩
  rw [Tryd.params4] at ht
  have hm : t ∈ [23, 23, 4, 4] := by simpa using Array.mem_of_getElem? ht
  have hall : ([23, 23, 4, 4].all fun u => !Tryd.prog.wantsStandIn u) = true := by kernel_rfl
  exact (show Tryd.prog.wantsStandIn t = false by simpa using List.all_eq_true.1 hall t hm)

/-- The statement. -/
theorem proved : Rows.LapNearCardSaid :=
  Claim7.holds_tied_plain_at .later [] _ _ _ _ over (fun _ h => by cases h) (by kernel_rfl) (fun _ h => by cases h) lapNear_row_tie rfl ⟨rfl, rfl⟩ (by kernel_rfl) rfl plain (by kernel_rfl)
#print axioms proved
end Go.Proofs.YtfhcfdepjhdhfaaDoor.lapNear
