/-
  Proved: for any two lists of ints that are right (as many of both, a power of two up to 64, none beyond 2^20), each wave is off by 100 at most from the sum of all numbers, each turned by its place times k, rounded once (other lists: the law answers by the chapter's example alone). Conditions: none beside the row's own (the library's table of bits reads as its text lays it; the card ties it to the pruned copy).
-/
import Derived.Test.YthkojbmfhaaiiaaDoorCards
import Derived.Test.YthkojbmfhaaiiaaDoorTie
import Derived.Test.YthkojbmfhaaiiaaDoorFL
import Derived.Test.YthkojbmfhaaiiaaDoorFO
import Derived.WalkKit
import Derived.ProofKit
import Derived.OpenShut
import Derived.ShutString
import Derived.ChangeOld
import Derived.Below
import Derived.Lay
import Derived.LaidOnce
import Derived.SevenTiedAt
namespace Go.Proofs.YthkojbmfhaaiiaaDoor.fftNear
open Go.ChangeShapes Go.WideShapes Go.ChangeAt Go.RowKit
open Go.ChangeMaps (open_string shut_string)
set_option linter.unusedVariables false

theorem own : ownKnob Tryd.prog.godebug = none := by kernel_rfl
theorem laidOut : laidOutB Tryd.prog = true := by kernel_rfl

theorem walkNo (w : World) (hd : DTab w) (a c : Option Addr) (la ca lb cb : Nat) (X Y : Nat → Int) (ha : la ≤ maxLen) (hb : lb ≤ maxLen) (h : IsInts w a la ca X) (h' : IsInts w c lb cb Y) (hr : rightB X Y la lb = false) :
    Calls Tryd.prog 4 #[.slice a la ca, .slice c lb cb] w fun e w' => e = .returned (.bool true) ∧ Below w.heap.size w w' := by
  have k0 := awake_to hd
  have b0 := Below.refl w.heap.size w
  have HR : Hid (Calls Tryd.prog 10 #[.slice a la ca, .slice c lb cb] w fun e w' => e = .returned (.bool false) ∧ w' = w) := by
    have := rright_any a c la ca lb cb X Y w (fun _ => h) (fun _ => h') ha hb
    rw [hr] at this
    exact this
  clear h h' hr hd ha hb
  go_enter Tryd.func4, Tryd.ntmps4
  go_wp2_with (first
    | (go_at_call 10; (with_reducible refine HR.out.mono ?_); rintro e w1 ⟨rfl, rfl⟩)
    | (go_at_call 5; (with_reducible refine (k0.out _ b0).mono ?_); rintro e w2 ⟨rfl, b0⟩))
  go_ret
  exact ⟨rfl, b0⟩
set_option maxHeartbeats 1000000 in
set_option maxRecDepth 100000 in
theorem walkYes (w : World) (hd : DTab w) {m : Nat} (hm : m ≤ 6) (n : Nat) (hn : n = 2 ^ m) (a c : Option Addr) (ca cb : Nat) (F : Nat → P2) (bd : ∀ x, Bd 1048576 (F x)) (h : IsInts w a n ca (fst F)) (h' : IsInts w c n cb (snd F)) :
    Calls Tryd.prog 4 #[.slice a n ca, .slice c n cb] w fun e w' => e = .returned (.bool true) ∧ Below w.heap.size w w' := by
  have H64 : n ≤ 64 := by rw [hn]; exact Nat.pow_le_pow_right (by omega) (show m ≤ 6 from hm)
  have HM : n ≤ maxLen := Nat.le_trans H64 (by decide)
  have HR : Hid (Calls Tryd.prog 10 #[.slice a n ca, .slice c n cb] w fun e w' => e = .returned (.bool true) ∧ w' = w) := by
    have := rright_any a c n ca n cb (fst F) (snd F) w (fun _ => h) (fun _ => h') HM HM
    rw [right_of hm hn bd] at this
    exact this
  have K1 : Hid (∀ W, Below w.heap.size w W → ∀ t, Tab t W → Calls Tryd.prog 6 #[.pointer (some ⟨t, 0, none⟩), .slice a n ca, .slice c n cb] W (WPost m n (wav m F) W)) :=
    fun W hW t ht => waves_yes hm n hn t a c ca cb F bd W ht (hd.below hW) (h.below hW) (h'.below hW)
  have K2 : Hid (∀ W, Below w.heap.size w W → ∀ k, k < n → Calls Tryd.prog 11 #[.slice a n ca, .slice c n cb, .int .i64 k] W fun e w' => e = .returned (.tuple #[.int .i64 (shr24 (dRe m F k)), .int .i64 (shr24 (dIm m F k))]) ∧ Below W.heap.size W w') :=
    fun W hW k hk => rdirect_any hm n hn a c ca cb F bd k hk W (h.below hW) (h'.below hW)
  have HF : Hid (∀ k, k < n → ∃ p1 p2 d1 d2 : Int, (wav m F k).1 = p1 ∧ (wav m F k).2 = p2 ∧ shr24 (dRe m F k) = d1 ∧ shr24 (dIm m F k) = d2 ∧ p1 - d1 ≤ 100 ∧ d1 - p1 ≤ 100 ∧ p2 - d2 ≤ 100 ∧ d2 - p2 ≤ 100 ∧ -764411904 ≤ p1 ∧ p1 ≤ 764411904 ∧ -764411904 ≤ p2 ∧ p2 ≤ 764411904) := fun k hk => by
    obtain ⟨⟨u1, u2⟩, ⟨u3, u4⟩⟩ := near_sum hm bd (k := k) (by rw [← hn]; exact hk)
    obtain ⟨⟨v1, v2⟩, ⟨v3, v4⟩⟩ := wav_bd m F bd k
    have := bnd_le hm
    exact ⟨_, _, _, _, rfl, rfl, rfl, rfl, u1, u2, u3, u4, by omega, by omega, by omega, by omega⟩
  have HD : Hid (DTab w) := hd
  clear h h' hd hn bd HM
  go_enter Tryd.func4, Tryd.ntmps4
  go_wp2_with (first
    | (go_at_call 10; (with_reducible refine HR.out.mono ?_); rintro e w0 ⟨rfl, rfl⟩)
    | (go_at_call 7; refine (make_any _).mono ?_; rintro e w1 ⟨rfl, ht, b1⟩))
  refine (K1.out _ b1 _ ht).mono ?_
  rintro e w2 ⟨r, q, rfl, h2⟩
  have B2 : Hid (Below w0.heap.size w0 w2) := b1.trans (h2.bel.mono b1.size)
  have CA : Hid (∀ W, Below w2.heap.size w2 W → ∀ i, i < n → W.cell? ⟨r, i, none⟩ = some (.int .i64 (wav m F i).1)) := fun W hW i hi => (h2.a.below hW).get hi
  have CB : Hid (∀ W, Below w2.heap.size w2 W → ∀ i, i < n → W.cell? ⟨q, i, none⟩ = some (.int .i64 (wav m F i).2)) := fun W hW i hi => (h2.b.below hW).get hi
  have KA := awake_to (HD.out.below B2.out)
  clear h2 b1 ht K1 HR HD
  go_wp2
  go_loopw [7] (fun i wr => ∃ k : Nat, k ≤ n ∧ i = .int .i64 k ∧ Hid (Below w2.heap.size w2 wr)) (fun i _ => n - (intOf i).toNat)
  case atStart => exact ⟨0, Nat.zero_le _, rfl, Below.refl _ _⟩
  case round =>
    obtain ⟨k, hk, rfl, HB⟩ := hrel
    by_cases hlt : k < n
    · have HK := K2.out wr (below_then B2.out HB.out) k hlt
      obtain ⟨p1, p2, d1, d2, e1, e2, e3, e4, u1, u2, u3, u4, v1, v2, v3, v4⟩ := HF.out k hlt
      rw [e3, e4] at HK
      replace HK : Hid _ := HK
      have ca := fun W hW => CA.out W hW k hlt
      have cb := fun W hW => CB.out W hW k hlt
      rw [e1] at ca
      rw [e2] at cb
      replace ca : Hid _ := ca
      replace cb : Hid _ := cb
      clear e1 e2 e3 e4 CA CB HF K2
      go_wp2_with (fail)
      refine Calls.mono HK.out ?_
      rintro e w3 ⟨rfl, b3⟩
      have B3 : Hid (Below w2.heap.size w2 w3) := below_then HB.out b3
      have c1 := ca.out _ B3.out
      have c2 := cb.out _ B3.out
      clear b3 HK HB ca cb
      go_wp2
      refine ⟨⟨k + 1, by omega, by go_num, B3⟩, by simp [intOf]; omega⟩
    · obtain rfl : k = n := by omega
      go_wp2_with (go_at_call 5; (with_reducible refine (KA.out _ HB.out).mono ?_); rintro e w3 ⟨rfl, b3⟩)
      go_ret
      exact ⟨rfl, below_then B2.out b3⟩
theorem walk (w : World) (hd : DTab w) (a : Option Addr) (la ca : Nat) (X : Nat → Int) (h : la ≤ maxLen ∧ IsInts w a la ca X) (c : Option Addr) (lb cb : Nat) (Y : Nat → Int) (h' : lb ≤ maxLen ∧ IsInts w c lb cb Y) :
    Calls Tryd.prog 4 #[.slice a la ca, .slice c lb cb] w fun e w' => e = .returned (.bool true) ∧ Below w.heap.size w w' := by
  cases hr : rightB X Y la lb with
  | false => exact walkNo w hd a c la ca lb cb X Y h.1 h'.1 h.2 h'.2 hr
  | true =>
    obtain ⟨rfl, m, F, hm, hn, bd, e1, e2⟩ := right_ex hr
    exact walkYes w hd hm _ hn a c ca cb F bd (h.2.congr e1) (h'.2.congr e2)

set_option maxRecDepth 100000 in
theorem lifted (os : Os) (started : os.Started) (H : Type) (enc : TypeId × Value → H) :
    ReturnsInHanded {} Tryd.checked os 4 .any (fun w args => (Rows.fftNearSpec.pre enc Tryd.prog Tryd.f4 [] false w args ∧ laidMetH Tryd.prog Rows.fftNearRow.laid w) ∧ sizedMet enc Tryd.prog Tryd.f4 (OpenSpec.ofChange Rows.fftNearSpec) false w args)
      (Rows.fftNearSpec.post enc Tryd.prog Tryd.f4 false true false false) := by
  refine returnsInHanded_of_change_and (C := Tryd.checked) (X := fun w _ => laidMetH Tryd.prog Rows.fftNearRow.laid w) (fun _ _ _ hh h => h.of_heap hh) own started (by kernel_rfl) Tryd.func4
    (ChangeSpec.witness_shaped (enc := enc) (C := Tryd.checked) (os := os) (X := fun w _ => laidMetH Tryd.prog Rows.fftNearRow.laid w) false (World.laidAll Tryd.prog os Rows.fftNearRow.laid) #[.slice none 0 0, .slice none 0 0] 8 (World.laidAll_os _ _ _)
      (World.shaped_of_ZipB (by kernel_rfl) (by kernel_rfl)) (by kernel_rfl) (by kernel_rfl) (by kernel_rfl)
      (by rw [MakeChecks.laidMetH_plain _ _ _ (by kernel_rfl)]; exact laidMet_laidAll _ (by kernel_rfl) (by kernel_rfl))) ?_
  intro W base args ds gs before hval0 hW _ _ hL _
  have hval : ∀ (j : Nat) t v, Tryd.f4.params[j]? = some t → args[j]? = some v → Value.okWide Tryd.prog W .any base t v := hval0
  have hW' := hW
  obtain ⟨p, q, hA0, hV, rfl, hfz, hnd⟩ := hW
  have hA : DataW.TrodAll enc Tryd.prog W 0 (fun _ => true) true Tryd.f4.params.toList args.toList ds p := hA0
  rw [Tryd.params4] at hA hval
  obtain ⟨v0, vs0, d0, ds0, p0, q0, hargs, rfl, rfl, h0, r0⟩ := trodAll_cons hA
  obtain ⟨v1, vs1, d1, ds1, p1, q1, rfl, rfl, rfl, h1, r1⟩ := trodAll_cons r0
  obtain ⟨rfl, rfl, rfl⟩ := trodAll_nil r1
  obtain rfl : args = #[v0, v1] := by cases args; simp_all
  obtain ⟨rfl, rfl⟩ := trodVars_none hV
  obtain ⟨a0, len0, cap0, rfl⟩ := okWide_slice Tryd.underlying22 (hval 0 22 v0 rfl rfl)
  have k0 := h0
  have lt0 : ∀ x ∈ p0, x.block < W.heap.size := by obtain ⟨m, hm⟩ := k0; exact DataW.trod_lt m _ _ _ hm
  obtain ⟨x0, w0⟩ : ∃ X : Nat → Int, len0 ≤ maxLen ∧ IsInts W a0 len0 cap0 X := by
    obtain ⟨fuel, hf⟩ := h0
    exact open_isints Tryd.underlying22 Tryd.underlying3 (by kernel_rfl) hf
  obtain ⟨a1, len1, cap1, rfl⟩ := okWide_slice Tryd.underlying22 (hval 1 22 v1 rfl rfl)
  have k1 := h1
  have lt1 : ∀ x ∈ p1, x.block < W.heap.size := by obtain ⟨m, hm⟩ := k1; exact DataW.trod_lt m _ _ _ hm
  obtain ⟨x1, w1⟩ : ∃ X : Nat → Int, len1 ≤ maxLen ∧ IsInts W a1 len1 cap1 X := by
    obtain ⟨fuel, hf⟩ := h1
    exact open_isints Tryd.underlying22 Tryd.underlying3 (by kernel_rfl) hf
  clear hA0 hval0
  refine (walk W (dtab_of_laid (by kernel_rfl) hL (by simp [Rows.fftNearRow])) a0 len0 cap0 x0 w0 a1 len1 cap1 x1 w1).mono fun e W' ⟨he, bel⟩ => ?_
  subst he
  exact ⟨_, rfl, _, _, _, [], _, [], hW', trodAll_mk1 (shut_bool Tryd.underlying4 _), (trodAll_cons_mk (Below.trod laidOut (by kernel_rfl) (of_decide_eq_true (by kernel_rfl)) k0 bel lt0) (trodAll_cons_mk (Below.trod laidOut (by kernel_rfl) (of_decide_eq_true (by kernel_rfl)) k1 bel lt1) trodAll_mk0)), rfl, bel.frame _, fun h => by cases h⟩

theorem over : Rows.fftNearRow.holds Tryd.pinned (OpenSpec.ofChange Rows.fftNearSpec) :=
  OpenClaim.holds_of_wide 4 Tryd.f4 rfl rfl rfl rfl rfl rfl rfl ⟨rfl, rfl, rfl, rfl, rfl⟩ rfl rfl rfl rfl rfl (by kernel_rfl) Tryd.func4 (by kernel_rfl)
    (of_decide_eq_true (by kernel_rfl)) (by unfold Func.isWrapper; first | (rw [if_pos (by decide +kernel)]; kernel_rfl) | (rw [if_neg (by decide +kernel)]; exact ⟨rfl, rfl⟩))
    (fun os started H enc _ => lifted os started H enc)

theorem plain (f : FuncId) (fn : Func) (hf : Tryd.pinned.checked.prog.funcNamed "splicer/splicerlaw09.FftNear" = some f) (hfn : Tryd.pinned.checked.prog.funcs[f]? = some fn) :
    false = Tryd.pinned.checked.prog.looks [] ∧ ∀ (j : Nat) t, fn.params[j]? = some t → Tryd.pinned.checked.prog.wantsStandIn t = false := by
  obtain rfl : f = 4 := Option.some.inj ((show Tryd.prog.funcNamed "splicer/splicerlaw09.FftNear" = some 4 by kernel_rfl).symm.trans hf) |>.symm
  obtain rfl : fn = Tryd.f4 := (Option.some.inj (Tryd.func4.symm.trans hfn)).symm
  refine ⟨by kernel_rfl, fun j t ht => ?_⟩
  rw [Tryd.params4] at ht
  have hm : t ∈ [22, 22] := by simpa using Array.mem_of_getElem? ht
  have hall : ([22, 22].all fun u => !Tryd.prog.wantsStandIn u) = true := by kernel_rfl
  exact (show Tryd.prog.wantsStandIn t = false by simpa using List.all_eq_true.1 hall t hm)

/-- The statement. -/
theorem proved : Rows.FftNearCardSaid :=
  Claim7.holds_tied_plain_at .later [] _ _ _ _ over (fun _ h => by cases h) (by kernel_rfl) (fun _ h => by cases h) fftNear_row_tie rfl ⟨rfl, rfl⟩ (by kernel_rfl) rfl plain (by kernel_rfl)
#print axioms proved
end Go.Proofs.YthkojbmfhaaiiaaDoor.fftNear
