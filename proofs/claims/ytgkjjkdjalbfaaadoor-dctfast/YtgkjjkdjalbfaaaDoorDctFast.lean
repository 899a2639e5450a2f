/-
  Proved: for any list of ints of up to 70 numbers, the fast spectrum of a block of numbers from -2^18 to 2^18 is the document's, each number off by 64 at most from the spectrum's; of others there is none (longer lists: the law answers by the chapter's example alone). Conditions: none beside the row's own (the library's table of bits reads as its text lays it; the card ties it to the pruned copy).
-/
import Derived.Test.YtgkjjkdjalbfaaaDoorCards
import Derived.Test.YtgkjjkdjalbfaaaDoorTie
import Derived.Test.YtgkjjkdjalbfaaaDoorXL
import Derived.WalkKit
import Derived.ProofKit
import Derived.OpenShut
import Derived.ShutString
import Derived.ChangeOld
import Derived.Below
import Derived.Lay
import Derived.LaidOnce
import Derived.SevenTiedAt
namespace Go.Proofs.YtgkjjkdjalbfaaaDoor.dctFast
open Go.ChangeShapes Go.WideShapes Go.ChangeAt Go.RowKit
open Go.ChangeMaps (open_string shut_string)
set_option linter.unusedVariables false

theorem own : ownKnob Tryd.prog.godebug = none := by kernel_rfl
theorem laidOut : laidOutB Tryd.prog = true := by kernel_rfl

theorem walkBig (w : World) (a : Option Addr) (len cap : Nat) (ml : len ≤ maxLen) (h : 70 < len) :
    Calls Tryd.prog 4 #[.slice a len cap] w fun e w' => e = .returned (.bool true) ∧ Below w.heap.size w w' := by
  unfold maxLen at ml
  have k0 := xawake_to w
  have b0 := Below.refl w.heap.size w
  have hi : decide ((len : Int) > 70) = true := decide_eq_true (by omega)
  go_enter Tryd.func4, Tryd.ntmps4
  go_wp2_with (go_at_call 5; refine (k0.out _ b0).mono ?_; rintro e w1 ⟨rfl, b1⟩)
  go_ret
  exact ⟨rfl, b1⟩
theorem walkNo (w : World) (a : Option Addr) (len cap : Nat) (X : Nat → Int) (h70 : len ≤ 70) (h : IsInts w a len cap X) (hr : rightF X len 262144 = false) :
    Calls Tryd.prog 4 #[.slice a len cap] w fun e w' => e = .returned (.bool true) ∧ Below w.heap.size w w' := by
  have ml : len ≤ maxLen := Nat.le_trans h70 (by decide)
  have hi : decide ((len : Int) > 70) = false := decide_eq_false (by omega)
  have k0 := xawake_to w
  have K1 : Hid (∀ W, Below w.heap.size w W → ∀ t, Calls Tryd.prog 12 #[.pointer (some ⟨t, 0, none⟩), .slice a len cap] W fun e w' => e = .returned (.slice none 0 0) ∧ w' = W) := fun W hW t => fast_no t a len cap X ml hr W (h.below hW)
  have K2 : Hid (∀ W, Below w.heap.size w W → Calls Tryd.prog 13 #[.slice a len cap, .int .i64 262144] W fun e w' => e = .returned (.bool false) ∧ w' = W) := fun W hW => by
    have := xright_any 262144 (by omega) (by omega) a len cap X ml W (h.below hW)
    rwa [hr] at this
  clear h hr ml
  go_enter Tryd.func4, Tryd.ntmps4
  go_wp2_with (first
    | (go_at_call 6; refine (make_any _).mono ?_; rintro e w1 ⟨rfl, _, b1⟩)
    | (go_at_call 12; (with_reducible refine (K1.out _ b1 _).mono ?_); rintro e w2 ⟨rfl, rfl⟩)
    | (go_at_call 13; (with_reducible refine (K2.out _ b1).mono ?_); rintro e w2 ⟨rfl, rfl⟩)
    | (go_at_call 5; (with_reducible refine (k0.out _ b1).mono ?_); rintro e w2 ⟨rfl, b1⟩))
  go_ret
  exact ⟨rfl, b1⟩
set_option maxRecDepth 100000 in
theorem walkYes (w : World) (hd : DTab w) {n : Nat} (hN : IsN n) (a : Option Addr) (cap : Nat) (X : Nat → Int) (hX : ∀ i, i < n → -262144 ≤ X i ∧ X i ≤ 262144) (h : IsInts w a n cap X) :
    Calls Tryd.prog 4 #[.slice a n cap] w fun e w' => e = .returned (.bool true) ∧ Below w.heap.size w w' := by
  obtain ⟨m, st, hb⟩ := blk_of hN
  have hle := hN.le
  have hi : decide ((n : Int) > 70) = false := decide_eq_false (by omega)
  have HM : Hid (n ≤ maxLen) := Nat.le_trans hle (by decide)
  have hn1 : 1 ≤ n := by have := hN.ge; omega
  have K1 : Hid (∀ W t, Below w.heap.size w W → Tab t W → Calls Tryd.prog 12 #[.pointer (some ⟨t, 0, none⟩), .slice a n cap] W (SPost n (fastF n m X) W)) := fun W t hW ht => fast_yes hb t a cap X hX W ht (hd.below hW) (h.below hW)
  have K2 : Hid (∀ W, Below w.heap.size w W → Calls Tryd.prog 13 #[.slice a n cap, .int .i64 262144] W fun e w' => e = .returned (.bool true) ∧ w' = W) := fun W hW => by
    have := xright_any 262144 (by omega) (by omega) a n cap X HM.out W (h.below hW)
    rwa [rightF_of hN hX] at this
  have K3 : Hid (∀ W, Below w.heap.size w W → Calls Tryd.prog 9 #[.slice a n cap] W (OPost n (fourF n X) W)) := fun W hW => rfour_yes hN a cap X (fun i hi => by have := hX i hi; omega) W (h.below hW)
  have K4 : Hid (∀ W, Below w.heap.size w W → Calls Tryd.prog 14 #[.slice a n cap] W (SPost n (fastF n m X) W)) := fun W hW => rfast_yes hb a cap X hX W (h.below hW)
  have HF : Hid (∀ i, i < n → ∃ p q : Int, fastF n m X i = p ∧ fourF n X i = q ∧ p - q ≤ 64 ∧ q - p ≤ 64 ∧ -16777216 ≤ q ∧ q ≤ 16777216) := fun i hi => by
    have h1 := fast_near hb hX hi
    have h2 := four_bd hN hX i
    exact ⟨_, _, rfl, rfl, h1.1, h1.2, by omega, by omega⟩
  clear h hX hd hb hN
  go_enter Tryd.func4, Tryd.ntmps4
  go_wp2_with (go_at_call 6; refine (make_any _).mono ?_; rintro e w1 ⟨rfl, ht, b1⟩)
  refine (K1.out _ _ b1 ht).mono ?_
  rintro e w2 ⟨r, rfl, _, h2, b2⟩
  have B2 : Hid (Below w.heap.size w w2) := below_then b1 b2
  have R2 : Hid (RowAt r n (fastF n m X) w2) := h2
  clear ht b1 h2 b2 K1
  have hn0 : ((n : Int) == 0) = false := by simp; omega
  go_wp2_with (go_at_call 13; (with_reducible refine (K2.out _ B2.out).mono ?_); rintro e w3 ⟨rfl, rfl⟩)
  refine (K3.out _ B2.out).mono ?_
  rintro e w4 ⟨a4, c4, rfl, i4, b4⟩
  have B4 : Hid (Below w3.heap.size w3 w4) := b4
  have I4 : Hid (IsInts w4 a4 n c4 (fourF n X)) := i4
  clear i4 b4 K2 K3
  go_wp2_with (fail)
  refine (K4.out _ (below_then B2.out B4.out)).mono ?_
  rintro e w5 ⟨q, rfl, _, h5, b5⟩
  have B5 : Hid (Below w4.heap.size w4 w5) := b5
  have S1 : Hid (Calls Tryd.prog 7 #[.slice (some ⟨r, 0, none⟩) n n, .slice (some ⟨q, 0, none⟩) n n] w5 fun e w' => e = .returned (.bool true) ∧ Below w5.heap.size w5 w') := same_yes _ _ n n n (fastF n m X) hle w5 (((R2.out.below B4.out).below b5).ints HM.out) (h5.ints HM.out)
  clear h5 b5 K4
  go_wp2_with (fail)
  refine Calls.mono S1.out ?_
  rintro e w6 ⟨rfl, b6⟩
  have B6 : Hid (Below w.heap.size w w6) := below_then B2.out (below_then B4.out (below_then B5.out b6))
  have CA : Hid (∀ W, Below w6.heap.size w6 W → ∀ i, i < n → W.cell? ⟨r, i, none⟩ = some (.int .i64 (fastF n m X i))) := fun W hW i hi => ((((R2.out.below B4.out).below B5.out).below b6).below hW).get hi
  obtain ⟨fb, fo, rfl, CB⟩ := ((I4.out.below B5.out).below b6).cells hn1
  replace CB : Hid (∀ W, Below w6.heap.size w6 W → ∀ i, i < n → W.cell? ⟨fb, fo + i, none⟩ = some (.int .i64 (fourF n X i))) := CB
  have KA := xawake_to w6
  clear b6 S1 R2 I4
  go_wp2
  go_loopw [5] (fun i wr => ∃ k : Nat, k ≤ n ∧ i = .int .i64 k ∧ Hid (Below w6.heap.size w6 wr)) (fun i _ => n - (intOf i).toNat)
  case atStart => exact ⟨0, Nat.zero_le _, rfl, Below.refl _ _⟩
  case round =>
    obtain ⟨k, hk, rfl, HW⟩ := hrel
    by_cases hlt : k < n
    · obtain ⟨x, y, e1, e2, f1, f2, f3, f4⟩ := HF.out k hlt
      have ca : ∀ W, Below wr.heap.size wr W → W.cell? ⟨r, k, none⟩ = some (.int .i64 x) := fun W hq => by rw [← e1]; exact CA.out W (below_then HW.out hq) k hlt
      have cb : ∀ W, Below wr.heap.size wr W → W.cell? ⟨fb, fo + k, none⟩ = some (.int .i64 y) := fun W hq => by rw [← e2]; exact CB.out W (below_then HW.out hq) k hlt
      have g1 : decide (64 < x - y) = false := by simp; omega
      have g2 : decide (64 < y - x) = false := by simp; omega
      clear e1 e2
      go_wp2
      refine region_below (by kernel_rfl) (by kernel_rfl) ?_
      repeat (go_big_quiet_step (first
        | (intro hq; rfl)
        | (intro hq; rw [ca _ hq]; exact ⟨rfl, rfl⟩)
        | (intro hq; rw [cb _ hq]; exact ⟨rfl, rfl⟩)))
      refine wpQuiet_nil ?_
      intro w7 hq
      have HW7 : Hid (Below w6.heap.size w6 w7) := below_then HW.out hq
      clear hq ca cb HW
      go_wp2
      refine ⟨⟨k + 1, by omega, by go_num, HW7⟩, by simp [intOf]; omega⟩
    · obtain rfl : k = n := by omega
      go_wp2_with (go_at_call 5; (with_reducible refine (KA.out _ HW.out).mono ?_); rintro e w8 ⟨rfl, b8⟩)
      go_ret
      exact ⟨rfl, below_then B6.out b8⟩
theorem walk (w : World) (hd : DTab w) (a : Option Addr) (len cap : Nat) (X : Nat → Int) (h : len ≤ maxLen ∧ IsInts w a len cap X) :
    Calls Tryd.prog 4 #[.slice a len cap] w fun e w' => e = .returned (.bool true) ∧ Below w.heap.size w w' := by
  by_cases h70 : 70 < len
  · exact walkBig w a len cap h.1 h70
  cases hr : rightF X len 262144 with
  | false => exact walkNo w a len cap X (by omega) h.2 hr
  | true =>
    obtain ⟨hN, hX⟩ := rightF_yes hr
    exact walkYes w hd hN a cap X hX h.2

set_option maxRecDepth 100000 in
theorem lifted (os : Os) (started : os.Started) (H : Type) (enc : TypeId × Value → H) :
    ReturnsInHanded {} Tryd.checked os 4 .any (fun w args => (Rows.dctFastSpec.pre enc Tryd.prog Tryd.f4 [] false w args ∧ laidMetH Tryd.prog Rows.dctFastRow.laid w) ∧ sizedMet enc Tryd.prog Tryd.f4 (OpenSpec.ofChange Rows.dctFastSpec) false w args)
      (Rows.dctFastSpec.post enc Tryd.prog Tryd.f4 false true false false) := by
  refine returnsInHanded_of_change_and (C := Tryd.checked) (X := fun w _ => laidMetH Tryd.prog Rows.dctFastRow.laid w) (fun _ _ _ hh h => h.of_heap hh) own started (by kernel_rfl) Tryd.func4
    (ChangeSpec.witness_shaped (enc := enc) (C := Tryd.checked) (os := os) (X := fun w _ => laidMetH Tryd.prog Rows.dctFastRow.laid w) false (World.laidAll Tryd.prog os Rows.dctFastRow.laid) #[.slice none 0 0] 8 (World.laidAll_os _ _ _)
      (World.shaped_of_ZipB (by kernel_rfl) (by kernel_rfl)) (by kernel_rfl) (by kernel_rfl) (by kernel_rfl)
      (by rw [MakeChecks.laidMetH_plain _ _ _ (by kernel_rfl)]; exact laidMet_laidAll _ (by kernel_rfl) (by kernel_rfl))) ?_
  intro W base args ds gs before hval0 hW _ _ hL _
  have hval : ∀ (j : Nat) t v, Tryd.f4.params[j]? = some t → args[j]? = some v → Value.okWide Tryd.prog W .any base t v := hval0
  have hW' := hW
  obtain ⟨p, q, hA0, hV, rfl, hfz, hnd⟩ := hW
  have hA : DataW.TrodAll enc Tryd.prog W 0 (fun _ => true) true Tryd.f4.params.toList args.toList ds p := hA0
  rw [Tryd.params4] at hA hval
  obtain ⟨v0, vs0, d0, ds0, p0, q0, hargs, rfl, rfl, h0, r0⟩ := trodAll_cons hA
  obtain ⟨rfl, rfl, rfl⟩ := trodAll_nil r0
  obtain rfl : args = #[v0] := by cases args; simp_all
  obtain ⟨rfl, rfl⟩ := trodVars_none hV
  obtain ⟨a0, len0, cap0, rfl⟩ := okWide_slice Tryd.underlying22 (hval 0 22 v0 rfl rfl)
  have k0 := h0
  have lt0 : ∀ x ∈ p0, x.block < W.heap.size := by obtain ⟨m, hm⟩ := k0; exact DataW.trod_lt m _ _ _ hm
  obtain ⟨x0, w0⟩ : ∃ X : Nat → Int, len0 ≤ maxLen ∧ IsInts W a0 len0 cap0 X := by
    obtain ⟨fuel, hf⟩ := h0
    exact open_isints Tryd.underlying22 Tryd.underlying3 (by kernel_rfl) hf
  clear hA0 hval0
  refine (walk W (dtab_of_laid (by kernel_rfl) hL (by simp [Rows.dctFastRow])) a0 len0 cap0 x0 w0).mono fun e W' ⟨he, bel⟩ => ?_
  subst he
  exact ⟨_, rfl, _, _, _, [], _, [], hW', trodAll_mk1 (shut_bool Tryd.underlying4 _), (trodAll_cons_mk (Below.trod laidOut (by kernel_rfl) (of_decide_eq_true (by kernel_rfl)) k0 bel lt0) trodAll_mk0), rfl, bel.frame _, fun h => by cases h⟩

theorem over : Rows.dctFastRow.holds Tryd.pinned (OpenSpec.ofChange Rows.dctFastSpec) :=
  OpenClaim.holds_of_wide 4 Tryd.f4 rfl rfl rfl rfl rfl rfl rfl ⟨rfl, rfl, rfl, rfl, rfl⟩ rfl rfl rfl rfl rfl (by kernel_rfl) Tryd.func4 (by kernel_rfl)
    (of_decide_eq_true (by kernel_rfl)) (by unfold Func.isWrapper; first | (rw [if_pos (by decide +kernel)]; kernel_rfl) | (rw [if_neg (by decide +kernel)]; exact ⟨rfl, rfl⟩))
    (fun os started H enc _ => lifted os started H enc)

theorem plain (f : FuncId) (fn : Func) (hf : Tryd.pinned.checked.prog.funcNamed "splicer/splicerlaw10.DctFast" = some f) (hfn : Tryd.pinned.checked.prog.funcs[f]? = some fn) :
    false = Tryd.pinned.checked.prog.looks [] ∧ ∀ (j : Nat) t, fn.params[j]? = some t → Tryd.pinned.checked.prog.wantsStandIn t = false := by
  obtain rfl : f = 4 := Option.some.inj ((show Tryd.prog.funcNamed "splicer/splicerlaw10.DctFast" = some 4 by kernel_rfl).symm.trans hf) |>.symm
  obtain rfl : fn = Tryd.f4 := (Option.some.inj (Tryd.func4.symm.trans hfn)).symm
  refine ⟨by kernel_rfl, fun j t ht => ?_⟩
  rw [Tryd.params4] at ht
  have hm : t ∈ [22] := by simpa using Array.mem_of_getElem? ht
  have hall : ([22].all fun u => !Tryd.prog.wantsStandIn u) = true := by kernel_rfl
  exact (show Tryd.prog.wantsStandIn t = false by simpa using List.all_eq_true.1 hall t hm)

/-- The statement. -/
theorem proved : Rows.DctFastCardSaid :=
  Claim7.holds_tied_plain_at .later [] _ _ _ _ over (fun _ h => by cases h) (by kernel_rfl) (fun _ h => by cases h) dctFast_row_tie rfl ⟨rfl, rfl⟩ (by kernel_rfl) rfl plain (by kernel_rfl)
#print axioms proved
end Go.Proofs.YtgkjjkdjalbfaaaDoor.dctFast
