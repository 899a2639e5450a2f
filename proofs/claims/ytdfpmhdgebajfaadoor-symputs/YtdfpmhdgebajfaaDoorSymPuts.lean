/-
  Proved: for any list of up to 40 numbers of any sorts (above that the law answers by the chapter's example alone), which of them are coded, and the octets that the coder tells behind all of them, are the document's. Conditions: none beside the row's own (the listed tables read as the program's text lays them, sym's small differences among them; the card ties them to the pruned copy).
-/
import Derived.Test.YtdfpmhdgebajfaaDoorCards
import Derived.Test.YtdfpmhdgebajfaaDoorTie
import Derived.Test.YtdfpmhdgebajfaaDoorW5
import Derived.Test.YtdfpmhdgebajfaaDoorW6
import Derived.WalkKit
import Derived.ProofKit
import Derived.OpenShut
import Derived.ShutString
import Derived.ChangeOld
import Derived.Below
import Derived.Lay
import Derived.LaidOnce
import Derived.SevenTiedAt
namespace Go.Proofs.YtdfpmhdgebajfaaDoor.symPuts
open Go.ChangeShapes Go.WideShapes Go.ChangeAt Go.RowKit
open Go.ChangeMaps (open_string shut_string)
set_option linter.unusedVariables false

theorem own : ownKnob Tryd.prog.godebug = none := by kernel_rfl
theorem laidOut : laidOutB Tryd.prog = true := by kernel_rfl

set_option maxRecDepth 100000
/-- What stands in SymPuts' loop: c and x. -/
structure St (w : World) (s : Co) (wr : World) : Prop where
  ok : s.Ok
  fit : Fit s
  co : CoAt w.heap.size w.heap.size s wr
  dd : DoAt w.heap.size (w.heap.size + 1) s wr
  bel : Below w.heap.size w wr
theorem St.below {w : World} {s : Co} {wr w' : World} (h : St w s wr) (hb : Below wr.heap.size wr w') : St w s w' :=
  ⟨h.ok, h.fit, h.co.below hb, h.dd.below hb, h.bel.trans (hb.mono h.bel.size)⟩
/-- One item of each. -/
theorem St.items {w : World} {s : Co} {wr w1 w2 : World} (h : St w s wr) (X : Int × Int × Int) (c1 : CoAt w.heap.size w.heap.size (stI s X) w1) (f1 : Fr w.heap.size wr w1)
    (d2 : DoAt w.heap.size (w.heap.size + 1) (stI s X) w2) (g2 : Gr w.heap.size w1 w2) : St w (stI s X) w2 :=
  ⟨(stI_ok h.ok h.fit X).1, (stI_ok h.ok h.fit X).2.1, g2.co c1, d2, (h.bel.trans f1.below).trans g2.below⟩
theorem st_new (w : World) : St w zeroC ((w.alloc (.cells #[.int .i64 0, .int .i64 0, .pointer none, .int .i64 0, .bool false, .int .u8 0, .int .i64 0] 33)).alloc (.cells #[.slice none 0 0, .int .i64 0, .int .i64 0] 37)) := by
  have c1 := co_new w w.heap.size (Nat.le_refl _)
  have b1 : Below w.heap.size w (w.alloc (.cells #[.int .i64 0, .int .i64 0, .pointer none, .int .i64 0, .bool false, .int .u8 0, .int .i64 0] 33)) := (Below.refl _ w).alloc (Nat.le_refl _) _
  have s1 : (w.alloc (.cells #[.int .i64 0, .int .i64 0, .pointer none, .int .i64 0, .bool false, .int .u8 0, .int .i64 0] 33)).heap.size = w.heap.size + 1 := by simp
  generalize w.alloc (.cells #[.int .i64 0, .int .i64 0, .pointer none, .int .i64 0, .bool false, .int .u8 0, .int .i64 0] 33) = W1 at *
  have d2 := do_new W1 w.heap.size (by omega)
  have b2 := ((Below.refl _ W1).alloc (Nat.le_refl _) (.cells #[.slice none 0 0, .int .i64 0, .int .i64 0] 37))
  rw [s1] at d2
  exact ⟨zero_ok, zero_fit, c1.below b2, d2, b1.trans (b2.mono (by omega))⟩
theorem walkBig (w : World) (ht : Tab w) (a : Option Addr) (len cap : Nat) (hl : len ≤ maxLen) (h : 40 < len) :
    Calls Tryd.prog 3 #[.slice a len cap] w fun e w' => e = .returned (.bool true) ∧ Below w.heap.size w w' := by
  unfold maxLen at hl
  have hj : decide ((len : Int) > 40) = true := decide_eq_true (by omega)
  go_enter Tryd.func3, Tryd.ntmps3
  go_wp2_with (go_at_call 6; refine (awake_any _ ht).mono ?_; rintro e w7 ⟨rfl, hb7⟩)
  go_ret
  exact ⟨rfl, hb7⟩
set_option maxHeartbeats 4000000 in
theorem walkN (w : World) (ht : Tab w) (a : Option Addr) (b off len cap : Nat) (X : Nat → Int × Int × Int) (hA : len ≠ 0 → a = some ⟨b, off, none⟩) (hb : len ≠ 0 → b < w.heap.size) (hl : len ≤ 40) (hX : ∀ i, i < len → ItemAt w b (off + i * 3) (X i)) :
    Calls Tryd.prog 3 #[.slice a len cap] w fun e w' => e = .returned (.bool true) ∧ Below w.heap.size w w' := by
  have hz : 0 < w.heap.size := block_lt_of_cell (ht 0 (by decide))
  have HT : Hid (Tab w) := ht
  have HX : Hid (∀ i, i < len → ItemAt w b (off + i * 3) (X i)) := hX
  have HS0 : Hid (St w zeroC ((w.alloc (.cells #[.int .i64 0, .int .i64 0, .pointer none, .int .i64 0, .bool false, .int .u8 0, .int .i64 0] 33)).alloc (.cells #[.slice none 0 0, .int .i64 0, .int .i64 0] 37))) := st_new w
  clear hX ht
  have hj : decide ((len : Int) > 40) = false := decide_eq_false (by omega)
  have hli : (len : Int) ≤ 40 := by omega
  go_enter Tryd.func3, Tryd.ntmps3
  go_wp2
  generalize (w.alloc (.cells #[.int .i64 0, .int .i64 0, .pointer none, .int .i64 0, .bool false, .int .u8 0, .int .i64 0] 33)).alloc (.cells #[.slice none 0 0, .int .i64 0, .int .i64 0] 37) = W at *
  go_loopw [5] (fun i wr => ∃ (k : Nat) (s : Co), k ≤ len ∧ i = .int .i64 k ∧ s.T.length ≤ 12 * k ∧ St w s wr) (fun i _ => len - (intOf i).toNat)
  case atStart => exact ⟨0, zeroC, by omega, rfl, by decide, HS0.out⟩
  case round =>
    obtain ⟨k, s, hk, rfl, hT, hst⟩ := hrel
    have HS : Hid (St w s wr) := hst
    have hbel := hst.bel
    clear hst HS0
    by_cases hlt : k < len
    · obtain rfl := hA (by omega)
      have hb' := hb (by omega)
      have h3' := (HX.out k hlt).below hbel hb'
      obtain ⟨c0, c1, c2⟩ := h3'
      have hki : (k : Int) < (len : Int) := by omega
      have HSd : Hid (St w s wr.drew) := HS.out.below (below_drewN (Below.refl _ wr) 1)
      have HTr : Hid (Tab wr.drew) := HT.out.frame HSd.out.bel hz
      clear hbel
      generalize hXk : X k = Y at *
      obtain ⟨K, v, n⟩ := Y
      have HG1 : Hid (∀ w1, ItemAt w1 b (off + k * 3) (K, v, n) → Tab w1 → CoAt w.heap.size w.heap.size s w1 → w.heap.size ≤ w1.heap.size → Calls Tryd.prog 7 #[.pointer (some ⟨w.heap.size, 0, none⟩), .agg #[.int .i64 K, .int .i64 v, .int .i64 n]] w1 fun e' w' => e' = .returned (.bool (okI (K, v, n))) ∧ ItemAt w' b (off + k * 3) (K, v, n) ∧ CoAt w.heap.size w.heap.size (stI s (K, v, n)) w' ∧ Fr w.heap.size w1 w') :=
        fun w1 k1 k2 k3 k4 => (iput_at w.heap.size w.heap.size s (K, v, n) w1 k3 HS.out.ok k2 k4 (by omega)).mono fun e' w' ⟨q1, q2, q3⟩ => ⟨q1, k1.below q3.below hb', q2, q3⟩
      have HG2 : Hid (∀ w1, ItemAt w1 b (off + k * 3) (K, v, n) → DoAt w.heap.size (w.heap.size + 1) s w1 → w.heap.size ≤ w1.heap.size → Calls Tryd.prog 8 #[.pointer (some ⟨w.heap.size + 1, 0, none⟩), .agg #[.int .i64 K, .int .i64 v, .int .i64 n]] w1 fun e' w' => e' = .returned (.bool (okI (K, v, n))) ∧ ItemAt w' b (off + k * 3) (K, v, n) ∧ DoAt w.heap.size (w.heap.size + 1) (stI s (K, v, n)) w' ∧ Gr w.heap.size w1 w') :=
        fun w1 k1 k3 k4 => (irput_at w.heap.size (w.heap.size + 1) s (K, v, n) w1 k3 HS.out.ok HS.out.fit k4 (by omega)).mono fun e' w' ⟨q1, q2, q3⟩ => ⟨q1, k1.below q3.below hb', q2, q3⟩
      generalize okI (K, v, n) = U at *
      go_wp2
      go_region_held3 (fun w' => w'.cell? ⟨b, off + k * 3, none⟩ = some (.int .i64 K) ∧ w'.cell? ⟨b, off + k * 3 + 1, none⟩ = some (.int .i64 v) ∧ w'.cell? ⟨b, off + k * 3 + 2, none⟩ = some (.int .i64 n)) (go_keep)
        (first
          | (go_at_call 7; refine (HG1.out _ ⟨?_, ?_, ?_⟩ HTr.out HSd.out.co HSd.out.bel.size).mono ?_; go_keep; go_keep; go_keep; rintro e1 w2 ⟨rfl, ⟨x20, x21, x22⟩, i2, b2⟩)
          | (go_at_call 8; refine (HG2.out _ ⟨?_, ?_, ?_⟩ (b2.three HSd.out.dd) (Nat.le_trans HSd.out.bel.size b2.below.size)).mono ?_; go_keep; go_keep; go_keep; rintro e2 w3 ⟨rfl, ⟨x30, x31, x32⟩, i3, b3⟩))
      have HS4 : Hid (St w (stI s (K, v, n)) w3) := HSd.out.items (K, v, n) i2 b2 i3 b3
      have hp4 := (stI_ok HS.out.ok HS.out.fit (K, v, n)).2.2
      clear i2 b2 i3 b3 x20 x21 x22 x30 x31 x32 HSd HS c0 c1 c2 HG1 HG2 HTr
      cases U
      all_goals
        go_wp2
        exact ⟨⟨k + 1, _, by omega, by go_num, by omega, HS4.out⟩, by simp [intOf]; omega⟩
    · obtain rfl : k = len := by omega
      clear hbel
      go_wp2_with (fail)
      refine (end_at w.heap.size w.heap.size s wr HS.out.co HS.out.ok.low HS.out.bel.size (by omega)).mono ?_
      rintro e w7 ⟨rfl, h7, f7⟩
      have HST7 : Hid (St w s w7) := ⟨HS.out.ok, HS.out.fit, h7, f7.three HS.out.dd, HS.out.bel.trans f7.below⟩
      clear h7 f7 HS
      go_wp2_with (fail)
      refine (rend_at w.heap.size (w.heap.size + 1) s w7 HST7.out.dd HST7.out.ok.low HST7.out.bel.size (by omega)).mono ?_
      rintro e w8 ⟨rfl, h8⟩
      have HST8 : Hid (St w s w8) := HST7.out.below h8
      clear h8 HST7
      have T8 : Hid (Tab w8) := HT.out.frame HST8.out.bel hz
      go_wp2_with (go_at_call 6; refine (awake_any _ T8.out).mono ?_; rintro e w9 ⟨rfl, hb9⟩)
      go_ret
      exact ⟨rfl, HST8.out.bel.trans (hb9.mono HST8.out.bel.size)⟩
theorem walk (w : World) (ht : Tab w) (a : Option Addr) (len cap : Nat) (X : Nat → Int × Int × Int) (h : IsItems w a len cap X) :
    Calls Tryd.prog 3 #[.slice a len cap] w fun e w' => e = .returned (.bool true) ∧ Below w.heap.size w w' := by
  obtain ⟨hl, h⟩ := h
  by_cases hbig : 40 < len
  · exact walkBig w ht a len cap hl hbig
  rcases h with rfl | ⟨b, off, rfl, hb, hlc, hc, hx⟩
  · exact walkN w ht a 0 0 0 cap X (fun h => absurd rfl h) (fun h => absurd rfl h) (by omega) (fun i hi => absurd hi (Nat.not_lt_zero i))
  · exact walkN w ht _ b off len cap X (fun _ => rfl) (fun _ => hb) (by omega) hx

set_option maxRecDepth 100000 in
theorem lifted (os : Os) (started : os.Started) (H : Type) (enc : TypeId × Value → H) :
    ReturnsInHanded {} Tryd.checked os 3 .any (fun w args => (Rows.symPutsSpec.pre enc Tryd.prog Tryd.f3 [] false w args ∧ laidMetH Tryd.prog Rows.symPutsRow.laid w) ∧ sizedMet enc Tryd.prog Tryd.f3 (OpenSpec.ofChange Rows.symPutsSpec) false w args)
      (Rows.symPutsSpec.post enc Tryd.prog Tryd.f3 false true false false) := by
  refine returnsInHanded_of_change_and (C := Tryd.checked) (X := fun w _ => laidMetH Tryd.prog Rows.symPutsRow.laid w) (fun _ _ _ hh h => h.of_heap hh) own started (by kernel_rfl) Tryd.func3
    (ChangeSpec.witness_shaped (enc := enc) (C := Tryd.checked) (os := os) (X := fun w _ => laidMetH Tryd.prog Rows.symPutsRow.laid w) false (World.laidAll Tryd.prog os Rows.symPutsRow.laid) #[.slice none 0 0] 8 (World.laidAll_os _ _ _)
      (World.shaped_of_ZipB (by kernel_rfl) (by kernel_rfl)) (by kernel_rfl) (by kernel_rfl) (by kernel_rfl)
      (by rw [MakeChecks.laidMetH_plain _ _ _ (by kernel_rfl)]; exact laidMet_laidAll _ (by kernel_rfl) (by kernel_rfl))) ?_
  intro W base args ds gs before hval0 hW _ _ hL _
  have hval : ∀ (j : Nat) t v, Tryd.f3.params[j]? = some t → args[j]? = some v → Value.okWide Tryd.prog W .any base t v := hval0
  have hW' := hW
  obtain ⟨p, q, hA0, hV, rfl, hfz, hnd⟩ := hW
  have hA : DataW.TrodAll enc Tryd.prog W 0 (fun _ => true) true Tryd.f3.params.toList args.toList ds p := hA0
  rw [Tryd.params3] at hA hval
  obtain ⟨v0, vs0, d0, ds0, p0, q0, hargs, rfl, rfl, h0, r0⟩ := trodAll_cons hA
  obtain ⟨rfl, rfl, rfl⟩ := trodAll_nil r0
  obtain rfl : args = #[v0] := by cases args; simp_all
  obtain ⟨rfl, rfl⟩ := trodVars_none hV
  obtain ⟨a0, len0, cap0, rfl⟩ := okWide_slice Tryd.underlying22 (hval 0 22 v0 rfl rfl)
  have k0 := h0
  have lt0 : ∀ x ∈ p0, x.block < W.heap.size := by obtain ⟨m, hm⟩ := k0; exact DataW.trod_lt m _ _ _ hm
  obtain ⟨x0, w0⟩ : ∃ X : Nat → Int × Int × Int, IsItems W a0 len0 cap0 X := by
    obtain ⟨fuel, hf⟩ := h0
    exact open_items Tryd.underlying22 Tryd.underlying40 Tryd.underlying3 Tryd.underlying3 Tryd.underlying3 (by kernel_rfl) rfl rfl rfl (by kernel_rfl) (by kernel_rfl) (by kernel_rfl) hf
  clear hA0 hval0
  refine (walk W (tab_of_laid (by kernel_rfl) hL (by simp [Rows.symPutsRow])) a0 len0 cap0 x0 w0).mono fun e W' ⟨he, bel⟩ => ?_
  subst he
  exact ⟨_, rfl, _, _, _, [], _, [], hW', trodAll_mk1 (shut_bool Tryd.underlying4 _), (trodAll_cons_mk (Below.trod laidOut (by kernel_rfl) (of_decide_eq_true (by kernel_rfl)) k0 bel lt0) trodAll_mk0), rfl, bel.frame _, fun h => by cases h⟩

theorem over : Rows.symPutsRow.holds Tryd.pinned (OpenSpec.ofChange Rows.symPutsSpec) :=
  OpenClaim.holds_of_wide 3 Tryd.f3 rfl rfl rfl rfl rfl rfl rfl ⟨rfl, rfl, rfl, rfl, rfl⟩ rfl rfl rfl rfl rfl (by kernel_rfl) Tryd.func3 (by kernel_rfl)
    (of_decide_eq_true (by kernel_rfl)) (by unfold Func.isWrapper; first | (rw [if_pos (by decide +kernel)]; kernel_rfl) | (rw [if_neg (by decide +kernel)]; exact ⟨rfl, rfl⟩))
    (fun os started H enc _ => lifted os started H enc)

theorem plain (f : FuncId) (fn : Func) (hf : Tryd.pinned.checked.prog.funcNamed "splicer/splicerlaw05.SymPuts" = some f) (hfn : Tryd.pinned.checked.prog.funcs[f]? = some fn) :
    false = Tryd.pinned.checked.prog.looks [] ∧ ∀ (j : Nat) t, fn.params[j]? = some t → Tryd.pinned.checked.prog.wantsStandIn t = false := by
  obtain rfl : f = 3 := Option.some.inj ((show Tryd.prog.funcNamed "splicer/splicerlaw05.SymPuts" = some 3 by kernel_rfl).symm.trans hf) |>.symm
  obtain rfl : fn = Tryd.f3 := (Option.some.inj (Tryd.func3.symm.trans hfn)).symm
  refine ⟨by kernel_rfl, fun j t ht => ?_⟩
  rw [Tryd.params3] at ht
  have hm : t ∈ [22] := by simpa using Array.mem_of_getElem? ht
  have hall : ([22].all fun u => !Tryd.prog.wantsStandIn u) = true := by kernel_rfl
  exact (show Tryd.prog.wantsStandIn t = false by simpa using List.all_eq_true.1 hall t hm)

/-- The statement. -/
theorem proved : Rows.SymPutsCardSaid :=
  Claim7.holds_tied_plain_at .later [] _ _ _ _ over (fun _ h => by cases h) (by kernel_rfl) (fun _ h => by cases h) symPuts_row_tie rfl ⟨rfl, rfl⟩ (by kernel_rfl) rfl plain (by kernel_rfl)
#print axioms proved
end Go.Proofs.YtdfpmhdgebajfaaDoor.symPuts
