/-
  Proved: of any quality, any Coarse and each width, better quality and a louder band never have fewer pulses, none has more than 24 or less than 0, a silent band has none, and one that is loud enough has some. Conditions: none beside the row's own (the bands' widths read as the program's text lays them; the card ties it to the pruned copy).
-/
import Derived.Test.YtjfngheefnmolaaDoorCards
import Derived.Test.YtjfngheefnmolaaDoorTie
import Derived.Test.YtjfngheefnmolaaDoorALE
import Derived.WalkKit
import Derived.ProofKit
import Derived.OpenShut
import Derived.ShutString
import Derived.ChangeOld
import Derived.Below
import Derived.Lay
import Derived.LaidOnce
import Derived.SevenTiedAt
namespace Go.Proofs.YtjfngheefnmolaaDoor.allocGrows
open Go.ChangeShapes Go.WideShapes Go.ChangeAt Go.RowKit
open Go.ChangeMaps (open_string shut_string)
set_option linter.unusedVariables false

theorem own : ownKnob Tryd.prog.godebug = none := by kernel_rfl
theorem laidOut : laidOutB Tryd.prog = true := by kernel_rfl

theorem band_up (q c w : Int) (h : 0 ≤ q ∧ q < 10) (hc : 0 ≤ c ∧ c ≤ 23) : bandF q c w ≤ bandF (q + 1) c w := by
  by_cases h1 : c < 1
  · rw [band_no w (by omega), band_no w (by omega)]; omega
  · rw [band_yes w (by omega), band_yes w (by omega)]
    have h2 := alS_in w
    have h3 : alP q c ≤ alP (q + 1) c := by unfold alP; repeat' split <;> omega
    exact Int.mul_le_mul_of_nonneg_left h3 h2.1
theorem band_loud (q c w : Int) (h : 0 ≤ q ∧ q ≤ 10) (hc : 0 ≤ c ∧ c < 23) : bandF q c w ≤ bandF q (c + 1) w := by
  by_cases h1 : c < 1
  · rw [band_no w (by omega)]; exact (band_in _ _ _).1
  · rw [band_yes w (by omega), band_yes w (by omega)]
    have h2 := alS_in w
    have h3 : alP q c ≤ alP q (c + 1) := by unfold alP; repeat' split <;> omega
    exact Int.mul_le_mul_of_nonneg_left h3 h2.1
theorem band_few (q c : Int) {w : Int} (hw : w = 2 ∨ w = 4 ∨ w = 8) : bandF q c w ≤ 4 * w := by
  by_cases h : q < 0 ∨ 10 < q ∨ c < 1 ∨ 23 < c
  · rw [band_no w h]; omega
  · rw [band_yes w (by omega)]
    have h1 := alP_in q c
    rcases hw with rfl | rfl | rfl
    · rw [show alS 2 = 1 from rfl]; omega
    · rw [show alS 4 = 2 from rfl]; omega
    · rw [show alS 8 = 3 from rfl]; omega
theorem band_some (q c : Int) {w : Int} (hw : w = 2 ∨ w = 4 ∨ w = 8) (h : 0 ≤ q ∧ q ≤ 10) (hc : 1 ≤ c ∧ c ≤ 23) (hs : 8 < q + c) : 0 < bandF q c w := by
  rw [band_yes w (by omega)]
  have h1 : 1 ≤ alP q c := by unfold alP; repeat' split <;> omega
  rcases hw with rfl | rfl | rfl
  · rw [show alS 2 = 1 from rfl]; omega
  · rw [show alS 4 = 2 from rfl]; omega
  · rw [show alS 8 = 3 from rfl]; omega
set_option maxRecDepth 100000 in
theorem walk (w : World) (q : Int) (wq : (Lit.int .u8 q).wf = true) (c : Int) (wc : (Lit.int .u8 c).wf = true) (x : Int) (wx : (Lit.int .u8 x).wf = true) :
    Calls Tryd.prog 4 #[.int .u8 q, .int .u8 c, .int .u8 x] w fun e w' => e = .returned (.bool true) ∧ Below w.heap.size w w' := by
  have hq : 0 ≤ q ∧ q ≤ 255 := by simpa [Lit.wf, IntKind.min, IntKind.max, IntKind.signed, IntKind.bits] using wq
  have hc : 0 ≤ c ∧ c ≤ 255 := by simpa [Lit.wf, IntKind.min, IntKind.max, IntKind.signed, IntKind.bits] using wc
  have hx : 0 ≤ x ∧ x ≤ 255 := by simpa [Lit.wf, IntKind.min, IntKind.max, IntKind.signed, IntKind.bits] using wx
  clear wq wc wx
  have K := hid (fun q c x => band_any q c x w)
  have K0 := hid (alawake_any w)
  go_enter Tryd.func4, Tryd.ntmps4
  go_wp2_with (fail)
  obtain ⟨p, hp⟩ : ∃ p : Int, q % 11 = p := ⟨_, rfl⟩
  have hp1 : 0 ≤ p ∧ p ≤ 10 := by omega
  obtain ⟨b, hb⟩ : ∃ b : Int, c % 24 = b := ⟨_, rfl⟩
  have hb1 : 0 ≤ b ∧ b ≤ 23 := by omega
  obtain ⟨n, hn⟩ : ∃ n : Int, wrap64 (2 * 2 ^ (x % 3).toNat) = n := ⟨_, rfl⟩
  have hn1 : n = 2 ∨ n = 4 ∨ n = 8 := by
    have h3 : x % 3 = 0 ∨ x % 3 = 1 ∨ x % 3 = 2 := by omega
    rcases h3 with h | h | h <;> rw [h] at hn
    · exact .inl (hn.symm.trans (by simp [wrap64]))
    · exact .inr (.inl (hn.symm.trans (by simp [wrap64])))
    · exact .inr (.inr (hn.symm.trans (by simp [wrap64])))
  rw [hp, hb, hn]
  clear hp hb hn
  have K1 := hid (K.out p b n)
  have K2 := hid (K.out p 0 n)
  have K3 := hid (K.out (p + 1) b n)
  have K4 := hid (K.out p (b + 1) n)
  rw [band_no n (.inr (.inr (.inl (by omega))))] at K2
  have h0 := band_in p b n
  have hf := band_few p b hn1
  have hs : b = 0 ∨ p + b ≤ 8 ∨ 0 < bandF p b n := by
    by_cases h1 : b = 0
    · exact .inl h1
    · by_cases h2 : p + b ≤ 8
      · exact .inr (.inl h2)
      · exact .inr (.inr (band_some p b hn1 hp1 (by omega) (by omega)))
  have hu : p < 10 → bandF p b n ≤ bandF (p + 1) b n := fun h => band_up p b n ⟨hp1.1, h⟩ hb1
  have hl : b < 23 → bandF p b n ≤ bandF p (b + 1) n := fun h => band_loud p b n hp1 ⟨hb1.1, h⟩
  generalize bandF p b n = k at *
  generalize bandF (p + 1) b n = k1 at *
  generalize bandF p (b + 1) n = k2 at *
  have hn2 : 2 ≤ n ∧ n ≤ 8 := by omega
  have hz : (b == 0 || decide (p + b ≤ 8) || decide (0 < k)) = true := by
    rcases hs with h | h | h <;> simp [h]
  have d1 : decide (k < 0) = false := decide_eq_false (by omega)
  have d2 : decide (4 * n < k) = false := decide_eq_false (by omega)
  have d3 : decide (24 < k) = false := decide_eq_false (by omega)
  have arm1 : p < 10 ∧ decide (k1 < k) = false ∨ 10 ≤ p := by
    by_cases h : p < 10
    · exact .inl ⟨h, decide_eq_false (by have := hu h; omega)⟩
    · exact .inr (by omega)
  have arm2 : b < 23 ∧ decide (k2 < k) = false ∨ 23 ≤ b := by
    by_cases h : b < 23
    · exact .inl ⟨h, decide_eq_false (by have := hl h; omega)⟩
    · exact .inr (by omega)
  clear K hn1 hs h0 hf hu hl
  refine Calls.mono K1.out ?_
  rintro e w1 ⟨rfl, rfl⟩
  clear K1
  rcases arm1 with ⟨h1, d4⟩ | h1
  all_goals
    rcases arm2 with ⟨h2, d5⟩ | h2
    all_goals
      go_wp2_with (first
        | (go_at_call 6; (with_reducible refine Calls.mono K2.out ?_); rintro e w1 ⟨rfl, rfl⟩)
        | (go_at_call 6; (with_reducible refine Calls.mono K3.out ?_); rintro e w1 ⟨rfl, rfl⟩)
        | (go_at_call 6; (with_reducible refine Calls.mono K4.out ?_); rintro e w1 ⟨rfl, rfl⟩)
        | (go_at_call 5; (with_reducible refine Calls.mono K0.out ?_); rintro e w1 ⟨rfl, rfl⟩))
      all_goals (go_ret; exact ⟨rfl, Below.refl _ _⟩)

set_option maxRecDepth 100000 in
theorem lifted (os : Os) (started : os.Started) (H : Type) (enc : TypeId × Value → H) :
    ReturnsInHanded {} Tryd.checked os 4 .any (fun w args => (Rows.allocGrowsSpec.pre enc Tryd.prog Tryd.f4 [] false w args ∧ laidMetH Tryd.prog Rows.allocGrowsRow.laid w) ∧ sizedMet enc Tryd.prog Tryd.f4 (OpenSpec.ofChange Rows.allocGrowsSpec) false w args)
      (Rows.allocGrowsSpec.post enc Tryd.prog Tryd.f4 false true false false) := by
  refine returnsInHanded_of_change_and (C := Tryd.checked) (X := fun w _ => laidMetH Tryd.prog Rows.allocGrowsRow.laid w) (fun _ _ _ hh h => h.of_heap hh) own started (by kernel_rfl) Tryd.func4
    (ChangeSpec.witness_shaped (enc := enc) (C := Tryd.checked) (os := os) (X := fun w _ => laidMetH Tryd.prog Rows.allocGrowsRow.laid w) false (World.laidAll Tryd.prog os Rows.allocGrowsRow.laid) #[.int .u8 0, .int .u8 0, .int .u8 0] 8 (World.laidAll_os _ _ _)
      (World.shaped_of_ZipB (by kernel_rfl) (by kernel_rfl)) (by kernel_rfl) (by kernel_rfl) (by kernel_rfl)
      (by rw [MakeChecks.laidMetH_plain _ _ _ (by kernel_rfl)]; exact laidMet_laidAll _ (by kernel_rfl) (by kernel_rfl))) ?_
  intro W base args ds gs before hval0 hW _ _ hL _
  have hval : ∀ (j : Nat) t v, Tryd.f4.params[j]? = some t → args[j]? = some v → Value.okWide Tryd.prog W .any base t v := hval0
  have hW' := hW
  obtain ⟨p, q, hA0, hV, rfl, hfz, hnd⟩ := hW
  have hA : DataW.TrodAll enc Tryd.prog W 0 (fun _ => true) true Tryd.f4.params.toList args.toList ds p := hA0
  rw [Tryd.params4] at hA hval
  obtain ⟨v0, vs0, d0, ds0, p0, q0, hargs, rfl, rfl, h0, r0⟩ := trodAll_cons hA
  obtain ⟨v1, vs1, d1, ds1, p1, q1, rfl, rfl, rfl, h1, r1⟩ := trodAll_cons r0
  obtain ⟨v2, vs2, d2, ds2, p2, q2, rfl, rfl, rfl, h2, r2⟩ := trodAll_cons r1
  obtain ⟨rfl, rfl, rfl⟩ := trodAll_nil r2
  obtain rfl : args = #[v0, v1, v2] := by cases args; simp_all
  obtain ⟨rfl, rfl⟩ := trodVars_none hV
  obtain ⟨a0, rfl, rfl, rfl, w0⟩ := open_int Tryd.underlying5 (hval 0 5 v0 rfl rfl) h0
  obtain ⟨a1, rfl, rfl, rfl, w1⟩ := open_int Tryd.underlying5 (hval 1 5 v1 rfl rfl) h1
  obtain ⟨a2, rfl, rfl, rfl, w2⟩ := open_int Tryd.underlying5 (hval 2 5 v2 rfl rfl) h2
  clear hA0 hval0
  refine (walk W a0 w0 a1 w1 a2 w2).mono fun e W' ⟨he, bel⟩ => ?_
  subst he
  exact ⟨_, rfl, _, _, _, [], _, [], hW', trodAll_mk1 (shut_bool Tryd.underlying4 _), (trodAll_cons_mk (shut_int Tryd.underlying5 w0) (trodAll_cons_mk (shut_int Tryd.underlying5 w1) (trodAll_cons_mk (shut_int Tryd.underlying5 w2) trodAll_mk0))), rfl, bel.frame _, fun h => by cases h⟩

theorem over : Rows.allocGrowsRow.holds Tryd.pinned (OpenSpec.ofChange Rows.allocGrowsSpec) :=
  OpenClaim.holds_of_wide 4 Tryd.f4 rfl rfl rfl rfl rfl rfl rfl ⟨rfl, rfl, rfl, rfl, rfl⟩ rfl rfl rfl rfl rfl (by kernel_rfl) Tryd.func4 (by kernel_rfl)
    (of_decide_eq_true (by kernel_rfl)) (by unfold Func.isWrapper; first | (rw [if_pos (by decide +kernel)]; kernel_rfl) | (rw [if_neg (by decide +kernel)]; exact ⟨rfl, rfl⟩))
    (fun os started H enc _ => lifted os started H enc)

theorem plain (f : FuncId) (fn : Func) (hf : Tryd.pinned.checked.prog.funcNamed "splicer/splicerlaw15.AllocGrows" = some f) (hfn : Tryd.pinned.checked.prog.funcs[f]? = some fn) :
    false = Tryd.pinned.checked.prog.looks [] ∧ ∀ (j : Nat) t, fn.params[j]? = some t → Tryd.pinned.checked.prog.wantsStandIn t = false := by
  obtain rfl : f = 4 := Option.some.inj ((show Tryd.prog.funcNamed "splicer/splicerlaw15.AllocGrows" = some 4 by kernel_rfl).symm.trans hf) |>.symm
  obtain rfl : fn = Tryd.f4 := (Option.some.inj (Tryd.func4.symm.trans hfn)).symm
  refine ⟨by kernel_rfl, fun j t ht => ?_⟩
  rw [Tryd.params4] at ht
  have hm : t ∈ [5, 5, 5] := by simpa using Array.mem_of_getElem? ht
  have hall : ([5, 5, 5].all fun u => !Tryd.prog.wantsStandIn u) = true := by kernel_rfl
  exact (show Tryd.prog.wantsStandIn t = false by simpa using List.all_eq_true.1 hall t hm)

/-- The statement. -/
theorem proved : Rows.AllocGrowsCardSaid :=
  Claim7.holds_tied_plain_at .later [] _ _ _ _ over (fun _ h => by cases h) (by kernel_rfl) (fun _ h => by cases h) allocGrows_row_tie rfl ⟨rfl, rfl⟩ (by kernel_rfl) rfl plain (by kernel_rfl)
#print axioms proved
end Go.Proofs.YtjfngheefnmolaaDoor.allocGrows
