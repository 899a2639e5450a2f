/-
  Proved: for any two ints, how loud a band and a frame is, which band is as loud as a number, and a sample made louder, are the document's own answers, and the chapter's examples come out. Conditions: none beside the row's own (the package's four steps read as the program's text lays them; the card ties them to the pruned copy).
-/
import Derived.Test.YtchchemcaaggmaaDoorCards
import Derived.Test.YtchchemcaaggmaaDoorTie
import Derived.Test.YtchchemcaaggmaaDoorLC
import Derived.Test.YtchchemcaaggmaaDoorLD
import Derived.WalkKit
import Derived.ProofKit
import Derived.OpenShut
import Derived.ShutString
import Derived.ChangeOld
import Derived.Below
import Derived.Lay
import Derived.LaidOnce
import Derived.SevenTiedAt
namespace Go.Proofs.YtchchemcaaggmaaDoor.levelTells
open Go.ChangeShapes Go.WideShapes Go.ChangeAt Go.RowKit
open Go.ChangeMaps (open_string shut_string)
set_option linter.unusedVariables false

theorem own : ownKnob Tryd.prog.godebug = none := by kernel_rfl
theorem laidOut : laidOutB Tryd.prog = true := by kernel_rfl

theorem walk (w : World) (ht : LTab w) (a0 : Int) (w0 : (Lit.int .i64 a0).wf = true) (a1 : Int) (w1 : (Lit.int .i64 a1).wf = true) :
    Calls Tryd.prog 3 #[.int .i64 a0, .int .i64 a1] w fun e w' => e = .returned (.bool true) ∧ Below w.heap.size w w' := by
  clear w0 w1
  have k0 := lfind_to ht a0
  have k1 : Hid (∀ W, Below w.heap.size w W → Calls Tryd.prog 7 #[.int .i64 a0] W fun e w' => ∃ c f, e = .returned (.tuple #[.int .i64 c, .int .i64 f]) ∧ Finds a0 c f ∧ Below w.heap.size w w') :=
    fun W hW => (rlfind_any a0 W).mono fun e w' ⟨c, f, he, hf, hb⟩ => ⟨c, f, he, hf, below_then hW hb⟩
  have k2 := lamp_to ht a0 a1 _ rfl
  have k3 : Hid (∀ W, Below w.heap.size w W → Calls Tryd.prog 9 #[.int .i64 a0, .int .i64 a1] W fun e w' => e = .returned (.int .i64 (ampF a0 a1)) ∧ Below w.heap.size w w') :=
    fun W hW => (rlamp_any a0 a1 W).mono fun e w' ⟨he, hb⟩ => ⟨he, below_then hW hb⟩
  have k4 := lgain_to ht a0 _ rfl
  have k5 : Hid (∀ W, Below w.heap.size w W → Calls Tryd.prog 11 #[.int .i64 a0] W fun e w' => e = .returned (.int .i64 (gainF a0)) ∧ Below w.heap.size w w') :=
    fun W hW => (rlgain_any a0 W).mono fun e w' ⟨he, hb⟩ => ⟨he, below_then hW hb⟩
  have k6 := lapply_to ht a0 a1 _ rfl
  have k7 : Hid (∀ W, Below w.heap.size w W → Calls Tryd.prog 13 #[.int .i64 a0, .int .i64 a1] W fun e w' => e = .returned (.int .i64 (applyF a0 a1)) ∧ Below w.heap.size w w') :=
    fun W hW => (rlapply_any a0 a1 W).mono fun e w' ⟨he, hb⟩ => ⟨he, below_then hW hb⟩
  have k8 := lawake_to ht
  have b0 := Below.refl w.heap.size w
  clear ht
  generalize ampF a0 a1 = x at *
  generalize gainF a0 = y at *
  generalize applyF a0 a1 = z at *
  go_enter Tryd.func3, Tryd.ntmps3
  go_wp2_with (first
    | (go_at_call 6; (with_reducible refine (k0.out _ b0).mono ?_); rintro e w1 ⟨c, f, rfl, hf, b1⟩; have HF : Hid (Finds a0 c f) := hf; clear hf)
    | (go_at_call 7; (with_reducible refine (k1.out _ b1).mono ?_); rintro e w2 ⟨d, g, rfl, hg, b2⟩; obtain ⟨rfl, rfl⟩ := HF.out.one hg; clear hg)
    | (go_at_call 8; (with_reducible refine (k2.out _ b2).mono ?_); rintro e w3 ⟨rfl, b3⟩)
    | (go_at_call 9; (with_reducible refine (k3.out _ b3).mono ?_); rintro e w4 ⟨rfl, b4⟩)
    | (go_at_call 10; (with_reducible refine (k4.out _ b4).mono ?_); rintro e w5 ⟨rfl, b5⟩)
    | (go_at_call 11; (with_reducible refine (k5.out _ b5).mono ?_); rintro e w6 ⟨rfl, b6⟩)
    | (go_at_call 12; (with_reducible refine (k6.out _ b6).mono ?_); rintro e w7 ⟨rfl, b7⟩)
    | (go_at_call 13; (with_reducible refine (k7.out _ b7).mono ?_); rintro e w8 ⟨rfl, b8⟩)
    | (go_at_call 14; (with_reducible refine (k8.out _ b8).mono ?_); rintro e w9 ⟨rfl, b9⟩))
  go_ret
  exact ⟨rfl, b9⟩

set_option maxRecDepth 100000 in
theorem lifted (os : Os) (started : os.Started) (H : Type) (enc : TypeId × Value → H) :
    ReturnsInHanded {} Tryd.checked os 3 .any (fun w args => (Rows.levelTellsSpec.pre enc Tryd.prog Tryd.f3 [] false w args ∧ laidMetH Tryd.prog Rows.levelTellsRow.laid w) ∧ sizedMet enc Tryd.prog Tryd.f3 (OpenSpec.ofChange Rows.levelTellsSpec) false w args)
      (Rows.levelTellsSpec.post enc Tryd.prog Tryd.f3 false true false false) := by
  refine returnsInHanded_of_change_and (C := Tryd.checked) (X := fun w _ => laidMetH Tryd.prog Rows.levelTellsRow.laid w) (fun _ _ _ hh h => h.of_heap hh) own started (by kernel_rfl) Tryd.func3
    (ChangeSpec.witness_shaped (enc := enc) (C := Tryd.checked) (os := os) (X := fun w _ => laidMetH Tryd.prog Rows.levelTellsRow.laid w) false (World.laidAll Tryd.prog os Rows.levelTellsRow.laid) #[.int .i64 0, .int .i64 0] 8 (World.laidAll_os _ _ _)
      (World.shaped_of_ZipB (by kernel_rfl) (by kernel_rfl)) (by kernel_rfl) (by kernel_rfl) (by kernel_rfl)
      (by rw [MakeChecks.laidMetH_plain _ _ _ (by kernel_rfl)]; exact laidMet_laidAll _ (by kernel_rfl) (by kernel_rfl))) ?_
  intro W base args ds gs before hval0 hW _ _ hL _
  have hval : ∀ (j : Nat) t v, Tryd.f3.params[j]? = some t → args[j]? = some v → Value.okWide Tryd.prog W .any base t v := hval0
  have hW' := hW
  obtain ⟨p, q, hA0, hV, rfl, hfz, hnd⟩ := hW
  have hA : DataW.TrodAll enc Tryd.prog W 0 (fun _ => true) true Tryd.f3.params.toList args.toList ds p := hA0
  rw [Tryd.params3] at hA hval
  obtain ⟨v0, vs0, d0, ds0, p0, q0, hargs, rfl, rfl, h0, r0⟩ := trodAll_cons hA
  obtain ⟨v1, vs1, d1, ds1, p1, q1, rfl, rfl, rfl, h1, r1⟩ := trodAll_cons r0
  obtain ⟨rfl, rfl, rfl⟩ := trodAll_nil r1
  obtain rfl : args = #[v0, v1] := by cases args; simp_all
  obtain ⟨rfl, rfl⟩ := trodVars_none hV
  obtain ⟨a0, rfl, rfl, rfl, w0⟩ := open_int Tryd.underlying3 (hval 0 3 v0 rfl rfl) h0
  obtain ⟨a1, rfl, rfl, rfl, w1⟩ := open_int Tryd.underlying3 (hval 1 3 v1 rfl rfl) h1
  clear hA0 hval0
  refine (walk W (ltab_of_laid (by kernel_rfl) hL (by simp [Rows.levelTellsRow])) a0 w0 a1 w1).mono fun e W' ⟨he, bel⟩ => ?_
  subst he
  exact ⟨_, rfl, _, _, _, [], _, [], hW', trodAll_mk1 (shut_bool Tryd.underlying4 _), (trodAll_cons_mk (shut_int Tryd.underlying3 w0) (trodAll_cons_mk (shut_int Tryd.underlying3 w1) trodAll_mk0)), rfl, bel.frame _, fun h => by cases h⟩

theorem over : Rows.levelTellsRow.holds Tryd.pinned (OpenSpec.ofChange Rows.levelTellsSpec) :=
  OpenClaim.holds_of_wide 3 Tryd.f3 rfl rfl rfl rfl rfl rfl rfl ⟨rfl, rfl, rfl, rfl, rfl⟩ rfl rfl rfl rfl rfl (by kernel_rfl) Tryd.func3 (by kernel_rfl)
    (of_decide_eq_true (by kernel_rfl)) (by unfold Func.isWrapper; first | (rw [if_pos (by decide +kernel)]; kernel_rfl) | (rw [if_neg (by decide +kernel)]; exact ⟨rfl, rfl⟩))
    (fun os started H enc _ => lifted os started H enc)

theorem plain (f : FuncId) (fn : Func) (hf : Tryd.pinned.checked.prog.funcNamed "splicer/splicerlaw08.LevelTells" = some f) (hfn : Tryd.pinned.checked.prog.funcs[f]? = some fn) :
    false = Tryd.pinned.checked.prog.looks [] ∧ ∀ (j : Nat) t, fn.params[j]? = some t → Tryd.pinned.checked.prog.wantsStandIn t = false := by
  obtain rfl : f = 3 := Option.some.inj ((show Tryd.prog.funcNamed "splicer/splicerlaw08.LevelTells" = some 3 by kernel_rfl).symm.trans hf) |>.symm
  obtain rfl : fn = Tryd.f3 := (Option.some.inj (Tryd.func3.symm.trans hfn)).symm
  refine ⟨by kernel_rfl, fun j t ht => ?_⟩
  rw [Tryd.params3] at ht
  have hm : t ∈ [3, 3] := by simpa using Array.mem_of_getElem? ht
  have hall : ([3, 3].all fun u => !Tryd.prog.wantsStandIn u) = true := by kernel_rfl
  exact (show Tryd.prog.wantsStandIn t = false by simpa using List.all_eq_true.1 hall t hm)

/-- The statement. -/
theorem proved : Rows.LevelTellsCardSaid :=
  Claim7.holds_tied_plain_at .later [] _ _ _ _ over (fun _ h => by cases h) (by kernel_rfl) (fun _ h => by cases h) levelTells_row_tie rfl ⟨rfl, rfl⟩ (by kernel_rfl) rfl plain (by kernel_rfl)
#print axioms proved
end Go.Proofs.YtchchemcaaggmaaDoor.levelTells
