/-
  Proved: for any two ints, a nil Writer writes nothing and tells length 0 and no text, a nil Reader and a zero Reader tell 0, no text, and that they are bad, and the chapter's example comes out. Conditions: none beside the row's own.
-/
import Derived.Test.YtnjekkcfdcbimaaRows
import Derived.Test.YtnjekkcfdcbimaaG
import Derived.WalkKit
import Derived.ProofKit
import Derived.OpenShut
import Derived.ShutString
namespace Go.Proofs.Ytnjekkcfdcbimaa.octetNobody
open Go.ChangeShapes Go.WideShapes Go.ChangeAt Go.RowKit
open Go.ChangeMaps (open_string shut_string)
set_option linter.unusedVariables false      -- a walk need not use every 'w<i>' (that an integer argument fits its kind)

theorem own : ownKnob Try.prog.godebug = none := by kernel_rfl

/-! ### STEP 1: THE WALK: the Go text returns true. 'Grown w w'': the world has at most new blocks (Derived/RowKit3.lean). Part the cases AHEAD of 'go_enter' where a test parts the walk; take each callee by a contract of your own. -/
theorem empty_num (k : Int) : numV ⟨#[]⟩ none k = 0 := by
  unfold numV
  split
  · rfl
  · rfl
theorem empty_numN (k : Int) : numN ⟨#[]⟩ none k = none := by
  unfold numN
  split
  · rfl
  · rfl
/-- The two readers of the law: the slice of pointers, and the zero Reader. -/
def TwoAt (w : World) (wr : World) : Prop := IsAt (w.heap.size + 1) 38 #[.pointer none, .pointer (some ⟨w.heap.size, 0, none⟩)] wr ∧ IsAt w.heap.size 52 (rdCells ⟨#[]⟩ none) wr ∧ Below w.heap.size w wr
theorem TwoAt.below {w wr w' : World} (h : TwoAt w wr) (hb : Below wr.heap.size wr w') : TwoAt w w' := by
  obtain ⟨h1, h2, h3⟩ := h
  exact ⟨(hb.block _ h1.lt).trans h1, (hb.block _ h2.lt).trans h2, h3.trans (hb.mono h3.size)⟩
theorem TwoAt.but {w wr w' : World} (h : TwoAt w wr) (hr : IsAt w.heap.size 52 (rdCells ⟨#[]⟩ none) w') (hb : But w.heap.size wr w') : TwoAt w w' := by
  obtain ⟨h1, h2, h3⟩ := h
  exact ⟨(hb.block _ h1.lt (by omega)).trans h1, hr, h3.trans (hb.below (Nat.le_refl _) h3.size)⟩
theorem stnone : StOk ⟨#[]⟩ none := ⟨by decide, fun k hk => by cases hk⟩
theorem walk (a0 : Int) (a1 : Int) (w0 : (Lit.int .i64 a0).wf = true) (w1 : (Lit.int .i64 a1).wf = true) (w : World) :
    Calls Try.prog 6 #[.int .i64 a0, .int .i64 a1] w fun e w' => e = .returned (.bool true) ∧ Below w.heap.size w w' := by
  clear w0 w1
  go_enter Try.func6, Try.ntmps6
  go_wp2_with (first
    | (go_at_call 8; refine (wnum_nil _ _ _).mono ?_; rintro e w' ⟨rfl, he⟩; rw [he]; clear he w')
    | (go_at_call 9; refine (wtext_nil _ _).mono ?_; rintro e w' ⟨rfl, he⟩; rw [he]; clear he w'))
  go_loopw [7] (fun i wr => ∃ j : Nat, j ≤ 2 ∧ i = .int .i64 j ∧ TwoAt w wr) (fun i _ => 2 - (intOf i).toNat)
  case atStart =>
    refine ⟨0, by omega, rfl, ?_, ?_, ?_⟩
    · exact (congrArg (fun k => ((w.alloc (.cells #[.bool false, .string ⟨#[]⟩, .int .i64 0] 52)).alloc (.cells #[.pointer none, .pointer (some ⟨w.heap.size, 0, none⟩)] 38)).heap[k]?) (by simp)).trans (heap_alloc_new (w.alloc (.cells #[.bool false, .string ⟨#[]⟩, .int .i64 0] 52)) _)
    · exact (Below.heap_alloc (w.alloc (.cells #[.bool false, .string ⟨#[]⟩, .int .i64 0] 52)) _ w.heap.size (by simp)).trans (heap_alloc_new w _)
    · exact ((Below.refl _ w).alloc (Nat.le_refl _) _).alloc (by simp) _
  case round =>
    obtain ⟨j, hj, rfl, ht⟩ := hrel
    have HT : Hid (TwoAt w wr) := ht
    have c0 : wr.cell? ⟨w.heap.size + 1, 0, none⟩ = some (.pointer none) := ht.1.cell 0
    have c1 : wr.cell? ⟨w.heap.size + 1, 1, none⟩ = some (.pointer (some ⟨w.heap.size, 0, none⟩)) := ht.1.cell 1
    clear ht
    match j, hj with
    | 0, _ =>
      go_wp2_with (fail)
      refine (num_nil _ _).mono ?_
      rintro e w1 ⟨rfl, hb⟩
      have HT1 : Hid (TwoAt w w1) := HT.out.below hb
      have d0 : w1.cell? ⟨w.heap.size + 1, 0, none⟩ = some (.pointer none) := HT1.out.1.cell 0
      clear hb c0 c1 HT
      go_wp2_with (first
        | (go_at_call 14; refine (text_nil _ _).mono ?_; rintro e w' ⟨rfl, he⟩; rw [he]; clear he w')
        | (go_at_call 18; refine (left_nil _).mono ?_; rintro e w' ⟨rfl, he⟩; rw [he]; clear he w')
        | (go_at_call 20; refine (at_nil _).mono ?_; rintro e w' ⟨rfl, he⟩; rw [he]; clear he w')
        | (go_at_call 22; refine (bad_nil _).mono ?_; rintro e w' ⟨rfl, he⟩; rw [he]; clear he w'))
      exact ⟨⟨1, by omega, by go_num, HT1.out⟩, by simp [intOf]⟩
    | 1, _ =>
      go_wp2_with (fail)
      refine (num_at w.heap.size ⟨#[]⟩ none a1 _ HT.out.2.1 stnone).mono ?_
      rintro e w1 ⟨rfl, hr, hb⟩
      rw [empty_num]
      rw [empty_numN] at hr
      have HT1 : Hid (TwoAt w w1) := HT.out.but hr hb
      have d1 : w1.cell? ⟨w.heap.size + 1, 1, none⟩ = some (.pointer (some ⟨w.heap.size, 0, none⟩)) := HT1.out.1.cell 1
      clear hb hr c0 c1 HT
      go_wp2_with (fail)
      refine (text_at w.heap.size ⟨#[]⟩ none a0 _ HT1.out.2.1 stnone).mono ?_
      rintro e w2 ⟨rfl, hr, hb⟩
      rw [show txt ⟨#[]⟩ none a0 = ⟨#[]⟩ from rfl]
      have HT2 : Hid (TwoAt w w2) := HT1.out.but hr hb
      have e1 : w2.cell? ⟨w.heap.size + 1, 1, none⟩ = some (.pointer (some ⟨w.heap.size, 0, none⟩)) := HT2.out.1.cell 1
      clear hb hr d1 HT1
      go_wp2_with (fail)
      refine (left_at w.heap.size ⟨#[]⟩ none _ HT2.out.2.1 stnone).mono ?_
      rintro e w3 ⟨rfl, m, rfl⟩
      rw [show leftF ⟨#[]⟩ none = 0 from rfl]
      go_wp2_with (fail)
      refine (at_at w.heap.size ⟨#[]⟩ none _ (by exact HT2.out.2.1)).mono ?_
      rintro e w3 ⟨rfl, he⟩
      rw [he, show atF none = 0 from rfl]
      clear he w3
      go_wp2_with (fail)
      refine (bad_at w.heap.size ⟨#[]⟩ none _ (by exact HT2.out.2.1)).mono ?_
      rintro e w3 ⟨rfl, he⟩
      rw [he]
      clear he w3
      go_wp2
      exact ⟨⟨2, by omega, by go_num, HT2.out.but (by exact HT2.out.2.1) ((But.refl _ _).drewN m)⟩, by simp [intOf]⟩
    | 2, _ =>
      clear c0 c1
      go_wp2_with (first
        | (go_at_call 11; refine (wlen_nil _).mono ?_; rintro e w' ⟨rfl, he⟩; rw [he]; clear he w')
        | (go_at_call 12; refine (wstr_nil _).mono ?_; rintro e w' ⟨rfl, he⟩; rw [he]; clear he w')
        | (go_at_call 7; refine (awake_any _).mono ?_; rintro e w1 ⟨rfl, hb⟩))
      go_ret
      exact ⟨rfl, HT.out.2.2.trans (hb.mono HT.out.2.2.size)⟩

/-! ### THE ROW's STEP: WRITTEN OUT: LEAVE IT -/
set_option maxRecDepth 100000 in
theorem lifted (os : Os) (started : os.Started) (H : Type) (enc : TypeId × Value → H) :
    ReturnsInHanded {} Try.checked os 6 .any (Rows.octetNobodySpec.pre6 enc Try.prog Try.f6 Rows.octetNobodyRow.domain false) (Rows.octetNobodySpec.post enc Try.prog Try.f6 false true false false) := by
  refine returnsInHanded_of_change (C := Try.checked) own started (by kernel_rfl) Try.func6
    (ChangeSpec.witness6 (enc := enc) (C := Try.checked) false ⟨#[], #[.int .i64 0, .int .i64 0], []⟩ 8 (by kernel_rfl) (by kernel_rfl) (by kernel_rfl) (by kernel_rfl)) ?_
  intro W base args ds gs before hval0 hW hcnd _
  have hval : ∀ (j : Nat) t v, Try.f6.params[j]? = some t → args[j]? = some v → Value.okWide Try.prog W .any base t v := hval0
  have hW' := hW
  obtain ⟨p, q, hA0, hV, rfl, hfz, hnd⟩ := hW
  have hA : DataW.TrodAll enc Try.prog W 0 (fun _ => true) true Try.f6.params.toList args.toList ds p := hA0
  rw [Try.params6] at hA hval
  obtain ⟨v0, vs0, d0, ds0, p0, q0, hargs, rfl, rfl, h0, r0⟩ := trodAll_cons hA
  obtain ⟨v1, vs1, d1, ds1, p1, q1, rfl, rfl, rfl, h1, r1⟩ := trodAll_cons r0
  obtain ⟨rfl, rfl, rfl⟩ := trodAll_nil r1
  obtain rfl : args = #[v0, v1] := by cases args; simp_all
  obtain ⟨rfl, rfl⟩ := trodVars_none hV
  obtain ⟨a0, rfl, rfl, rfl, w0⟩ := open_int Try.underlying3 (hval 0 3 v0 rfl rfl) h0
  obtain ⟨a1, rfl, rfl, rfl, w1⟩ := open_int Try.underlying3 (hval 1 3 v1 rfl rfl) h1
  clear hA0 hval0
  simp only [List.append_nil] at hW'
  refine (walk a0 a1 w0 w1 W).mono fun e W' ⟨he, bel⟩ => ?_
  subst he
  exact ⟨_, rfl, _, _, _, [], _, [], hW', trodAll_mk1 (shut_bool Try.underlying4 _), (trodAll_cons_mk (shut_int Try.underlying3 w0) (trodAll_cons_mk (shut_int Try.underlying3 w1) trodAll_mk0)), rfl, bel.frame _, fun h => by cases h⟩

theorem over : Rows.octetNobodyRow.holds Try.pinned (OpenSpec.ofChange Rows.octetNobodySpec) :=
  OpenClaim.holds_of_wide 6 Try.f6 rfl rfl rfl rfl rfl rfl rfl ⟨rfl, rfl, rfl, rfl, rfl⟩ rfl rfl rfl rfl rfl (by kernel_rfl) Try.func6 (by kernel_rfl)
    (of_decide_eq_true (by kernel_rfl)) (by unfold Func.isWrapper; first | (rw [if_pos (by decide +kernel)]; kernel_rfl) | (rw [if_neg (by decide +kernel)]; exact ⟨rfl, rfl⟩))
    (fun os started H enc _ => lifted os started H enc)

/-- ████ THE STATEMENT ████ -/
theorem proved : Rows.OctetNobodySaid :=
  over
#print axioms proved
end Go.Proofs.Ytnjekkcfdcbimaa.octetNobody
