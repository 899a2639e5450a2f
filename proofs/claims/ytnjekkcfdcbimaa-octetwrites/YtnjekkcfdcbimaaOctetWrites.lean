/-
  Proved: for any list of pairs of ints and any string (within the law's own bounds; outside them the law answers by the chapter's example alone), what Writer.Num and Writer.Text write is the document's octets, and Len and String tell them. Conditions: none beside the row's own.
-/
import Derived.Test.YtnjekkcfdcbimaaRows
import Derived.Test.YtnjekkcfdcbimaaI
import Derived.WalkKit
import Derived.ProofKit
import Derived.OpenShut
import Derived.ShutString
import Derived.ChangeOld
import Derived.Below
namespace Go.Proofs.Ytnjekkcfdcbimaa.octetWrites
open Go.ChangeShapes Go.WideShapes Go.ChangeAt Go.RowKit
open Go.ChangeMaps (open_string shut_string)
set_option linter.unusedVariables false

theorem own : ownKnob Try.prog.godebug = none := by kernel_rfl
theorem laidOut : laidOutB Try.prog = true := by kernel_rfl

/-- What is written of the first j pairs. -/
def wo (X Y : Nat → Int) (s : List UInt8) : Nat → List UInt8
  | 0 => []
  | j + 1 => wo X Y s j ++ outF (X j) (Y j) ++ s
theorem wo_len (X Y : Nat → Int) (s : List UInt8) (hs : s.length ≤ 100) (j : Nat) : (wo X Y s j).length ≤ 107 * j := by
  induction j with
  | zero => simp [wo]
  | succ j ih =>
    have := outF_len (X j) (Y j)
    simp only [wo, List.length_append]
    omega
theorem wo_cat (X Y : Nat → Int) (s : ByteArray) (j : Nat) : ((⟨(wo X Y s.data.toList j).toArray⟩ : ByteArray) ++ ⟨(outF (X j) (Y j)).toArray⟩) ++ s = ⟨(wo X Y s.data.toList (j + 1)).toArray⟩ := by
  have e : s = ⟨s.data.toList.toArray⟩ := by simp
  rw [cat_mk]
  conv => lhs; rw [e]
  rw [cat_mk]
  rfl
def WPost (w : World) (l : List UInt8) (w' : World) : Prop := WrAt w.heap.size w.heap.size l w' ∧ Below w.heap.size w w'
def Two (w' : World) (p q : Addr) (x y : Value) : Prop := w'.cell? p = some x ∧ w'.cell? q = some y
theorem num_call (w wr : World) (l : List UInt8) (x y : Int) (b o : Nat) (u v : Value) (h : WPost w l wr) (hl : l.length ≤ 4000) (hb : b < w.heap.size)
    (hu : wr.cell? ⟨b, o, none⟩ = some u) (hv : wr.cell? ⟨b, o + 1, none⟩ = some v) (bx : -9223372036854775808 ≤ x ∧ x ≤ 9223372036854775807) (by' : -9223372036854775808 ≤ y ∧ y ≤ 9223372036854775807) (m : Nat) :
    Calls Try.prog 8 #[.pointer (some ⟨w.heap.size, 0, none⟩), .int .i64 x, .int .i64 y] (wr.drewN m) fun e w' => e = .returned (.tuple #[]) ∧ w'.cell? ⟨b, o, none⟩ = some u ∧ w'.cell? ⟨b, o + 1, none⟩ = some v ∧ WPost w (l ++ outF x y) w' := by
  obtain ⟨h1, h2⟩ := h
  refine (wnum_at w.heap.size w.heap.size l _ _ (wr.drewN m) (by exact h1) h2.size (by omega) bx.1 bx.2 by'.1 by'.2).mono ?_
  rintro e w' ⟨rfl, h3, h4⟩
  refine ⟨rfl, ?_, ?_, h3, h2.trans ⟨h4.os, h4.tape, h4.output, h4.size, h4.block⟩⟩
  · rw [h4.cell (p := ⟨b, o, none⟩) hb]; exact hu
  · rw [h4.cell (p := ⟨b, o + 1, none⟩) hb]; exact hv
theorem text_call (w wr : World) (l : List UInt8) (s : ByteArray) (b o : Nat) (u v : Value) (h : WPost w l wr) (hl : l.length + s.size ≤ 4000) (hb : b < w.heap.size)
    (hu : wr.cell? ⟨b, o, none⟩ = some u) (hv : wr.cell? ⟨b, o + 1, none⟩ = some v) :
    Calls Try.prog 9 #[.pointer (some ⟨w.heap.size, 0, none⟩), .string s] wr fun e w' => e = .returned (.tuple #[]) ∧ w'.cell? ⟨b, o, none⟩ = some u ∧ w'.cell? ⟨b, o + 1, none⟩ = some v ∧ WPost w (l ++ s.data.toList) w' := by
  obtain ⟨h1, h2⟩ := h
  refine (wtext_at w.heap.size w.heap.size l s wr h1 h2.size (by omega)).mono ?_
  rintro e w' ⟨rfl, h3, h4⟩
  refine ⟨rfl, ?_, ?_, h3, h2.trans h4⟩
  · rw [h4.cell (p := ⟨b, o, none⟩) hb]; exact hu
  · rw [h4.cell (p := ⟨b, o + 1, none⟩) hb]; exact hv
theorem rnum_call (w wr : World) (l : List UInt8) (x y : Int) (b o : Nat) (u v : Value) (h : WPost w l wr) (hb : b < w.heap.size)
    (hu : wr.cell? ⟨b, o, none⟩ = some u) (hv : wr.cell? ⟨b, o + 1, none⟩ = some v) (bx : -9223372036854775808 ≤ x ∧ x ≤ 9223372036854775807) (by' : -9223372036854775808 ≤ y ∧ y ≤ 9223372036854775807) (m : Nat) :
    Calls Try.prog 10 #[.int .i64 x, .int .i64 y] (wr.drewN m) fun e w' => e = .returned (.string ⟨(outF x y).toArray⟩) ∧ w'.cell? ⟨b, o, none⟩ = some u ∧ w'.cell? ⟨b, o + 1, none⟩ = some v ∧ WPost w l w' := by
  obtain ⟨h1, h2⟩ := h
  refine (rnum_any x y (wr.drewN m) bx.1 bx.2 by'.1 by'.2).mono ?_
  rintro e w' ⟨rfl, h4⟩
  have h5 : Below wr.heap.size wr w' := ⟨h4.os, h4.tape, h4.output, h4.size, h4.block⟩
  have hb' : b < wr.heap.size := Nat.lt_of_lt_of_le hb h2.size
  refine ⟨rfl, ?_, ?_, h1.below h5, h2.trans (h5.mono h2.size)⟩
  · rw [h5.cell (p := ⟨b, o, none⟩) hb']; exact hu
  · rw [h5.cell (p := ⟨b, o + 1, none⟩) hb']; exact hv
theorem walkBig (a0 : Option Addr) (len0 cap0 : Nat) (s : ByteArray) (w : World) (hl : len0 ≤ maxLen) (hs : s.size ≤ maxLen) (h : 30 < len0 ∨ 100 < s.size) :
    Calls Try.prog 3 #[.slice a0 len0 cap0, .string s] w fun e w' => e = .returned (.bool true) ∧ Below w.heap.size w w' := by
  unfold maxLen at hl hs
  by_cases h1 : 30 < len0
  · go_enter Try.func3, Try.ntmps3
    go_wp2_with (go_at_call 7; refine (awake_any _).mono ?_; rintro e w7 ⟨rfl, hb7⟩)
    go_ret
    exact ⟨rfl, hb7⟩
  · have h2 : 100 < s.size := by omega
    clear h
    go_enter Try.func3, Try.ntmps3
    go_wp2_with (go_at_call 7; refine (awake_any _).mono ?_; rintro e w7 ⟨rfl, hb7⟩)
    go_ret
    exact ⟨rfl, hb7⟩
theorem walkN (b off len0 cap0 : Nat) (X Y : Nat → Int) (s : ByteArray) (w : World) (hl : len0 ≤ cap0) (hc : cap0 ≤ maxLen) (h30 : len0 ≤ 30) (hs : s.size ≤ 100) (hb : b < w.heap.size)
    (hx : ∀ i, i < len0 → w.cell? ⟨b, off + i * 2, none⟩ = some (.int .i64 (X i)) ∧ w.cell? ⟨b, off + i * 2 + 1, none⟩ = some (.int .i64 (Y i)))
    (u0 : ∀ i, i < len0 → (-9223372036854775808 ≤ X i ∧ X i ≤ 9223372036854775807) ∧ (-9223372036854775808 ≤ Y i ∧ Y i ≤ 9223372036854775807)) :
    Calls Try.prog 3 #[.slice (some ⟨b, off, none⟩) len0 cap0, .string s] w fun e w' => e = .returned (.bool true) ∧ Below w.heap.size w w' := by
  unfold maxLen at hc
  have H0 : Hid (WPost w [] (w.alloc (.cells #[.pointer none, .int .i64 0] 29))) := ⟨wr_new w w.heap.size (Nat.le_refl _), (Below.refl _ w).alloc (Nat.le_refl _) _⟩
  go_enter Try.func3, Try.ntmps3
  go_wp2_with (fail)
  go_loopw [6, 7] (fun t i wr => ∃ j : Nat, j ≤ len0 ∧ i = .int .i64 j ∧ t = .string ⟨(wo X Y s.data.toList j).toArray⟩ ∧ WPost w (wo X Y s.data.toList j) wr) (fun _ i _ => len0 - (intOf i).toNat)
  case atStart => exact ⟨0, by omega, rfl, rfl, H0.out⟩
  case round =>
    obtain ⟨j, hj, rfl, rfl, hp⟩ := hrel
    have HP : Hid (WPost w (wo X Y s.data.toList j) wr) := hp
    clear hp H0
    have hlw := wo_len X Y s.data.toList (by simpa using hs) j
    by_cases hlt : j < len0
    · have c0 : wr.cell? ⟨b, off + j * 2, none⟩ = some (.int .i64 (X j)) := (HP.out.2.cell (p := ⟨b, off + j * 2, none⟩) hb).trans (hx j hlt).1
      have c1 : wr.cell? ⟨b, off + j * 2 + 1, none⟩ = some (.int .i64 (Y j)) := (HP.out.2.cell (p := ⟨b, off + j * 2 + 1, none⟩) hb).trans (hx j hlt).2
      have hu := u0 j hlt
      have hol := outF_len (X j) (Y j)
      clear hx u0
      have HC : Hid (Calls Try.prog 8 #[.pointer (some ⟨w.heap.size, 0, none⟩), .int .i64 (X j), .int .i64 (Y j)] wr.drew fun e w' => e = .returned (.tuple #[]) ∧ w'.cell? ⟨b, off + j * 2, none⟩ = some (.int .i64 (X j)) ∧ w'.cell? ⟨b, off + j * 2 + 1, none⟩ = some (.int .i64 (Y j)) ∧ WPost w (wo X Y s.data.toList j ++ outF (X j) (Y j)) w') :=
        num_call w wr _ (X j) (Y j) b (off + j * 2) _ _ HP.out (by omega) hb c0 c1 hu.1 hu.2 1
      go_wp2_with (fail)
      go_region_held3 (fun w' => w'.cell? ⟨b, off + j * 2, none⟩ = some (.int .i64 (X j)) ∧ w'.cell? ⟨b, off + j * 2 + 1, none⟩ = some (.int .i64 (Y j))) (go_keep) (first | (go_at_call 8; refine HC.out.mono ?_; rintro e w2 ⟨rfl, d0, d1, hp2⟩))
      all_goals go_wp2_with (fail)
      refine (text_call w w2 _ s b (off + j * 2) _ _ hp2 (by rw [List.length_append]; omega) hb d0 d1).mono ?_
      rintro e w3 ⟨rfl, e0, e1, hp3⟩
      have HP3 : Hid (WPost w (wo X Y s.data.toList (j + 1)) w3) := hp3
      have HC2 : Hid (Calls Try.prog 10 #[.int .i64 (X j), .int .i64 (Y j)] w3.drew fun e w' => e = .returned (.string ⟨(outF (X j) (Y j)).toArray⟩) ∧ w'.cell? ⟨b, off + j * 2, none⟩ = some (.int .i64 (X j)) ∧ w'.cell? ⟨b, off + j * 2 + 1, none⟩ = some (.int .i64 (Y j)) ∧ WPost w (wo X Y s.data.toList (j + 1)) w') :=
        rnum_call w w3 _ (X j) (Y j) b (off + j * 2) _ _ hp3 hb e0 e1 hu.1 hu.2 1
      have ha1 : ¬ 9223372036854775807 < (wo X Y s.data.toList j).length + (outF (X j) (Y j)).length := by omega
      have ha2 : ¬ 9223372036854775807 < (wo X Y s.data.toList j).length + (outF (X j) (Y j)).length + s.size := by omega
      have ha3 : ¬ 9223372036854775807 < (wo X Y s.data.toList j).length + ((outF (X j) (Y j)).length + s.size) := by omega
      clear hp2 hp3 HC HP d0 d1 c0 c1
      go_wp2_with (fail)
      go_region_held3 (fun w' => w'.cell? ⟨b, off + j * 2, none⟩ = some (.int .i64 (X j)) ∧ w'.cell? ⟨b, off + j * 2 + 1, none⟩ = some (.int .i64 (Y j))) (go_keep) (first | (go_at_call 10; refine HC2.out.mono ?_; rintro e w4 ⟨rfl, f0, f1, hp4⟩))
      all_goals go_wp2_with (fail)
      have hlen : (wo X Y s.data.toList (j + 1)).length = (wo X Y s.data.toList j).length + (outF (X j) (Y j)).length + s.size := by simp only [wo, List.length_append]; rfl
      refine (wlen_at w.heap.size w.heap.size (wo X Y s.data.toList (j + 1)) _ hp4.1).mono ?_
      rintro e w5 ⟨rfl, hw5⟩
      have HP4 : Hid (WPost w (wo X Y s.data.toList (j + 1)) w4) := hp4
      rw [hw5]
      clear hw5 hp4 HP3 HC2 e0 e1 f0 f1
      go_wp2
      exact ⟨⟨j + 1, by omega, by go_num, by rw [wo_cat], HP4.out⟩, by simp [intOf]; omega⟩
    · clear hx u0
      obtain rfl : j = len0 := by omega
      have hsz := HP.out.2.size
      go_wp2_with (first
        | (go_at_call 12; refine (wstr_at w.heap.size w.heap.size (wo X Y s.data.toList j) _ HP.out.1 hsz (by omega)).mono ?_; rintro e w3 ⟨rfl, _, b3, _⟩)
        | (go_at_call 7; refine (awake_any _).mono ?_; rintro e w7 ⟨rfl, hb7⟩))
      go_ret
      have hb3 := HP.out.2.trans b3
      exact ⟨rfl, hb3.trans (hb7.mono hb3.size)⟩
theorem walk0 (a0 : Option Addr) (cap0 : Nat) (s : ByteArray) (w : World) (hs : s.size ≤ 100) :
    Calls Try.prog 3 #[.slice a0 0 cap0, .string s] w fun e w' => e = .returned (.bool true) ∧ Below w.heap.size w w' := by
  have H0 : Hid (WPost w [] (w.alloc (.cells #[.pointer none, .int .i64 0] 29))) := ⟨wr_new w w.heap.size (Nat.le_refl _), (Below.refl _ w).alloc (Nat.le_refl _) _⟩
  go_enter Try.func3, Try.ntmps3
  go_wp2_with (fail)
  go_loopw [6, 7] (fun t i wr => i = .int .i64 0 ∧ t = .string ⟨#[]⟩ ∧ WPost w [] wr) (fun _ i _ => 0)
  case atStart => exact ⟨rfl, rfl, H0.out⟩
  case round =>
    obtain ⟨rfl, rfl, hp⟩ := hrel
    have HP : Hid (WPost w [] wr) := hp
    clear hp H0
    have hsz := HP.out.2.size
    go_wp2_with (first
      | (go_at_call 12; refine (wstr_at w.heap.size w.heap.size [] _ HP.out.1 hsz (by decide)).mono ?_; rintro e w3 ⟨rfl, _, b3, _⟩)
      | (go_at_call 7; refine (awake_any _).mono ?_; rintro e w7 ⟨rfl, hb7⟩))
    go_ret
    have hb3 := HP.out.2.trans b3
    exact ⟨rfl, hb3.trans (hb7.mono hb3.size)⟩
theorem walk (w : World) (a0 : Option Addr) (len0 cap0 : Nat) (X Y : Nat → Int) (h0 : IsTwos w a0 len0 cap0 (fun i => .int .i64 (X i)) (fun i => .int .i64 (Y i)))
    (u0 : ∀ i, i < len0 → (Lit.int .i64 (X i)).wf = true ∧ (Lit.int .i64 (Y i)).wf = true) (s : ByteArray) (hs : s.size ≤ maxLen) :
    Calls Try.prog 3 #[.slice a0 len0 cap0, .string s] w fun e w' => e = .returned (.bool true) ∧ Below w.heap.size w w' := by
  obtain ⟨hl, h0⟩ := h0
  by_cases hbig : 30 < len0 ∨ 100 < s.size
  · exact walkBig a0 len0 cap0 s w hl hs hbig
  rcases h0 with rfl | ⟨b, off, rfl, hb, hlc, hc, hx⟩
  · exact walk0 a0 cap0 s w (by omega)
  · exact walkN b off len0 cap0 X Y s w hlc hc (by omega) (by omega) hb hx fun i hi => ⟨bounds_i64 (u0 i hi).1, bounds_i64 (u0 i hi).2⟩

set_option maxRecDepth 100000 in
theorem lifted (os : Os) (started : os.Started) (H : Type) (enc : TypeId × Value → H) :
    ReturnsInHanded {} Try.checked os 3 .any (Rows.octetWritesSpec.pre6 enc Try.prog Try.f3 Rows.octetWritesRow.domain false) (Rows.octetWritesSpec.post enc Try.prog Try.f3 false true false false) := by
  refine returnsInHanded_of_change (C := Try.checked) own started (by kernel_rfl) Try.func3
    (ChangeSpec.witness6 (enc := enc) (C := Try.checked) false ⟨#[], #[.slice none 0 0, .string ByteArray.empty], []⟩ 8 (by kernel_rfl) (by kernel_rfl) (by kernel_rfl) (by kernel_rfl)) ?_
  intro W base args ds gs before hval0 hW hcnd _
  have hval : ∀ (j : Nat) t v, Try.f3.params[j]? = some t → args[j]? = some v → Value.okWide Try.prog W .any base t v := hval0
  have hW' := hW
  obtain ⟨p, q, hA0, hV, rfl, hfz, hnd⟩ := hW
  have hA : DataW.TrodAll enc Try.prog W 0 (fun _ => true) true Try.f3.params.toList args.toList ds p := hA0
  rw [Try.params3] at hA hval
  obtain ⟨v0, vs0, d0, ds0, p0, q0, hargs, rfl, rfl, h0, r0⟩ := trodAll_cons hA
  obtain ⟨v1, vs1, d1, ds1, p1, q1, rfl, rfl, rfl, h1, r1⟩ := trodAll_cons r0
  obtain ⟨rfl, rfl, rfl⟩ := trodAll_nil r1
  obtain rfl : args = #[v0, v1] := by cases args; simp_all
  obtain ⟨rfl, rfl⟩ := trodVars_none hV
  obtain ⟨a0, len0, cap0, rfl⟩ := okWide_slice Try.underlying22 (hval 0 22 v0 rfl rfl)
  have k0 := h0
  have lt0 : ∀ x ∈ p0, x.block < W.heap.size := by obtain ⟨m, hm⟩ := k0; exact DataW.trod_lt m _ _ _ hm
  obtain ⟨x0, y0, w0, u0⟩ : ∃ X Y : Nat → Int, IsTwos W a0 len0 cap0 (fun i => .int .i64 (X i)) (fun i => .int .i64 (Y i)) ∧ ∀ i, i < len0 → (Lit.int .i64 (X i)).wf = true ∧ (Lit.int .i64 (Y i)).wf = true := by
    obtain ⟨fuel, hf⟩ := h0
    rcases open_arr2 Try.underlying22 Try.underlying31 Try.underlying3 (by kernel_rfl) (by kernel_rfl) hf with hcs | ⟨x, l, c, X, Y, hcs, hl, hm, hx⟩
    · simp [Value.cells] at hcs
      obtain ⟨rfl, rfl, rfl⟩ := hcs
      exact ⟨fun _ => 0, fun _ => 0, ⟨Nat.zero_le _, .inl rfl⟩, fun i hi => absurd hi (Nat.not_lt_zero i)⟩
    · simp [Value.cells] at hcs
      obtain ⟨rfl, rfl, rfl⟩ := hcs
      exact ⟨X, Y, twos_of hl hm (fun i hi => (hx i hi).1), fun i hi => (hx i (by omega)).2⟩
  obtain ⟨s1, rfl, rfl, rfl, w1⟩ := open_string Try.underlying9 (hval 1 9 v1 rfl rfl) h1
  clear hA0 hval0
  refine (walk W a0 len0 cap0 x0 y0 w0 u0 s1 w1).mono fun e W' ⟨he, bel⟩ => ?_
  subst he
  exact ⟨_, rfl, _, _, _, [], _, [], hW', trodAll_mk1 (shut_bool Try.underlying4 _), (trodAll_cons_mk (Below.trod laidOut (by kernel_rfl) (of_decide_eq_true (by kernel_rfl)) k0 bel lt0) (trodAll_cons_mk (shut_string Try.underlying9 w1) trodAll_mk0)), rfl, bel.frame _, fun h => by cases h⟩

theorem over : Rows.octetWritesRow.holds Try.pinned (OpenSpec.ofChange Rows.octetWritesSpec) :=
  OpenClaim.holds_of_wide 3 Try.f3 rfl rfl rfl rfl rfl rfl rfl ⟨rfl, rfl, rfl, rfl, rfl⟩ rfl rfl rfl rfl rfl (by kernel_rfl) Try.func3 (by kernel_rfl)
    (of_decide_eq_true (by kernel_rfl)) (by unfold Func.isWrapper; first | (rw [if_pos (by decide +kernel)]; kernel_rfl) | (rw [if_neg (by decide +kernel)]; exact ⟨rfl, rfl⟩))
    (fun os started H enc _ => lifted os started H enc)

/-- The statement. -/
theorem proved : Rows.OctetWritesSaid := over
#print axioms proved
end Go.Proofs.Ytnjekkcfdcbimaa.octetWrites
