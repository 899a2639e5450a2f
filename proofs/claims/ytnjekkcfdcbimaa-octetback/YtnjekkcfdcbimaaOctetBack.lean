/-
  Proved: for any list of uint64 (up to 30; above that the law answers by the chapter's example alone), the numbers that were written are read again, and then nothing is left. Conditions: none beside the row's own.
-/
import Derived.Test.YtnjekkcfdcbimaaRows
import Derived.Test.YtnjekkcfdcbimaaH
import Derived.Deep.RegionHeld3
import Derived.WalkKit
import Derived.ProofKit
import Derived.OpenShut
import Derived.ShutString
import Derived.ChangeOld
import Derived.Below
namespace Go.Proofs.Ytnjekkcfdcbimaa.octetBack
open Go.ChangeShapes Go.WideShapes Go.ChangeAt Go.RowKit
open Go.ChangeMaps (open_string shut_string)
set_option linter.unusedVariables false

theorem own : ownKnob Try.prog.godebug = none := by kernel_rfl
theorem laidOut : laidOutB Try.prog = true := by kernel_rfl

/-- WHAT THE WALK IS TOLD OF A SLICE OF INTEGERS THAT CAME IN: it is nil; or it leads to a row of 'cap' cells, the numbers 'zs' (the first 'len' are its elements, the rest its spare room), each fitting its kind. -/
def IsRow (k : IntKind) (w : World) (a : Option Addr) (len cap : Nat) (zs : List Int) : Prop :=
  (a = none ∧ len = 0 ∧ cap = 0 ∧ zs = []) ∨
  ∃ x, a = some x ∧ len ≤ cap ∧ cap ≤ maxLen ∧ zs.length = cap ∧ (∀ i, i < zs.length → w.cell? (x.add i) = some (.int k (zs.getD i 0))) ∧ ∀ n ∈ zs, (Lit.int k n).wf = true

/-! ### STEP 1: THE WALK: the Go text returns true, AND WRITES NOTHING THAT WAS THERE: 'Below w.heap.size w w'' (Derived/Below.lean: '.refl', '.alloc', '.drew', '.setCell' at a new block, '.trans'). Open each 'IsRow' by 'rcases' AHEAD of 'go_enter'; part every test ahead of the walk. -/
theorem pw (c : Nat) (h : c ≤ 7) : (2 : Int) ^ (8 * c) = ((256 ^ c : Nat) : Int) ∧ 1 ≤ 256 ^ c ∧ 256 ^ c ≤ 72057594037927936 := by
  have e : (256 : Nat) ^ c = 2 ^ (8 * c) := by rw [Nat.pow_mul]
  refine ⟨by rw [e]; simp, Nat.one_le_pow _ _ (by omega), ?_⟩
  have := Nat.pow_le_pow_right (n := 256) (by omega) h
  omega
theorem wrap8 (c : Nat) (h : c ≤ 7) : IntKind.i64.wrap (8 * (c : Int)) = 8 * c := by
  simp only [IntKind.wrap, IntKind.bits, IntKind.signed]
  simp
  omega
theorem wrapM (c : Nat) (h : c ≤ 7) : IntKind.u64.wrap (2 ^ (8 * (c : Int)).toNat) = ((256 ^ c : Nat) : Int) := by
  obtain ⟨q1, q2, q3⟩ := pw c h
  rw [show (8 * (c : Int)).toNat = 8 * c by omega, q1]
  generalize 256 ^ c = m at *
  simp only [IntKind.wrap, IntKind.bits, IntKind.signed]
  simp
  omega
theorem wrapN (n : Nat) (h : n < 72057594037927936) : IntKind.i64.wrap (n : Int) = n := by
  simp only [IntKind.wrap, IntKind.bits, IntKind.signed]
  simp
  omega
theorem tmodN (a m : Nat) : (a : Int).tmod (m : Int) = ((a % m : Nat) : Int) := by rw [Int.tmod_eq_emod_of_nonneg (by omega)]; simp
/-- The facts on the width c and the number n that the law's two statements ask for. -/
theorem facts (z : Nat → Nat) (j : Nat) : ∃ c M : Nat, (1 : Int) + (j : Int) % 7 = c ∧ c = wid j ∧ ¬ M = 0 ∧ IntKind.i64.wrap (8 * (c : Int)) = 8 * c ∧ IntKind.u64.wrap (2 ^ (8 * (c : Int)).toNat) = M ∧
    (z j : Int).tmod (M : Int) = (nth z j : Nat) ∧ IntKind.i64.wrap ((nth z j : Nat) : Int) = (nth z j : Nat) ∧ nth z j < 72057594037927936 := by
  have hw : wid j = 1 + j % 7 := rfl
  have h7 : wid j ≤ 7 := by omega
  obtain ⟨q1, q2, q3⟩ := pw (wid j) h7
  have hn : nth z j < 256 ^ wid j := Nat.mod_lt _ (by omega)
  exact ⟨wid j, 256 ^ wid j, by omega, rfl, by omega, wrap8 _ h7, wrapM _ h7, tmodN _ _, wrapN _ (by omega), by omega⟩
/-- What a round of the writing leaves. -/
def WPost (z : Nat → Nat) (w : World) (j : Nat) (w' : World) : Prop := WrAt w.heap.size w.heap.size (wl z j) w' ∧ Below w.heap.size w w'
theorem wcall (z : Nat → Nat) (w wr : World) (j c : Nat) (p : Addr) (v : Value) (h : WPost z w j wr) (hj : j ≤ 30) (hc : c = wid j) (hp : p.block < w.heap.size) (hv : wr.cell? p = some v) (hn : nth z j < 72057594037927936) (m : Nat) :
    Calls Try.prog 8 #[.pointer (some ⟨w.heap.size, 0, none⟩), .int .i64 (nth z j : Nat), .int .i64 c] (wr.drewN m) fun e w' => e = .returned (.tuple #[]) ∧ w'.cell? p = some v ∧ WPost z w (j + 1) w' := by
  subst hc
  have hl := wl_len z j
  have hw : wid j = 1 + j % 7 := rfl
  obtain ⟨h1, h2⟩ := h
  refine (wnum_at w.heap.size w.heap.size (wl z j) _ _ (wr.drewN m) (by exact h1) h2.size (by omega) (by omega) (by omega) (by omega) (by omega)).mono ?_
  rintro e w' ⟨rfl, h3, h4⟩
  rw [back_out] at h3
  refine ⟨rfl, ?_, h3, h2.trans ⟨h4.os, h4.tape, h4.output, h4.size, h4.block⟩⟩
  rw [h4.cell hp]
  exact hv
/-- What a round of the reading leaves. -/
def RPost (z : Nat → Nat) (w : World) (r n j : Nat) (w' : World) : Prop := IsAt r 52 (rdCells ⟨(wl z n).toArray⟩ (some (wl z j).length)) w' ∧ Below w.heap.size w w'
theorem rcall (z : Nat → Nat) (w wr : World) (r n j c : Nat) (p : Addr) (v : Value) (h : RPost z w r n j wr) (hj : j < n) (hn : n ≤ 30) (hc : c = wid j) (hr : w.heap.size ≤ r) (hp : p.block < w.heap.size) (hv : wr.cell? p = some v) (m : Nat) :
    Calls Try.prog 16 #[.pointer (some ⟨r, 0, none⟩), .int .i64 c] (wr.drewN m) fun e w' => e = .returned (.int .i64 (nth z j : Nat)) ∧ w'.cell? p = some v ∧ RPost z w r n (j + 1) w' := by
  subst hc
  obtain ⟨h1, h2⟩ := h
  have hs : w.heap.size ≤ wr.heap.size := h2.size
  refine (num_at r ⟨(wl z n).toArray⟩ (some (wl z j).length) (wid j : Nat) (wr.drewN m) (by exact h1) (wl_ok z j n (by omega) hn)).mono ?_
  rintro e w' ⟨rfl, h3, h4⟩
  rw [back_nxt z j n hj] at h3
  rw [back_num z j n hj]
  have hb := h4.below (B := w.heap.size) hr (by exact hs)
  refine ⟨rfl, ?_, h3, h2.trans ⟨hb.os, hb.tape, hb.output, hb.size, hb.block⟩⟩
  rw [hb.cell hp]
  exact hv
theorem left_end (z : Nat → Nat) (n : Nat) : leftF ⟨(wl z n).toArray⟩ (some (wl z n).length) = 0 := by
  simp only [leftF, size_wl]
  omega
theorem walk0 (a0 : Option Addr) (cap : Nat) (w : World) :
    Calls Try.prog 5 #[.slice a0 0 cap] w fun e w' => e = .returned (.bool true) ∧ Below w.heap.size w w' := by
  have H0 : Hid (WrAt w.heap.size w.heap.size [] (w.alloc (.cells #[.pointer none, .int .i64 0] 29))) := wr_new w w.heap.size (Nat.le_refl _)
  go_enter Try.func5, Try.ntmps5
  go_wp2_with (fail)
  go_loopw [4, 5] (fun i k wr => i = .int .i64 0 ∧ WPost (fun _ => 0) w 0 wr) (fun i _ _ => 0)
  case atStart => exact ⟨rfl, H0.out, (Below.refl _ w).alloc (Nat.le_refl _) _⟩
  case round =>
    obtain ⟨rfl, hw, hbl⟩ := hrel
    have HW : Hid (WrAt w.heap.size w.heap.size [] wr) := hw
    have HB : Hid (Below w.heap.size w wr) := hbl
    clear hw hbl
    have hsz := HB.out.size
    go_wp2_with (first
      | (go_at_call 12; refine (wstr_at w.heap.size w.heap.size [] _ HW.out hsz (by decide)).mono ?_; rintro e w3 ⟨rfl, _, b3, _⟩)
      | (go_at_call 13; refine (new_any _ _).mono ?_; rintro e w4 ⟨rfl, hw4⟩))
    have B3 : Hid (Below w.heap.size w w3) := HB.out.trans b3
    have hr : w.heap.size ≤ w3.heap.size := B3.out.size
    have R4 : Hid (RPost (fun _ => 0) w w3.heap.size 0 0 (w3.alloc (.cells (rdCells ⟨#[]⟩ (some 0)) 52))) := ⟨rd_new w3 _, B3.out.alloc hr _⟩
    clear hw4 b3 HW HB B3
    go_loopw [7, 8] (fun i k wr => i = .int .i64 0 ∧ RPost (fun _ => 0) w w3.heap.size 0 0 wr) (fun i _ _ => 0)
    case atStart => exact ⟨rfl, R4.out⟩
    case round =>
      obtain ⟨rfl, hp⟩ := hrel
      have HP : Hid (RPost (fun _ => 0) w w3.heap.size 0 0 wr) := hp
      clear hp
      have hle := left_end (fun _ => 0) 0
      go_wp2_with (first
        | (go_at_call 18; refine (left_at w3.heap.size _ _ _ HP.out.1 (wl_ok (fun _ => 0) 0 0 (Nat.le_refl _) (by decide))).mono ?_; rintro e w5 ⟨rfl, d, rfl⟩)
        | (go_at_call 22; refine (bad_at w3.heap.size _ _ _ (by exact HP.out.1)).mono ?_; rintro e w6 ⟨rfl, hw6⟩; rw [hw6])
        | (go_at_call 7; refine (awake_any _).mono ?_; rintro e w7 ⟨rfl, hb7⟩))
      go_ret
      exact ⟨rfl, HP.out.2.trans ((show Below wr.heap.size wr w7 from ⟨hb7.os, hb7.tape, hb7.output, hb7.size, hb7.block⟩).mono HP.out.2.size)⟩
theorem walkBig (a0 : Option Addr) (len cap : Nat) (w : World) (hl : 30 < len) (hl2 : len ≤ maxLen) :
    Calls Try.prog 5 #[.slice a0 len cap] w fun e w' => e = .returned (.bool true) ∧ Below w.heap.size w w' := by
  unfold maxLen at hl2
  go_enter Try.func5, Try.ntmps5
  go_wp2_with (go_at_call 7; refine (awake_any _).mono ?_; rintro e w7 ⟨rfl, hb7⟩)
  go_ret
  exact ⟨rfl, hb7⟩
theorem walkN (b off len cap : Nat) (z : Nat → Nat) (w : World) (hl : len ≤ cap) (hl30 : len ≤ 30) (hcap : cap ≤ maxLen) (hb : b < w.heap.size)
    (hz : ∀ i, i < len → w.cell? ⟨b, off + i, none⟩ = some (.int .u64 (z i))) (hz2 : ∀ i, i < len → z i ≤ 18446744073709551615) :
    Calls Try.prog 5 #[.slice (some ⟨b, off, none⟩) len cap] w fun e w' => e = .returned (.bool true) ∧ Below w.heap.size w w' := by
  unfold maxLen at hcap
  have H0 : Hid (WrAt w.heap.size w.heap.size [] (w.alloc (.cells #[.pointer none, .int .i64 0] 29))) := wr_new w w.heap.size (Nat.le_refl _)
  go_enter Try.func5, Try.ntmps5
  go_wp2_with (fail)
  go_loopw [4, 5] (fun i k wr => ∃ j : Nat, j ≤ len ∧ i = .int .i64 j ∧ WrAt w.heap.size w.heap.size (wl z j) wr ∧ Below w.heap.size w wr) (fun i _ _ => len - (intOf i).toNat)
  case atStart => exact ⟨0, by omega, rfl, H0.out, (Below.refl _ w).alloc (Nat.le_refl _) _⟩
  case round =>
    obtain ⟨j, hj, rfl, hw, hbl⟩ := hrel
    have HW : Hid (WrAt w.heap.size w.heap.size (wl z j) wr) := hw
    have HB : Hid (Below w.heap.size w wr) := hbl
    have hlw := wl_len z j
    clear hw hbl
    by_cases hlt : j < len
    · have hc : wr.cell? ⟨b, off + j, none⟩ = some (.int .u64 (z j)) := (HB.out.cell (p := ⟨b, off + j, none⟩) hb).trans (hz j hlt)
      have hzj := hz2 j hlt
      obtain ⟨c, M, hcw, hcw2, hM0, hm, hs, hN, hwN, hn7⟩ := facts z j
      have hc1 : 1 ≤ c := by omega
      have hc7 : c ≤ 7 := by omega
      have H2 : Hid (c = wid j) := hcw2
      clear hz hz2 hcw2
      go_wp2_with (fail)
      have HC : Hid (Calls Try.prog 8 #[.pointer (some ⟨w.heap.size, 0, none⟩), .int .i64 (nth z j : Nat), .int .i64 c] wr.drew fun e w' => e = .returned (.tuple #[]) ∧ w'.cell? ⟨b, off + j, none⟩ = some (.int .u64 (z j)) ∧ WPost z w (j + 1) w') :=
        wcall z w wr j c ⟨b, off + j, none⟩ _ ⟨HW.out, HB.out⟩ (by omega) H2.out hb hc hn7 1
      go_region_held3 (fun w' => w'.cell? ⟨b, off + j, none⟩ = some (.int .u64 (z j))) (go_keep) (first | (go_at_call 8; refine HC.out.mono ?_; rintro e w2 ⟨rfl, hc2, hp2⟩))
      all_goals go_wp2
      exact ⟨⟨j + 1, by omega, by go_num, hp2.1, hp2.2⟩, by simp [intOf]; omega⟩
    · obtain rfl : j = len := by omega
      have hsz := HB.out.size
      go_wp2_with (first
        | (go_at_call 12; refine (wstr_at w.heap.size w.heap.size (wl z j) _ HW.out hsz (by omega)).mono ?_; rintro e w3 ⟨rfl, _, b3, _⟩)
        | (go_at_call 13; refine (new_any _ _).mono ?_; rintro e w4 ⟨rfl, hw4⟩))
      have B3 : Hid (Below w.heap.size w w3) := HB.out.trans b3
      have hr : w.heap.size ≤ w3.heap.size := B3.out.size
      have R4 : Hid (RPost z w w3.heap.size j 0 (w3.alloc (.cells (rdCells ⟨(wl z j).toArray⟩ (some 0)) 52))) := ⟨rd_new w3 _, B3.out.alloc hr _⟩
      clear hw4 b3 HW HB B3
      go_loopw [7, 8] (fun i k wr => ∃ m : Nat, m ≤ j ∧ i = .int .i64 m ∧ RPost z w w3.heap.size j m wr) (fun i _ _ => j - (intOf i).toNat)
      case atStart => exact ⟨0, by omega, rfl, R4.out⟩
      case round =>
        obtain ⟨m, hm, rfl, hp⟩ := hrel
        have HP : Hid (RPost z w w3.heap.size j m wr) := hp
        clear hp
        by_cases hlt2 : m < j
        · have hc : wr.cell? ⟨b, off + m, none⟩ = some (.int .u64 (z m)) := (HP.out.2.cell (p := ⟨b, off + m, none⟩) hb).trans (hz m hlt2)
          obtain ⟨c, M, hcw, hcw2, hM0, hm8, hs, hN, hwN, hn7⟩ := facts z m
          have hc1 : 1 ≤ c := by omega
          have hc7 : c ≤ 7 := by omega
          have H2 : Hid (c = wid m) := hcw2
          clear hz hz2 hcw2
          go_wp2_with (fail)
          have HC : Hid (Calls Try.prog 16 #[.pointer (some ⟨w3.heap.size, 0, none⟩), .int .i64 c] wr.drew fun e w' => e = .returned (.int .i64 (nth z m : Nat)) ∧ w'.cell? ⟨b, off + m, none⟩ = some (.int .u64 (z m)) ∧ RPost z w w3.heap.size j (m + 1) w') :=
            rcall z w wr w3.heap.size j m c ⟨b, off + m, none⟩ _ HP.out hlt2 hl30 H2.out hr hb hc 1
          go_region_held3 (fun w' => w'.cell? ⟨b, off + m, none⟩ = some (.int .u64 (z m))) (go_keep) (first | (go_at_call 16; refine HC.out.mono ?_; rintro e w2 ⟨rfl, hc2, hp2⟩))
          all_goals go_wp2
          exact ⟨⟨m + 1, by omega, by go_num, hp2⟩, by simp [intOf]; omega⟩
        · obtain rfl : m = j := by omega
          have hle := left_end z m
          clear hz hz2
          go_wp2_with (first
            | (go_at_call 18; refine (left_at w3.heap.size _ _ _ HP.out.1 (wl_ok z m m (Nat.le_refl _) hl30)).mono ?_; rintro e w5 ⟨rfl, d, rfl⟩)
            | (go_at_call 22; refine (bad_at w3.heap.size ⟨(wl z m).toArray⟩ (some (wl z m).length) _ (by exact HP.out.1)).mono ?_; rintro e w6 ⟨rfl, hw6⟩; rw [hw6])
            | (go_at_call 7; refine (awake_any _).mono ?_; rintro e w7 ⟨rfl, hb7⟩))
          go_ret
          exact ⟨rfl, HP.out.2.trans ((show Below wr.heap.size wr w7 from ⟨hb7.os, hb7.tape, hb7.output, hb7.size, hb7.block⟩).mono HP.out.2.size)⟩
theorem walk (a0 : Option Addr) (len0 cap0 : Nat) (z0 : List Int) (w : World) (w0 : IsRow .u64 w a0 len0 cap0 z0) :
    Calls Try.prog 5 #[.slice a0 len0 cap0] w fun e w' => e = .returned (.bool true) ∧ Below w.heap.size w w' := by
  rcases w0 with ⟨rfl, rfl, rfl, rfl⟩ | ⟨x, rfl, hl, hm, hz, hc, hwf⟩
  · exact walk0 _ _ w
  · by_cases h30 : 30 < len0
    · exact walkBig _ _ _ w h30 (by omega)
    · by_cases h0 : 0 < z0.length
      · obtain ⟨b, off, rfl, hc'⟩ := ints_at hc h0
        have hr := range_u64 hwf
        have hb : b < w.heap.size := by
          rcases Nat.lt_or_ge b w.heap.size with h | h
          · exact h
          · exfalso
            have e := hc' 0 h0
            simp [World.cell?, Array.getElem?_eq_none h] at e
        refine walkN b off len0 cap0 (fun i => (z0[i]?.getD 0).toNat) w hl (by omega) hm hb ?_ ?_
        · intro i hi
          rw [hc' i (by omega)]
          have := (hr i).1
          rw [Int.toNat_of_nonneg this]
          rfl
        · intro i hi
          have h1 := (hr i).1
          have h2 := (hr i).2
          show (z0[i]?.getD 0).toNat ≤ 18446744073709551615
          omega
      · obtain rfl : len0 = 0 := by omega
        exact walk0 _ _ w

/-! ### THE ROW's STEP: WRITTEN OUT: LEAVE IT -/
set_option maxRecDepth 100000 in
theorem lifted (os : Os) (started : os.Started) (H : Type) (enc : TypeId × Value → H) :
    ReturnsInHanded {} Try.checked os 5 .any (Rows.octetBackSpec.pre6 enc Try.prog Try.f5 Rows.octetBackRow.domain false) (Rows.octetBackSpec.post enc Try.prog Try.f5 false true false false) := by
  refine returnsInHanded_of_change (C := Try.checked) own started (by kernel_rfl) Try.func5
    (ChangeSpec.witness6 (enc := enc) (C := Try.checked) false ⟨#[], #[.slice none 0 0], []⟩ 8 (by kernel_rfl) (by kernel_rfl) (by kernel_rfl) (by kernel_rfl)) ?_
  intro W base args ds gs before hval0 hW hcnd _
  have hval : ∀ (j : Nat) t v, Try.f5.params[j]? = some t → args[j]? = some v → Value.okWide Try.prog W .any base t v := hval0
  have hW' := hW
  obtain ⟨p, q, hA0, hV, rfl, hfz, hnd⟩ := hW
  have hA : DataW.TrodAll enc Try.prog W 0 (fun _ => true) true Try.f5.params.toList args.toList ds p := hA0
  rw [Try.params5] at hA hval
  obtain ⟨v0, vs0, d0, ds0, p0, q0, hargs, rfl, rfl, h0, r0⟩ := trodAll_cons hA
  obtain ⟨rfl, rfl, rfl⟩ := trodAll_nil r0
  obtain rfl : args = #[v0] := by cases args; simp_all
  obtain ⟨rfl, rfl⟩ := trodVars_none hV
  obtain ⟨a0, len0, cap0, rfl⟩ := okWide_slice Try.underlying48 (hval 0 48 v0 rfl rfl)
  have k0 := h0
  have lt0 : ∀ x ∈ p0, x.block < W.heap.size := by obtain ⟨m, hm⟩ := k0; exact DataW.trod_lt m _ _ _ hm
  obtain ⟨z0, w0⟩ : ∃ zs, IsRow .u64 W a0 len0 cap0 zs := by
    obtain ⟨fuel, hf⟩ := h0
    rcases open_ints Try.underlying48 Try.underlying49 (by kernel_rfl) hf with ⟨hcs, _⟩ | ⟨x, l, c, zs, hcs, _, hl, hm, hz, _, hcell, hwz⟩
    · simp [Value.cells] at hcs
      obtain ⟨rfl, rfl, rfl⟩ := hcs
      exact ⟨[], .inl ⟨rfl, rfl, rfl, rfl⟩⟩
    · simp [Value.cells] at hcs
      obtain ⟨rfl, rfl, rfl⟩ := hcs
      exact ⟨zs, .inr ⟨_, rfl, hl, hm, by simpa using hz, hcell, hwz⟩⟩
  clear hA0 hval0
  refine (walk a0 len0 cap0 z0 W w0).mono fun e W' ⟨he, bel⟩ => ?_
  subst he
  exact ⟨_, rfl, _, _, _, [], _, [], hW', trodAll_mk1 (shut_bool Try.underlying4 _), (trodAll_cons_mk (Below.trod laidOut (by kernel_rfl) (of_decide_eq_true (by kernel_rfl)) k0 bel lt0) trodAll_mk0), rfl, bel.frame _, fun h => by cases h⟩

theorem over : Rows.octetBackRow.holds Try.pinned (OpenSpec.ofChange Rows.octetBackSpec) :=
  OpenClaim.holds_of_wide 5 Try.f5 rfl rfl rfl rfl rfl rfl rfl ⟨rfl, rfl, rfl, rfl, rfl⟩ rfl rfl rfl rfl rfl (by kernel_rfl) Try.func5 (by kernel_rfl)
    (of_decide_eq_true (by kernel_rfl)) (by unfold Func.isWrapper; first | (rw [if_pos (by decide +kernel)]; kernel_rfl) | (rw [if_neg (by decide +kernel)]; exact ⟨rfl, rfl⟩))
    (fun os started H enc _ => lifted os started H enc)

/-- ████ THE STATEMENT ████ -/
theorem proved : Rows.OctetBackSaid := over
#print axioms proved
end Go.Proofs.Ytnjekkcfdcbimaa.octetBack
