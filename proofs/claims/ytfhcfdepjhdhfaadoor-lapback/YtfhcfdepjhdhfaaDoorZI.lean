/-
  The contracts of dct's small functions: step, angle, fits; the document's Right.
-/
import Derived.Test.YtfhcfdepjhdhfaaDoorZH
import Derived.Test.YtfhcfdepjhdhfaaDoorZC
import Derived.Test.YtfhcfdepjhdhfaaDoorZD
import Derived.Test.YtfhcfdepjhdhfaaDoorZB
import Derived.RangeFuncFrom
import Derived.RangeFuncBound
import Derived.RangeFuncLeaves
import Derived.Shelf.Abstract
import Derived.LoopNIn
import Derived.LoopIn
namespace Go.Proofs.YtfhcfdepjhdhfaaDoor
open Go.ChangeShapes Go.WideShapes Go.ChangeAt Go.RowKit
set_option linter.unusedVariables false

theorem IsN.div {n : Nat} (h : IsN n) : ∃ a : Nat, 64 / n = a ∧ 1 ≤ a ∧ a ≤ 8 ∧ (64 : Int).tdiv (n : Int) = (a : Int) ∧ ((n : Int) == 0) = false := by
  rcases h with rfl | rfl
  · exact ⟨8, rfl, by decide, by decide, by decide, by decide⟩
  · exact ⟨1, rfl, by decide, by decide, by decide, by decide⟩
theorem step_any {n : Nat} (hn : IsN n) (w : World) :
    Calls Tryd.prog 67 #[.int .i64 n] w fun e w' => e = .returned (.int .i64 ((64 / n : Nat) : Int)) ∧ w' = w := by
  rcases hn with rfl | rfl
  all_goals
    go_enter Tryd.func67, Tryd.ntmps67
    go_wp2
    go_ret
    exact ⟨rfl, rfl⟩
theorem xang_bd {n i k : Nat} (hn : IsN n) (hi : i < 64) (hk : k < 64) : 0 ≤ xang n i k ∧ xang n i k ≤ 131072 := by
  obtain ⟨a, e, h1, h2, h3, h4⟩ := hn.div
  rw [xang, e]
  have h5 : a * (2 * i + 1) ≤ 8 * 127 := Nat.mul_le_mul h2 (by omega)
  have h6 : a * (2 * i + 1) * (2 * k + 1) ≤ (8 * 127) * 127 := Nat.mul_le_mul h5 (by omega)
  omega
theorem angle_any {n i k : Nat} (hn : IsN n) (hi : i < 64) (hk : k < 64) (w : World) :
    Calls Tryd.prog 79 #[.int .i64 n, .int .i64 i, .int .i64 k] w fun e w' => e = .returned (.int .i64 (xang n i k)) ∧ w' = w := by
  have HS : Hid (Calls Tryd.prog 67 #[.int .i64 n] w fun e w' => e = .returned (.int .i64 ((64 / n : Nat) : Int)) ∧ w' = w) := step_any hn w
  obtain ⟨a, e, h1, h2, h3, h4⟩ := hn.div
  have HX : Hid (xang n i k = ((a : Int) * (2 * (i : Int) + 1)) * (2 * (k : Int) + 1)) := by show _ = _; rw [xang, e]; simp
  rw [e] at HS
  have h5 : a * (2 * i + 1) ≤ 8 * 127 := Nat.mul_le_mul h2 (by omega)
  have h6 : a * (2 * i + 1) * (2 * k + 1) ≤ (8 * 127) * 127 := Nat.mul_le_mul h5 (by omega)
  have c1 : (a : Int) * (2 * (i : Int) + 1) = ((a * (2 * i + 1) : Nat) : Int) := by simp
  have c2 : ((a : Int) * (2 * (i : Int) + 1)) * (2 * (k : Int) + 1) = ((a * (2 * i + 1) * (2 * k + 1) : Nat) : Int) := by simp
  have q1 : wrap64 ((a : Int) * (2 * (i : Int) + 1)) = (a : Int) * (2 * (i : Int) + 1) := by rw [c1]; unfold wrap64; omega
  have q2 : wrap64 (((a : Int) * (2 * (i : Int) + 1)) * (2 * (k : Int) + 1)) = ((a : Int) * (2 * (i : Int) + 1)) * (2 * (k : Int) + 1) := by rw [c2]; unfold wrap64; omega
  clear c1 c2 h5 h6 e h3 h4 hn
  rw [HX.out]
  go_enter Tryd.func79, Tryd.ntmps79
  go_wp2_with (go_at_call 67; refine HS.out.mono ?_; rintro e w1 ⟨rfl, rfl⟩)
  go_ret
  exact ⟨ret_int q2, rfl⟩

/-- A block, of numbers that are not too great. -/
def rightF (X : Nat → Int) (len : Nat) (b : Int) : Bool := (decide (len = 8) || decide (len = 64)) && allIn (-b) b X len
theorem rightF_no {X : Nat → Int} {len : Nat} {b : Int} (h : ¬ IsN len) : rightF X len b = false := by
  unfold IsN at h
  rw [rightF, decide_eq_false (by omega), decide_eq_false (by omega)]; rfl
theorem rightF_is {X : Nat → Int} {len : Nat} {b : Int} (h : IsN len) : rightF X len b = allIn (-b) b X len := by
  unfold IsN at h
  rw [rightF, ← Bool.decide_or, decide_eq_true (by omega)]; rfl
theorem rightF_yes {X : Nat → Int} {len : Nat} {b : Int} (h : rightF X len b = true) : IsN len ∧ ∀ i, i < len → -b ≤ X i ∧ X i ≤ b := by
  by_cases hn : IsN len
  · rw [rightF_is hn, allIn_iff] at h
    exact ⟨hn, h⟩
  · rw [rightF_no hn] at h; cases h
theorem rightF_of {X : Nat → Int} {len : Nat} {b : Int} (hn : IsN len) (h : ∀ i, i < len → -b ≤ X i ∧ X i ≤ b) : rightF X len b = true := by
  rw [rightF_is hn, allIn_iff]; exact h
theorem xfits_any (b : Int) (hb : 0 ≤ b) (hb' : b ≤ 33554432) (a : Option Addr) (len cap : Nat) (X : Nat → Int) (hl : len ≤ maxLen) (w : World) (h : IsInts w a len cap X) :
    Calls Tryd.prog 55 #[.slice a len cap, .int .i64 b] w fun e w' => e = .returned (.bool (rightF X len b)) ∧ w' = w := by
  unfold maxLen at hl
  by_cases hn : IsN len
  · rw [rightF_is hn]
    rcases h with rfl | ⟨bb, off, rfl, h1, h2, h3, hc⟩
    · exact absurd hn (by unfold IsN; omega)
    clear h1 h2 h3
    rcases hn with rfl | rfl
    · clear hl
      go_enter Tryd.func55, Tryd.ntmps55
      go_wp2
      go_loop [6, 17] (fun _ i => ∃ k : Nat, k ≤ 8 ∧ i = .int .i64 k ∧ allIn (-b) b X k = true) (fun _ i => 8 - (intOf i).toNat)
      case atStart => exact ⟨0, Nat.zero_le _, rfl, rfl⟩
      case round =>
        obtain ⟨k, hk, rfl, hall⟩ := hrel
        have HA : Hid (allIn (-b) b X k = true) := hall
        clear hall
        by_cases hlt : k < 8
        · have hck := hc k hlt
          clear hc
          by_cases h1 : X k < -b
          · go_wp2
            go_ret
            exact ⟨ret_bool (allIn_no hlt (by omega)).symm, rfl⟩
          · by_cases h2 : b < X k
            · go_wp2
              go_ret
              exact ⟨ret_bool (allIn_no hlt (by omega)).symm, rfl⟩
            · go_wp2
              go_round
              case rel => exact ⟨k + 1, by omega, by go_num, by simp [allIn, HA.out]; omega⟩
              case measure => simp [intOf]; omega
        · clear hc
          go_wp2
          go_ret
          obtain rfl : k = 8 := by omega
          exact ⟨ret_bool HA.out.symm, rfl⟩
    · clear hl
      go_enter Tryd.func55, Tryd.ntmps55
      go_wp2
      go_loop [6, 17] (fun _ i => ∃ k : Nat, k ≤ 64 ∧ i = .int .i64 k ∧ allIn (-b) b X k = true) (fun _ i => 64 - (intOf i).toNat)
      case atStart => exact ⟨0, Nat.zero_le _, rfl, rfl⟩
      case round =>
        obtain ⟨k, hk, rfl, hall⟩ := hrel
        have HA : Hid (allIn (-b) b X k = true) := hall
        clear hall
        by_cases hlt : k < 64
        · have hck := hc k hlt
          clear hc
          by_cases h1 : X k < -b
          · go_wp2
            go_ret
            exact ⟨ret_bool (allIn_no hlt (by omega)).symm, rfl⟩
          · by_cases h2 : b < X k
            · go_wp2
              go_ret
              exact ⟨ret_bool (allIn_no hlt (by omega)).symm, rfl⟩
            · go_wp2
              go_round
              case rel => exact ⟨k + 1, by omega, by go_num, by simp [allIn, HA.out]; omega⟩
              case measure => simp [intOf]; omega
        · clear hc
          go_wp2
          go_ret
          obtain rfl : k = 64 := by omega
          exact ⟨ret_bool HA.out.symm, rfl⟩
  · rw [rightF_no hn]
    unfold IsN at hn
    have h8 : ((len : Int) != 8) = true := by simp; omega
    have h64 : ((len : Int) != 64) = true := by simp; omega
    clear h hn
    go_enter Tryd.func55, Tryd.ntmps55
    go_wp2
    go_ret
    exact ⟨rfl, rfl⟩
theorem xright_any (b : Int) (hb : 0 ≤ b) (hb' : b ≤ 33554432) (a : Option Addr) (len cap : Nat) (X : Nat → Int) (hl : len ≤ maxLen) (w : World) (h : IsInts w a len cap X) :
    Calls Tryd.prog 16 #[.slice a len cap, .int .i64 b] w fun e w' => e = .returned (.bool (rightF X len b)) ∧ w' = w := by
  unfold maxLen at hl
  by_cases hn : IsN len
  · rw [rightF_is hn]
    have HR : Hid (Calls Tryd.prog 29 #[.slice a len cap, .int .i64 (-b), .int .i64 b] w fun e w' => e = .returned (.bool (allIn (-b) b X len)) ∧ w' = w) :=
      rwithin_g (-b) b a len cap X (by have := hn.le; omega) w h
    generalize allIn (-b) b X len = q at *
    clear h hl
    rcases hn with rfl | rfl
    all_goals
      go_enter Tryd.func16, Tryd.ntmps16
      go_wp2_with (go_at_call 29; refine HR.out.mono ?_; rintro e w1 ⟨rfl, rfl⟩)
      go_ret
      exact ⟨rfl, rfl⟩
  · rw [rightF_no hn]
    unfold IsN at hn
    have h8 : ¬ len = 8 := by omega
    have h64 : ¬ len = 64 := by omega
    have g8 : ¬ (len : Int) = 8 := by omega
    have g64 : ¬ (len : Int) = 64 := by omega
    clear h hn
    go_enter Tryd.func16, Tryd.ntmps16
    go_wp2
    go_ret
    exact ⟨rfl, rfl⟩
end Go.Proofs.YtfhcfdepjhdhfaaDoor
/-
  The contracts of dct.halves: an iterator over both halves' places.
-/
namespace Go.Proofs.YtfhcfdepjhdhfaaDoor
open Go.ChangeShapes Go.WideShapes Go.ChangeAt Go.RowKit
set_option linter.unusedVariables false

theorem halves_any (n : Nat) (w : World) :
    Calls Tryd.prog 77 #[.int .i64 n] w fun e w' => e = .returned (.func (.func 86) #[] #[.pointer (some ⟨w.heap.size, 0, none⟩)]) ∧ w' = w.alloc (.cells #[.int .i64 n] 3) := by
  go_enter Tryd.func77, Tryd.ntmps77
  go_wp2
  go_ret
  exact ⟨rfl, rfl⟩

/-- The first k places of a half. -/
def firsts (h k : Nat) : List (Fin h) := (List.finRange h).take k
theorem firsts_len {h k : Nat} (hk : k ≤ h) : (firsts h k).length = k := by simp [firsts, hk]
theorem firsts_succ {h k : Nat} (hk : k < h) : firsts h (k + 1) = firsts h k ++ [⟨k, hk⟩] := by
  rw [firsts, List.take_succ_eq_append_getElem (by simpa using hk)]
  simp [firsts]
/-- What is handed to a round: a place of each half. -/
abbrev pairOf (h : Nat) (x : Fin h) : Array Value := #[.int .i64 (x.val : Int), .int .i64 ((h : Int) + (x.val : Int))]
/-- One cell is as it was. -/
def KpN (b : Nat) (W W' : World) : Prop := W'.cell? ⟨b, 0, none⟩ = W.cell? ⟨b, 0, none⟩
theorem kpN_t {b : Nat} {A B C : World} (h : KpN b A B) (k : KpN b B C) : KpN b A C := k.trans h
theorem kpN_b {b : Nat} {w : World} (hb : b < w.heap.size) (W : World) (l : Nat) (o o' : Obj) (hl : w.heap.size ≤ l) (h : W.heap[l]? = some o) (_ : o.isCells = false) (_ : o.isWalk = false) : KpN b W (W.putObj l o') :=
  World.cell?_of_block (a := ⟨b, 0, none⟩) (World.putObj_heap_other (show b ≠ l by omega))

section
attribute [local go_sem] Oper.semAt_some
set_option maxRecDepth 100000 in
theorem halves1 {n h : Nat} (hn : n = 2 * h) (h32 : h ≤ 32) (m : Nat) (hm : 1 ≤ m) (l Bn : Nat) (J Jx : List (Fin h) → World → Prop)
    (hY : ∀ pre x W, J pre W → pre.length < h → YieldAt Fence.wide (m - 1) Tryd.prog l (pairOf h x) W fun e W' =>
      (e = .returned (.bool true) ∧ J (pre ++ [x]) W' ∧ KpN Bn W W') ∨ (e = .returned (.bool false) ∧ Jx (pre ++ [x]) W'))
    (W : World) (hB : W.cell? ⟨Bn, 0, none⟩ = some (.int .i64 n)) (h0 : J [] W) :
    CallsIn Fence.wide m Tryd.prog 86 #[.func (.yield l) #[] #[], .pointer (some ⟨Bn, 0, none⟩)] W fun e W' => (∃ v, e = .returned v) ∧
      ((∃ ys, ys = firsts h h ∧ J ys W') ∨ (∃ pre, True ∧ Jx pre W')) := by
  have hd : (n : Int).tdiv 2 = (h : Int) := by rw [hn, Int.tdiv_eq_ediv_of_nonneg (by omega)]; omega
  have hd' : (n : Int) / 2 = (h : Int) := by omega
  have hnn : n ≤ 64 := by omega
  clear hn
  refine callsIn_of_wp Tryd.func86 rfl trivial ?_ rfl
  simp only [Tryd.ntmps86, List.size_toArray, List.length_cons, List.length_nil, Nat.reduceAdd, Nat.reduceSub, Array.replicate_succ, Array.replicate_zero, List.push_toArray, List.append_toArray, List.nil_append, List.cons_append]
  gi_wp2
  gi_loopw [6] (fun i wr => ∃ k : Nat, k ≤ h ∧ i = .int .i64 k ∧ J (firsts h k) wr ∧ KpN Bn W wr) (fun i _ => h - (intOf i).toNat)
  case atStart => exact ⟨0, Nat.zero_le _, rfl, h0, rfl⟩
  case round =>
    obtain ⟨k, hk, rfl, hJs, hnx⟩ := hrel
    have hcx : wr.cell? ⟨Bn, 0, none⟩ = some (.int .i64 n) := hnx.trans hB
    by_cases hlt : k < h
    · obtain ⟨fn, tmps, assign, body, hy, hR⟩ := hY _ ⟨k, hlt⟩ wr hJs (by rw [firsts_len hk]; exact hlt)
      dsimp only [pairOf] at hy
      gi_wp2
      refine hR.mono ?_
      rintro e W3 (⟨rfl, hJ3, hk3⟩ | ⟨rfl, hJx3⟩)
      · gi_wp2
        go_roundw
        case rel => exact ⟨k + 1, by omega, by go_num, by rw [firsts_succ hlt]; exact hJ3, kpN_t hnx hk3⟩
        case measure => simp [intOf]; omega
      · gi_wp2
        refine bodyPost_ret (results_none rfl _ _ _) rfl ?_
        exact ⟨⟨_, rfl⟩, .inr ⟨_, trivial, hJx3⟩⟩
    · obtain rfl : k = h := by omega
      gi_wp2
      go_end0
      exact ⟨⟨_, rfl⟩, .inl ⟨_, rfl, hJs⟩⟩
end
theorem halves_stops {n h : Nat} (hn : n = 2 * h) (h32 : h ≤ 32) (m : Nat) (hm : 1 ≤ m) (Bn : Nat) (w : World) (hB : Bn < w.heap.size) (hc : w.cell? ⟨Bn, 0, none⟩ = some (.int .i64 n)) :
    SeqStopsK Fence.wide m Tryd.prog 86 #[.pointer (some ⟨Bn, 0, none⟩)] (pairOf h) (KpN Bn) (fun ys => ys = firsts h h) (fun _ => True) h w := fun l J Jx W hW _ _ hY h0 =>
  halves1 hn h32 m hm l Bn J Jx hY W ((hW.cell (p := ⟨Bn, 0, none⟩) hB).trans hc) h0
end Go.Proofs.YtfhcfdepjhdhfaaDoor
/-
  The contract of dct.sums: a list of one's own, at each place the sum of all, taken over two halves at once, shifted.
-/
namespace Go.Proofs.YtfhcfdepjhdhfaaDoor
open Go.ChangeShapes Go.WideShapes Go.ChangeAt Go.RowKit
set_option linter.unusedVariables false


/-- Every old block but r is as it was. -/
structure ButX (r : Nat) (w W : World) : Prop where
  bel : Below r w W
  more : ∀ j, r < j → j < w.heap.size → W.heap[j]? = w.heap[j]?
theorem ButX.refl (r : Nat) (w : World) : ButX r w w := ⟨Below.refl _ _, fun _ _ _ => rfl⟩
theorem ButX.below {r : Nat} {w W W' : World} (h : ButX r w W) (hr : r ≤ W.heap.size) (hb : Below W.heap.size W W') : ButX r w W' :=
  ⟨h.bel.trans (hb.mono hr), fun j h1 h2 => (hb.block j (Nat.lt_of_lt_of_le h2 h.bel.size)).trans (h.more j h1 h2)⟩
theorem ButX.setCell {r o : Nat} {w W : World} (h : ButX r w W) (v : Value) : ButX r w (W.setCell ⟨r, o, none⟩ v) :=
  ⟨h.bel.setCell (p := ⟨r, o, none⟩) (Nat.le_refl _) v, fun j h1 h2 => (Below.heap_setCell _ _ _ j (show j ≠ r by omega)).trans (h.more j h1 h2)⟩
theorem ButX.grown {r : Nat} {w W W' : World} {row : Option Nat} (h : ButX r w W) (hrw : r < w.heap.size) (hg : W.grownBy W' row) (hr : ∀ k, row = some k → w.heap.size ≤ k) : ButX r w W' :=
  ⟨h.bel.grown hg (by have := h.bel.size; omega) (fun k e => by have := hr k e; omega), fun j h1 h2 => (hg.block j (by have := h.bel.size; omega) (fun e => by have := hr j e.symm; omega)).trans (h.more j h1 h2)⟩

/-- The marks that loops over an iterator leave behind: each of its own block, beyond r, below b, the last one first. -/
def MarksX (r : Nat) (w : World) : List Deferred → Nat → Prop
  | [], _ => True
  | d :: ds, b => ∃ D, r < D ∧ D < b ∧ d = { target := .collected D, args := #[] } ∧ w.heap[D]? = some (.deferred (some [])) ∧ MarksX r w ds D
theorem MarksX.mono {r : Nat} {w : World} : ∀ {ds : List Deferred} {b b' : Nat}, MarksX r w ds b → b ≤ b' → MarksX r w ds b'
  | [], _, _, _, _ => trivial
  | _ :: _, _, _, ⟨D, h1, h2, h⟩, hb => ⟨D, h1, Nat.lt_of_lt_of_le h2 hb, h⟩
theorem MarksX.keep {r : Nat} {w w' : World} : ∀ {ds : List Deferred} {b : Nat}, MarksX r w ds b → (∀ D, r < D → D < b → w.heap[D]? = some (.deferred (some [])) → w'.heap[D]? = some (.deferred (some []))) → MarksX r w' ds b
  | [], _, _, _ => trivial
  | _ :: _, _, ⟨D, h1, h2, h3, h4, h5⟩, hk => ⟨D, h1, h2, h3, hk D h1 h2 h4, h5.keep (fun D' g1 g2 => hk D' g1 (by omega))⟩
/-- The function's return through all marks: what holds behind them. -/
theorem leaves_marks {P : Program} {fn : Func} {tmps : Array Value} {R : Ending → World → Prop} {r n : Nat} {w0 : World} (hfin : ∀ w', Below (r + 1) w0 w' → LeavesIn Fence.wide n P fn tmps R [] .returning w') :
    ∀ (ds : List Deferred) (b : Nat) (w : World), MarksX r w ds b → Below (r + 1) w0 w → LeavesInM Fence.wide n P fn tmps R ds .returning w
  | [], _, w, _, hb => hfin w hb
  | d :: ds, b, w, ⟨D, h1, h2, h3, h4, h5⟩, hb => by
    refine ⟨by simp, .inl ⟨D, w.putObj D (.deferred none), by rw [h3], run_takeDeferred h4, ?_⟩⟩
    refine leaves_marks hfin ds D _ (h5.keep (fun D' g1 g2 g3 => (World.putObj_heap_other (by omega)).trans g3)) ?_
    exact hb.grown (grownBy_putObj' w D _) (by have := (Array.getElem?_eq_some_iff.1 h4).1; omega) (fun k e => by cases e; omega)

/-- The sum of what has come. -/
def psum {h : Nat} (g : Nat → Int) : List (Fin h) → Int
  | [] => 0
  | x :: l => g x.val + psum g l
theorem psum_snoc {h : Nat} (g : Nat → Int) (x : Fin h) : ∀ l : List (Fin h), psum g (l ++ [x]) = psum g l + g x.val
  | [] => by simp [psum]
  | y :: l => by rw [List.cons_append, psum, psum_snoc g x l, psum]; omega
theorem psum_firsts {h : Nat} (g : Nat → Int) : ∀ k, k ≤ h → psum g (firsts h k) = sumN k g
  | 0, _ => by simp [firsts, psum, sumN]
  | k + 1, hk => by rw [firsts_succ hk, psum_snoc, psum_firsts g k (by omega), sumN]
theorem psum_bd {h : Nat} {g : Nat → Int} {B : Int} (hg : ∀ i, i < h → -B ≤ g i ∧ g i ≤ B) : ∀ l : List (Fin h), -(l.length * B) ≤ psum g l ∧ psum g l ≤ l.length * B
  | [] => by simp [psum]
  | x :: l => by
    have a := psum_bd hg l
    have b := hg x.val x.isLt
    rw [psum, List.length_cons, show ((l.length + 1 : Nat) : Int) * B = l.length * B + B by rw [Int.natCast_add]; simp [Int.add_mul]]
    omega
/-- What is added in a round. -/
def pair (n h : Nat) (U : Nat → Int) (k i : Nat) : Int := U i * cosI (xang n i k) + U (h + i) * cosI (xang n (h + i) k)
theorem pair_all {n h : Nat} (hn : n = 2 * h) (U : Nat → Int) (k : Nat) : psum (pair n h U k) (firsts h h) = xsum n U k := by
  rw [psum_firsts _ h (Nat.le_refl _), xsum, hn]
  exact sumN_halves (fun i => U i * cosI (xang (2 * h) i k)) h

/-- Between two places: k of them are done. -/
structure SI (r n : Nat) (G : Nat → Int) (w0 : World) (k : Nat) (ds : List Deferred) (wr : World) : Prop where
  bel : Below r w0 wr
  row : RowAt r n (fun x => if x < k then G x else 0) wr
  marks : MarksX r wr ds wr.heap.size
theorem SI.lt {r n k : Nat} {G : Nat → Int} {w0 wr : World} {ds : List Deferred} (h : SI r n G w0 k ds wr) : r < wr.heap.size := h.row.lt
theorem cell_al_old {w : World} {b : Nat} (o : Obj) (h : b < w.heap.size) : (w.alloc o).cell? ⟨b, 0, none⟩ = w.cell? ⟨b, 0, none⟩ := World.cell?_of_block (a := ⟨b, 0, none⟩) (al_old o h)
theorem cell_al_new {w : World} {b : Nat} (x : Value) (t : TypeId) (h : b = w.heap.size) : (w.alloc (.cells #[x] t)).cell? ⟨b, 0, none⟩ = some x := by
  subst h; exact IsAt.cell (cs := #[x]) (al_new w _) 0
theorem frozen_al_old {w : World} {b : Nat} (o : Obj) (h : b < w.heap.size) : (w.alloc o).frozen? ⟨b, 0, none⟩ = w.frozen? ⟨b, 0, none⟩ := World.frozen?_of_block (a := ⟨b, 0, none⟩) (al_old o h)
theorem frozen_al_new {w : World} {b : Nat} (x : Value) (t : TypeId) (h : b = w.heap.size) : (w.alloc (.cells #[x] t)).frozen? ⟨b, 0, none⟩ = false := by
  subst h; exact IsAt.frozen (cs := #[x]) (al_new w _) 0
/-- What stands behind the boxes and the list that is made. -/
theorem made4 (w : World) (n : Nat) (x y z : Value) (tx ty tz : TypeId) : let W := (((w.alloc (.cells #[x] tx)).alloc (.cells #[y] ty)).alloc (.cells #[z] tz)).alloc (.cells (rowA n (fun _ => 0)) 3)
    W.cell? ⟨w.heap.size, 0, none⟩ = some x ∧ W.cell? ⟨w.heap.size + 1, 0, none⟩ = some y ∧ W.cell? ⟨w.heap.size + 1 + 1, 0, none⟩ = some z ∧ RowAt (w.heap.size + 1 + 1 + 1) n (fun _ => 0) W ∧ Below w.heap.size w W := by
  intro W
  refine ⟨?_, ?_, ?_, ?_, ?_⟩
  · exact (cell_al_old _ (by simp <;> omega)).trans ((cell_al_old _ (by simp <;> omega)).trans ((cell_al_old _ (by simp <;> omega)).trans (cell_al_new _ _ rfl)))
  · exact (cell_al_old _ (by simp <;> omega)).trans ((cell_al_old _ (by simp <;> omega)).trans (cell_al_new _ _ (by simp)))
  · exact (cell_al_old _ (by simp <;> omega)).trans (cell_al_new _ _ (by simp))
  · have h := al_new (((w.alloc (.cells #[x] tx)).alloc (.cells #[y] ty)).alloc (.cells #[z] tz)) (.cells (rowA n (fun _ => 0)) 3)
    rw [al_size, al_size, al_size] at h
    exact h
  · exact ((((Below.refl _ w).alloc (Nat.le_refl _) _).alloc (by simp) _).alloc (by simp; omega) _).alloc (by simp; omega) _
theorem made3 (w : World) (x y z : Value) (tx ty tz : TypeId) : let W := ((w.alloc (.cells #[x] tx)).alloc (.cells #[y] ty)).alloc (.cells #[z] tz)
    W.cell? ⟨w.heap.size, 0, none⟩ = some x ∧ W.cell? ⟨w.heap.size + 1, 0, none⟩ = some y ∧ W.frozen? ⟨w.heap.size + 1, 0, none⟩ = false ∧ W.cell? ⟨w.heap.size + 1 + 1, 0, none⟩ = some z ∧ W.heap.size = w.heap.size + 3 ∧ Below w.heap.size w W := by
  intro W
  refine ⟨?_, ?_, ?_, ?_, by simp [W], ?_⟩
  · exact (cell_al_old _ (by simp <;> omega)).trans ((cell_al_old _ (by simp <;> omega)).trans (cell_al_new _ _ rfl))
  · exact (cell_al_old _ (by simp <;> omega)).trans (cell_al_new _ _ (by simp))
  · exact (frozen_al_old _ (by simp <;> omega)).trans (frozen_al_new _ _ (by simp))
  · exact cell_al_new _ _ (by simp)
  exact (((Below.refl _ w).alloc (Nat.le_refl _) _).alloc (by simp) _).alloc (by simp; omega) _
/-- What dct.sums gives. -/
def SPost (n : Nat) (G : Nat → Int) (w : World) (e : Ending) (w' : World) : Prop := ∃ r, e = .returned (.slice (some ⟨r, 0, none⟩) n n) ∧ w.heap.size ≤ r ∧ RowAt r n G w' ∧ Below w.heap.size w w'
theorem keeps_of_below {W W' : World} (h : Below W.heap.size W W') : KeepsOthers W W' := ⟨h.size, fun k o hk _ => (h.block k (Array.getElem?_eq_some_iff.1 hk).1).trans hk⟩

section
attribute [local go_sem] Oper.semAt_some
set_option maxRecDepth 100000 in
set_option maxHeartbeats 2000000 in
theorem sums_any {n h : Nat} (hN : IsN n) (hn : n = 2 * h) (t : Nat) (a : Option Addr) (cap : Nat) (U : Nat → Int) (hU : ∀ i, i < n → -33554432 ≤ U i ∧ U i ≤ 33554432) (bits : Int) (w : World) (ht : Tab t w) (hu : IsInts w a n cap U) :
    Calls Tryd.prog 62 #[.pointer (some ⟨t, 0, none⟩), .slice a n cap, .int .i64 bits] w (SPost n (fun k => shrF (xsum n U k) bits) w) := by
  have hmk := make_ints hN.le
  have hle := hN.le
  have HN : Hid (IsN n) := hN
  have HE : Hid (n = 2 * h) := hn
  have h32 : h ≤ 32 := by omega
  have HU : Hid (∀ i, i < n → -33554432 ≤ U i ∧ U i ≤ 33554432) := hU
  obtain ⟨ub, uo, rfl, HC⟩ := hu.cells (by have := hN.ge; omega)
  replace HC : Hid (∀ W, Below w.heap.size w W → ∀ i, i < n → W.cell? ⟨ub, uo + i, none⟩ = some (.int .i64 (U i))) := HC
  have HT : Hid (∀ W, Below w.heap.size w W → Tab t W) := fun W hb => ht.below ht.1 hb
  obtain ⟨G, hG⟩ : ∃ G : Nat → Int, G = fun k => shrF (xsum n U k) bits := ⟨_, rfl⟩
  have HG : Hid (∀ k, shrF (xsum n U k) bits = G k) := fun k => by rw [hG]
  rw [← hG]
  clear hN hn hU ht hG hu
  refine (callsIn_wide (n := 5)).1 ?_
  refine callsIn_of_wp_marks Tryd.func62 rfl trivial ?_ rfl
  simp only [Tryd.ntmps62, List.size_toArray, List.length_cons, List.length_nil, Nat.reduceAdd, Nat.reduceSub, Array.replicate_succ, Array.replicate_zero, List.push_toArray, List.append_toArray, List.nil_append, List.cons_append]
  refine wpIn_wide.2 ?_
  go_wp2
  have M4 := made4 w n (.pointer (some ⟨t, 0, none⟩)) (.slice (some ⟨ub, uo, none⟩) n cap) (.int .i64 n) 26 23 3
  dsimp only at M4
  generalize (((w.alloc (.cells #[.pointer (some ⟨t, 0, none⟩)] 26)).alloc (.cells #[.slice (some ⟨ub, uo, none⟩) n cap] 23)).alloc (.cells #[.int .i64 n] 3)).alloc (.cells (rowA n (fun _ => 0)) 3) = w0 at M4 ⊢
  obtain ⟨m1, m2, m3, m4, m5⟩ := M4
  obtain ⟨s, hs⟩ : ∃ s, s = w.heap.size := ⟨_, rfl⟩
  obtain ⟨s1, hs1⟩ : ∃ s1, s1 = s + 1 := ⟨_, rfl⟩
  obtain ⟨s2, hs2⟩ : ∃ s2, s2 = s1 + 1 := ⟨_, rfl⟩
  obtain ⟨r, hr⟩ : ∃ r, r = s2 + 1 := ⟨_, rfl⟩
  have HS : Hid (s = w.heap.size ∧ s < r ∧ s1 < r ∧ s2 < r) := ⟨hs, by omega, by omega, by omega⟩
  rw [← hs, ← hs1, ← hs2, ← hr] at m4
  rw [← hs, ← hs1, ← hs2] at m3
  rw [← hs, ← hs1] at m2
  rw [← hs] at m1
  rw [← hs, ← hs1, ← hs2, ← hr]
  have M1 : Hid (∀ W, Below r w0 W → W.cell? ⟨s, 0, none⟩ = some (.pointer (some ⟨t, 0, none⟩))) := fun W hb => (hb.cell (p := ⟨s, 0, none⟩) HS.out.2.1).trans m1
  have M2 : Hid (∀ W, Below r w0 W → W.cell? ⟨s1, 0, none⟩ = some (.slice (some ⟨ub, uo, none⟩) n cap)) := fun W hb => (hb.cell (p := ⟨s1, 0, none⟩) HS.out.2.2.1).trans m2
  have M3 : Hid (∀ W, Below r w0 W → W.cell? ⟨s2, 0, none⟩ = some (.int .i64 n)) := fun W hb => (hb.cell (p := ⟨s2, 0, none⟩) HS.out.2.2.2).trans m3
  have MB : Hid (∀ W, Below r w0 W → Below w.heap.size w W) := fun W hb => m5.trans (hb.mono (by have := HS.out; omega))
  have H0 : Hid (SI r n G w0 0 [] w0) := ⟨Below.refl _ _, m4, trivial⟩
  clear hs hs1 hs2 hr m1 m2 m3 m4 m5 hmk
  refine wp_loop (fun a' wr => ∃ (k : Nat) (ds : List Deferred) (u9 u10 u20 u21 u22 u23 u51 u52 u53 u54 u55 u56 u57 : Value), k ≤ n ∧ SI r n G w0 k ds wr ∧ a' = { tmps := #[.pointer (some ⟨t, 0, none⟩), .slice (some ⟨ub, uo, none⟩) n cap, .int .i64 bits, .pointer (some ⟨s, 0, none⟩), .pointer (some ⟨s1, 0, none⟩), undef, .slice none 0 0, .pointer (some ⟨s2, 0, none⟩), .slice (some ⟨r, 0, none⟩) n n, u9, u10, undef, undef, .slice (some ⟨ub, uo, none⟩) n cap, .int .i64 n, .int .i64 n, .slice (some ⟨r, 0, none⟩) n n, .slice (some ⟨r, 0, none⟩) n n, .int .i64 n, .int .i64 (k : Int), u20, u21, u22, u23, undef, undef, undef, undef, undef, undef, undef, undef, undef, undef, undef, undef, undef, undef, undef, undef, undef, undef, undef, undef, undef, undef, undef, undef, undef, undef, undef, u51, u52, u53, u54, u55, u56, u57, undef], defers := ds }) (fun a' _ => n - (intOf (a'.tmps.getD 19 undef)).toNat) ?_ ?_
  · exact ⟨0, [], _, _, _, _, _, _, _, _, _, _, _, _, _, Nat.zero_le _, H0.out, rfl⟩
  · clear H0
    rintro a' wr ⟨k, ds, u9, u10, u20, u21, u22, u23, u51, u52, u53, u54, u55, u56, u57, hk, HI, rfl⟩
    replace HI : Hid _ := HI
    by_cases hlt : k < n
    · have hck : RowAt r n (fun x => if x < k then G x else 0) wr := HI.out.row
      have hrl := HI.out.lt
      obtain ⟨q, hq⟩ : ∃ q, q = wr.heap.size := ⟨_, rfl⟩
      have hc7 : wr.cell? ⟨s2, 0, none⟩ = some (.int .i64 n) := M3.out _ HI.out.bel
      have hs2q : s2 < wr.heap.size := by have := HS.out; omega
      clear hck hrl
      go_wp2_with (go_at_call 77; refine (halves_any n _).mono ?_; rintro e w1 ⟨rfl, rfl⟩)
      have M3' := made3 wr (.int .i64 k) (.int .i64 0) (.int .i64 n) 3 3 3
      dsimp only at M3'
      generalize ((wr.alloc (.cells #[.int .i64 k] 3)).alloc (.cells #[.int .i64 0] 3)).alloc (.cells #[.int .i64 n] 3) = w1 at M3' ⊢
      rw [← hq] at M3' ⊢
      obtain ⟨p1, p2, p3, p4, p5, p6⟩ := M3'
      obtain ⟨q1, hq1⟩ : ∃ q1, q1 = q + 1 := ⟨_, rfl⟩
      obtain ⟨q2, hq2⟩ : ∃ q2, q2 = q1 + 1 := ⟨_, rfl⟩
      rw [← hq1] at p2 p3 p4 ⊢
      rw [← hq2] at p4 ⊢
      have HQ : Hid (q = wr.heap.size ∧ q1 = q + 1 ∧ q2 = q1 + 1 ∧ w1.heap.size = q + 3 ∧ r < q) := ⟨hq, hq1, hq2, p5, by rw [hq]; exact HI.out.lt⟩
      have P1 : Hid (w1.cell? ⟨q, 0, none⟩ = some (.int .i64 k)) := p1
      have P6 : Hid (Below q wr w1) := p6
      clear hq hq1 hq2 hc7 hs2q p1 p5 p6
      refine (wpIn_wide (n := 5)).1 ?_
      refine' wpIn_rangeFunc_ownF (F := Fence.wide) (n := 5) (w := w1) rfl (by omega) (gf := 86) (lb := #[.pointer (some ⟨q2, 0, none⟩)]) rfl trivial (enters_of Tryd.func86 (by kernel_rfl) rfl)
        (halves_stops HE.out h32 4 (by omega) q2 w1 (by have := HQ.out; omega) p4) kpN_t (kpN_b (by have := HQ.out; omega)) (Below.refl _ _) (fun _ => rfl)
        (fun pre W => (W.cell? ⟨q1, 0, none⟩ = some (.int .i64 (psum (pair n h U k) pre)) ∧ W.frozen? ⟨q1, 0, none⟩ = false) ∧ ButX q1 w1 W)
        (fun _ _ _ => False)
        (fun s A B row hs hg hr => ⟨⟨cell_kept hs.1.1 hg (fun r e => (hr r e).2), (frozen_kept hs.1.1 hg (fun r e => (hr r e).2)).trans hs.1.2⟩, hs.2.grown (by have := HQ.out; omega) hg (fun k e => (hr k e).1)⟩)
        (fun _ _ _ _ _ hs _ _ => hs)
        ⟨⟨p2, p3⟩, ButX.refl _ _⟩
        _ ?assign ?body ?done ?stop
      case assign =>
        intro l x W K hK
        gi_wp2
        exact hK
      case stop =>
        rintro D c pre W _ _ h _
        exact h.elim
      case body =>
        rintro l pre x W ⟨⟨hc, hf⟩, hb⟩ hlen
        have hx := x.isLt
        obtain ⟨j1, hj1⟩ : ∃ j1, x.val = j1 := ⟨_, rfl⟩
        obtain ⟨j2, hj2⟩ : ∃ j2, h + x.val = j2 := ⟨_, rfl⟩
        have hj2' : (h : Int) + (j1 : Int) = (j2 : Int) := by omega
        rw [hj1, hj2']
        have hj1n : j1 < n := by have := HE.out; omega
        have hj2n : j2 < n := by have := HE.out; omega
        have hj64 : j1 < 64 ∧ j2 < 64 := by omega
        have hlen' : pre.length ≤ 32 := by omega
        have hbig : q1 < W.heap.size := by have := HQ.out; have := hb.bel.size; omega
        -- what every world behind W shows
        have HB : Hid (∀ W', Below W.heap.size W W' → Below r w0 W') := fun W' hw =>
          HI.out.bel.trans ((P6.out.mono (by have := HQ.out; omega)).trans ((hb.bel.mono (by have := HQ.out; omega)).trans (hw.mono (by have := HQ.out; omega))))
        have d1 : ∀ W', Below W.heap.size W W' → W'.cell? ⟨s, 0, none⟩ = some (.pointer (some ⟨t, 0, none⟩)) := fun W' hw => M1.out _ (HB.out _ hw)
        have d2 : ∀ W', Below W.heap.size W W' → W'.cell? ⟨s1, 0, none⟩ = some (.slice (some ⟨ub, uo, none⟩) n cap) := fun W' hw => M2.out _ (HB.out _ hw)
        have d3 : ∀ W', Below W.heap.size W W' → W'.cell? ⟨s2, 0, none⟩ = some (.int .i64 n) := fun W' hw => M3.out _ (HB.out _ hw)
        have d4 : ∀ W', Below W.heap.size W W' → W'.cell? ⟨q, 0, none⟩ = some (.int .i64 k) := fun W' hw =>
          (hw.cell (p := ⟨q, 0, none⟩) (show q < W.heap.size by have := HQ.out; omega)).trans ((hb.bel.cell (p := ⟨q, 0, none⟩) (show q < q1 by have := HQ.out; omega)).trans P1.out)
        have d5 : ∀ W', Below W.heap.size W W' → W'.cell? ⟨q1, 0, none⟩ = some (.int .i64 (psum (pair n h U k) pre)) := fun W' hw => (hw.cell (p := ⟨q1, 0, none⟩) hbig).trans hc
        have d6 : ∀ W', Below W.heap.size W W' → W'.cell? ⟨ub, uo + j1, none⟩ = some (.int .i64 (U j1)) := fun W' hw => HC.out _ (MB.out _ (HB.out _ hw)) _ hj1n
        have d7 : ∀ W', Below W.heap.size W W' → W'.cell? ⟨ub, uo + j2, none⟩ = some (.int .i64 (U j2)) := fun W' hw => HC.out _ (MB.out _ (HB.out _ hw)) _ hj2n
        have K1 : Hid (∀ W', Below W.heap.size W W' → Calls Tryd.prog 79 #[.int .i64 n, .int .i64 j1, .int .i64 k] W' fun e w' => e = .returned (.int .i64 (xang n j1 k)) ∧ Below W.heap.size W w') := fun W' hw =>
          (angle_any HN.out hj64.1 (by omega) W').mono fun e w' ⟨he, hw'⟩ => ⟨he, by rw [hw']; exact hw⟩
        have K2 : Hid (∀ W', Below W.heap.size W W' → Calls Tryd.prog 79 #[.int .i64 n, .int .i64 j2, .int .i64 k] W' fun e w' => e = .returned (.int .i64 (xang n j2 k)) ∧ Below W.heap.size W w') := fun W' hw =>
          (angle_any HN.out hj64.2 (by omega) W').mono fun e w' ⟨he, hw'⟩ => ⟨he, by rw [hw']; exact hw⟩
        have a1 := xang_bd HN.out hj64.1 (show k < 64 by omega)
        have a2 := xang_bd HN.out hj64.2 (show k < 64 by omega)
        have K3 : Hid (∀ W', Below W.heap.size W W' → Calls Tryd.prog 78 #[.pointer (some ⟨t, 0, none⟩), .int .i64 (xang n j1 k)] W' fun e w' => e = .returned (.int .i64 (cosI (xang n j1 k))) ∧ Below W.heap.size W w') := fun W' hw => by
          have h := cos_any t (xang n j1 k) W' (HT.out _ (MB.out _ (HB.out _ hw)))
          rw [cosF_in (by omega) (by omega)] at h
          exact h.mono fun e w' ⟨he, hw'⟩ => ⟨he, below_then hw hw'⟩
        have K4 : Hid (∀ W', Below W.heap.size W W' → Calls Tryd.prog 78 #[.pointer (some ⟨t, 0, none⟩), .int .i64 (xang n j2 k)] W' fun e w' => e = .returned (.int .i64 (cosI (xang n j2 k))) ∧ Below W.heap.size W w') := fun W' hw => by
          have h := cos_any t (xang n j2 k) W' (HT.out _ (MB.out _ (HB.out _ hw)))
          rw [cosF_in (by omega) (by omega)] at h
          exact h.mono fun e w' ⟨he, hw'⟩ => ⟨he, below_then hw hw'⟩
        have hpair : pair n h U k x.val = U j1 * cosI (xang n j1 k) + U j2 * cosI (xang n j2 k) := by rw [pair, hj2, hj1]
        have hg : ∀ i, i < h → -1125899906842624 ≤ pair n h U k i ∧ pair n h U k i ≤ 1125899906842624 := fun i hi => by
          have b1 := mul_bd (HU.out i (by have := HE.out; omega)).1 (HU.out i (by have := HE.out; omega)).2 (cosI_bd (xang n i k)).1 (cosI_bd (xang n i k)).2
          have b2 := mul_bd (HU.out (h + i) (by have := HE.out; omega)).1 (HU.out (h + i) (by have := HE.out; omega)).2 (cosI_bd (xang n (h + i) k)).1 (cosI_bd (xang n (h + i) k)).2
          unfold pair; omega
        have hps := psum_bd hg pre
        have hpl : (pre.length : Int) * 1125899906842624 ≤ 32 * 1125899906842624 := Int.mul_le_mul_of_nonneg_right (by omega) (by omega)
        have HSN : Hid (psum (pair n h U k) (pre ++ [x]) = psum (pair n h U k) pre + (U j1 * cosI (xang n j1 k) + U j2 * cosI (xang n j2 k))) := by show _ = _; rw [psum_snoc, hpair]
        have b1 := mul_bd (HU.out j1 hj1n).1 (HU.out j1 hj1n).2 (cosI_bd (xang n j1 k)).1 (cosI_bd (xang n j1 k)).2
        have b2 := mul_bd (HU.out j2 hj2n).1 (HU.out j2 hj2n).2 (cosI_bd (xang n j2 k)).1 (cosI_bd (xang n j2 k)).2
        clear hpair hg
        generalize psum (pair n h U k) pre = S at *
        generalize xang n j1 k = g1 at *
        generalize xang n j2 k = g2 at *
        generalize cosI g1 = c1 at *
        generalize cosI g2 = c2 at *
        generalize U j1 = y1 at *
        generalize U j2 = y2 at *
        have w1' : wrap64 (y1 * c1) = y1 * c1 := by unfold wrap64; omega
        have w2' : wrap64 (y2 * c2) = y2 * c2 := by unfold wrap64; omega
        have w3' : wrap64 (y1 * c1 + y2 * c2) = y1 * c1 + y2 * c2 := by unfold wrap64; omega
        have w4' : wrap64 (S + (y1 * c1 + y2 * c2)) = S + (y1 * c1 + y2 * c2) := by unfold wrap64; omega
        have HF : Hid (W.frozen? ⟨q1, 0, none⟩ = false) := hf
        have HBX : Hid (ButX q1 w1 W) := hb
        have HHC : Hid (W.cell? ⟨q1, 0, none⟩ = some (.int .i64 S)) := hc
        have HBig : Hid (q1 < W.heap.size) := hbig
        clear hb hc hf hps hpl b1 b2 a1 a2 hbig hj2 hj2' hj1 hlen hlen' hx
        gi_wp2
        refine region_last_round (C := Below W.heap.size W) (m := 25) (by kernel_rfl) (by kernel_rfl) (by kernel_rfl) rfl rfl rfl rfl (Below.refl _ _).drew
          (Qa := fun a' => a'.eval (.tmp 10) = .pointer (some ⟨q1, 0, none⟩) ∧ a'.eval (.tmp 50) = .int .i64 (S + (y1 * c1 + y2 * c2))) ?_ ?_
        · dsimp only [idleLast, idle]
          repeat (go_big_quiet_step (first
            | (intro hq; rfl)
            | (intro hq; rw [d1 _ hq]; exact ⟨rfl, rfl⟩)
            | (intro hq; rw [d2 _ hq]; exact ⟨rfl, rfl⟩)
            | (intro hq; rw [d3 _ hq]; exact ⟨rfl, rfl⟩)
            | (intro hq; rw [d4 _ hq]; exact ⟨rfl, rfl⟩)
            | (intro hq; rw [d5 _ hq]; exact ⟨rfl, rfl⟩)
            | (intro hq; rw [d6 _ hq]; exact ⟨rfl, rfl⟩)
            | (intro hq; rw [d7 _ hq]; exact ⟨rfl, rfl⟩)
            | (intro hq; go_at_call 79; (with_reducible exact K1.out _ hq))
            | (intro hq; go_at_call 79; (with_reducible exact K2.out _ hq))
            | (intro hq; go_at_call 78; (with_reducible exact K3.out _ hq))
            | (intro hq; go_at_call 78; (with_reducible exact K4.out _ hq))))
          refine wpQuiet_nil ?_
          refine ⟨rfl, ?_⟩
          refine congrArg (Value.int IntKind.i64) ?_
          exact w4'
        · rintro a' W' hq ⟨e1, e2⟩
          refine exec_store (fun _ => trivial) Tryd.sizeOf3 rfl rfl e1 e2 (d5 _ hq) ((hq.frozen (p := ⟨q1, 0, none⟩) HBig.out).trans HF.out) ?_
          refine ⟨(keeps_of_below hq).trans (KeepsOthers.setCell _ _ _), ?_, ⟨?_, ?_⟩, ?_⟩
          · have := HQ.out
            exact (World.cell?_of_block (a := ⟨q2, 0, none⟩) (Below.heap_setCell _ _ _ q2 (show q2 ≠ q1 by omega))).trans (hq.cell (p := ⟨q2, 0, none⟩) (show q2 < W.heap.size by have := HBX.out.bel.size; omega))
          · rw [HSN.out]; exact World.cell?_setCell_same' _ _ _ (by rw [d5 _ hq]; rfl)
          · rw [World.frozen?_setCell]; exact (hq.frozen (p := ⟨q1, 0, none⟩) HBig.out).trans HF.out
          · exact (HBX.out.below (Nat.le_of_lt HBig.out) hq).setCell _
      case done =>
        rintro D xs W hD rfl ⟨⟨hc, hf⟩, hb⟩ hK
        rw [pair_all HE.out] at hc
        have hbig : q1 < W.heap.size := by have := HQ.out; have := hb.bel.size; omega
        have HB : Hid (∀ W', Below W.heap.size W W' → Below r w0 W') := fun W' hw =>
          HI.out.bel.trans ((P6.out.mono (by have := HQ.out; omega)).trans ((hb.bel.mono (by have := HQ.out; omega)).trans (hw.mono (by have := HQ.out; omega))))
        have d4 : ∀ W', Below W.heap.size W W' → W'.cell? ⟨q, 0, none⟩ = some (.int .i64 k) := fun W' hw =>
          (hw.cell (p := ⟨q, 0, none⟩) (show q < W.heap.size by have := HQ.out; omega)).trans ((hb.bel.cell (p := ⟨q, 0, none⟩) (show q < q1 by have := HQ.out; omega)).trans P1.out)
        have d5 : ∀ W', Below W.heap.size W W' → W'.cell? ⟨q1, 0, none⟩ = some (.int .i64 (xsum n U k)) := fun W' hw => (hw.cell (p := ⟨q1, 0, none⟩) hbig).trans hc
        have K1 : Hid (∀ W', Below W.heap.size W W' → Calls Tryd.prog 47 #[.int .i64 (xsum n U k), .int .i64 bits] W' fun e w' => e = .returned (.int .i64 (G k)) ∧ Below W.heap.size W w') := fun W' hw => by
          have h := shr_any (xsum n U k) bits W'
          rw [HG.out] at h
          exact h.mono fun e w' ⟨he, hw'⟩ => ⟨he, below_then hw hw'⟩
        -- the list, and the marks
        have HR : Hid (RowAt r n (fun x => if x < k then G x else 0) W) := by
          have h1 := HI.out.row
          have := HQ.out
          exact (hb.bel.block r (by omega)).trans ((P6.out.block r (by omega)).trans h1)
        have HK : Hid (W.heap[D]? = some (.deferred (some []))) := hK
        have HD : Hid (w1.heap.size ≤ D) := hD
        have HM : Hid (MarksX r W ds q) := by
          have h1 := HI.out.marks
          rw [← HQ.out.1] at h1
          refine h1.keep (fun D' g1 g2 g3 => ?_)
          have := HQ.out
          exact (hb.bel.block D' (by omega)).trans ((P6.out.block D' g2).trans g3)
        have hkn : (k : Int) < (n : Int) := by omega
        generalize xsum n U k = S at *
        obtain ⟨v, hv⟩ : ∃ v, G k = v := ⟨_, rfl⟩
        have HV : Hid (G k = v) := hv
        rw [hv] at K1
        clear hv
        clear hc hf hb hK hD
        go_wp2
        refine' region_last_plain (C := Below W.heap.size W) (m := 6) (by kernel_rfl) (by kernel_rfl) (by kernel_rfl) rfl rfl rfl rfl (Below.refl _ _).drew
          (Qa := fun a' => a' = _) ?_ ?_
        rotate_left
        · dsimp only [idleLast, idle]
          repeat (go_big_quiet_step (first
            | (intro hq; rfl)
            | (intro hq; rw [d4 _ hq]; exact ⟨rfl, rfl⟩)
            | (intro hq; rw [d5 _ hq]; exact ⟨rfl, rfl⟩)
            | (intro hq; go_at_call 47; (with_reducible exact K1.out _ hq))))
          refine wpQuiet_nil ?_
          exact rfl
        · rintro a' W' hq rfl
          have hRW : RowAt r n (fun x => if x < k then G x else 0) W' := HR.out.below hq
          refine exec_store (fun _ => trivial) Tryd.sizeOf3 rfl rfl rfl rfl (hRW.get hlt) (IsAt.frozen hRW k) ?_
          have HS' : SI r n G w0 (k + 1) ({ target := .collected D, args := #[] } :: ds) (W'.setCell ⟨r, k, none⟩ (.int .i64 v)) := by
            have hDW : D < W.heap.size := (Array.getElem?_eq_some_iff.1 HK.out).1
            have hq' := HQ.out
            have hd' := HD.out
            have hsz : (W'.setCell ⟨r, k, none⟩ (.int .i64 v)).heap.size = W'.heap.size := by
              have := (KeepsWalks.setCell W' ⟨r, k, none⟩ (.int .i64 v)).size
              show (W'.heap.modify r _).size = _
              simp
            refine ⟨(HB.out _ hq).setCell (p := ⟨r, k, none⟩) (Nat.le_refl _) _, (hRW.set hlt v).congr (fun i hi => ?_), D, by omega, ?_, rfl, ?_, ?_⟩
            · unfold upd
              by_cases e : i = k
              · subst e; rw [if_pos rfl, if_pos (by omega), HV.out]
              · rw [if_neg e]
                show (if i < k then G i else 0) = _
                by_cases e2 : i < k
                · rw [if_pos e2, if_pos (by omega)]
                · rw [if_neg e2, if_neg (by omega)]
            · rw [hsz]; have := hq.size; omega
            · exact (Below.heap_setCell _ _ _ D (show D ≠ r by omega)).trans ((hq.block D hDW).trans HK.out)
            · refine (HM.out.mono (show q ≤ D by omega)).keep (fun D' g1 g2 g3 => ?_)
              exact (Below.heap_setCell _ _ _ D' (show D' ≠ r by omega)).trans ((hq.block D' (by omega)).trans g3)
          have HS2 : Hid _ := HS'
          generalize W'.setCell ⟨r, k, none⟩ (.int .i64 v) = W4 at HS2 ⊢
          clear HS' hRW K1 d4 d5 HR HK HM HV
          go_wp2
          exact ⟨⟨k + 1, _, _, _, _, _, _, _, _, _, _, _, _, _, _, by omega, HS2.out, rfl⟩, by simp [intOf]; omega⟩
    · obtain rfl : k = n := by omega
      go_wp2
      refine leaves_marks (r := r) (w0 := wr) (fun w' hb => ?_) ds _ wr HI.out.marks (Below.refl _ _)
      refine ⟨_, results_tmp rfl _ _ _, r, rfl, by have := HS.out; omega, ?_, MB.out _ (HI.out.bel.trans (hb.mono (by omega)))⟩
      have h1 : RowAt r k (fun x => if x < k then G x else 0) w' := (hb.block r (by omega)).trans HI.out.row
      exact h1.congr (fun i hi => if_pos hi)
end
end Go.Proofs.YtfhcfdepjhdhfaaDoor
/-
  The contracts of dct.Four and Back: of a block, of none, and of no table.
-/
namespace Go.Proofs.YtfhcfdepjhdhfaaDoor
open Go.ChangeShapes Go.WideShapes Go.ChangeAt Go.RowKit
set_option linter.unusedVariables false

theorem IsN.half {n : Nat} (h : IsN n) : ∃ h, n = 2 * h := by
  rcases h with rfl | rfl
  · exact ⟨4, rfl⟩
  · exact ⟨32, rfl⟩
theorem xsum_in {n : Nat} (hN : IsN n) {U : Nat → Int} (hU : ∀ i, i < n → -33554432 ≤ U i ∧ U i ≤ 33554432) (k : Nat) : -2305843009213693952 ≤ xsum n U k ∧ xsum n U k ≤ 2305843009213693952 := by
  have h := xsum_bd hU k
  have e : (n : Int) * (33554432 * 16777216) ≤ 64 * (33554432 * 16777216) := Int.mul_le_mul_of_nonneg_right (by have := hN.le; omega) (by omega)
  omega
theorem shr_four {n : Nat} (hN : IsN n) {U : Nat → Int} (hU : ∀ i, i < n → -33554432 ≤ U i ∧ U i ≤ 33554432) (k : Nat) : shrF (xsum n U k) 24 = fourF n U k := by
  have h := xsum_in hN hU k
  rw [shrF24 h.1 h.2]; rfl
theorem shr_back {n : Nat} (hN : IsN n) {X : Nat → Int} (hX : ∀ i, i < n → -33554432 ≤ X i ∧ X i ≤ 33554432) (i : Nat) : shrF (xsum n X i) (if n = 64 then 29 else 26) = backF n X i := by
  have h := xsum_in hN hX i
  rw [backF]
  rcases hN with rfl | rfl
  · rw [if_neg (by decide), shrF, if_pos ⟨h.1, h.2, by omega, by omega⟩, shrB, if_neg (by decide)]; rfl
  · rw [if_pos rfl, shrF, if_pos ⟨h.1, h.2, by omega, by omega⟩, shrB, if_pos rfl]; rfl
theorem SPost.congr {n : Nat} {G G' : Nat → Int} {w : World} {e : Ending} {w' : World} (h : SPost n G w e w') (hg : ∀ i, i < n → G i = G' i) : SPost n G' w e w' := by
  obtain ⟨r, he, h1, h2, h3⟩ := h
  exact ⟨r, he, h1, h2.congr hg, h3⟩

theorem back_yes {n : Nat} (hN : IsN n) (t : Nat) (a : Option Addr) (cap : Nat) (U : Nat → Int) (hU : ∀ i, i < n → -33554432 ≤ U i ∧ U i ≤ 33554432) (w : World) (ht : Tab t w) (hu : IsInts w a n cap U) :
    Calls Tryd.prog 45 #[.pointer (some ⟨t, 0, none⟩), .slice a n cap] w (SPost n (backF n U) w) := by
  obtain ⟨h, hn⟩ := hN.half
  have HF : Hid (Calls Tryd.prog 55 #[.slice a n cap, .int .i64 33554432] w fun e w' => e = .returned (.bool true) ∧ w' = w) := by
    have := xfits_any 33554432 (by omega) (by omega) a n cap U (Nat.le_trans hN.le (by decide)) w hu
    rwa [rightF_of hN hU] at this
  have HS : Hid (Calls Tryd.prog 62 #[.pointer (some ⟨t, 0, none⟩), .slice a n cap, .int .i64 (if n = 64 then 29 else 26)] w (SPost n (backF n U) w)) :=
    (sums_any hN hn t a cap U hU _ w ht hu).mono fun e w' hp => hp.congr (fun i _ => shr_back hN hU i)
  clear hU ht hu hn
  rcases hN with rfl | rfl
  · replace HS : Hid (Calls Tryd.prog 62 #[.pointer (some ⟨t, 0, none⟩), .slice a 8 cap, .int .i64 26] w (SPost 8 (backF 8 U) w)) := HS
    go_enter Tryd.func45, Tryd.ntmps45
    go_wp2_with (first
      | (go_at_call 55; refine HF.out.mono ?_; rintro e w1 ⟨rfl, rfl⟩)
      | (go_at_call 62; refine Calls.mono HS.out ?_; rintro e w2 ⟨r, rfl, h1, h2, h3⟩; replace h2 : Hid _ := h2; replace h3 : Hid _ := h3))
    go_ret
    exact ⟨r, rfl, h1, h2.out, h3.out⟩
  · replace HS : Hid (Calls Tryd.prog 62 #[.pointer (some ⟨t, 0, none⟩), .slice a 64 cap, .int .i64 29] w (SPost 64 (backF 64 U) w)) := HS
    go_enter Tryd.func45, Tryd.ntmps45
    go_wp2_with (first
      | (go_at_call 55; refine HF.out.mono ?_; rintro e w1 ⟨rfl, rfl⟩)
      | (go_at_call 62; refine Calls.mono HS.out ?_; rintro e w2 ⟨r, rfl, h1, h2, h3⟩; replace h2 : Hid _ := h2; replace h3 : Hid _ := h3))
    go_ret
    exact ⟨r, rfl, h1, h2.out, h3.out⟩
theorem back_no (t : Nat) (a : Option Addr) (len cap : Nat) (U : Nat → Int) (hl : len ≤ maxLen) (h : rightF U len 33554432 = false) (w : World) (hu : IsInts w a len cap U) :
    Calls Tryd.prog 45 #[.pointer (some ⟨t, 0, none⟩), .slice a len cap] w fun e w' => e = .returned (.slice none 0 0) ∧ w' = w := by
  have HF : Hid (Calls Tryd.prog 55 #[.slice a len cap, .int .i64 33554432] w fun e w' => e = .returned (.bool false) ∧ w' = w) := by
    have := xfits_any 33554432 (by omega) (by omega) a len cap U hl w hu
    rwa [h] at this
  clear h hu hl
  go_enter Tryd.func45, Tryd.ntmps45
  go_wp2_with (go_at_call 55; refine HF.out.mono ?_; rintro e w1 ⟨rfl, rfl⟩)
  go_ret
  exact ⟨rfl, rfl⟩
theorem back_nil (a : Option Addr) (len cap : Nat) (w : World) :
    Calls Tryd.prog 45 #[.pointer none, .slice a len cap] w fun e w' => e = .returned (.slice none 0 0) ∧ w' = w := by
  go_enter Tryd.func45, Tryd.ntmps45
  go_wp2
  go_ret
  exact ⟨rfl, rfl⟩
end Go.Proofs.YtfhcfdepjhdhfaaDoor
