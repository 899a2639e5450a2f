/-
  The contracts of dct.halves: an iterator over both halves' places.
-/
import Derived.Test.YtgkjjkdjalbfaaaDoorXA
import Derived.Test.YtgkjjkdjalbfaaaDoorRL
import Derived.Test.YtgkjjkdjalbfaaaDoorCC
import Derived.RangeFuncFrom
import Derived.RangeFuncBound
import Derived.RangeFuncLeaves
import Derived.Shelf.Abstract
import Derived.LoopNIn
import Derived.LoopIn
namespace Go.Proofs.YtgkjjkdjalbfaaaDoor
open Go.ChangeShapes Go.WideShapes Go.ChangeAt Go.RowKit
set_option linter.unusedVariables false

theorem halves_any (n : Nat) (w : World) :
    Calls Tryd.prog 28 #[.int .i64 n] w fun e w' => e = .returned (.func (.func 45) #[] #[.pointer (some ⟨w.heap.size, 0, none⟩)]) ∧ w' = w.alloc (.cells #[.int .i64 n] 3) := by
  go_enter Tryd.func28, Tryd.ntmps28
  go_wp2
  go_ret
  exact ⟨rfl, rfl⟩

/-- The first k places of a half. -/
def firsts (h k : Nat) : List (Fin h) := (List.finRange h).take k
theorem firsts_len {h k : Nat} (hk : k ≤ h) : (firsts h k).length = k := by simp [firsts, hk]
theorem firsts_succ {h k : Nat} (hk : k < h) : firsts h (k + 1) = firsts h k ++ [⟨k, hk⟩] := by
  rw [firsts, List.take_succ_eq_append_getElem (by simpa using hk)]
  simp [firsts]
/-- What is handed to a round: a place of each half. -/
abbrev pairOf (h : Nat) (x : Fin h) : Array Value := #[.int .i64 (x.val : Int), .int .i64 ((h : Int) + (x.val : Int))]
/-- One cell is as it was. -/
def KpN (b : Nat) (W W' : World) : Prop := W'.cell? ⟨b, 0, none⟩ = W.cell? ⟨b, 0, none⟩
theorem kpN_t {b : Nat} {A B C : World} (h : KpN b A B) (k : KpN b B C) : KpN b A C := k.trans h
theorem kpN_b {b : Nat} {w : World} (hb : b < w.heap.size) (W : World) (l : Nat) (o o' : Obj) (hl : w.heap.size ≤ l) (h : W.heap[l]? = some o) (_ : o.isCells = false) (_ : o.isWalk = false) : KpN b W (W.putObj l o') :=
  World.cell?_of_block (a := ⟨b, 0, none⟩) (World.putObj_heap_other (show b ≠ l by omega))

section
attribute [local go_sem] Oper.semAt_some
set_option maxRecDepth 100000 in
theorem halves1 {n h : Nat} (hn : n = 2 * h) (h32 : h ≤ 32) (m : Nat) (hm : 1 ≤ m) (l Bn : Nat) (J Jx : List (Fin h) → World → Prop)
    (hY : ∀ pre x W, J pre W → pre.length < h → YieldAt Fence.wide (m - 1) Tryd.prog l (pairOf h x) W fun e W' =>
      (e = .returned (.bool true) ∧ J (pre ++ [x]) W' ∧ KpN Bn W W') ∨ (e = .returned (.bool false) ∧ Jx (pre ++ [x]) W'))
    (W : World) (hB : W.cell? ⟨Bn, 0, none⟩ = some (.int .i64 n)) (h0 : J [] W) :
    CallsIn Fence.wide m Tryd.prog 45 #[.func (.yield l) #[] #[], .pointer (some ⟨Bn, 0, none⟩)] W fun e W' => (∃ v, e = .returned v) ∧
      ((∃ ys, ys = firsts h h ∧ J ys W') ∨ (∃ pre, True ∧ Jx pre W')) := by
  have hd : (n : Int).tdiv 2 = (h : Int) := by rw [hn, Int.tdiv_eq_ediv_of_nonneg (by omega)]; omega
  have hd' : (n : Int) / 2 = (h : Int) := by omega
  have hnn : n ≤ 64 := by omega
  clear hn
  refine callsIn_of_wp Tryd.func45 rfl trivial ?_ rfl
  simp only [Tryd.ntmps45, List.size_toArray, List.length_cons, List.length_nil, Nat.reduceAdd, Nat.reduceSub, Array.replicate_succ, Array.replicate_zero, List.push_toArray, List.append_toArray, List.nil_append, List.cons_append]
  gi_wp2
  gi_loopw [6] (fun i wr => ∃ k : Nat, k ≤ h ∧ i = .int .i64 k ∧ J (firsts h k) wr ∧ KpN Bn W wr) (fun i _ => h - (intOf i).toNat)
  case atStart => exact ⟨0, Nat.zero_le _, rfl, h0, rfl⟩
  case round =>
    obtain ⟨k, hk, rfl, hJs, hnx⟩ := hrel
    have hcx : wr.cell? ⟨Bn, 0, none⟩ = some (.int .i64 n) := hnx.trans hB
    by_cases hlt : k < h
    · obtain ⟨fn, tmps, assign, body, hy, hR⟩ := hY _ ⟨k, hlt⟩ wr hJs (by rw [firsts_len hk]; exact hlt)
      dsimp only [pairOf] at hy
      gi_wp2
      refine hR.mono ?_
      rintro e W3 (⟨rfl, hJ3, hk3⟩ | ⟨rfl, hJx3⟩)
      · gi_wp2
        go_roundw
        case rel => exact ⟨k + 1, by omega, by go_num, by rw [firsts_succ hlt]; exact hJ3, kpN_t hnx hk3⟩
        case measure => simp [intOf]; omega
      · gi_wp2
        refine bodyPost_ret (results_none rfl _ _ _) rfl ?_
        exact ⟨⟨_, rfl⟩, .inr ⟨_, trivial, hJx3⟩⟩
    · obtain rfl : k = h := by omega
      gi_wp2
      go_end0
      exact ⟨⟨_, rfl⟩, .inl ⟨_, rfl, hJs⟩⟩
end
theorem halves_stops {n h : Nat} (hn : n = 2 * h) (h32 : h ≤ 32) (m : Nat) (hm : 1 ≤ m) (Bn : Nat) (w : World) (hB : Bn < w.heap.size) (hc : w.cell? ⟨Bn, 0, none⟩ = some (.int .i64 n)) :
    SeqStopsK Fence.wide m Tryd.prog 45 #[.pointer (some ⟨Bn, 0, none⟩)] (pairOf h) (KpN Bn) (fun ys => ys = firsts h h) (fun _ => True) h w := fun l J Jx W hW _ _ hY h0 =>
  halves1 hn h32 m hm l Bn J Jx hY W ((hW.cell (p := ⟨Bn, 0, none⟩) hB).trans hc) h0
end Go.Proofs.YtgkjjkdjalbfaaaDoor
