/-
  The program: the iterator over a package's array of widths, which hands out a band and where it begins.
-/
import Derived.Test.YtmeldmmeaiiflaaDoorLYA
import Derived.Test.YtmeldmmeaiiflaaDoorAN
import Derived.Test.YtmeldmmeaiiflaaDoorIN
import Derived.RangeFuncFrom
import Derived.RangeFuncBound
import Derived.RangeFuncLeaves
import Derived.Shelf.Abstract
import Derived.LoopNIn
import Derived.LoopIn
namespace Go.Proofs.YtmeldmmeaiiflaaDoor
open Go.ChangeShapes Go.WideShapes Go.ChangeAt Go.RowKit
set_option linter.unusedVariables false

def wI (i : Nat) : Int := ((widN i : Nat) : Int)
/-- The package's widths stand where they were laid. -/
def WTab (w : World) : Prop := ∃ t fr, w.heap[0]? = some (.cells (rowA 13 wI) t fr)
theorem WTab.lt {w : World} (h : WTab w) : 0 < w.heap.size := by
  obtain ⟨t, fr, h⟩ := h
  exact (Array.getElem?_eq_some_iff.1 h).1
theorem WTab.frame {B : Nat} {w w' : World} (h : WTab w) (hb : Below B w w') (hB : 0 < B) : WTab w' := by
  obtain ⟨t, fr, h⟩ := h
  exact ⟨t, fr, (hb.block _ hB).trans h⟩
theorem WTab.below {w w' : World} (h : WTab w) (hb : Below w.heap.size w w') : WTab w' := h.frame hb h.lt
theorem info13 : (Tryd.prog.info? 32).map (·.size) = some 13 := by kernel_rfl
theorem bands_any (w : World) : Calls Tryd.prog 18 #[] w fun e w' => e = .returned (.func (.func 20) #[] #[]) ∧ w' = w := by
  go_enter Tryd.func18, Tryd.ntmps18
  go_wp2
  go_ret
  exact ⟨rfl, rfl⟩
/-- The first k of h. -/
def firsts (h k : Nat) : List (Fin h) := (List.finRange h).take k
theorem firsts_len {h k : Nat} (hk : k ≤ h) : (firsts h k).length = k := by simp [firsts, hk]
theorem firsts_succ {h k : Nat} (hk : k < h) : firsts h (k + 1) = firsts h k ++ [⟨k, hk⟩] := by
  rw [firsts, List.take_succ_eq_append_getElem (by simpa using hk)]
  simp [firsts]
abbrev encS (x : Fin 13) : Array Value := #[.int .i64 (x.val : Int), .int .i64 ((begN x.val : Nat) : Int)]
def KpS (_ _ : World) : Prop := True
section
attribute [local go_sem] Oper.semAt_some
set_option maxRecDepth 100000 in
theorem bands1 (m : Nat) (hm : 1 ≤ m) (l : Nat) (J Jx : List (Fin 13) → World → Prop)
    (hY : ∀ pre x W, J pre W → pre.length < 13 → YieldAt Fence.wide (m - 1) Tryd.prog l (encS x) W fun e W' =>
      (e = .returned (.bool true) ∧ J (pre ++ [x]) W' ∧ KpS W W') ∨ (e = .returned (.bool false) ∧ Jx (pre ++ [x]) W'))
    (W : World) (hW : WTab W) (h0 : J [] W) :
    CallsIn Fence.wide m Tryd.prog 20 #[.func (.yield l) #[] #[]] W fun e W' => (∃ v, e = .returned v) ∧ ((∃ ys, ys = firsts 13 13 ∧ J ys W') ∨ (∃ pre, (∃ k, pre = firsts 13 k) ∧ Jx pre W')) := by
  obtain ⟨t, fr, hw⟩ := hW
  have HW := hid hw
  have hix := fun k hk w => arrN_index (T := 32) Tryd.underlying32 wI (k := k) hk w
  have HY := hid hY
  have HX := hid hix
  clear hw hY hix
  refine callsIn_of_wp Tryd.func20 rfl trivial ?_ rfl
  simp only [Tryd.ntmps20, List.size_toArray, List.length_cons, List.length_nil, Nat.reduceAdd, Nat.reduceSub, Array.replicate_succ, Array.replicate_zero, List.push_toArray, List.append_toArray, List.nil_append, List.cons_append]
  gi_wp2_with (refine listIn_value (fun _ => trivial) rfl rfl (exec_loadN (n := 13) (X := wI) Tryd.underlying32 info13 rfl rfl HW.out) ?_)
  gi_loopw [2, 6] (fun s i wr => ∃ k : Nat, k ≤ 13 ∧ i = .int .i64 k ∧ s = .int .i64 ((begN k : Nat) : Int) ∧ J (firsts 13 k) wr) (fun _ i _ => 13 - (intOf i).toNat)
  case atStart => exact ⟨0, Nat.zero_le _, rfl, rfl, h0⟩
  case round =>
    obtain ⟨k, hk, rfl, rfl, hJs⟩ := hrel
    by_cases hlt : k < 13
    · obtain ⟨fn, tmps, assign, body, hy, hR⟩ := HY.out _ ⟨k, hlt⟩ wr hJs (by rw [firsts_len hk]; exact hlt)
      dsimp only [encS] at hy
      have hnx := begN_next hlt
      have h64 := begN_in hlt
      have hix := HX.out k hlt
      rw [show wI k = ((widN k : Nat) : Int) from rfl] at hix
      obtain ⟨v, hv⟩ : ∃ v, v = begN (k + 1) := ⟨_, rfl⟩
      have HV := hid hv
      rw [← hv] at hnx
      generalize widN k = x at *
      generalize begN k = y at *
      have hs : (y : Int) + (x : Int) = (v : Int) := by omega
      clear hv hnx HX HW HY
      gi_wp2
      refine hR.mono ?_
      rintro e W3 (⟨rfl, hJ3, _⟩ | ⟨rfl, hJx3⟩)
      · gi_wp2
        go_roundw
        case rel => exact ⟨k + 1, by omega, by go_num, by rw [← HV.out], by rw [firsts_succ hlt]; exact hJ3⟩
        case measure => simp [intOf]; omega
      · gi_wp2
        refine bodyPost_ret (results_none rfl _ _ _) rfl ?_
        exact ⟨⟨_, rfl⟩, .inr ⟨_, ⟨k + 1, (firsts_succ hlt).symm⟩, hJx3⟩⟩
    · obtain rfl : k = 13 := by omega
      gi_wp2
      go_end0
      exact ⟨⟨_, rfl⟩, .inl ⟨_, rfl, hJs⟩⟩
end
theorem bands_stops (m : Nat) (hm : 1 ≤ m) (w : World) (hw : WTab w) :
    SeqStopsK Fence.wide m Tryd.prog 20 #[] encS KpS (fun ys => ys = firsts 13 13) (fun pre => ∃ k, pre = firsts 13 k) 13 w := fun l J Jx W hW _ _ hY h0 =>
  bands1 m hm l J Jx hY W (hw.below hW) h0
end Go.Proofs.YtmeldmmeaiiflaaDoor
