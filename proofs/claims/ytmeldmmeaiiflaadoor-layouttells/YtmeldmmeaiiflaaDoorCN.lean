/-
  The contract of slices.Clone of ints: a list of one's own with the same numbers.
-/
import Derived.Test.YtmeldmmeaiiflaaDoorOI
import Derived.Test.YtmeldmmeaiiflaaDoorIL
import Derived.Lib.SliceRun
namespace Go.Proofs.YtmeldmmeaiiflaaDoor
open Go.ChangeShapes Go.WideShapes Go.ChangeAt Go.RowKit
set_option linter.unusedVariables false

theorem clone_ints (n cap : Nat) (hn : 1 ≤ n) (hm : n ≤ 64) (a : Option Addr) (X : Nat → Int) (w : World) (h : IsInts w a n cap X) :
    Calls Tryd.prog 19 #[.slice a n cap] w (OPost n X w) := by
  obtain ⟨i0, hi, hz0, hz1, hz2⟩ := infoI
  have HI : Hid (Tryd.prog.info? 3 = some i0) := hi
  obtain ⟨lb, lo, rfl, hc⟩ := h.cells hn
  have HC := hid hc
  have heq : ∀ (w : World) (x : Addr) (p q : Nat), (binOp .eql 22 (.slice (some x) p q) (.slice none 0 0)).run Tryd.prog w = .ok (.bool false) w := fun w x p q => Lib.run_eql_slice_nil w _ 3 (some x) p q 0 0 Tryd.underlying22
  have B1 : Below w.heap.size w (w.alloc (.cells #[] 3)) := (Below.refl _ w).alloc (Nat.le_refl _) _
  have O1 := hid (World.ownsRow_made (base := w.heap.size) (e := 3) (size := 1) w #[] 0 (Nat.le_refl _) (Nat.zero_le _) rfl)
  have HAC := hid (hc _ B1)
  have HB1 := hid B1
  have HZ1 := hid B1.size
  clear h hi hc B1
  go_enter Tryd.func19, Tryd.ntmps19
  go_wp2_with (at_builtin; refine wpList_append_lies _ rfl _ _ _ rfl w.heap.size 3 i0 (.int .i64 0) 1 8 Tryd.underlying22 HI.out hz0 hz1 hz2 rfl (by omega) _ _ _ rfl O1.out ⟨lb, lo, none⟩ n _ (intL n X) rfl (by rw [intL_len, Nat.mul_one]) (intL_cells HAC.out) (intL_one _ _) hn (by unfold maxLen; omega) (by omega) HZ1.out _ rfl ?_)
  intro gg cap1 w4 hown hgr hor _
  have HR : OPost n X w (.returned (.slice (some ⟨gg, 0, none⟩) n cap1)) w4 := by
    obtain ⟨a1, c1, e1, l1⟩ := own_ints hown
    cases e1
    exact ⟨_, _, rfl, l1, Below.grown HB1.out hgr HZ1.out (fun j hj => (O1.out.lt j hj).1), own_new hown⟩
  have HR2 := hid HR
  clear HR hown hgr hor O1 HB1 HZ1 HAC HC
  go_wp2
  go_ret
  exact HR2.out
end Go.Proofs.YtmeldmmeaiiflaaDoor
