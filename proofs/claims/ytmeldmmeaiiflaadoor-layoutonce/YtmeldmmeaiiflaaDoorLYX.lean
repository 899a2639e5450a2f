/-
  The widths as they are laid; the law's own end.
-/
import Derived.Test.YtmeldmmeaiiflaaDoorLYW
import Derived.Test.YtmeldmmeaiiflaaDoorRows
import Derived.Lib.LaidU8
import Derived.MakeChecks
namespace Go.Proofs.YtmeldmmeaiiflaaDoor
open Go.ChangeShapes Go.WideShapes Go.ChangeAt Go.RowKit
set_option linter.unusedVariables false

theorem wtab_of_reads {w : World} (h : Lib.VarReads Tryd.prog w "splicer/layout.widths" Rows.laid_splicer_layout_widths) : WTab w := by
  obtain ⟨g, t, cs, fuel, p, hg, hty, hvar, hd⟩ := h
  obtain rfl := Option.some.inj ((show Tryd.prog.globalNamed "splicer/layout.widths" = some 0 by kernel_rfl).symm.trans hg)
  obtain rfl := Option.some.inj ((show (Tryd.prog.globals[0]?).map (·.type) = some 32 by kernel_rfl).symm.trans hty)
  have hcs := Lib.cells_of_tab (zs := [2, 2, 2, 2, 4, 4, 4, 4, 8, 8, 8, 8, 8]) (k := .i64) Tryd.underlying32 Tryd.underlying3 (by kernel_rfl) (by kernel_rfl) hd
  have e : cs = rowA 13 wI := by
    have h0 : (rowA 13 wI).toList = [2, 2, 2, 2, 4, 4, 4, 4, 8, 8, 8, 8, 8].map (Value.int .i64) := rfl
    exact Array.toList_inj.1 (hcs.trans h0.symm)
  subst e
  simp only [World.var?, hg, Option.bind_some] at hvar
  split at hvar
  · rename_i c t fr hh
    obtain rfl := Option.some.inj hvar
    exact ⟨t, fr, hh⟩
  · cases hvar
theorem wtab_of_laid {w : World} {l : List (String × DataW Unit)} (hp : (l.all fun x => x.2.handleName?.isNone) = true) (h : laidMetH Tryd.prog l w) (hm : ("splicer/layout.widths", Rows.laid_splicer_layout_widths) ∈ l) : WTab w := by
  rw [MakeChecks.laidMetH_plain _ _ _ hp] at h
  exact wtab_of_reads (Lib.laidMet.reads h hm)
/-- Calls behind one another: in every world at or behind w. -/
theorem width_to {w : World} (hw : WTab w) : Hid (∀ b W, Below w.heap.size w W → Calls Tryd.prog 6 #[.int .i64 b] W fun e w' => e = .returned (.int .i64 (widF b)) ∧ Below w.heap.size w w') := fun b W hb =>
  (width_any b W (hw.below hb)).mono fun e w' h => ⟨h.1, by rw [h.2]; exact hb⟩
theorem start_to {w : World} (hw : WTab w) : Hid (∀ b W, Below w.heap.size w W → Calls Tryd.prog 8 #[.int .i64 b] W fun e w' => e = .returned (.int .i64 (begF b)) ∧ Below w.heap.size w w') := fun b W hb =>
  (start_any b W (hw.below hb)).mono fun e w' h => ⟨h.1, below_then hb h.2⟩
theorem of_to {w : World} (hw : WTab w) : Hid (∀ b W, Below w.heap.size w W → Calls Tryd.prog 10 #[.int .i64 b] W fun e w' => e = .returned (.int .i64 (ofF b)) ∧ Below w.heap.size w w') := fun b W hb =>
  (of_any b W (hw.below hb)).mono fun e w' h => ⟨h.1, below_then hb h.2⟩
theorem lyawake_any (w : World) (hw : WTab w) : Calls Tryd.prog 5 #[] w fun e w' => e = .returned (.bool true) ∧ Below w.heap.size w w' := by
  have hmk : ∀ w, (Instr.makeSlice 22 (.int .i64 64) (.int .i64 64)).run Tryd.prog w = .ok (.slice (some ⟨w.heap.size, 0, none⟩) 64 64) (w.alloc (.cells (rowA 64 (fun _ => 0)) 3)) := make_ints (n := 64) (by omega)
  have k1 := width_to hw
  have k2 := start_to hw
  have k3 := of_to hw
  have HW := hid hw
  have b0 := hid (Below.refl w.heap.size w)
  clear hw
  have e1 : widF 4 = 4 := by decide
  have e2 : begF 8 = 24 := by decide
  have e3 : ofF 63 = 12 := by decide
  have e4 : ofF 64 = -1 := by decide
  go_enter Tryd.func5, Tryd.ntmps5
  go_wp2_with (fail)
  refine Calls.mono (k1.out 4 w b0.out) ?_
  rintro e w1 ⟨rfl, b1⟩
  rw [e1]
  have B1 := hid b1
  clear b1 k1
  go_wp2_with (fail)
  refine Calls.mono (k2.out 8 w1 B1.out) ?_
  rintro e w2 ⟨rfl, b2⟩
  rw [e2]
  have B2 := hid b2
  clear b2 k2
  go_wp2_with (fail)
  refine Calls.mono (k3.out 63 w2 B2.out) ?_
  rintro e w3 ⟨rfl, b3⟩
  rw [e3]
  have B3 := hid b3
  clear b3
  go_wp2_with (fail)
  refine Calls.mono (k3.out 64 w3 B3.out) ?_
  rintro e w4 ⟨rfl, b4⟩
  rw [e4]
  have B4 := hid b4
  clear b4 k3
  go_wp2_with (fail)
  have hr : RowAt w4.heap.size 64 (fun _ => 0) (w4.alloc (.cells (rowA 64 (fun _ => 0)) 3)) := al_new w4 _
  have B5 := hid (show Below w.heap.size w (w4.alloc (.cells (rowA 64 (fun _ => 0)) 3)) from B4.out.alloc B4.out.size _)
  refine Calls.mono (cut_yes _ 64 (fun _ => 0) _ (HW.out.below B5.out) (hr.ints (by decide))) ?_
  rintro e w6 ⟨a', c', rfl, _, b6⟩
  have B6 := hid (below_then B5.out b6)
  clear b6 hr
  go_wp2
  go_ret
  exact ⟨rfl, B6.out⟩
theorem lyawake_to {w : World} (hw : WTab w) : Hid (∀ W, Below w.heap.size w W → Calls Tryd.prog 5 #[] W fun e w' => e = .returned (.bool true) ∧ Below w.heap.size w w') := fun W hb =>
  (lyawake_any W (hw.below hb)).mono fun e w' h => ⟨h.1, below_then hb h.2⟩
end Go.Proofs.YtmeldmmeaiiflaaDoor
