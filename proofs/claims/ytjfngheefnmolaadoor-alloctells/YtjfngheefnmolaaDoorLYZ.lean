/-
  The widths as they are laid.
-/
import Derived.Test.YtjfngheefnmolaaDoorLYP
import Derived.Test.YtjfngheefnmolaaDoorRows
import Derived.Lib.LaidU8
import Derived.MakeChecks
namespace Go.Proofs.YtjfngheefnmolaaDoor
open Go.ChangeShapes Go.WideShapes Go.ChangeAt Go.RowKit
set_option linter.unusedVariables false

theorem wtab_of_reads {w : World} (h : Lib.VarReads Tryd.prog w "splicer/layout.widths" Rows.laid_splicer_layout_widths) : WTab w := by
  obtain ⟨g, t, cs, fuel, p, hg, hty, hvar, hd⟩ := h
  obtain rfl := Option.some.inj ((show Tryd.prog.globalNamed "splicer/layout.widths" = some 0 by kernel_rfl).symm.trans hg)
  obtain rfl := Option.some.inj ((show (Tryd.prog.globals[0]?).map (·.type) = some 33 by kernel_rfl).symm.trans hty)
  have hcs := Lib.cells_of_tab (zs := [2, 2, 2, 2, 4, 4, 4, 4, 8, 8, 8, 8, 8]) (k := .i64) Tryd.underlying33 Tryd.underlying3 (by kernel_rfl) (by kernel_rfl) hd
  have e : cs = rowA 13 wI := by
    have h0 : (rowA 13 wI).toList = [2, 2, 2, 2, 4, 4, 4, 4, 8, 8, 8, 8, 8].map (Value.int .i64) := rfl
    exact Array.toList_inj.1 (hcs.trans h0.symm)
  subst e
  simp only [World.var?, hg, Option.bind_some] at hvar
  split at hvar
  · rename_i c t fr hh
    obtain rfl := Option.some.inj hvar
    exact ⟨t, fr, hh⟩
  · cases hvar
theorem wtab_of_laid {w : World} {l : List (String × DataW Unit)} (hp : (l.all fun x => x.2.handleName?.isNone) = true) (h : laidMetH Tryd.prog l w) (hm : ("splicer/layout.widths", Rows.laid_splicer_layout_widths) ∈ l) : WTab w := by
  rw [MakeChecks.laidMetH_plain _ _ _ hp] at h
  exact wtab_of_reads (Lib.laidMet.reads h hm)
end Go.Proofs.YtjfngheefnmolaaDoor
