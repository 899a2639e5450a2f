/-
  The slope as it is laid.
-/
import Derived.Test.YtjeglfhdgabdoaaDoorWA
import Derived.Lib.LaidU8
import Derived.MakeChecks
namespace Go.Proofs.YtjeglfhdgabdoaaDoor
open Go.ChangeShapes Go.WideShapes Go.ChangeAt Go.RowKit
set_option linter.unusedVariables false

theorem stab_of_reads {w : World} (h : Lib.VarReads Tryd.prog w "splicer/window.slope" Rows.laid_splicer_window_slope) : STab w := by
  obtain ⟨g, t, cs, fuel, p, hg, hty, hvar, hd⟩ := h
  obtain rfl := Option.some.inj ((show Tryd.prog.globalNamed "splicer/window.slope" = some 0 by kernel_rfl).symm.trans hg)
  obtain rfl := Option.some.inj ((show (Tryd.prog.globals[0]?).map (·.type) = some 24 by kernel_rfl).symm.trans hty)
  have hcs := Lib.cells_of_tab (zs := [494, 4325, 11207, 19363, 26435, 30792, 32481, 32764]) (k := .i64) Tryd.underlying24 Tryd.underlying3 (by kernel_rfl) (by kernel_rfl) hd
  have e : cs = rowA 8 wF := by
    have h0 : (rowA 8 wF).toList = [494, 4325, 11207, 19363, 26435, 30792, 32481, 32764].map (Value.int .i64) := rfl
    exact Array.toList_inj.1 (hcs.trans h0.symm)
  subst e
  simp only [World.var?, hg, Option.bind_some] at hvar
  split at hvar
  · rename_i c t fr hh
    obtain rfl := Option.some.inj hvar
    exact ⟨t, fr, hh⟩
  · cases hvar
theorem stab_of_laid {w : World} {l : List (String × DataW Unit)} (hp : (l.all fun x => x.2.handleName?.isNone) = true) (h : laidMetH Tryd.prog l w) (hm : ("splicer/window.slope", Rows.laid_splicer_window_slope) ∈ l) : STab w := by
  rw [MakeChecks.laidMetH_plain _ _ _ hp] at h
  exact stab_of_reads (Lib.laidMet.reads h hm)

end Go.Proofs.YtjeglfhdgabdoaaDoor
