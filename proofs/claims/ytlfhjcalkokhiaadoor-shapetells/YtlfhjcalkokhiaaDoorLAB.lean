/-
  The contract of level.Amp over the landed text; the four steps, as they are laid.
-/
import Derived.Test.YtlfhjcalkokhiaaDoorLM
import Derived.Test.YtlfhjcalkokhiaaDoorNShr
import Derived.Lib.LaidU8
import Derived.MakeChecks
namespace Go.Proofs.YtlfhjcalkokhiaaDoor
open Go.ChangeShapes Go.WideShapes Go.ChangeAt Go.RowKit
set_option linter.unusedVariables false

/-- The package's four steps stand where they were laid. -/
def LTab (w : World) : Prop := ∀ j : Nat, j < 4 → w.cell? ⟨0, j, none⟩ = some (.int .i64 (stpF j))
theorem LTab.lt {w : World} (h : LTab w) : 0 < w.heap.size := block_lt_of_cell (h 0 (by decide))
theorem LTab.frame {B : Nat} {w w' : World} (h : LTab w) (hb : Below B w w') (hB : 0 < B) : LTab w' := fun j hj => by
  rw [hb.cell (p := ⟨0, j, none⟩) hB]
  exact h j hj
theorem LTab.below {w w' : World} (h : LTab w) (hb : Below w.heap.size w w') : LTab w' := h.frame hb h.lt
theorem ltab_of_reads {w : World} (h : Lib.VarReads Tryd.prog w "splicer/level.steps" Rows.laid_splicer_level_steps) : LTab w := by
  obtain ⟨g, t, cs, fuel, p, hg, hty, hvar, hd⟩ := h
  obtain rfl := Option.some.inj ((show Tryd.prog.globalNamed "splicer/level.steps" = some 0 by kernel_rfl).symm.trans hg)
  obtain rfl := Option.some.inj ((show (Tryd.prog.globals[0]?).map (·.type) = some 44 by kernel_rfl).symm.trans hty)
  have hcs := Lib.cells_of_tab (zs := [16777216, 19951585, 23726566, 28215802]) (k := .i64) Tryd.underlying44 Tryd.underlying3 (by kernel_rfl) (by kernel_rfl) hd
  intro j hj
  have := World.var?_cell hg hvar j
  rw [this, ← Array.getElem?_toList, hcs]
  have hjj : j = 0 ∨ j = 1 ∨ j = 2 ∨ j = 3 := by omega
  rcases hjj with rfl | rfl | rfl | rfl <;> rfl
theorem ltab_of_laid {w : World} {l : List (String × DataW Unit)} (hp : (l.all fun x => x.2.handleName?.isNone) = true) (h : laidMetH Tryd.prog l w) (hm : ("splicer/level.steps", Rows.laid_splicer_level_steps) ∈ l) : LTab w := by
  rw [MakeChecks.laidMetH_plain _ _ _ hp] at h
  exact ltab_of_reads (Lib.laidMet.reads h hm)

theorem lamp_any (c f : Int) (w : World) (ht : LTab w) :
    Calls Tryd.prog 18 #[.int .i64 c, .int .i64 f] w fun e w' => e = .returned (.int .i64 (ampF c f)) ∧ Below w.heap.size w w' := by
  have HT : Hid (LTab w) := ht
  clear ht
  by_cases h1 : c < 1
  · rw [ampF_out (by omega)]
    go_enter Tryd.func18, Tryd.ntmps18
    go_wp2
    go_ret
    exact ⟨rfl, Below.refl _ _⟩
  by_cases h2 : 23 < c
  · rw [ampF_out (by omega)]
    go_enter Tryd.func18, Tryd.ntmps18
    go_wp2
    go_ret
    exact ⟨rfl, Below.refl _ _⟩
  by_cases h3 : f < 0
  · rw [ampF_out (by omega)]
    go_enter Tryd.func18, Tryd.ntmps18
    go_wp2
    go_ret
    exact ⟨rfl, Below.refl _ _⟩
  by_cases h4 : 3 < f
  · rw [ampF_out (by omega)]
    go_enter Tryd.func18, Tryd.ntmps18
    go_wp2
    go_ret
    exact ⟨rfl, Below.refl _ _⟩
  obtain ⟨k, rfl⟩ : ∃ k : Nat, f = k := ⟨f.toNat, by omega⟩
  rw [ampF_in (by omega) (by omega) (by omega) (by omega)]
  have hc := HT.out k (by omega)
  have h5 : k < 4 := by omega
  have HC : Hid (∀ W, Calls Tryd.prog 36 #[.int .i64 (stpF k), .int .i64 (24 - c)] W fun e w' => e = .returned (.int .i64 (shrF (stpF k) (24 - c))) ∧ Below W.heap.size W w') := fun W => shr_any _ _ W
  generalize shrF (stpF k) (24 - c) = R at *
  generalize stpF (k : Int) = S at *
  go_enter Tryd.func18, Tryd.ntmps18
  go_wp2_with (go_at_call 36; refine (HC.out _).mono ?_; rintro e w1 ⟨rfl, hb⟩)
  go_ret
  exact ⟨rfl, hb⟩
end Go.Proofs.YtlfhjcalkokhiaaDoor
