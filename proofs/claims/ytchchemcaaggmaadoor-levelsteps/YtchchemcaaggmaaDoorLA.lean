/-
  The contracts of level.Amp, Gain and Apply over the landed text; the four steps, as they are laid.
-/
import Derived.Test.YtchchemcaaggmaaDoorLM
import Derived.Test.YtchchemcaaggmaaDoorNMod
import Derived.Test.YtchchemcaaggmaaDoorNShr
import Derived.Lib.LaidU8
import Derived.MakeChecks
namespace Go.Proofs.YtchchemcaaggmaaDoor
open Go.ChangeShapes Go.WideShapes Go.ChangeAt Go.RowKit
set_option linter.unusedVariables false

/-- The package's four steps stand where they were laid. -/
def LTab (w : World) : Prop := ∀ j : Nat, j < 4 → w.cell? ⟨0, j, none⟩ = some (.int .i64 (stpF j))
theorem LTab.lt {w : World} (h : LTab w) : 0 < w.heap.size := block_lt_of_cell (h 0 (by decide))
theorem LTab.frame {B : Nat} {w w' : World} (h : LTab w) (hb : Below B w w') (hB : 0 < B) : LTab w' := fun j hj => by
  rw [hb.cell (p := ⟨0, j, none⟩) hB]
  exact h j hj
theorem LTab.below {w w' : World} (h : LTab w) (hb : Below w.heap.size w w') : LTab w' := h.frame hb h.lt
theorem ltab_of_reads {w : World} (h : Lib.VarReads Tryd.prog w "splicer/level.steps" Rows.laid_splicer_level_steps) : LTab w := by
  obtain ⟨g, t, cs, fuel, p, hg, hty, hvar, hd⟩ := h
  obtain rfl := Option.some.inj ((show Tryd.prog.globalNamed "splicer/level.steps" = some 0 by kernel_rfl).symm.trans hg)
  obtain rfl := Option.some.inj ((show (Tryd.prog.globals[0]?).map (·.type) = some 29 by kernel_rfl).symm.trans hty)
  have hcs := Lib.cells_of_tab (zs := [16777216, 19951585, 23726566, 28215802]) (k := .i64) Tryd.underlying29 Tryd.underlying3 (by kernel_rfl) (by kernel_rfl) hd
  intro j hj
  have := World.var?_cell hg hvar j
  rw [this, ← Array.getElem?_toList, hcs]
  have hjj : j = 0 ∨ j = 1 ∨ j = 2 ∨ j = 3 := by omega
  rcases hjj with rfl | rfl | rfl | rfl <;> rfl
theorem ltab_of_laid {w : World} {l : List (String × DataW Unit)} (hp : (l.all fun x => x.2.handleName?.isNone) = true) (h : laidMetH Tryd.prog l w) (hm : ("splicer/level.steps", Rows.laid_splicer_level_steps) ∈ l) : LTab w := by
  rw [MakeChecks.laidMetH_plain _ _ _ hp] at h
  exact ltab_of_reads (Lib.laidMet.reads h hm)

theorem lamp_any (c f : Int) (w : World) (ht : LTab w) :
    Calls Tryd.prog 8 #[.int .i64 c, .int .i64 f] w fun e w' => e = .returned (.int .i64 (ampF c f)) ∧ Below w.heap.size w w' := by
  have HT : Hid (LTab w) := ht
  clear ht
  by_cases h1 : c < 1
  · rw [ampF_out (by omega)]
    go_enter Tryd.func8, Tryd.ntmps8
    go_wp2
    go_ret
    exact ⟨rfl, Below.refl _ _⟩
  by_cases h2 : 23 < c
  · rw [ampF_out (by omega)]
    go_enter Tryd.func8, Tryd.ntmps8
    go_wp2
    go_ret
    exact ⟨rfl, Below.refl _ _⟩
  by_cases h3 : f < 0
  · rw [ampF_out (by omega)]
    go_enter Tryd.func8, Tryd.ntmps8
    go_wp2
    go_ret
    exact ⟨rfl, Below.refl _ _⟩
  by_cases h4 : 3 < f
  · rw [ampF_out (by omega)]
    go_enter Tryd.func8, Tryd.ntmps8
    go_wp2
    go_ret
    exact ⟨rfl, Below.refl _ _⟩
  obtain ⟨k, rfl⟩ : ∃ k : Nat, f = k := ⟨f.toNat, by omega⟩
  rw [ampF_in (by omega) (by omega) (by omega) (by omega)]
  have hc := HT.out k (by omega)
  have h5 : k < 4 := by omega
  have HC : Hid (∀ W, Calls Tryd.prog 15 #[.int .i64 (stpF k), .int .i64 (24 - c)] W fun e w' => e = .returned (.int .i64 (shrF (stpF k) (24 - c))) ∧ Below W.heap.size W w') := fun W => shr_any _ _ W
  generalize shrF (stpF k) (24 - c) = R at *
  generalize stpF (k : Int) = S at *
  go_enter Tryd.func8, Tryd.ntmps8
  go_wp2_with (go_at_call 15; refine (HC.out _).mono ?_; rintro e w1 ⟨rfl, hb⟩)
  go_ret
  exact ⟨rfl, hb⟩
theorem modQ4 (g : Int) : modQ g 4 = g / 4 := modQ_of (by omega)
theorem modR4 (g : Int) : modR g 4 = g % 4 := modR_of (by omega)
theorem lgain_any (g : Int) (w : World) (ht : LTab w) :
    Calls Tryd.prog 10 #[.int .i64 g] w fun e w' => e = .returned (.int .i64 (gainF g)) ∧ Below w.heap.size w w' := by
  have HT : Hid (LTab w) := ht
  clear ht
  by_cases h1 : g < -64
  · rw [gainF_out (by omega)]
    go_enter Tryd.func10, Tryd.ntmps10
    go_wp2
    go_ret
    exact ⟨rfl, Below.refl _ _⟩
  by_cases h2 : 32 < g
  · rw [gainF_out (by omega)]
    go_enter Tryd.func10, Tryd.ntmps10
    go_wp2
    go_ret
    exact ⟨rfl, Below.refl _ _⟩
  rw [gainF_in (by omega) (by omega)]
  have HQ : Hid (∀ W, Calls Tryd.prog 18 #[.int .i64 g, .int .i64 4] W fun e w' => e = .returned (.tuple #[.int .i64 (g / 4), .int .i64 (g % 4)]) ∧ Below W.heap.size W w') :=
    fun W => by have h := mod_any g 4 (by omega) (by omega) W; rwa [modQ4, modR4] at h
  have q1 : -16 ≤ g / 4 := by omega
  have q2 : g / 4 ≤ 8 := by omega
  have r1 : 0 ≤ g % 4 := by omega
  have r2 : g % 4 < 4 := by omega
  generalize g / 4 = q at *
  generalize g % 4 = r at *
  obtain ⟨k, rfl⟩ : ∃ k : Nat, r = k := ⟨r.toNat, by omega⟩
  have h5 : k < 4 := by omega
  have HC : Hid (∀ W, Calls Tryd.prog 15 #[.int .i64 (stpF k), .int .i64 (8 - q)] W fun e w' => e = .returned (.int .i64 (shrF (stpF k) (8 - q))) ∧ Below W.heap.size W w') := fun W => shr_any _ _ W
  have HL : Hid (∀ W, Below w.heap.size w W → W.cell? ⟨0, k, none⟩ = some (.int .i64 (stpF k))) := fun W hW => HT.out.below hW k h5
  generalize shrF (stpF k) (8 - q) = R at *
  generalize stpF (k : Int) = S at *
  go_enter Tryd.func10, Tryd.ntmps10
  go_wp2_with (first
    | (go_at_call 18; refine (HQ.out _).mono ?_; rintro e w1 ⟨rfl, hb⟩; have hc := HL.out _ hb)
    | (go_at_call 15; refine (HC.out _).mono ?_; rintro e w2 ⟨rfl, hb2⟩))
  go_ret
  exact ⟨rfl, below_then hb hb2⟩
theorem lapply_any (x g : Int) (w : World) (ht : LTab w) :
    Calls Tryd.prog 12 #[.int .i64 x, .int .i64 g] w fun e w' => e = .returned (.int .i64 (applyF x g)) ∧ Below w.heap.size w w' := by
  by_cases h1 : x < -1073741824
  · rw [applyF_out (by omega)]
    clear ht
    go_enter Tryd.func12, Tryd.ntmps12
    go_wp2
    go_ret
    exact ⟨rfl, Below.refl _ _⟩
  by_cases h2 : 1073741824 < x
  · rw [applyF_out (by omega)]
    clear ht
    go_enter Tryd.func12, Tryd.ntmps12
    go_wp2
    go_ret
    exact ⟨rfl, Below.refl _ _⟩
  rw [applyF_in (by omega) (by omega)]
  have HG : Hid (∀ W, Below w.heap.size w W → Calls Tryd.prog 10 #[.int .i64 g] W fun e w' => e = .returned (.int .i64 (gainF g)) ∧ Below W.heap.size W w') := fun W hW => lgain_any g W (ht.below hW)
  obtain ⟨g1, g2⟩ := gain_any g
  obtain ⟨m1, m2⟩ := mul_bd (x := x) (by omega) (by omega) g1 g2
  have HC : Hid (∀ W, Calls Tryd.prog 15 #[.int .i64 (x * gainF g), .int .i64 16] W fun e w' => e = .returned (.int .i64 (shrF (x * gainF g) 16)) ∧ Below W.heap.size W w') := fun W => shr_any _ _ W
  have hm : wrap64 (x * gainF g) = x * gainF g := by unfold wrap64; omega
  clear ht m1 m2
  generalize shrF (x * gainF g) 16 = R at *
  generalize gainF g = G at *
  go_enter Tryd.func12, Tryd.ntmps12
  go_wp2_with (first
    | (go_at_call 10; refine (HG.out _ (Below.refl _ _)).mono ?_; rintro e w1 ⟨rfl, hb⟩)
    | (go_at_call 15; refine (HC.out _).mono ?_; rintro e w2 ⟨rfl, hb2⟩)
    | (go_at_call 20; refine (sat_any _ _).mono ?_; rintro e w3 ⟨rfl, rfl⟩))
  go_ret
  exact ⟨rfl, below_then hb hb2⟩
end Go.Proofs.YtchchemcaaggmaaDoor
