/-
  Arguments opened: a slice of items; the seven small differences, as they are laid.
-/
import Derived.Test.YtdfpmhdgebajfaaDoorRows
import Derived.Test.YtdfpmhdgebajfaaDoorW4
import Derived.Lib.LaidU8
import Derived.MakeChecks
namespace Go.Proofs.YtdfpmhdgebajfaaDoor
open Go.ChangeShapes Go.WideShapes Go.ChangeAt Go.RowKit Go.Deep
set_option linter.unusedVariables false
set_option maxRecDepth 100000

/-- Three cells, one behind the other: an item. -/
def ItemAt (w : World) (b o : Nat) (X : Int × Int × Int) : Prop :=
  w.cell? ⟨b, o, none⟩ = some (.int .i64 X.1) ∧ w.cell? ⟨b, o + 1, none⟩ = some (.int .i64 X.2.1) ∧ w.cell? ⟨b, o + 2, none⟩ = some (.int .i64 X.2.2)
theorem ItemAt.below {w w' : World} {b o B : Nat} {X : Int × Int × Int} (h : ItemAt w b o X) (hb : Below B w w') (hB : b < B) : ItemAt w' b o X :=
  ⟨by rw [hb.cell (p := ⟨b, _, none⟩) hB]; exact h.1, by rw [hb.cell (p := ⟨b, _, none⟩) hB]; exact h.2.1, by rw [hb.cell (p := ⟨b, _, none⟩) hB]; exact h.2.2⟩
/-- What a walk is told of a slice of items. -/
def IsItems (w : World) (a : Option Addr) (len cap : Nat) (X : Nat → Int × Int × Int) : Prop :=
  len ≤ maxLen ∧ (len = 0 ∨ ∃ b off, a = some ⟨b, off, none⟩ ∧ b < w.heap.size ∧ len ≤ cap ∧ cap ≤ maxLen ∧ ∀ i, i < len → ItemAt w b (off + i * 3) (X i))
section
variable {H : Type} {enc : TypeId × Value → H} {P : Program} {w : World} {base : Nat} {held : Bool}
theorem open_items {t e : TypeId} {f0 f1 f2 : Field} {fuel : Nat} {a : Option Addr} {len cap : Nat} {x : DataW H × List MemPlace} (ht : P.underlying t = some (.slice e)) (he : P.underlying e = some (.struct #[f0, f1, f2]))
    (h0 : P.underlying f0.type = some (.int .i64)) (h1 : P.underlying f1.type = some (.int .i64)) (h2 : P.underlying f2.type = some (.int .i64)) (ce : P.cellsOf e = 3) (o0 : f0.offset = 0) (o1 : f1.offset = 1) (o2 : f2.offset = 2)
    (c0 : P.cellsOf f0.type = 1) (c1 : P.cellsOf f1.type = 1) (c2 : P.cellsOf f2.type = 1)
    (h : DataW.trod enc P w base (fun _ => true) held fuel t (Value.slice a len cap).cells.toList = some x) :
    ∃ X : Nat → Int × Int × Int, IsItems w a len cap X := by
  rcases open_slice ht h with h0' | ⟨a', len', cap', m, n, D, Pl, hcs, hb, hl, hm, hmm, rfl, hx⟩
  · have := h0'.1
    simp [Value.cells] at this
    obtain ⟨rfl, rfl, rfl⟩ := this
    exact ⟨fun _ => (0, 0, 0), Nat.zero_le _, .inl rfl⟩
  simp [Value.cells] at hcs
  obtain ⟨rfl, rfl, rfl⟩ := hcs
  have hmc : m = cap := by simpa using hmm
  subst hmc
  have each : ∀ i, i < m → ∃ q : Int × Int × Int, (w.cell? (a'.add (i * 3)) = some (.int .i64 q.1) ∧ w.cell? (a'.add (i * 3 + 1)) = some (.int .i64 q.2.1)) ∧ w.cell? (a'.add (i * 3 + 2)) = some (.int .i64 q.2.2) := by
    intro i hi
    obtain ⟨cs', k1, k2⟩ := hx i hi
    rw [ce] at k1
    obtain ⟨_, hlen, hcell⟩ := World.cells?_some k1
    obtain ⟨xs, k, hk, hxy, _, hxl, hall⟩ := DataW.trod_struct he k2
    match cs', hlen with
    | [v0, v1, v2], _ =>
      have g0 := hall 0 f0 rfl
      have g1 := hall 1 f1 rfl
      have g2 := hall 2 f2 rfl
      have hxl' : xs.length = 3 := by simpa using hxl
      match xs, hxl' with
      | [y0, y1, y2], _ =>
        simp [o0, o1, o2, c0, c1, c2] at g0 g1 g2
        obtain ⟨n0, e0, _, w0⟩ := DataW.trod_int h0 g0
        obtain ⟨n1, e1, _, w1⟩ := DataW.trod_int h1 g1
        obtain ⟨n2, e2, _, w2⟩ := DataW.trod_int h2 g2
        simp at e0 e1 e2
        subst e0 e1 e2
        have d0 := hcell 0 (by omega)
        have d1 := hcell 1 (by omega)
        have d2 := hcell 2 (by omega)
        rw [add_add] at d0 d1 d2
        exact ⟨(n0, n1, n2), ⟨by simpa using d0, by simpa using d1⟩, by simpa using d2⟩
  obtain ⟨q, hq⟩ := choose_lt each
  refine ⟨q, Nat.le_trans hl hm, ?_⟩
  by_cases h0 : len = 0
  · exact .inl h0
  right
  have h1 := (hq 0 (by omega)).1.1
  have e : a'.add (0 * 3) = a' := by simp [Addr.add]
  rw [e] at h1
  obtain ⟨b, off, rfl, hb'⟩ := addr_plain h1
  refine ⟨b, off, rfl, hb', hl, hm, fun i hi => ?_⟩
  obtain ⟨⟨h2, h3⟩, h4⟩ := hq i (by omega)
  rw [add_plain] at h2 h3 h4
  exact ⟨h2, by rw [Nat.add_assoc]; exact h3, by rw [Nat.add_assoc]; exact h4⟩
end
theorem tab_of_reads {w : World} (h : Lib.VarReads Tryd.prog w "splicer/sym.small" Rows.laid_splicer_sym_small) : Tab w := by
  obtain ⟨g, t, cs, fuel, p, hg, hty, hvar, hd⟩ := h
  obtain rfl := Option.some.inj ((show Tryd.prog.globalNamed "splicer/sym.small" = some 0 by kernel_rfl).symm.trans hg)
  obtain rfl := Option.some.inj ((show (Tryd.prog.globals[0]?).map (·.type) = some 74 by kernel_rfl).symm.trans hty)
  have hcs := Lib.cells_of_tab (zs := [0, -1, 1, -2, 2, -3, 3]) (k := .i64) Tryd.underlying74 Tryd.underlying3 (by kernel_rfl) (by kernel_rfl) hd
  intro j hj
  have := World.var?_cell hg hvar j
  rw [this, ← Array.getElem?_toList, hcs]
  have hjj : j = 0 ∨ j = 1 ∨ j = 2 ∨ j = 3 ∨ j = 4 ∨ j = 5 ∨ j = 6 := by omega
  rcases hjj with rfl | rfl | rfl | rfl | rfl | rfl | rfl <;> rfl
theorem tab_of_laid {w : World} {l : List (String × DataW Unit)} (hp : (l.all fun x => x.2.handleName?.isNone) = true) (h : laidMetH Tryd.prog l w) (hm : ("splicer/sym.small", Rows.laid_splicer_sym_small) ∈ l) : Tab w := by
  rw [MakeChecks.laidMetH_plain _ _ _ hp] at h
  exact tab_of_reads (Lib.laidMet.reads h hm)
end Go.Proofs.YtdfpmhdgebajfaaDoor
