/-
  The widths as they stand; the contract of layout.Width.
-/
import Derived.Test.YtjfngheefnmolaaDoorLYA
import Derived.Test.YtjfngheefnmolaaDoorIC
namespace Go.Proofs.YtjfngheefnmolaaDoor
open Go.ChangeShapes Go.WideShapes Go.ChangeAt Go.RowKit
set_option linter.unusedVariables false

def wI (i : Nat) : Int := ((widN i : Nat) : Int)
/-- The package's widths stand where they were laid. -/
def WTab (w : World) : Prop := ∃ t fr, w.heap[0]? = some (.cells (rowA 13 wI) t fr)
theorem WTab.lt {w : World} (h : WTab w) : 0 < w.heap.size := by
  obtain ⟨t, fr, h⟩ := h
  exact (Array.getElem?_eq_some_iff.1 h).1
theorem WTab.frame {B : Nat} {w w' : World} (h : WTab w) (hb : Below B w w') (hB : 0 < B) : WTab w' := by
  obtain ⟨t, fr, h⟩ := h
  exact ⟨t, fr, (hb.block _ hB).trans h⟩
theorem WTab.below {w w' : World} (h : WTab w) (hb : Below w.heap.size w w') : WTab w' := h.frame hb h.lt
theorem WTab.get {w : World} (h : WTab w) {k : Nat} (hk : k < 13) : w.cell? ⟨0, k, none⟩ = some (.int .i64 ((widN k : Nat) : Int)) := by
  obtain ⟨t, fr, h⟩ := h
  have e : (rowA 13 wI)[k]? = some (.int .i64 (wI k)) := rowA_get hk
  simpa [World.cell?, h, wI] using e
theorem width_any (b : Int) (w : World) (hw : WTab w) : Calls Tryd.prog 16 #[.int .i64 b] w fun e w' => e = .returned (.int .i64 (widF b)) ∧ w' = w := by
  by_cases h : 0 ≤ b ∧ b ≤ 12
  · obtain ⟨k, rfl⟩ : ∃ k : Nat, b = (k : Int) := ⟨b.toNat, by omega⟩
    rw [widF_nat (by omega)]
    have hc := hw.get (k := k) (by omega)
    have hk : k < 13 := by omega
    go_enter Tryd.func16, Tryd.ntmps16
    go_wp2
    go_ret
    exact ⟨rfl, rfl⟩
  · have e : widF b = 0 := by rw [widF, if_pos (by omega)]
    rw [e]
    by_cases h1 : b < 0
    · go_enter Tryd.func16, Tryd.ntmps16
      go_wp2
      go_ret
      exact ⟨rfl, rfl⟩
    · have h2 : 13 ≤ b := by omega
      go_enter Tryd.func16, Tryd.ntmps16
      go_wp2
      go_ret
      exact ⟨rfl, rfl⟩
/-- Calls behind one another: in every world at or behind w. -/
theorem width_to {w : World} (hw : WTab w) : Hid (∀ b W, Below w.heap.size w W → Calls Tryd.prog 16 #[.int .i64 b] W fun e w' => e = .returned (.int .i64 (widF b)) ∧ Below w.heap.size w w') := fun b W hb =>
  (width_any b W (hw.below hb)).mono fun e w' h => ⟨h.1, by rw [h.2]; exact hb⟩
end Go.Proofs.YtjfngheefnmolaaDoor
