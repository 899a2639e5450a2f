/-
  Arrays of n ints as values: taken whole, read at a place.
-/
import Derived.Test.YtmeldmmeaiiflaaDoorIC
import Derived.ChangeKeysEq
import Derived.Deep.WholeRow
namespace Go.Proofs.YtmeldmmeaiiflaaDoor
open Go.ChangeShapes Go.WideShapes Go.ChangeAt Go.RowKit
set_option linter.unusedVariables false

theorem plainN : Tryd.prog.plainKey 3 = true := by kernel_rfl
theorem cellsN : Tryd.prog.cellsOf 3 = 1 := by kernel_rfl
theorem arrN_index {T n : Nat} (hu : Tryd.prog.underlying T = some (.array n 3)) (X : Nat → Int) {k : Nat} (hk : k < n) (w : World) : (Instr.index T (.agg (rowA n X)) (.int .i64 (k : Int))).run Tryd.prog w = .ok (.int .i64 (X k)) w := by
  obtain ⟨i, hi, _⟩ := infoI
  have hu := fun w => run_underlying (P := Tryd.prog) hu w
  have hz := fun w => run_sizeOf (P := Tryd.prog) w hi
  have hx : (rowA n X)[(k : Int).toNat * 1]? = some (.int .i64 (X k)) := by rw [Nat.mul_one]; exact rowA_get hk
  have p := fun w => run_part_plain (P := Tryd.prog) w plainN hx
  have hc : (0 : Int) ≤ (k : Int) ∧ (k : Int) < ((n : Nat) : Int) := by omega
  simp only [Instr.index, asIntOf, Sem.run_bind, Sem.run_pure, hu, Result.andThen_ok]
  simp only [hc, and_self, if_true, Sem.run_bind, hz, cellsN, Result.andThen_ok, p]
theorem exec_loadN {T n : Nat} (hu : Tryd.prog.underlying T = some (.array n 3)) (hi : (Tryd.prog.info? T).map (·.size) = some n) {o : Oper} {ev : Operand → Value} {w : World} {x : Operand} {r : Nat} {X : Nat → Int} {t : TypeId} {fr : Nat × Nat} (ho : o.op = .load T x) (hx : ev x = .pointer (some ⟨r, 0, none⟩))
    (h : w.heap[r]? = some (.cells (rowA n X) t fr)) : (execOp ev o).run Tryd.prog w = .ok (.value (.agg (rowA n X))) w := by
  have hl := run_loadVar_row (P := Tryd.prog) w r t T (rowA n X) fr _ h hu rfl (by rw [hi]; simp [rowA])
  unfold execOp
  simp only [ho, hx, Instr.loadAt, Instr.sureAddr, Sem.run_bind, Sem.run_pure, Result.andThen_ok, hl]
end Go.Proofs.YtmeldmmeaiiflaaDoor
