/-
  The contracts of the document's decoder (splicerref04): next, New, Place, Take.
-/
import Derived.Test.YtdfpmhdgebajfaaDoorJ
namespace Go.Proofs.YtdfpmhdgebajfaaDoor
open Go.ChangeShapes Go.WideShapes Go.ChangeAt Go.RowKit
set_option linter.unusedVariables false
set_option maxRecDepth 100000

/-- The document's decoder's cells. -/
def rdc (l : List UInt8) (d : De) : Array Value := #[.string ⟨l.toArray⟩, .int .i64 (d.pos : Int), .int .i64 (d.code : Int), .int .i64 (d.rng : Int)]
theorem next_at (r : Nat) (l : List UInt8) (pos : Nat) (x y : Value) (w : World) (h : IsAt r 67 #[.string ⟨l.toArray⟩, .int .i64 (pos : Int), x, y] w) (hp : pos ≤ 100000) (hl : l.length ≤ 100000) :
    Calls Tryd.prog 30 #[.pointer (some ⟨r, 0, none⟩)] w fun e w' => e = .returned (.int .i64 ((oct l pos : Nat) : Int)) ∧ IsAt r 67 #[.string ⟨l.toArray⟩, .int .i64 ((pos + 1 : Nat) : Int), x, y] w' ∧ But r w w' := by
  have c0 : w.cell? ⟨r, 0, none⟩ = some (.string ⟨l.toArray⟩) := h.cell 0
  have c1 : w.cell? ⟨r, 1, none⟩ = some (.int .i64 (pos : Int)) := h.cell 1
  have f1 := h.frozen 1
  have HI : Hid (IsAt r 67 #[.string ⟨l.toArray⟩, .int .i64 (pos : Int), x, y] w) := h
  have hs : (⟨l.toArray⟩ : ByteArray).size = l.length := by simp [ByteArray.size]
  by_cases hlt : pos < l.length
  · have ho : oct l pos = l[pos].toNat := by
      have hx : l[pos]? = some l[pos] := List.getElem?_eq_getElem hlt
      show (match l[pos]? with | some x => x.toNat | none => 0) = _
      rw [hx]
    have hi : (pos : Int) < (l.length : Int) := by omega
    have hd : decide ((pos : Int) + 1 > (l.length : Int)) = false := decide_eq_false (by omega)
    have hx8 : (l[pos].toNat : Int) < 256 := by have := l[pos].toNat_lt; omega
    have HO : Hid ((l[pos].toNat : Int) = ((oct l pos : Nat) : Int)) := by show _ = _; rw [ho]
    have hget : (⟨l.toArray⟩ : ByteArray)[pos]'(by rw [hs]; exact hlt) = l[pos] := by
      show l.toArray[pos]'_ = _
      simp
    clear h ho
    go_enter Tryd.func30, Tryd.ntmps30
    go_wp2
    go_quiet (fail)
    go_wp2
    go_quiet (fail)
    go_wp2
    go_ret
    refine ⟨ret_int HO.out, ?_, ?_⟩
    · exact ((HI.out.set 1 _).drewN _).drewN _
    · exact (((But.refl r w).setCell 1 _).drewN _).drewN _
  · have ho : oct l pos = 0 := by
      have hx : l[pos]? = none := List.getElem?_eq_none (by omega)
      show (match l[pos]? with | some x => x.toNat | none => 0) = _
      rw [hx]
    have hd : decide ((pos : Int) + 1 > (l.length : Int)) = true := decide_eq_true (by omega)
    rw [ho]
    clear h ho
    go_enter Tryd.func30, Tryd.ntmps30
    go_wp2
    go_quiet (fail)
    go_wp2
    go_ret
    exact ⟨rfl, (HI.out.set 1 _).drewN _, ((But.refl r w).setCell 1 _).drewN _⟩
/-- The document's New. -/
theorem rnew_any (l : List UInt8) (w : World) (hl : l.length ≤ 100000) :
    Calls Tryd.prog 12 #[.string ⟨l.toArray⟩] w fun e w' => e = .returned (.pointer (some ⟨w.heap.size, 0, none⟩)) ∧ IsAt w.heap.size 67 (rdc l (newD l)) w' ∧ Below w.heap.size w w' := by
  have H0 : Hid (IsAt w.heap.size 67 #[.string ⟨l.toArray⟩, .int .i64 ((0 : Nat) : Int), .int .i64 ((pre l 0 : Nat) : Int), .int .i64 4294967295] (w.alloc (.cells #[.string ⟨l.toArray⟩, .int .i64 0, .int .i64 0, .int .i64 4294967295] 67))) := heap_alloc_new w _
  have B0 : Hid (Below w.heap.size w (w.alloc (.cells #[.string ⟨l.toArray⟩, .int .i64 0, .int .i64 0, .int .i64 4294967295] 67))) := (Below.refl _ w).alloc (Nat.le_refl _) _
  go_enter Tryd.func12, Tryd.ntmps12
  go_wp2
  go_loopw [4] (fun i wr => ∃ k : Nat, k ≤ 4 ∧ i = .int .i64 k ∧ IsAt w.heap.size 67 #[.string ⟨l.toArray⟩, .int .i64 (k : Int), .int .i64 ((pre l k : Nat) : Int), .int .i64 4294967295] wr ∧ Below w.heap.size w wr) (fun i _ => 4 - (intOf i).toNat)
  case atStart => exact ⟨0, by omega, rfl, H0.out, B0.out⟩
  case round =>
    obtain ⟨k, hk, rfl, h1, h2⟩ := hrel
    have H1 : Hid (IsAt w.heap.size 67 #[.string ⟨l.toArray⟩, .int .i64 (k : Int), .int .i64 ((pre l k : Nat) : Int), .int .i64 4294967295] wr) := h1
    have H2 : Hid (Below w.heap.size w wr) := h2
    by_cases hlt : k < 4
    · have hp : pre l k < 4294967296 := pre_lt l k hlt
      have c2 : wr.cell? ⟨w.heap.size, 2, none⟩ = some (.int .i64 ((pre l k : Nat) : Int)) := h1.cell 2
      have HS : Hid (pre l (k + 1) = pre l k * 256 + oct l k) := rfl
      generalize hP : pre l k = P at *
      have HN : Hid (Calls Tryd.prog 30 #[.pointer (some ⟨w.heap.size, 0, none⟩)] wr.drew fun e w' => e = .returned (.int .i64 ((oct l k : Nat) : Int)) ∧ (w'.cell? ⟨w.heap.size, 2, none⟩ = some (.int .i64 (P : Int)) ∧ w'.frozen? ⟨w.heap.size, 2, none⟩ = false) ∧
          Hid (IsAt w.heap.size 67 #[.string ⟨l.toArray⟩, .int .i64 ((k + 1 : Nat) : Int), .int .i64 (P : Int), .int .i64 4294967295] w' ∧ But w.heap.size wr w')) := by
        refine (next_at w.heap.size l k _ _ wr.drew (H1.out.drewN 1) (by omega) hl).mono ?_
        rintro e w' ⟨rfl, q1, q2⟩
        exact ⟨rfl, ⟨q1.cell 2, q1.frozen 2⟩, q1, ((But.refl _ wr).drew).trans q2⟩
      have ho := oct_lt l k
      generalize hO : oct l k = O at *
      have hoi : (O : Int) < 256 := by omega
      have hpi : (P : Int) ≤ 4294967295 := by omega
      have hw1 : IntKind.i64.wrap ((P : Int) * 256) = (P : Int) * 256 := by simp [IntKind.wrap, IntKind.signed, IntKind.bits]; omega
      have hw2 : IntKind.i64.wrap ((P : Int) * 256 + (O : Int)) = (P : Int) * 256 + (O : Int) := by simp [IntKind.wrap, IntKind.signed, IntKind.bits]; omega
      clear h1 h2 H0 B0 H1
      go_wp2
      go_region_with (first | (go_at_call 30; refine HN.out.mono ?_; rintro e w2 ⟨rfl, ⟨d2, g2⟩, hp2⟩))
      all_goals (
        go_wp2
        obtain ⟨q1, q2⟩ := hp2.out
        refine ⟨⟨k + 1, by omega, by go_num, ?_, ?_⟩, by simp [intOf]; omega⟩
        · have := q1.set 2 (.int .i64 ((P : Int) * 256 + (O : Int)))
          rw [HS.out, show ((P * 256 + O : Nat) : Int) = (P : Int) * 256 + (O : Int) by omega]
          exact this
        · exact H2.out.trans ((q2.setCell 2 _).below (Nat.le_refl _) H2.out.size))
    · obtain rfl : k = 4 := by omega
      clear h1 h2 H0 B0
      go_wp2
      go_ret
      exact ⟨rfl, H1.out, H2.out⟩
end Go.Proofs.YtdfpmhdgebajfaaDoor
