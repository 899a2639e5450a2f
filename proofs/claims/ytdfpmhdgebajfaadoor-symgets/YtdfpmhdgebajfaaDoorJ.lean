/-
  The contracts of rc.Decoder: shift, New, Place, Take.
-/
import Derived.Test.YtdfpmhdgebajfaaDoorA
import Derived.Deep.LoopGhost
namespace Go.Proofs.YtdfpmhdgebajfaaDoor
open Go.ChangeShapes Go.WideShapes Go.ChangeAt Go.RowKit
set_option linter.unusedVariables false
set_option maxRecDepth 100000

/-- Every old block but r is as it was. -/
structure But (r : Nat) (w w' : World) : Prop where
  os : w'.os = w.os
  tape : w'.tape = w.tape
  output : w'.output = w.output
  size : w.heap.size ≤ w'.heap.size
  block : ∀ k, k < w.heap.size → k ≠ r → w'.heap[k]? = w.heap[k]?
theorem But.refl (r : Nat) (w : World) : But r w w := ⟨rfl, rfl, rfl, Nat.le_refl _, fun _ _ _ => rfl⟩
theorem But.trans {r : Nat} {a b c : World} (h : But r a b) (k : But r b c) : But r a c :=
  ⟨k.os.trans h.os, k.tape.trans h.tape, k.output.trans h.output, Nat.le_trans h.size k.size, fun i hi hr => (k.block i (Nat.lt_of_lt_of_le hi h.size) hr).trans (h.block i hi hr)⟩
theorem But.drew {r : Nat} {a w : World} (h : But r a w) : But r a w.drew := ⟨h.os, h.tape, h.output, h.size, h.block⟩
theorem But.drewN {r : Nat} {a w : World} (h : But r a w) (n : Nat) : But r a (w.drewN n) := by
  induction n generalizing w with
  | zero => exact h
  | succ n ih => exact (ih h).drew
theorem But.setCell {r : Nat} {a w : World} (h : But r a w) (o : Nat) (v : Value) : But r a (w.setCell ⟨r, o, none⟩ v) :=
  h.trans ⟨rfl, rfl, rfl, by simp [World.setCell], fun k _ hk => Below.heap_setCell _ _ _ _ hk⟩
theorem But.of_below {r : Nat} {w w' : World} (h : Below w.heap.size w w') : But r w w' := ⟨h.os, h.tape, h.output, h.size, fun k hk _ => h.block k hk⟩
theorem But.below {r B : Nat} {w w' : World} (h : But r w w') (hr : B ≤ r) (hB : B ≤ w.heap.size) : Below B w w' :=
  ⟨h.os, h.tape, h.output, h.size, fun k hk => h.block k (by omega) (by omega)⟩

/-- The octets from pos on. -/
def leftB (l : List UInt8) (pos : Nat) : ByteArray := ⟨(l.drop pos).toArray⟩
/-- A Decoder's cells. -/
def dc (l : List UInt8) (d : De) : Array Value := #[lacks d.rng, .bool true, .int .i64 (d.code : Int), .string (leftB l d.pos)]
theorem left_size (l : List UInt8) (pos : Nat) : (leftB l pos).size = l.length - pos := by simp [leftB, ByteArray.size]
theorem shift_at (r : Nat) (l : List UInt8) (n : Value) (code pos : Nat) (w : World) (h : IsAt r 65 #[n, .bool true, .int .i64 (code : Int), .string (leftB l pos)] w) (hc : code < 4294967296) (hl : l.length ≤ 100000) :
    Calls Tryd.prog 29 #[.pointer (some ⟨r, 0, none⟩)] w fun e w' => e = .returned (.tuple #[]) ∧ IsAt r 65 #[n, .bool true, .int .i64 ((code * 256 + oct l pos : Nat) : Int), .string (leftB l (pos + 1))] w' ∧ But r w w' := by
  have c2 : w.cell? ⟨r, 2, none⟩ = some (.int .i64 (code : Int)) := h.cell 2
  have c3 : w.cell? ⟨r, 3, none⟩ = some (.string (leftB l pos)) := h.cell 3
  have f2 := h.frozen 2
  have f3 := h.frozen 3
  have HI : Hid (IsAt r 65 #[n, .bool true, .int .i64 (code : Int), .string (leftB l pos)] w) := h
  have hci : (code : Int) ≤ 4294967295 := by omega
  by_cases hp : pos < l.length
  · have hx : l.drop pos = l[pos] :: l.drop (pos + 1) := List.drop_eq_getElem_cons hp
    have hb : leftB l pos = ⟨(l[pos] :: l.drop (pos + 1)).toArray⟩ := by unfold leftB; rw [hx]
    have ho : oct l pos = l[pos].toNat := by
      have hx : l[pos]? = some l[pos] := List.getElem?_eq_getElem hp
      show (match l[pos]? with | some x => x.toNat | none => 0) = _
      rw [hx]
    have hz : (leftB l pos).size = l.length - pos := left_size l pos
    have hi0 : (0 : Int) < ((leftB l pos).size : Int) := by omega
    have h0 : (leftB l pos)[0]! = l[pos] := by rw [hb]; rfl
    have HE : Hid ((leftB l pos).extract 1 (leftB l pos).size = leftB l (pos + 1)) := by
      show _ = _
      rw [hz, hb, ByteArray.extract_mk]
      unfold leftB
      congr 1
      apply Array.ext'
      simp
      rw [List.take_of_length_le (by simp; omega)]
    have hne : (leftB l pos).toList.isEmpty = false := by rw [hb, ByteArray.toList_mk]; rfl
    have hsl : ∀ w : World, (Instr.slice 9 (.string (leftB l pos)) (some (.int .i64 1)) none none).run Tryd.prog w = .ok (.string (leftB l (pos + 1))) w := by
      intro w
      have := run_slice_string_l w 9 (leftB l pos) Tryd.underlying9 .i64 1 (by omega) (by omega)
      rw [this]
      show Result.ok (Value.string ((leftB l pos).extract 1 (leftB l pos).size)) w = _
      rw [HE.out]
    have HO : Hid ((code : Int) * 256 + (l[pos].toNat : Int) = ((code * 256 + oct l pos : Nat) : Int)) := by show _ = _; rw [ho]; omega
    have h0' : (leftB l pos)[0]'(by rw [hz]; omega) = l[pos] := by
      simp only [leftB]
      show (l.drop pos).toArray[0]'_ = _
      simp
    have hx8 : (l[pos].toNat : Int) < 256 := by have := l[pos].toNat_lt; omega
    clear h hb hx ho h0
    go_enter Tryd.func29, Tryd.ntmps29
    go_wp2
    go_region
    all_goals go_wp2
    go_end0
    rw [HO.out]
    refine ⟨rfl, ?_, ((((But.refl r w).setCell 2 _).setCell 2 _).setCell 3 _).drewN 1⟩
    exact (((HI.out.set 2 _).set 2 _).set 3 _).drewN 1
  · have hd : l.drop pos = [] := List.drop_eq_nil_of_le (by omega)
    have hd1 : l.drop (pos + 1) = [] := List.drop_eq_nil_of_le (by omega)
    have hb : leftB l pos = ⟨#[]⟩ := by unfold leftB; rw [hd]
    have hb1 : leftB l (pos + 1) = ⟨#[]⟩ := by unfold leftB; rw [hd1]
    have ho : oct l pos = 0 := by
      have hx : l[pos]? = none := List.getElem?_eq_none (by omega)
      show (match l[pos]? with | some x => x.toNat | none => 0) = _
      rw [hx]
    have HO : Hid ((code : Int) * 256 = ((code * 256 + oct l pos : Nat) : Int)) := by show _ = _; rw [ho]; omega
    rw [hb1]
    rw [hb] at c3 HI
    clear h hb hb1 hd hd1 ho
    go_enter Tryd.func29, Tryd.ntmps29
    go_wp2
    go_end0
    rw [HO.out]
    exact ⟨rfl, HI.out.set 2 _, (But.refl r w).setCell 2 _⟩
theorem pre_lt (l : List UInt8) (k : Nat) (h : k < 4) : pre l k < 4294967296 := by
  have h0 := oct_lt l 0
  have h1 := oct_lt l 1
  have h2 := oct_lt l 2
  rcases k with _ | _ | _ | _ | k
  · simp [pre]
  · simp [pre]; omega
  · simp [pre]; omega
  · simp [pre]; omega
  · omega
/-- New: four shifts. -/
theorem new_any (l : List UInt8) (w : World) (hl : l.length ≤ 100000) :
    Calls Tryd.prog 11 #[.string ⟨l.toArray⟩] w fun e w' => e = .returned (.pointer (some ⟨w.heap.size, 0, none⟩)) ∧ IsAt w.heap.size 65 (dc l (newD l)) w' ∧ Below w.heap.size w w' := by
  have H0 : Hid (IsAt w.heap.size 65 #[lacks 4294967295, .bool true, .int .i64 ((pre l 0 : Nat) : Int), .string (leftB l 0)] (w.alloc (.cells #[.int .i64 0, .bool true, .int .i64 0, .string ⟨l.toArray⟩] 65))) := heap_alloc_new w _
  have B0 : Hid (Below w.heap.size w (w.alloc (.cells #[.int .i64 0, .bool true, .int .i64 0, .string ⟨l.toArray⟩] 65))) := (Below.refl _ w).alloc (Nat.le_refl _) _
  go_enter Tryd.func11, Tryd.ntmps11
  go_wp2
  go_loopw [7] (fun i wr => ∃ k : Nat, k ≤ 4 ∧ i = .int .i64 k ∧ IsAt w.heap.size 65 #[lacks 4294967295, .bool true, .int .i64 ((pre l k : Nat) : Int), .string (leftB l k)] wr ∧ Below w.heap.size w wr) (fun i _ => 4 - (intOf i).toNat)
  case atStart => exact ⟨0, by omega, rfl, H0.out, B0.out⟩
  case round =>
    obtain ⟨k, hk, rfl, h1, h2⟩ := hrel
    have H1 : Hid (IsAt w.heap.size 65 #[lacks 4294967295, .bool true, .int .i64 ((pre l k : Nat) : Int), .string (leftB l k)] wr) := h1
    have H2 : Hid (Below w.heap.size w wr) := h2
    clear h1 h2 H0 B0
    by_cases hlt : k < 4
    · have hp : pre l k < 4294967296 := pre_lt l k hlt
      go_wp2_with (go_at_call 29; refine (shift_at w.heap.size l _ _ k _ H1.out hp hl).mono ?_; rintro e w' ⟨rfl, h3, h4⟩)
      have H3 := h3
      refine ⟨⟨k + 1, by omega, by go_num, h3, H2.out.trans (h4.below (Nat.le_refl _) H2.out.size)⟩, by simp [intOf]; omega⟩
    · obtain rfl : k = 4 := by omega
      go_wp2
      go_ret
      exact ⟨rfl, H1.out, H2.out⟩
end Go.Proofs.YtdfpmhdgebajfaaDoor
