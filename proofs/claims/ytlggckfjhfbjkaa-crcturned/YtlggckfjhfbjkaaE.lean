/-
  A row of octets in memory, one of them turned; which bits were turned.
-/
import Derived.Test.YtlggckfjhfbjkaaD
import Derived.Lib.ConvBytes
import Derived.BigRegion
namespace Go.Proofs.Ytlggckfjhfbjkaa
open Go.ChangeShapes Go.WideShapes Go.ChangeAt Go.RowKit
set_option linter.unusedVariables false

/-- Block r begins with the octets of l. -/
def Row (r : Nat) (l : List UInt8) (w : World) : Prop :=
  ∃ cs : Array Value, w.heap[r]? = some (.cells cs 5 (cs.size, cs.size + 1)) ∧ l.length ≤ cs.size ∧ ∀ i, i < l.length → cs[i]? = some (.int .u8 ((l.getD i 0).toNat : Int))
theorem Row.cell {r : Nat} {l : List UInt8} {w : World} (h : Row r l w) (i : Nat) (hi : i < l.length) : w.cell? ⟨r, i, none⟩ = some (.int .u8 ((l.getD i 0).toNat : Int)) := by
  obtain ⟨cs, h1, h2, h3⟩ := h
  simp only [World.cell?, h1]
  simpa using h3 i hi
theorem Row.frozen {r : Nat} {l : List UInt8} {w : World} (h : Row r l w) (i : Nat) (hi : i < l.length) : w.frozen? ⟨r, i, none⟩ = false := by
  obtain ⟨cs, h1, h2, h3⟩ := h
  simp [World.frozen?, h1]
  omega
theorem Row.set {r : Nat} {l : List UInt8} {w : World} (h : Row r l w) (i : Nat) (c : UInt8) : Row r (l.set i c) (w.setCell ⟨r, i, none⟩ (.int .u8 (c.toNat : Int))) := by
  obtain ⟨cs, h1, h2, h3⟩ := h
  refine ⟨cs.setIfInBounds i (.int .u8 (c.toNat : Int)), ?_, by simpa using h2, fun j hj => ?_⟩
  · simp [World.setCell, Array.getElem?_modify, h1]
  · rw [List.length_set] at hj
    rw [Array.getElem?_setIfInBounds]
    by_cases e : i = j
    · subst e
      simp [show i < cs.size by omega, hj]
    · rw [if_neg e, h3 j hj]
      simp [List.getD, e]
theorem Row.below {r B : Nat} {l : List UInt8} {w w' : World} (h : Row r l w) (hr : r < B) (hb : Below B w w') : Row r l w' := by
  obtain ⟨cs, h1, h2, h3⟩ := h
  exact ⟨cs, (hb.block r hr).trans h1, h2, h3⟩
theorem Row.new (w : World) (s : ByteArray) : Row w.heap.size s.data.toList (Lib.bytesWorld w 5 s) := by
  refine ⟨_, Lib.bytesWorld_at_new w 5 s, ?_, fun i hi => ?_⟩
  · simp [Lib.bytesCells]
  · have hi' : i < s.data.size := by simpa using hi
    have hi2 : i < s.size := hi'
    rw [Lib.bytesCells, Array.getElem?_append, if_pos (by simpa using hi2)]
    simp [List.getD, hi2]
theorem Row.conv {r : Nat} {l : List UInt8} {w : World} (h : Row r l w) (n c : Nat) (hn : l.length = n) :
    (convert 32 9 (.slice (some ⟨r, 0, none⟩) n c)).run Try.prog w = .ok (.string ⟨l.toArray⟩) w := by
  have h' := run_convert_bytes_arg (P := Try.prog) w 32 5 Try.underlying32 Try.underlying5 r 0 n c (l.map fun b => (b.toNat : Int)) (by simpa using hn) (by
    intro i hi
    rw [Nat.zero_add, h.cell i (by omega)]
    have hl : i < l.length := by omega
    simp [List.getD, hl]) 9 Try.underlying9
  rw [h']
  simp [strOfNums, Function.comp_def]
theorem bytes_below (w : World) (s : ByteArray) : Below w.heap.size w (Lib.bytesWorld w 5 s) := by
  refine ⟨rfl, rfl, rfl, by rw [Lib.bytesWorld_size]; omega, fun k hk => Lib.bytesWorld_at_old w 5 s k hk⟩
theorem conv_bytes (w : World) (s : ByteArray) : (convert 9 32 (.string s)).run Try.prog w = .ok (.slice (some ⟨w.heap.size, 0, none⟩) s.size (grownCap w s.size 0 5)) (Lib.bytesWorld w 5 s) :=
  Lib.run_convert_string_bytes w 9 32 5 s Try.underlying9 Try.underlying32 Try.underlying5

/-- Behind k bits: the octets, and how they differ from s. -/
def TurnTo (w : World) (s : ByteArray) (f bits k : Nat) (wr : World) : Prop :=
  ∃ l : List UInt8, l.length = s.size ∧ num l = num s.data.toList ^^^ 2 ^ f * (bits % 2 ^ k) ∧ Row w.heap.size l wr ∧ Below w.heap.size w wr
theorem TurnTo.start (w : World) (s : ByteArray) (f bits : Nat) : TurnTo w s f bits 0 (Lib.bytesWorld w 5 s) :=
  ⟨s.data.toList, by simp, by simp [Nat.mod_one], Row.new w s, bytes_below w s⟩
theorem TurnTo.skip {w wr : World} {s : ByteArray} {f bits k : Nat} (h : TurnTo w s f bits k wr) (hb : bits / 2 ^ k % 2 = 0) : TurnTo w s f bits (k + 1) wr := by
  obtain ⟨l, h1, h2, h3, h4⟩ := h
  refine ⟨l, h1, ?_, h3, h4⟩
  rw [h2, mod_succ, hb, Nat.mul_zero, Nat.zero_xor]
theorem TurnTo.turn {w wr : World} {s : ByteArray} {f bits k : Nat} (h : TurnTo w s f bits k wr) (hb : bits / 2 ^ k % 2 = 1) (q m : Nat) (hq : f + k = 8 * q + m) (hm : m < 8) (hql : q < s.size) :
    ∃ c : UInt8, wr.cell? ⟨w.heap.size, q, none⟩ = some (.int .u8 (c.toNat : Int)) ∧ wr.frozen? ⟨w.heap.size, q, none⟩ = false ∧
      TurnTo w s f bits (k + 1) (wr.setCell ⟨w.heap.size, q, none⟩ (.int .u8 ((c.toNat ^^^ 2 ^ m : Nat) : Int))) := by
  obtain ⟨l, h1, h2, h3, h4⟩ := h
  have hq' : q < l.length := by omega
  have hm2 : 2 ^ m < 256 := Nat.lt_of_lt_of_le (Nat.pow_lt_pow_right (by decide) hm) (Nat.le_refl _)
  have hmt : (UInt8.ofNat (2 ^ m)).toNat = 2 ^ m := by rw [UInt8.toNat_ofNat']; exact Nat.mod_eq_of_lt hm2
  refine ⟨l.getD q 0, h3.cell q hq', h3.frozen q hq', l.set q (l.getD q 0 ^^^ UInt8.ofNat (2 ^ m)), by simpa using h1, ?_, ?_, h4.setCell (Nat.le_refl _) _⟩
  · rw [num_set l q _ _ (by simp [List.getD, hq']), h2, hmt, mod_succ, hb, Nat.mul_one, pow_xor, ← Nat.pow_add, ← Nat.pow_add, hq, Nat.xor_assoc, Nat.xor_comm (2 ^ f * _)]
  · have := h3.set q (l.getD q 0 ^^^ UInt8.ofNat (2 ^ m))
    rw [UInt8.toNat_xor, hmt] at this
    exact this
/-- Was one of k bits turned? -/
def turnB (m k : Nat) : Bool := decide (m % 2 ^ k ≠ 0)
theorem turnB_zero (m : Nat) : turnB m 0 = false := by simp [turnB, Nat.mod_one]
theorem turnB_skip (m k : Nat) (h : m / 2 ^ k % 2 = 0) : turnB m (k + 1) = turnB m k := by
  unfold turnB
  rw [Nat.mod_pow_succ, h, Nat.mul_zero, Nat.add_zero]
theorem turnB_turn (m k : Nat) (h : m / 2 ^ k % 2 = 1) : turnB m (k + 1) = true := by
  have := Nat.two_pow_pos k
  unfold turnB
  rw [Nat.mod_pow_succ, h, Nat.mul_one, decide_eq_true_eq]
  omega
theorem bit_test (m k : Nat) (h : m < 4294967296) : bits .and .u32 ((m : Int) / 2 ^ k) 1 = ((m / 2 ^ k % 2 : Nat) : Int) := by
  have h' := and1_u32 (m / 2 ^ k) (Nat.lt_of_le_of_lt (Nat.div_le_self _ _) h)
  rw [← h']
  congr 1
theorem TurnTo.drew {w wr : World} {s : ByteArray} {f m k : Nat} (h : TurnTo w s f m k wr) : TurnTo w s f m k wr.drew := by
  obtain ⟨l, h1, h2, ⟨cs, g1, g2, g3⟩, h4⟩ := h
  exact ⟨l, h1, h2, ⟨cs, g1, g2, g3⟩, h4.drew⟩
theorem one_shl (c : UInt8) (r : Nat) (hr : r < 8) : bits .xor .u8 (c.toNat : Int) ((2 : Int) ^ r % 256) = ((c.toNat ^^^ 2 ^ r : Nat) : Int) := by
  have h : 2 ^ r < 256 := Nat.lt_of_lt_of_le (Nat.pow_lt_pow_right (by decide) hr) (Nat.le_refl _)
  obtain ⟨p, hp⟩ : ∃ p : Nat, p = 2 ^ r := ⟨_, rfl⟩
  have e : (2 : Int) ^ r = (p : Int) := by rw [hp, Int.natCast_pow]; rfl
  rw [e, ← hp]
  rw [← hp] at h
  rw [show ((p : Int) % 256) = p by omega]
  exact xor_u8 _ _ (u8_lt c) h
/-- At the end: the sums differ just where a bit was turned. -/
theorem TurnTo.sums {w wr : World} {s : ByteArray} {f m k : Nat} (h : TurnTo w s f m k wr) (hf : f ≤ 8 * s.size) (hm : m < 4294967296) :
    ∃ l : List UInt8, l.length = s.size ∧ Row w.heap.size l wr ∧ Below w.heap.size w wr ∧ (more 0 l = more 0 s.data.toList ↔ turnB m k = false) := by
  obtain ⟨l, h1, h2, h3, h4⟩ := h
  refine ⟨l, h1, h3, h4, ?_⟩
  rw [turned_sum s.data.toList l f (m % 2 ^ k) (by simpa using h1) (by simpa using hf) (Nat.lt_of_le_of_lt (Nat.mod_le _ _) hm) h2]
  unfold turnB
  rw [decide_eq_false_iff_not, Decidable.not_not]
end Go.Proofs.Ytlggckfjhfbjkaa
