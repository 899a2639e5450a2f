/-
  The contracts of octet.Reader.Num, and of the document's own reader.
-/
import Derived.Test.YtnjekkcfdcbimaaA
namespace Go.Proofs.Ytnjekkcfdcbimaa
open Go.ChangeShapes Go.WideShapes Go.ChangeAt Go.RowKit
set_option linter.unusedVariables false

/-- The number of octets, the highest first. -/
def beVal (l : List UInt8) : Nat := l.foldl (fun n o => n * 256 + o.toNat) 0
theorem beVal_snoc (l : List UInt8) (c : UInt8) : beVal (l ++ [c]) = beVal l * 256 + c.toNat := by simp [beVal]
theorem beVal_rev (l : List UInt8) : beVal l.reverse < 256 ^ l.length := by
  induction l with
  | nil => simp [beVal]
  | cons c l ih =>
    have := c.toNat_lt
    rw [List.reverse_cons, beVal_snoc, List.length_cons, Nat.pow_succ]
    omega
theorem beVal_lt (l : List UInt8) : beVal l < 256 ^ l.length := by
  have := beVal_rev l.reverse
  simpa using this
theorem take_snoc (s : ByteArray) (k : Nat) (h : k < s.size) : s.data.toList.take (k + 1) = s.data.toList.take k ++ [s.data.toList.getD k 0] := by
  rw [List.take_succ_eq_append_getElem (by simpa using h)]
  simp [List.getD, h]

theorem wrap64_id (n : Int) (h0 : 0 ≤ n) (h1 : n < 9223372036854775808) : wrap64 n = n := by unfold wrap64; omega
theorem or_i64 (a b : Nat) (ha : a < 9223372036854775808) (hb : b < 9223372036854775808) : bits .or .i64 (a : Int) (b : Int) = ((a ||| b : Nat) : Int) := by
  have hx : a ||| b < 2 ^ 63 := Nat.or_lt_two_pow (by omega) (by omega)
  have h1 : (BitVec.ofInt 64 (a : Int)).toNat = a := by
    rw [BitVec.ofInt_natCast, BitVec.toNat_ofNat]; exact Nat.mod_eq_of_lt (by omega)
  have h2 : (BitVec.ofInt 64 (b : Int)).toNat = b := by
    rw [BitVec.ofInt_natCast, BitVec.toNat_ofNat]; exact Nat.mod_eq_of_lt (by omega)
  show IntKind.i64.wrap ((BitVec.ofInt 64 (a : Int) ||| BitVec.ofInt 64 (b : Int)).toNat : Int) = _
  rw [BitVec.toNat_or, h1, h2]
  simp only [IntKind.wrap, IntKind.bits, IntKind.signed]
  generalize a ||| b = c at *
  simp
  omega
theorem or_step (a b : Nat) (ha : a < 281474976710656) (hb : b < 256) : bits .or .i64 (wrap64 ((a : Int) * 256)) (wrap64 (b : Int)) = ((a * 256 + b : Nat) : Int) := by
  rw [wrap64_id _ (by omega) (by omega), wrap64_id _ (by omega) (by omega)]
  have e : ((a : Int) * 256) = ((a * 256 : Nat) : Int) := by omega
  rw [e, or_i64 _ _ (by omega) (by omega)]
  have : a * 256 ||| b = a * 256 + b := by
    have h := Nat.shiftLeft_add_eq_or_of_lt (i := 8) (show b < 2 ^ 8 by omega) a
    rw [Nat.shiftLeft_eq, show (2 : Nat) ^ 8 = 256 from rfl] at h
    omega
  rw [this]

theorem num_of (p : Value) (k : Int) (t : ByteArray) (w : World) (hk : 1 ≤ k ∧ k ≤ 7) (ht : t.size ≤ 7) (Q : World → Prop)
    (hT : Calls Try.prog 14 #[p, .int .i64 k] w fun e w' => e = .returned (.string t) ∧ Q w') :
    Calls Try.prog 16 #[p, .int .i64 k] w fun e w' => e = .returned (.int .i64 (beVal t.data.toList)) ∧ ∃ w1, Q w1 ∧ w' = Lib.bytesWorld w1 5 t := by
  have hd : decide (1 ≤ k ∧ k ≤ 7) = true := by simp; omega
  have hcv := fun w : World => Lib.run_convert_string_bytes (P := Try.prog) w 9 57 5 t Try.underlying9 Try.underlying57 Try.underlying5
  have HT : Hid (Calls Try.prog 14 #[p, .int .i64 k] w fun e w' => e = .returned (.string t) ∧ Q w') := hT
  clear hT
  go_enter Try.func16, Try.ntmps16
  go_wp2_with (first
    | (go_at_call 23; refine (sized_any _ _).mono ?_; rintro e w' ⟨rfl, rfl⟩)
    | (go_at_call 14; refine HT.out.mono ?_; rintro e w1 ⟨rfl, hq⟩))
  have hc := fun j => Lib.bytesWorld_cell w1 5 t j
  have HQ : Hid (Q w1) := hq
  clear hq hcv
  go_loop [5, 18] (fun n i => ∃ j : Nat, j ≤ t.size ∧ i = .int .i64 j ∧ n = .int .i64 (beVal (t.data.toList.take j))) (fun _ i => t.size - (intOf i).toNat)
  case atStart => exact ⟨0, Nat.zero_le _, rfl, rfl⟩
  case round =>
    obtain ⟨j, hj, rfl, rfl⟩ := hrel
    by_cases hlt : j < t.size
    · have hcj := hc j hlt
      clear hc
      go_wp2
      refine ⟨⟨j + 1, by omega, by go_num, ?_⟩, by simp [intOf]; omega⟩
      have hb := beVal_lt (t.data.toList.take j)
      have hl : (t.data.toList.take j).length ≤ 6 := by simp; omega
      have hp : 256 ^ (t.data.toList.take j).length ≤ 256 ^ 6 := Nat.pow_le_pow_right (by omega) hl
      rw [take_snoc t j hlt, beVal_snoc]
      have hg : t.data[j] = t.data.toList.getD j 0 := by simp [List.getD, hlt]
      rw [hg, or_step _ _ (by omega) (UInt8.toNat_lt _)]
    · clear hc
      go_wp2
      go_ret
      have e : t.data.toList.take j = t.data.toList := List.take_of_length_le (by simp; omega)
      exact ⟨ret_int (by rw [e]), w1, HQ.out, rfl⟩
theorem below_bytes (w : World) (t : ByteArray) : Below w.heap.size w (Lib.bytesWorld w 5 t) :=
  ⟨rfl, rfl, rfl, by rw [Lib.bytesWorld_size]; omega, fun k hk => Lib.bytesWorld_at_old w 5 t k hk⟩
theorem num_nil (k : Int) (w : World) : Calls Try.prog 16 #[.pointer none, .int .i64 k] w fun e w' => e = .returned (.int .i64 0) ∧ Below w.heap.size w w' := by
  by_cases h : 1 ≤ k ∧ k ≤ 7
  · refine (num_of (.pointer none) k ⟨#[]⟩ w h (by decide) (fun w' => w' = w) (text_nil k w)).mono ?_
    rintro e w' ⟨rfl, w1, rfl, rfl⟩
    exact ⟨rfl, below_bytes _ _⟩
  · have hd : decide (1 ≤ k ∧ k ≤ 7) = false := by simp; omega
    go_enter Try.func16, Try.ntmps16
    go_wp2_with (first
      | (go_at_call 23; refine (sized_any _ _).mono ?_; rintro e w' ⟨rfl, rfl⟩)
      | (go_at_call 26; refine (spoil_nil _).mono ?_; rintro e w' ⟨rfl, rfl⟩))
    go_ret
    exact ⟨rfl, Below.refl _ _⟩

def numV (s : ByteArray) (st : Option Nat) (k : Int) : Int := if 1 ≤ k ∧ k ≤ 7 then beVal (txt s st k).data.toList else 0
def numN (s : ByteArray) (st : Option Nat) (k : Int) : Option Nat := if 1 ≤ k ∧ k ≤ 7 then nxt s st k else none
theorem txt_size (s : ByteArray) (st : Option Nat) (k : Int) (h1 : 1 ≤ k) (h2 : k ≤ 7) : (txt s st k).size ≤ 7 := by
  unfold txt
  split
  · decide
  · split
    · rw [ByteArray.size_extract]; omega
    · decide
theorem num_at (r : Nat) (s : ByteArray) (st : Option Nat) (k : Int) (w : World) (h : IsAt r 52 (rdCells s st) w) (hs : StOk s st) :
    Calls Try.prog 16 #[.pointer (some ⟨r, 0, none⟩), .int .i64 k] w fun e w' => e = .returned (.int .i64 (numV s st k)) ∧ IsAt r 52 (rdCells s (numN s st k)) w' ∧ But r w w' := by
  by_cases hk : 1 ≤ k ∧ k ≤ 7
  · refine (num_of _ k (txt s st k) w hk (txt_size s st k hk.1 hk.2) (fun w' => IsAt r 52 (rdCells s (nxt s st k)) w' ∧ But r w w') (text_at r s st k w h hs)).mono ?_
    rintro e w' ⟨rfl, w1, ⟨h1, h2⟩, rfl⟩
    refine ⟨by rw [numV, if_pos hk], ?_, h2.trans (But.of_below (below_bytes _ _))⟩
    rw [numN, if_pos hk]
    show (Lib.bytesWorld w1 5 (txt s st k)).heap[r]? = _
    rw [Lib.bytesWorld_at_old _ _ _ _ h1.lt]
    exact h1
  · have hd : decide (1 ≤ k ∧ k ≤ 7) = false := by simp; omega
    rw [numV, if_neg hk, numN, if_neg hk]
    go_enter Try.func16, Try.ntmps16
    go_wp2_with (first
      | (go_at_call 23; refine (sized_any _ _).mono ?_; rintro e w' ⟨rfl, rfl⟩)
      | (go_at_call 26; refine (spoil_at r s st _ h).mono ?_; rintro e w' ⟨rfl, hr, hb⟩))
    go_ret
    exact ⟨rfl, hr, hb⟩
theorem numN_ok {s : ByteArray} {st : Option Nat} (n : Int) (h : StOk s st) : StOk s (numN s st n) := by
  unfold numN
  split
  · exact nxt_ok n h
  · exact ⟨h.1, fun k hk => by cases hk⟩
end Go.Proofs.Ytnjekkcfdcbimaa
