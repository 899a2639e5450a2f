/-
  The contracts of crc.More and Sum over the landed text, of a table and of none; the example (awake).
-/
import Derived.Test.YtlggckfjhfbjkaaB
namespace Go.Proofs.Ytlggckfjhfbjkaa
open Go.ChangeShapes Go.WideShapes Go.ChangeAt Go.RowKit
set_option linter.unusedVariables false

theorem more_none (sum : Int) (s : ByteArray) (w : World) :
    Calls Try.prog 9 #[.pointer none, .int .u32 sum, .string s] w fun e w' => e = .returned (.int .u32 0) ∧ w' = w := by
  go_enter Try.func9, Try.ntmps9
  go_wp2
  go_ret
  exact ⟨rfl, rfl⟩
theorem sum_none (s : ByteArray) (w : World) :
    Calls Try.prog 11 #[.pointer none, .string s] w fun e w' => e = .returned (.int .u32 0) ∧ w' = w := by
  go_enter Try.func11, Try.ntmps11
  go_wp2_with (go_at_call 9; refine (more_none _ _ _).mono ?_; rintro e w' ⟨rfl, rfl⟩)
  go_ret
  exact ⟨rfl, rfl⟩
theorem byte_xor (n : Nat) (c : UInt8) : bits .xor .u8 ((n : Int) % 256) (c.toNat : Int) = ((n % 256 ^^^ c.toNat : Nat) : Int) := by
  have hc := u8_lt c
  rw [show ((n : Int) % 256) = ((n % 256 : Nat) : Int) by omega]
  exact xor_u8 _ _ (by omega) hc
theorem table_xor (n x : Nat) (hn : n < 4294967296) (hx : x < 4294967296) : bits .xor .u32 ((n : Int) / 256) (x : Int) = ((n / 256 ^^^ x : Nat) : Int) := by
  rw [show ((n : Int) / 256) = ((n / 256 : Nat) : Int) by omega]
  exact xor_u32 _ _ (by omega) hx
theorem more_any (r sum : Nat) (s : ByteArray) (w : World) (ht : Tab r w) (hs : s.size ≤ maxLen) (hn : sum < 4294967296) :
    Calls Try.prog 9 #[.pointer (some ⟨r, 0, none⟩), .int .u32 sum, .string s] w fun e w' => e = .returned (.int .u32 (more sum s.data.toList : Int)) ∧ ∃ n, w' = w.drewN n := by
  unfold maxLen at hs
  have HT : Hid (Tab r w) := ht
  clear ht
  go_enter Try.func9, Try.ntmps9
  go_wp2_with (rw [not_u32 sum hn])
  go_loopw [7, 15] (fun a i wr => ∃ k : Nat, k ≤ s.size ∧ i = .int .i64 k ∧ a = .int .u32 (run (neg sum) (s.data.toList.take k) : Int) ∧ ∃ n, wr = w.drewN n) (fun _ i _ => s.size - (intOf i).toNat)
  case atStart => exact ⟨0, by omega, rfl, rfl, 0, rfl⟩
  case round =>
    obtain ⟨k, hk, rfl, rfl, n, rfl⟩ := hrel
    have hl := run_lt (neg sum) (s.data.toList.take k) (neg_lt sum)
    by_cases hlt : k < s.size
    · have hts : Hid (run (neg sum) (s.data.toList.take (k + 1)) = stps 8 (run (neg sum) (s.data.toList.take k) ^^^ s[k].toNat)) := by
        show _ = _
        rw [take_snoc s k hlt, run_snoc]
      generalize run (neg sum) (s.data.toList.take k) = R at *
      have hb := byte_xor R s[k]
      have hi := byte_lt (R % 256) s[k].toNat (by omega) (u8_lt _)
      have hi' : ((R % 256 ^^^ s[k].toNat : Nat) : Int) < 256 := by omega
      have hc := HT.out.2 _ hi
      have hx := table_xor R _ hl (stps_lt 8 (R % 256 ^^^ s[k].toNat) (by omega))
      have HE : Hid (stps 8 (R ^^^ s[k].toNat) = R / 256 ^^^ stps 8 (R % 256 ^^^ s[k].toNat)) := comes R s[k].toNat
      go_wp2
      go_quiet (fail)
      go_wp2
      refine ⟨⟨k + 1, by omega, by go_num, ?_, ?_⟩, by simp [intOf]; omega⟩
      · rw [hts.out, HE.out]
      · exact ⟨n + nq, rfl⟩
    · go_wp2_with (rw [not_u32 _ hl])
      go_ret
      exact ⟨ret_int (by rw [List.take_of_length_le (by simp; omega)]; rfl), n, rfl⟩
theorem sum_any (r : Nat) (s : ByteArray) (w : World) (ht : Tab r w) (hs : s.size ≤ maxLen) :
    Calls Try.prog 11 #[.pointer (some ⟨r, 0, none⟩), .string s] w fun e w' => e = .returned (.int .u32 (more 0 s.data.toList : Int)) ∧ ∃ n, w' = w.drewN n := by
  go_enter Try.func11, Try.ntmps11
  go_wp2_with (go_at_call 9; refine (more_any r 0 s _ ht hs (by omega)).mono ?_; rintro e w' ⟨rfl, n, rfl⟩)
  go_ret
  exact ⟨rfl, n, rfl⟩
theorem example_sum : more 0 [49, 50, 51, 52, 53, 54, 55, 56, 57] = 3421780262 := by decide +kernel
theorem sum_example (r : Nat) (w : World) (ht : Tab r w) :
    Calls Try.prog 11 #[.pointer (some ⟨r, 0, none⟩), .string ⟨#[49, 50, 51, 52, 53, 54, 55, 56, 57]⟩] w fun e w' => e = .returned (.int .u32 3421780262) ∧ ∃ n, w' = w.drewN n := by
  have h := sum_any r ⟨#[49, 50, 51, 52, 53, 54, 55, 56, 57]⟩ w ht (by decide)
  exact h.mono fun e w' ⟨he, hw⟩ => ⟨by rw [he]; exact ret_int (congrArg Int.ofNat example_sum), hw⟩
theorem below_drewN {B : Nat} {a w : World} (h : Below B a w) (n : Nat) : Below B a (w.drewN n) := by
  induction n generalizing w with
  | zero => exact h
  | succ n ih => exact (ih h).drew
theorem awake_any (w : World) :
    Calls Try.prog 6 #[] w fun e w' => e = .returned (.bool true) ∧ Below w.heap.size w w' := by
  go_enter Try.func6, Try.ntmps6
  go_wp2_with (go_at_call 7; refine (make_any _).mono ?_; rintro e w1 ⟨rfl, ht, hb⟩)
  have HT : Hid (Tab w.heap.size w1) := ht
  have HB : Hid (Below w.heap.size w w1) := hb
  have hc := ht.2 1 (by omega)
  clear ht hb
  go_quiet (first
    | (go_at_call 11; exact Calls.quiet_of (sum_example w.heap.size _ (HT.out.drewN _)))
    | (go_at_call 8; exact Calls.quiet_of_same (Entry_any 1 (by omega) _)))
  go_wp2
  go_ret
  exact ⟨rfl, below_drewN HB.out nq⟩
end Go.Proofs.Ytlggckfjhfbjkaa
