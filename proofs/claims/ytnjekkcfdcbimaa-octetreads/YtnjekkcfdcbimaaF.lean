/-
  The contracts of octet.Writer.Num and of the document's own Num: the octets of a number.
-/
import Derived.Test.YtnjekkcfdcbimaaE
import Derived.Laws.BytesArg
import Derived.Deep.RegionWith
namespace Go.Proofs.Ytnjekkcfdcbimaa
open Go.ChangeShapes Go.WideShapes Go.ChangeAt Go.RowKit
set_option linter.unusedVariables false

/-- A number's k octets, the highest first. -/
def octs (n : Nat) : Nat → List UInt8
  | 0 => []
  | k + 1 => UInt8.ofNat (n / 256 ^ k) :: octs n k
theorem octs_length (n k : Nat) : (octs n k).length = k := by
  induction k with
  | zero => rfl
  | succ k ih => simp [octs, ih]
/-- What Num(n, k) writes. -/
def outF (n k : Int) : List UInt8 := if 1 ≤ k ∧ k ≤ 7 ∧ 0 ≤ n ∧ n < 2 ^ (8 * k).toNat then octs n.toNat k.toNat else []
theorem outF_len (n k : Int) : (outF n k).length ≤ 7 := by
  unfold outF
  split
  · rw [octs_length]; omega
  · simp
theorem pow_bd (k : Int) (h : k ≤ 7) : (1 : Int) ≤ 2 ^ (8 * k).toNat ∧ (2 : Int) ^ (8 * k).toNat ≤ 72057594037927936 := by
  have h : (8 * k).toNat ≤ 56 := by omega
  have a := Nat.pow_le_pow_right (n := 2) (by omega) h
  have b := Nat.one_le_two_pow (n := (8 * k).toNat)
  have e : ((2 ^ (8 * k).toNat : Nat) : Int) = (2 : Int) ^ (8 * k).toNat := by simp
  rw [← e]
  omega
theorem conv_one (w : World) (x : Int) :
    (convert 57 9 (.slice (some ⟨w.heap.size, 0, none⟩) 1 1)).run Try.prog (w.alloc (.cells #[.int .u8 x] 5)) = .ok (.string ⟨#[UInt8.ofNat x.toNat]⟩) (w.alloc (.cells #[.int .u8 x] 5)) := by
  have h := run_convert_bytes_arg (P := Try.prog) (w.alloc (.cells #[.int .u8 x] 5)) 57 5 Try.underlying57 Try.underlying5 w.heap.size 0 1 1 [x] rfl (by
    intro i hi
    obtain rfl : i = 0 := by omega
    go_simp) 9 Try.underlying9
  rw [h]
  rfl
theorem and_255 (a : Nat) (ha : a < 9223372036854775808) : bits .and .i64 (a : Int) 255 = ((a % 256 : Nat) : Int) := by
  have h1 : (BitVec.ofInt 64 (a : Int)).toNat = a := by
    rw [BitVec.ofInt_natCast, BitVec.toNat_ofNat]; exact Nat.mod_eq_of_lt (by omega)
  have h2 : (BitVec.ofInt 64 (255 : Int)).toNat = 255 := by decide
  have h3 : a &&& 255 = a % 256 := Nat.and_two_pow_sub_one_eq_mod a 8
  show IntKind.i64.wrap ((BitVec.ofInt 64 (a : Int) &&& BitVec.ofInt 64 (255 : Int)).toNat : Int) = _
  rw [BitVec.toNat_and, h1, h2, h3]
  simp only [IntKind.wrap, IntKind.bits, IntKind.signed]
  simp
  omega
theorem byte_of (n : Int) (j : Nat) (h0 : 0 ≤ n) (h1 : n ≤ 9223372036854775807) : UInt8.ofNat (bits BinOp.and IntKind.i64 (n / 2 ^ (8 * j)) 255 % 256).toNat = UInt8.ofNat (n.toNat / 256 ^ j) := by
  obtain ⟨m, rfl⟩ := Int.eq_ofNat_of_zero_le h0
  have e1 : ((m : Int) / 2 ^ (8 * j)) = ((m / 256 ^ j : Nat) : Int) := by
    have e : (256 : Nat) ^ j = 2 ^ (8 * j) := by rw [Nat.pow_mul]
    rw [e]
    simp
  have e2 : m / 256 ^ j ≤ m := Nat.div_le_self _ _
  rw [e1, and_255 _ (by omega)]
  simp only [Int.toNat_natCast]
  generalize m / 256 ^ j = c
  apply UInt8.toNat_inj.1
  simp
  omega
theorem byte_of2 (n : Int) (j : Nat) (h0 : 0 ≤ n) : n / 2 ^ (8 * j) % 256 = (UInt8.ofNat (n.toNat / 256 ^ j)).toNat := by
  obtain ⟨m, rfl⟩ := Int.eq_ofNat_of_zero_le h0
  have e1 : ((m : Int) / 2 ^ (8 * j)) = ((m / 256 ^ j : Nat) : Int) := by
    have e : (256 : Nat) ^ j = 2 ^ (8 * j) := by rw [Nat.pow_mul]
    rw [e]
    simp
  rw [e1, Int.toNat_natCast]
  generalize m / 256 ^ j = c
  simp
theorem cat_mk (l m : List UInt8) : (⟨l.toArray⟩ : ByteArray) ++ ⟨m.toArray⟩ = ⟨(l ++ m).toArray⟩ := by
  apply ByteArray.ext
  simp
theorem rnum_any (n k : Int) (w : World) (hn1 : -9223372036854775808 ≤ n) (hn2 : n ≤ 9223372036854775807) (hk1 : -9223372036854775808 ≤ k) (hk2 : k ≤ 9223372036854775807) :
    Calls Try.prog 10 #[.int .i64 n, .int .i64 k] w fun e w' => e = .returned (.string ⟨(outF n k).toArray⟩) ∧ Below w.heap.size w w' := by
  by_cases h1 : k < 1
  · have e : outF n k = [] := by rw [outF, if_neg (by omega)]
    rw [e]
    go_enter Try.func10, Try.ntmps10
    go_wp2
    go_ret
    exact ⟨rfl, Below.refl _ _⟩
  by_cases h2 : 7 < k
  · have e : outF n k = [] := by rw [outF, if_neg (by omega)]
    rw [e]
    go_enter Try.func10, Try.ntmps10
    go_wp2
    go_ret
    exact ⟨rfl, Below.refl _ _⟩
  by_cases h3 : n < 0
  · have e : outF n k = [] := by rw [outF, if_neg (by omega)]
    rw [e]
    go_enter Try.func10, Try.ntmps10
    go_wp2
    go_ret
    exact ⟨rfl, Below.refl _ _⟩
  obtain ⟨p1, p2⟩ := pow_bd k (by omega)
  by_cases h4 : 2 ^ (8 * k).toNat ≤ n
  · have e : outF n k = [] := by rw [outF, if_neg (by omega)]
    rw [e]
    go_enter Try.func10, Try.ntmps10
    go_wp2
    go_ret
    exact ⟨rfl, Below.refl _ _⟩
  have e : outF n k = octs n.toNat k.toNat := by rw [outF, if_pos (by omega)]
  rw [e]
  clear e
  go_enter Try.func10, Try.ntmps10
  go_wp2
  go_loopw [5, 6] (fun s i wr => ∃ j : Nat, (j : Int) ≤ k ∧ i = .int .i64 j ∧ s = .string ⟨(octs n.toNat j).toArray⟩ ∧ Below w.heap.size w wr) (fun _ i _ => k.toNat - (intOf i).toNat)
  case atStart => exact ⟨0, by omega, rfl, rfl, Below.refl _ _⟩
  case round =>
    obtain ⟨j, hj, rfl, rfl, hb⟩ := hrel
    have HB : Hid (Below w.heap.size w wr) := hb
    clear hb
    by_cases hlt : (j : Int) < k
    · obtain ⟨q1, q2⟩ := pow_bd j (by omega)
      have hcv := conv_one wr
      have hol : (octs n.toNat j).length ≤ 7 := by rw [octs_length]; omega
      go_wp2
      refine ⟨⟨j + 1, by omega, by go_num, ?_, HB.out.alloc HB.out.size _⟩, by simp [intOf]; omega⟩
      rw [byte_of n j h3 hn2]
      exact congrArg Value.string (cat_mk [_] _)
    · go_wp2
      go_ret
      obtain rfl : k.toNat = j := by omega
      exact ⟨rfl, HB.out⟩

theorem wnum_no (B g : Nat) (l : List UInt8) (n k : Int) (w : World) (h : WrAt B g l w) (hB : B ≤ w.heap.size) (hl : l.length + 7 ≤ 100000)
    (hn1 : -9223372036854775808 ≤ n) (hn2 : n ≤ 9223372036854775807) (hk1 : -9223372036854775808 ≤ k) (hk2 : k ≤ 9223372036854775807) (hno : ¬ (1 ≤ k ∧ k ≤ 7 ∧ 0 ≤ n ∧ n < 2 ^ (8 * k).toNat)) :
    Calls Try.prog 8 #[.pointer (some ⟨g, 0, none⟩), .int .i64 n, .int .i64 k] w fun e w' => e = .returned (.tuple #[]) ∧ w' = w := by
  by_cases h1 : 1 ≤ k ∧ k ≤ 7
  · have hd : decide (1 ≤ k ∧ k ≤ 7) = true := by simp; omega
    obtain ⟨p1, p2⟩ := pow_bd k (by omega)
    obtain ⟨hh1, hh2⟩ := h1
    by_cases h3 : n < 0
    · go_enter Try.func8, Try.ntmps8
      go_wp2_with (go_at_call 23; refine (sized_any _ _).mono ?_; rintro e w' ⟨rfl, rfl⟩)
      (try simp only [Exit.inBlock, Exit.then])
      refine bodyPost_ret (results_none rfl _ _ _) rfl ?_
      exact ⟨rfl, rfl⟩
    · have h4 : 2 ^ (8 * k).toNat ≤ n := by omega
      clear hno
      go_enter Try.func8, Try.ntmps8
      go_wp2_with (go_at_call 23; refine (sized_any _ _).mono ?_; rintro e w' ⟨rfl, rfl⟩)
      (try simp only [Exit.inBlock, Exit.then])
      refine bodyPost_ret (results_none rfl _ _ _) rfl ?_
      exact ⟨rfl, rfl⟩
  · have hd : decide (1 ≤ k ∧ k ≤ 7) = false := by simp; omega
    clear hno
    go_enter Try.func8, Try.ntmps8
    go_wp2_with (go_at_call 23; refine (sized_any _ _).mono ?_; rintro e w' ⟨rfl, rfl⟩)
    (try simp only [Exit.inBlock, Exit.then])
    refine bodyPost_ret (results_none rfl _ _ _) rfl ?_
    exact ⟨rfl, rfl⟩
/-- The array that Num lays: its cells are bytes, and those from k - j to k are the last j octets. -/
def ArrAt (w : World) (n : Nat) (d j : Nat) (wr : World) : Prop :=
  ∃ cs : Array Value, cs.size = 7 ∧ (∀ i, i < j → cs[d - j + i]? = some (.int .u8 ((octs n j).getD i 0).toNat)) ∧ IsAt w.heap.size 56 cs wr ∧ Below w.heap.size w wr
theorem ArrAt.step {w wr : World} {n d j : Nat} (h : ArrAt w n d j wr) (hj : j < d) (hd : d ≤ 7) (x : Int) (hx : x = (UInt8.ofNat (n / 256 ^ j)).toNat) :
    ArrAt w n d (j + 1) (wr.setCell ⟨w.heap.size, d - 1 - j, none⟩ (.int .u8 x)) := by
  obtain ⟨cs, h1, h2, h3, h4⟩ := h
  refine ⟨cs.setIfInBounds (d - 1 - j) (.int .u8 x), by simp [h1], ?_, h3.set _ _, h4.setCell (p := ⟨w.heap.size, d - 1 - j, none⟩) (Nat.le_refl _) _⟩
  intro i hi
  cases i with
  | zero =>
    have e : d - (j + 1) + 0 = d - 1 - j := by omega
    have hlt : d - 1 - j < cs.size := by omega
    rw [e, Array.getElem?_setIfInBounds_self]
    simp [octs, hx, hlt]
  | succ i =>
    have e : d - (j + 1) + (i + 1) = d - j + i := by omega
    rw [e, Array.getElem?_setIfInBounds_ne (by omega), h2 i (by omega)]
    simp [octs]
theorem ArrAt.cell {w wr : World} {n d j i : Nat} (h : ArrAt w n d j wr) (hi : i < 7) : ∃ v, wr.cell? ⟨w.heap.size, i, none⟩ = some v ∧ wr.frozen? ⟨w.heap.size, i, none⟩ = false := by
  obtain ⟨cs, h1, h2, h3, h4⟩ := h
  refine ⟨cs[i], ?_, h3.frozen i⟩
  rw [h3.cell i]
  simp [h1, hi]
theorem ArrAt.conv {w wr : World} {n d : Nat} (h : ArrAt w n d d wr) (m c : Nat) :
    (convert 57 9 (.slice (some ⟨w.heap.size, 0, none⟩) d c)).run Try.prog (wr.drewN m) = .ok (.string ⟨(octs n d).toArray⟩) (wr.drewN m) := by
  obtain ⟨cs, h1, h2, h3, h4⟩ := h
  have h := run_convert_bytes_arg (P := Try.prog) (wr.drewN m) 57 5 Try.underlying57 Try.underlying5 w.heap.size 0 d c ((octs n d).map fun b => (b.toNat : Int)) (by simp [octs_length]) (by
    intro i hi
    have := h2 i hi
    rw [World.cell?_drewN, Nat.zero_add, h3.cell i]
    rw [show d - d + i = i by omega] at this
    rw [this]
    have hl : i < (octs n d).length := by rw [octs_length]; exact hi
    simp [List.getD, hl]) 9 Try.underlying9
  rw [h]
  simp [strOfNums, Function.comp_def]
theorem wnum_yes (B g : Nat) (l : List UInt8) (n k : Int) (w : World) (h : WrAt B g l w) (hB : B ≤ w.heap.size) (hl : l.length + 7 ≤ 100000)
    (hn2 : n ≤ 9223372036854775807) (h1 : 1 ≤ k) (h2 : k ≤ 7) (h3 : 0 ≤ n) (h4 : n < 2 ^ (8 * k).toNat) :
    Calls Try.prog 8 #[.pointer (some ⟨g, 0, none⟩), .int .i64 n, .int .i64 k] w fun e w' => e = .returned (.tuple #[]) ∧ WrAt B g (l ++ octs n.toNat k.toNat) w' ∧ Below B w w' := by
  have hd : decide (1 ≤ k ∧ k ≤ 7) = true := by simp; omega
  obtain ⟨p1, p2⟩ := pow_bd k (by omega)
  have H : Hid (WrAt B g l w) := h
  have g1 : decide (n < 0) = false := by simp; omega
  have g2 : decide (2 ^ (8 * k).toNat ≤ n) = false := by simp; omega
  clear h
  go_enter Try.func8, Try.ntmps8
  go_wp2_with (go_at_call 23; refine (sized_any _ _).mono ?_; rintro e w' ⟨rfl, he⟩; rw [he]; clear he w')
  go_loopw [27] (fun i wr => ∃ j : Nat, (j : Int) ≤ k ∧ i = .int .i64 j ∧ ArrAt w n.toNat k.toNat j wr) (fun i _ => k.toNat - (intOf i).toNat)
  case atStart => exact ⟨0, by omega, rfl, _, rfl, fun i hi => absurd hi (Nat.not_lt_zero i), heap_alloc_new w _, (Below.refl _ w).alloc (Nat.le_refl _) _⟩
  case round =>
    obtain ⟨j, hj, rfl, ha⟩ := hrel
    by_cases hlt : (j : Int) < k
    · obtain ⟨q1, q2⟩ := pow_bd j (by omega)
      obtain ⟨e, he⟩ : ∃ e : Nat, k - 1 - (j : Int) = e := ⟨(k - 1 - j).toNat, by omega⟩
      have he7 : e < 7 := by omega
      have he0 : (e : Int) < 7 := by omega
      obtain ⟨v, hc, hf⟩ := ha.cell he7
      have HA : Hid (ArrAt w n.toNat k.toNat j wr) := ha
      clear ha
      go_wp2
      refine ⟨⟨j + 1, by omega, by go_num, ?_⟩, by simp [intOf]; omega⟩
      obtain rfl : e = k.toNat - 1 - j := by omega
      exact HA.out.step (by omega) (by omega) _ (byte_of2 n j h3)
    · obtain ⟨d, rfl⟩ := Int.eq_ofNat_of_zero_le (show 0 ≤ k by omega)
      obtain rfl : j = d := by omega
      have HA : Hid (ArrAt w n.toNat j j wr) := ha
      have HW : Hid (WrAt B g l wr) := H.out.below (by obtain ⟨_, _, _, _, h⟩ := ha; exact h)
      have HB : Hid (Below B w wr) := Below.mono (by obtain ⟨_, _, _, _, h⟩ := ha; exact h) hB
      have hcv : (convert 57 9 (.slice (some ⟨w.heap.size, 0, none⟩) j 7)).run Try.prog wr.drew = .ok (.string ⟨(octs n.toNat j).toArray⟩) wr.drew := HA.out.conv 1 7
      have hsz : B ≤ wr.heap.size := Nat.le_trans hB HB.out.size
      clear ha
      go_wp2
      go_region_with (first | (go_at_call 24; refine (put_at B g l ⟨(octs n.toNat j).toArray⟩ _ (by exact HW.out) (by exact hsz) (by simp [ByteArray.size, octs_length]; omega)).mono ?_; rintro e w2 ⟨rfl, hw2, hb2⟩))
      all_goals go_wp2
      go_end0
      exact ⟨rfl, hw2, HB.out.drew.trans hb2⟩

theorem wnum_at (B g : Nat) (l : List UInt8) (n k : Int) (w : World) (h : WrAt B g l w) (hB : B ≤ w.heap.size) (hl : l.length + 7 ≤ 100000)
    (hn1 : -9223372036854775808 ≤ n) (hn2 : n ≤ 9223372036854775807) (hk1 : -9223372036854775808 ≤ k) (hk2 : k ≤ 9223372036854775807) :
    Calls Try.prog 8 #[.pointer (some ⟨g, 0, none⟩), .int .i64 n, .int .i64 k] w fun e w' => e = .returned (.tuple #[]) ∧ WrAt B g (l ++ outF n k) w' ∧ Below B w w' := by
  by_cases hok : 1 ≤ k ∧ k ≤ 7 ∧ 0 ≤ n ∧ n < 2 ^ (8 * k).toNat
  · rw [outF, if_pos hok]
    exact wnum_yes B g l n k w h hB hl hn2 hok.1 hok.2.1 hok.2.2.1 hok.2.2.2
  · rw [outF, if_neg hok, List.append_nil]
    refine (wnum_no B g l n k w h hB hl hn1 hn2 hk1 hk2 hok).mono ?_
    rintro e w' ⟨rfl, rfl⟩
    exact ⟨rfl, h, Below.refl _ _⟩
end Go.Proofs.Ytnjekkcfdcbimaa
