/-
  The contracts of the document's own reader (splicerref02).
-/
import Derived.Test.YtnjekkcfdcbimaaB
namespace Go.Proofs.Ytnjekkcfdcbimaa
open Go.ChangeShapes Go.WideShapes Go.ChangeAt Go.RowKit
set_option linter.unusedVariables false

/-- The cells of the document's reader, and its state as octet.Reader has it. -/
def qCells (s : ByteArray) (a : Nat) (b : Bool) : Array Value := #[.string s, .int .i64 a, .bool b]
def stOf (a : Nat) : Bool → Option Nat
  | true => none
  | false => some a

theorem qleft_at (q : Nat) (s : ByteArray) (a : Nat) (b : Bool) (w : World) (h : IsAt q 42 (qCells s a b) w) (hs : s.size ≤ 100000) (ha : a ≤ s.size) :
    Calls Try.prog 19 #[.pointer (some ⟨q, 0, none⟩)] w fun e w' => e = .returned (.int .i64 (leftF s (stOf a b))) ∧ ∃ n, w' = w.drewN n := by
  have c0 : w.cell? ⟨q, 0, none⟩ = some (.string s) := h.cell 0
  have c1 : w.cell? ⟨q, 1, none⟩ = some (.int .i64 a) := h.cell 1
  have c2 : w.cell? ⟨q, 2, none⟩ = some (.bool b) := h.cell 2
  clear h
  cases b with
  | true =>
    go_enter Try.func19, Try.ntmps19
    go_wp2
    go_ret
    exact ⟨rfl, 0, rfl⟩
  | false =>
    go_enter Try.func19, Try.ntmps19
    go_wp2
    go_quiet (fail)
    go_wp2
    go_ret
    exact ⟨rfl, _, rfl⟩
theorem qat_at (q : Nat) (s : ByteArray) (a : Nat) (b : Bool) (w : World) (h : IsAt q 42 (qCells s a b) w) :
    Calls Try.prog 21 #[.pointer (some ⟨q, 0, none⟩)] w fun e w' => e = .returned (.int .i64 (atF (stOf a b))) ∧ w' = w := by
  have c1 : w.cell? ⟨q, 1, none⟩ = some (.int .i64 a) := h.cell 1
  have c2 : w.cell? ⟨q, 2, none⟩ = some (.bool b) := h.cell 2
  clear h
  cases b with
  | true =>
    go_enter Try.func21, Try.ntmps21
    go_wp2
    go_ret
    exact ⟨rfl, rfl⟩
  | false =>
    go_enter Try.func21, Try.ntmps21
    go_wp2
    go_ret
    exact ⟨rfl, rfl⟩
/-- The document's reader stands at st of s behind the call, and no other old block has turned. -/
def QPost (q : Nat) (s : ByteArray) (st : Option Nat) (w w' : World) : Prop := ∃ a' b', IsAt q 42 (qCells s a' b') w' ∧ a' ≤ s.size ∧ stOf a' b' = st ∧ But q w w'
theorem QPost.mk {q : Nat} {s : ByteArray} {st : Option Nat} {w w' : World} (a : Nat) (b : Bool) (h : IsAt q 42 (qCells s a b) w') (h1 : a ≤ s.size) (h2 : stOf a b = st) (h3 : But q w w') : QPost q s st w w' := ⟨a, b, h, h1, h2, h3⟩
theorem QPost.from {q : Nat} {s : ByteArray} {st : Option Nat} {w w1 w' : World} (hb : But q w w1) (h : QPost q s st w1 w') : QPost q s st w w' := by
  obtain ⟨a, b, h1, h2, h3, h4⟩ := h
  exact ⟨a, b, h1, h2, h3, hb.trans h4⟩
theorem qtext_at (q : Nat) (s : ByteArray) (a : Nat) (b : Bool) (n : Int) (w : World) (h : IsAt q 42 (qCells s a b) w) (hs : s.size ≤ 100000) (ha : a ≤ s.size) :
    Calls Try.prog 15 #[.pointer (some ⟨q, 0, none⟩), .int .i64 n] w fun e w' => e = .returned (.string (txt s (stOf a b) n)) ∧
      QPost q s (nxt s (stOf a b) n) w w' := by
  have c0 : w.cell? ⟨q, 0, none⟩ = some (.string s) := h.cell 0
  have c1 : w.cell? ⟨q, 1, none⟩ = some (.int .i64 a) := h.cell 1
  have c2 : w.cell? ⟨q, 2, none⟩ = some (.bool b) := h.cell 2
  have f1 := h.frozen 1
  have f2 := h.frozen 2
  have H : Hid (IsAt q 42 (qCells s a b) w) := h
  clear h
  cases b with
  | true =>
    go_enter Try.func15, Try.ntmps15
    go_wp2
    go_quiet (fail)
    go_wp2
    go_ret
    refine ⟨rfl, QPost.mk a true ?_ ha rfl (((But.refl q _).drewN _).setCell 2 _)⟩
    have := (H.out.drewN nq).set 2 (.bool true)
    simpa [qCells] using this
  | false =>
    by_cases hn : 0 ≤ n
    · have g1 : decide (n < 0) = false := by simp; omega
      by_cases hm : n ≤ (s.size : Int) - a
      · have g2 : decide ((s.size : Int) - a < n) = false := by simp; omega
        obtain ⟨m, rfl⟩ := Int.eq_ofNat_of_zero_le hn
        have hf := fits_nat s a m (by omega)
        have hx : txt s (some a) (m : Int) = s.extract a (a + m) := by simp [txt, hf]
        have hy : nxt s (some a) (m : Int) = some (a + m) := by simp [nxt, hf]
        have hsl := slice_str s a m (by omega)
        simp only [stOf]
        rw [hx, hy]
        clear hx hy hf
        go_enter Try.func15, Try.ntmps15
        go_wp2
        go_quiet (fail)
        go_wp2
        go_quiet (fail)
        go_wp2
        go_ret
        refine ⟨rfl, QPost.mk (a + m) false ?_ (by omega) rfl ((((But.refl q _).drewN _).setCell 1 _).drewN _)⟩
        have hh : IsAt q 42 (qCells s (a + m) false) (w.setCell ⟨q, 1, none⟩ (.int .i64 ((a : Int) + m))) := by simpa [qCells] using H.out.set 1 (.int .i64 ((a : Int) + m))
        exact hh
      · have g2 : decide ((s.size : Int) - a < n) = true := by simp; omega
        have hf := fits_no s a n (by omega)
        have hx : txt s (some a) n = ⟨#[]⟩ := by simp [txt, hf]
        have hy : nxt s (some a) n = none := by simp [nxt, hf]
        simp only [stOf]
        rw [hx, hy]
        clear hx hy hf
        go_enter Try.func15, Try.ntmps15
        go_wp2
        go_quiet (fail)
        go_wp2
        go_ret
        refine ⟨rfl, QPost.mk a true ?_ ha rfl (((But.refl q _).drewN _).setCell 2 _)⟩
        have := (H.out.drewN nq).set 2 (.bool true)
        simpa [qCells] using this
    · have g1 : decide (n < 0) = true := by simp; omega
      have hf := fits_no s a n (by omega)
      have hx : txt s (some a) n = ⟨#[]⟩ := by simp [txt, hf]
      have hy : nxt s (some a) n = none := by simp [nxt, hf]
      simp only [stOf]
      rw [hx, hy]
      clear hx hy hf
      go_enter Try.func15, Try.ntmps15
      go_wp2
      go_quiet (fail)
      go_wp2
      go_ret
      refine ⟨rfl, QPost.mk a true ?_ ha rfl (((But.refl q _).drewN _).setCell 2 _)⟩
      have := (H.out.drewN nq).set 2 (.bool true)
      simpa [qCells] using this

theorem qnum_of (q : Nat) (k : Int) (t : ByteArray) (w : World) (hk : 1 ≤ k ∧ k ≤ 7) (ht : t.size ≤ 7) (Q : World → Prop)
    (hT : Calls Try.prog 15 #[.pointer (some ⟨q, 0, none⟩), .int .i64 k] w fun e w' => e = .returned (.string t) ∧ Q w') :
    Calls Try.prog 17 #[.pointer (some ⟨q, 0, none⟩), .int .i64 k] w fun e w' => e = .returned (.int .i64 (beVal t.data.toList)) ∧ Q w' := by
  obtain ⟨hk1, hk2⟩ := hk
  have HT : Hid (Calls Try.prog 15 #[.pointer (some ⟨q, 0, none⟩), .int .i64 k] w fun e w' => e = .returned (.string t) ∧ Q w') := hT
  clear hT
  go_enter Try.func17, Try.ntmps17
  go_wp2_with (go_at_call 15; refine HT.out.mono ?_; rintro e w1 ⟨rfl, hq⟩)
  have HQ : Hid (Q w1) := hq
  clear hq
  go_loop [6, 7] (fun n i => ∃ j : Nat, j ≤ t.size ∧ i = .int .i64 j ∧ n = .int .i64 (beVal (t.data.toList.take j))) (fun _ i => t.size - (intOf i).toNat)
  case atStart => exact ⟨0, Nat.zero_le _, rfl, rfl⟩
  case round =>
    obtain ⟨j, hj, rfl, rfl⟩ := hrel
    by_cases hlt : j < t.size
    · have hb := beVal_lt (t.data.toList.take j)
      have hl : (t.data.toList.take j).length ≤ 6 := by simp; omega
      have hp : 256 ^ (t.data.toList.take j).length ≤ 256 ^ 6 := Nat.pow_le_pow_right (by omega) hl
      have hv : beVal (t.data.toList.take j) < 281474976710656 := by omega
      clear hb hl hp
      go_wp2
      refine ⟨⟨j + 1, by omega, by go_num, ?_⟩, by simp [intOf]; omega⟩
      rw [take_snoc t j hlt, beVal_snoc]
      have hg : t[j] = t.data.toList.getD j 0 := by
        have : t[j] = t.data[j] := rfl
        rw [this]; simp [List.getD, hlt]
      rw [hg]
      have hc := UInt8.toNat_lt (t.data.toList.getD j 0)
      generalize t.data.toList.getD j 0 = c at *
      generalize beVal (t.data.toList.take j) = v at *
      rw [wrap64_id (c.toNat : Int) (by omega) (by omega), wrap64_id _ (by omega) (by omega)]
      exact congrArg (Value.int .i64) (by omega)
    · go_wp2
      go_ret
      have e : t.data.toList.take j = t.data.toList := List.take_of_length_le (by simp; omega)
      exact ⟨ret_int (by rw [e]), HQ.out⟩

theorem qnum_at (q : Nat) (s : ByteArray) (a : Nat) (b : Bool) (k : Int) (w : World) (h : IsAt q 42 (qCells s a b) w) (hs : s.size ≤ 100000) (ha : a ≤ s.size) :
    Calls Try.prog 17 #[.pointer (some ⟨q, 0, none⟩), .int .i64 k] w fun e w' => e = .returned (.int .i64 (numV s (stOf a b) k)) ∧
      QPost q s (numN s (stOf a b) k) w w' := by
  by_cases hk : 1 ≤ k ∧ k ≤ 7
  · rw [numV, if_pos hk, numN, if_pos hk]
    exact qnum_of q k (txt s (stOf a b) k) w hk (txt_size _ _ _ hk.1 hk.2) _ (qtext_at q s a b k w h hs ha)
  · rw [numV, if_neg hk, numN, if_neg hk]
    have c0 : w.cell? ⟨q, 0, none⟩ = some (.string s) := h.cell 0
    have c1 : w.cell? ⟨q, 1, none⟩ = some (.int .i64 a) := h.cell 1
    have c2 : w.cell? ⟨q, 2, none⟩ = some (.bool b) := h.cell 2
    have f2 := h.frozen 2
    have hh : IsAt q 42 (qCells s a true) (w.setCell ⟨q, 2, none⟩ (.bool true)) := by simpa [qCells] using h.set 2 (.bool true)
    have HT : Hid (Calls Try.prog 15 #[.pointer (some ⟨q, 0, none⟩), .int .i64 k] (w.setCell ⟨q, 2, none⟩ (.bool true)) fun e w' => e = .returned (.string ⟨#[]⟩) ∧
      QPost q s none (w.setCell ⟨q, 2, none⟩ (.bool true)) w') := qtext_at q s a true k _ hh hs ha
    have hb0 : But q w (w.setCell ⟨q, 2, none⟩ (.bool true)) := (But.refl q w).setCell 2 _
    clear h hh
    by_cases hk1 : k < 1
    all_goals
      go_enter Try.func17, Try.ntmps17
      go_wp2_with (go_at_call 15; refine HT.out.mono ?_; rintro e w1 ⟨rfl, h1⟩)
      have HQ : Hid (QPost q s none w w1) := QPost.from hb0 h1
      clear h1 c0 c1 c2 f2
      go_loop [6, 7] (fun n i => i = .int .i64 0 ∧ n = .int .i64 0) (fun _ i => 0)
      case atStart => exact ⟨rfl, rfl⟩
      case round =>
        obtain ⟨rfl, rfl⟩ := hrel
        go_wp2
        go_ret
        exact ⟨rfl, HQ.out⟩
end Go.Proofs.Ytnjekkcfdcbimaa
