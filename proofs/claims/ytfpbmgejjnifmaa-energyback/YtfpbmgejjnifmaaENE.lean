/-
  The program's Row.
-/
import Derived.Test.YtfpbmgejjnifmaaEND
namespace Go.Proofs.Ytfpbmgejjnifmaa
open Go.ChangeShapes Go.WideShapes Go.ChangeAt Go.RowKit
set_option linter.unusedVariables false

/-- A row, and that it is one. -/
def RPost (G : Nat → Int) (w : World) (e : Ending) (w' : World) : Prop := ∃ a cap, e = .returned (.tuple #[.slice a 13 cap, .bool true]) ∧ IsInts w' a 13 cap G ∧ Below w.heap.size w w' ∧ ∀ x, a = some x → w.heap.size ≤ x.block
def RNone (w : World) (e : Ending) (w' : World) : Prop := e = .returned (.tuple #[.slice none 0 0, .bool false]) ∧ Below w.heap.size w w'
/-- A sum that wraps round leads out of a row, as the sum does. -/
theorem sum_out {z d : Int} (h0 : 0 ≤ z) (h1 : z ≤ 23) (h2 : -9223372036854775808 ≤ d) (h3 : d ≤ 9223372036854775807) (h : ¬ (0 ≤ z + d ∧ z + d ≤ 23)) : outB (wrap64 (z + d)) = true := by
  unfold wrap64 outB
  simp
  omega
theorem sum_in {z d : Int} (h : 0 ≤ z + d ∧ z + d ≤ 23) : outB (z + d) = false := by
  simp [outB]; omega
set_option maxRecDepth 100000 in
theorem row_any (good : Bool) (m : Nat) (i : Bool) (a : Option Addr) (len cap : Nat) (P : Nat → Int) (ml : len ≤ maxLen) (hs : eSideB i len P = true) (a' : Option Addr) (cap' : Nat) (D : Nat → Int) (hD : ∀ b, b < 13 → -9223372036854775808 ≤ D b ∧ D b ≤ 9223372036854775807)
    (hm : ∀ b, b < m → 0 ≤ eRowF i P D b ∧ eRowF i P D b ≤ 23) (hg : if good then m = 13 else m < 13 ∧ ¬ (0 ≤ eRowF i P D m ∧ eRowF i P D m ≤ 23)) (w : World) (h : IsInts w a len cap P) (h' : IsInts w a' 13 cap' D) :
    Calls Try.prog 6 #[.bool i, .slice a len cap, .slice a' 13 cap'] w fun e w' => if good then RPost (eRowF i P D) w e w' else RNone w e w' := by
  obtain ⟨hp, ha⟩ := aside_of hs
  have hm13 : m ≤ 13 := by
    cases good with
    | true => simp at hg; omega
    | false => simp at hg; omega
  have K2 := hid (beside_any i a len cap P ml w h)
  rw [hs] at K2
  have hmk : ∀ w, (Instr.makeSlice 22 (.int .i64 13) (.int .i64 13)).run Try.prog w = .ok (.slice (some ⟨w.heap.size, 0, none⟩) 13 13) (w.alloc (.cells (rowA 13 (fun _ => 0)) 3)) := make_ints (n := 13) (by omega)
  have hb1 : Below w.heap.size w (w.alloc (.cells (rowA 13 (fun _ => 0)) 3)) := (Below.refl _ w).alloc (Nat.le_refl _) _
  have K3 := hid (expecting_any i a len cap P hp _ (h.below hb1))
  obtain ⟨cb, co, rfl, hcc⟩ := h'.cells (by omega)
  have HC := hid hcc
  have HI := hid h
  have HP := hid (And.intro hp ha)
  have HDB := hid hD
  have HM := hid hm
  have HG := hid hg
  have HK := hid (fun k (hk : k ≤ m) => last_bd ha (D := D) (k := k) (fun b hb => hm b (by omega)))
  clear h h' hs hD hp ha hm hg hb1 hcc
  go_enter Try.func6, Try.ntmps6
  go_wp2_with (fail)
  refine Calls.mono K2.out ?_
  rintro e w1 ⟨rfl, rfl⟩
  go_wp2_with (fail)
  refine Calls.mono K3.out ?_
  rintro e w2 ⟨rfl, he, hb2⟩
  obtain ⟨g, hg⟩ : ∃ g, g = (w1.alloc (.cells (rowA 13 (fun _ => 0)) 3)).heap.size := ⟨_, rfl⟩
  rw [← hg] at he ⊢
  have HS := hid (ES.start (eRowF i P D) hg he hb2)
  clear he hb2 hg K2 K3 hmk
  have hbw := fun W hW => HI.out.below (w' := W) hW
  go_wp2
  go_loopw [33] (fun k wr => ∃ n : Nat, n ≤ m ∧ k = .int .i64 n ∧ Hid (ES w1.heap.size w1.heap.size g i a len cap (eRowF i P D) (lastF i P D n) n w1 wr)) (fun k _ => 13 - (intOf k).toNat)
  case atStart => exact ⟨0, by omega, rfl, HS⟩
  case round =>
    clear HS
    obtain ⟨k, hk, rfl, HE⟩ := hrel
    by_cases hlt : k < 13
    · have hx := HC.out wr HE.out.bel k hlt
      have hqb := HK.out k hk
      have hdb := HDB.out k hlt
      have hlow := HE.out.lo
      have KE := hid (expected_any i a len cap P HP.out.1 HP.out.2 (lastF i P D k) hqb k hlt g wr (hbw wr HE.out.bel) HE.out.ex)
      have heb := exp_bd HP.out.2 hqb.1 hqb.2 hlt
      have HD := hid (show expL i P (lastF i P D k) k + D k = eRowF i P D k from rfl)
      have HN := hid (show eRowF i P D k = lastF i P D (k + 1) from rfl)
      generalize expL i P (lastF i P D k) k = z at KE heb HD
      generalize D k = x at hx hdb HD
      clear hqb
      by_cases hin : 0 ≤ z + x ∧ z + x ≤ 23
      · have hlm : k < m := by
          refine Decidable.byContradiction fun hno => ?_
          obtain rfl : k = m := by omega
          have hg := HG.out
          cases good with
          | true => simp at hg; omega
          | false => simp at hg; have := HD.out; omega
        have hob := sum_in hin
        have HO := hid (fun W => beyond_any (z + x) W)
        rw [hob] at HO
        have hx1 : x ≤ 23 := by omega
        have hx2 : -23 ≤ x := by omega
        clear hdb hob
        go_wp2_with (fail)
        refine Calls.mono KE.out ?_
        rintro e w3 ⟨rfl, hb3⟩
        have HE3 := hid (HE.out.tr hb3)
        have hcell := HE3.out.row.get hlt
        have hfro := HE3.out.row.frozen k
        have HE4 := hid (HE3.out.put hlt HD.out)
        have hcel4 : (w3.setCell ⟨w1.heap.size, k, none⟩ (.int .i64 (z + x))).cell? ⟨w1.heap.size, k, none⟩ = some (.int .i64 (z + x)) := by
          have := HE4.out.row.get hlt
          rw [this, tilF, if_pos (by omega), HD.out]
        clear hb3 HE KE HE3
        go_wp2_with (fail)
        refine Calls.mono (HO.out _) ?_
        rintro e w4 ⟨rfl, hw4⟩
        subst hw4
        go_wp2_with (fail)
        refine Calls.mono (keep_any (z + x) i a len cap _ g _ HE4.out.ex) ?_
        rintro e w5 ⟨rfl, hw5⟩
        have HE5 := hid (HE4.out.tell (z + x))
        rw [← hw5] at HE5
        replace HE5 : Hid (ES w1.heap.size w1.heap.size g i a len cap (eRowF i P D) (lastF i P D (k + 1)) (k + 1) w1 w5) := by
          have h5 := HE5.out
          rw [HD.out, HN.out] at h5
          exact h5
        clear HE4 hw5 hcell hcel4 hfro hx HO HN HD
        go_wp2
        exact ⟨⟨k + 1, by omega, by go_num, HE5⟩, by simp [intOf]; omega⟩
      · have hlm : k = m := by
          have h1 := HM.out k
          have h2 := HD.out
          omega
        have hgood : good = false := by
          have hg := HG.out
          cases good with
          | true => simp at hg; omega
          | false => rfl
        subst hgood
        subst hlm
        have hob := sum_out heb.1 heb.2 hdb.1 hdb.2 hin
        obtain ⟨v, hv⟩ : ∃ v, wrap64 (z + x) = v := ⟨_, rfl⟩
        rw [hv] at hob
        have HO := hid (fun W => beyond_any v W)
        rw [hob] at HO
        clear hob hin hdb
        go_wp2_with (fail)
        refine Calls.mono KE.out ?_
        rintro e w3 ⟨rfl, hb3⟩
        have HE3 := hid (HE.out.tr hb3)
        have hcell := HE3.out.row.get hlt
        have hfro := HE3.out.row.frozen k
        have hcel4 : (w3.setCell ⟨w1.heap.size, k, none⟩ (.int .i64 v)).cell? ⟨w1.heap.size, k, none⟩ = some (.int .i64 v) := by
          have h4 := HE3.out.row.set hlt v
          have := h4.get hlt
          rw [this, upd, if_pos rfl]
        have HB4 := hid (show Below w1.heap.size w1 (w3.setCell ⟨w1.heap.size, k, none⟩ (.int .i64 v)) from HE3.out.bel.setCell (p := ⟨w1.heap.size, k, none⟩) (Nat.le_refl _) _)
        clear hb3 HE KE HE3
        go_wp2_with (fail)
        refine Calls.mono (HO.out _) ?_
        rintro e w4 ⟨rfl, hw4⟩
        subst hw4
        clear hcell hcel4 hfro
        go_wp2
        go_ret2
        exact ⟨rfl, HB4.out⟩
    · obtain rfl : k = 13 := by omega
      have hgood : good = true := by
        have hg := HG.out
        cases good with
        | true => rfl
        | false => simp at hg; omega
      subst hgood
      go_wp2
      go_ret2
      have hr := HE.out.row
      exact ⟨_, _, rfl, (hr.congr (til_all _ 13)).ints (by decide), HE.out.bel, fun x hx => by cases hx; exact Nat.le_refl _⟩
theorem row_no (i : Bool) (a : Option Addr) (len cap : Nat) (P : Nat → Int) (ml : len ≤ maxLen) (a' : Option Addr) (len' cap' : Nat) (ml' : len' ≤ maxLen) (hn : len' ≠ 13 ∨ eSideB i len P = false) (w : World) (h : IsInts w a len cap P) :
    Calls Try.prog 6 #[.bool i, .slice a len cap, .slice a' len' cap'] w (RNone w) := by
  have HB0 := hid (Below.refl w.heap.size w)
  by_cases h13 : len' = 13
  · subst h13
    have hs : eSideB i len P = false := by
      rcases hn with h | h
      · exact absurd rfl h
      · exact h
    have K2 := hid (beside_any i a len cap P ml w h)
    rw [hs] at K2
    clear hn h
    go_enter Try.func6, Try.ntmps6
    go_wp2_with (fail)
    refine Calls.mono K2.out ?_
    rintro e w1 ⟨rfl, rfl⟩
    go_wp2
    go_ret2
    exact ⟨rfl, HB0.out⟩
  · have h1 : ((len' : Int) != 13) = true := by
      have : ((len' : Int) == 13) = false := by simp; omega
      rw [bne, this]; rfl
    unfold maxLen at ml'
    clear hn h
    go_enter Try.func6, Try.ntmps6
    go_wp2
    go_ret2
    exact ⟨rfl, HB0.out⟩
end Go.Proofs.Ytfpbmgejjnifmaa
