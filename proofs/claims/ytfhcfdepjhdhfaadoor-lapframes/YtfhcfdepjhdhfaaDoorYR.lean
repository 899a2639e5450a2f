/-
  The program's Lay.
-/
import Derived.Test.YtfhcfdepjhdhfaaDoorYQ
namespace Go.Proofs.YtfhcfdepjhdhfaaDoor
open Go.ChangeShapes Go.WideShapes Go.ChangeAt Go.RowKit
set_option linter.unusedVariables false

theorem lay_yes (a : Option Addr) (cap : Nat) (Y : Nat → Nat → Int) (w : World) (h : IsLists w a 8 cap 8 Y) :
    Calls Tryd.prog 12 #[.slice a 8 cap] w (SPost 64 (layF Y) w) := by
  have hmk : ∀ w, (Instr.makeSlice 23 (.int .i64 64) (.int .i64 64)).run Tryd.prog w = .ok (.slice (some ⟨w.heap.size, 0, none⟩) 64 64) (w.alloc (.cells (rowA 64 (fun _ => 0)) 3)) := make_ints (n := 64) (by omega)
  obtain ⟨b0, off, rfl, hc0⟩ := h.get (by omega)
  have hb0 : b0 < w.heap.size := by
    obtain ⟨_, _, e, _⟩ := hc0 w (Below.refl _ _) 0 (by omega)
    exact block_lt_of_cell e
  have hc : ∀ i, i < 8 → ∃ rb ro ci, (∀ W, Below w.heap.size w W → W.cell? ⟨b0, off + i, none⟩ = some (.slice (some ⟨rb, ro, none⟩) 8 ci)) ∧ ∀ W, Below w.heap.size w W → ∀ k, k < 8 → W.cell? ⟨rb, ro + k, none⟩ = some (.int .i64 (Y i k)) := fun i hi => by
    obtain ⟨ai, ci, e, hI⟩ := hc0 w (Below.refl _ _) i hi
    obtain ⟨rb, ro, rfl, hrc⟩ := hI.cells (by omega)
    exact ⟨rb, ro, ci, fun W hW => by rw [hW.cell (p := ⟨b0, off + i, none⟩) hb0]; exact e, hrc⟩
  have HC := hid hc
  have hx : RowAt w.heap.size 64 (fun _ => 0) (w.alloc (.cells (rowA 64 (fun _ => 0)) 3)) := al_new w _
  have HX := hid (And.intro (hx.congr (fun i _ => laidF_none Y i)) ((Below.refl _ w).alloc (Nat.le_refl _) (.cells (rowA 64 (fun _ => 0)) 3)))
  clear hc hc0 hb0 h hx
  go_enter Tryd.func12, Tryd.ntmps12
  go_wp2
  generalize w.alloc (.cells (rowA 64 (fun _ => 0)) 3) = W0 at HX ⊢
  obtain ⟨B, hB⟩ : ∃ B, B = w.heap.size := ⟨_, rfl⟩
  have HX2 : Hid (RowAt w.heap.size 64 (laidF Y 0 0) W0 ∧ Below B w W0) := by rw [hB]; exact HX
  clear HX
  have HB := hid hB
  rw [← hB] at HC
  clear hB
  generalize hr : w.heap.size = r at HX2 ⊢
  have HR := hid hr
  clear hr
  go_loopw [14] (fun i wr => ∃ b : Nat, b ≤ 8 ∧ i = .int .i64 b ∧ Hid (RowAt r 64 (laidF Y b 0) wr) ∧ Hid (Below B w wr)) (fun i _ => 8 - (intOf i).toNat)
  case atStart => exact ⟨0, by omega, rfl, HX2.out.1, HX2.out.2⟩
  case round =>
    clear HX2
    obtain ⟨b, hb, rfl, HO, HW⟩ := hrel
    by_cases hlt : b < 8
    · obtain ⟨rb, ro, ci, D1, D2⟩ := HC.out b hlt
      have HD1 := hid D1
      have HD2 := hid D2
      have hcell := D1 _ HW.out
      clear D1 D2
      go_wp2
      clear hcell
      rename_i hh _ _
      clear hh
      go_loopw [24] (fun i wr => ∃ k : Nat, k ≤ 8 ∧ i = .int .i64 k ∧ Hid (RowAt r 64 (laidF Y b k) wr) ∧ Hid (Below B w wr)) (fun i _ => 8 - (intOf i).toNat)
      case atStart => exact ⟨0, by omega, rfl, HO, HW⟩
      case round =>
        clear HO HW
        obtain ⟨k, hk, rfl, HO, HW⟩ := hrel
        by_cases hlk : k < 8
        · have hcell := HD1.out _ HW.out
          have hck := HD2.out _ HW.out k hlk
          have hcr := HO.out.get (j := 8 * k + b) (by omega)
          have hfr := IsAt.frozen HO.out (8 * k + b)
          have hix : 8 * (k : Int) + (b : Int) = ((8 * k + b : Nat) : Int) := by omega
          have hi64 : 8 * k + b < 64 := by omega
          have HN := hid (And.intro ((RowAt.set HO.out (j := 8 * k + b) (by omega) (Y b k)).congr fun i _ => laidF_next Y hlt i) (HW.out.setCell (show B ≤ (Addr.mk r (8 * k + b) none).block by rw [HB.out, HR.out]; exact Nat.le_refl _) (.int .i64 (Y b k))))
          generalize Y b k = y at *
          have KP := hid (place_any b k (by omega) (by omega))
          generalize 8 * k + b = z at *
          go_wp2_with (go_at_call 35; (with_reducible refine (KP.out _).mono ?_); rintro e w1 ⟨rfl, rfl⟩)
          exact ⟨⟨k + 1, by omega, by go_num, HN.out.1, HN.out.2⟩, by simp [intOf]; omega⟩
        · obtain rfl : k = 8 := by omega
          have HO2 := hid (RowAt.congr HO.out (laidF_row Y b))
          clear HO
          go_wp2
          exact ⟨⟨b + 1, by omega, by go_num, HO2, HW⟩, by simp [intOf]; omega⟩
    · obtain rfl : b = 8 := by omega
      go_wp2
      go_ret
      refine ⟨r, rfl, by rw [← HR.out]; exact Nat.le_refl _, HO.out.congr (fun i _ => laidF_all Y i), ?_⟩
      rw [← HB.out]; exact HW.out
theorem lay_bad (a : Option Addr) (cap : Nat) (N : Nat → Nat) (Y : Nat → Nat → Int) (b1 : Nat) (hb1 : b1 < 8) (hN : N b1 ≠ 8) (hN1 : N b1 ≤ maxLen) (hNl : ∀ i, i < b1 → N i = 8) (w : World) (h : IsListsV w a 8 cap N Y) :
    Calls Tryd.prog 12 #[.slice a 8 cap] w fun e w' => e = .returned (.slice none 0 0) ∧ Below w.heap.size w w' := by
  have hmk : ∀ w, (Instr.makeSlice 23 (.int .i64 64) (.int .i64 64)).run Tryd.prog w = .ok (.slice (some ⟨w.heap.size, 0, none⟩) 64 64) (w.alloc (.cells (rowA 64 (fun _ => 0)) 3)) := make_ints (n := 64) (by omega)
  obtain ⟨b0, off, rfl, hb0, _, _, hc0⟩ : ∃ b off, a = some ⟨b, off, none⟩ ∧ b < w.heap.size ∧ 8 ≤ cap ∧ cap ≤ maxLen ∧ ∀ i, i < 8 → ∃ ai ci, w.cell? ⟨b, off + i, none⟩ = some (.slice ai (N i) ci) ∧ IsInts w ai (N i) ci (Y i) := by
    rcases h with h | h
    · omega
    · exact h
  have hc : ∀ i, i < b1 → ∃ rb ro ci, (∀ W, Below w.heap.size w W → W.cell? ⟨b0, off + i, none⟩ = some (.slice (some ⟨rb, ro, none⟩) 8 ci)) ∧ ∀ W, Below w.heap.size w W → ∀ k, k < 8 → W.cell? ⟨rb, ro + k, none⟩ = some (.int .i64 (Y i k)) := fun i hi => by
    obtain ⟨ai, ci, e, hI⟩ := hc0 i (by omega)
    rw [hNl i hi] at e hI
    obtain ⟨rb, ro, rfl, hrc⟩ := hI.cells (by omega)
    exact ⟨rb, ro, ci, fun W hW => by rw [hW.cell (p := ⟨b0, off + i, none⟩) hb0]; exact e, hrc⟩
  have hbad : ∃ ai ci, ∀ W, Below w.heap.size w W → W.cell? ⟨b0, off + b1, none⟩ = some (.slice ai (N b1) ci) := by
    obtain ⟨ai, ci, e, _⟩ := hc0 b1 hb1
    exact ⟨ai, ci, fun W hW => by rw [hW.cell (p := ⟨b0, off + b1, none⟩) hb0]; exact e⟩
  have HBD := hid hbad
  have hne : ((N b1 : Int) != 8) = true := by
    have : ((N b1 : Int) == 8) = false := by simp; omega
    rw [bne, this]; rfl
  have HC := hid hc
  have hx : RowAt w.heap.size 64 (fun _ => 0) (w.alloc (.cells (rowA 64 (fun _ => 0)) 3)) := al_new w _
  have HX := hid (And.intro (hx.congr (fun i _ => laidF_none Y i)) ((Below.refl _ w).alloc (Nat.le_refl _) (.cells (rowA 64 (fun _ => 0)) 3)))
  clear hc hc0 hb0 h hx hbad hNl
  go_enter Tryd.func12, Tryd.ntmps12
  go_wp2
  generalize w.alloc (.cells (rowA 64 (fun _ => 0)) 3) = W0 at HX ⊢
  obtain ⟨B, hB⟩ : ∃ B, B = w.heap.size := ⟨_, rfl⟩
  have HX2 : Hid (RowAt w.heap.size 64 (laidF Y 0 0) W0 ∧ Below B w W0) := by rw [hB]; exact HX
  clear HX
  have HB := hid hB
  rw [← hB] at HC HBD
  clear hB
  generalize hr : w.heap.size = r at HX2 ⊢
  have HR := hid hr
  clear hr
  go_loopw [14] (fun i wr => ∃ b : Nat, b ≤ b1 ∧ i = .int .i64 b ∧ Hid (RowAt r 64 (laidF Y b 0) wr) ∧ Hid (Below B w wr)) (fun i _ => 8 - (intOf i).toNat)
  case atStart => exact ⟨0, by omega, rfl, HX2.out.1, HX2.out.2⟩
  case round =>
    clear HX2
    obtain ⟨b, hb, rfl, HO, HW⟩ := hrel
    by_cases hlt : b < b1
    · obtain ⟨rb, ro, ci, D1, D2⟩ := HC.out b hlt
      have HD1 := hid D1
      have HD2 := hid D2
      have hcell := D1 _ HW.out
      clear D1 D2
      go_wp2
      clear hcell
      rename_i hh _ _
      clear hh
      go_loopw [24] (fun i wr => ∃ k : Nat, k ≤ 8 ∧ i = .int .i64 k ∧ Hid (RowAt r 64 (laidF Y b k) wr) ∧ Hid (Below B w wr)) (fun i _ => 8 - (intOf i).toNat)
      case atStart => exact ⟨0, by omega, rfl, HO, HW⟩
      case round =>
        clear HO HW
        obtain ⟨k, hk, rfl, HO, HW⟩ := hrel
        by_cases hlk : k < 8
        · have hcell := HD1.out _ HW.out
          have hck := HD2.out _ HW.out k hlk
          have hcr := HO.out.get (j := 8 * k + b) (by omega)
          have hfr := IsAt.frozen HO.out (8 * k + b)
          have hix : 8 * (k : Int) + (b : Int) = ((8 * k + b : Nat) : Int) := by omega
          have hi64 : 8 * k + b < 64 := by omega
          have HN := hid (And.intro ((RowAt.set HO.out (j := 8 * k + b) (by omega) (Y b k)).congr fun i _ => laidF_next Y (show b < 8 by omega) i) (HW.out.setCell (show B ≤ (Addr.mk r (8 * k + b) none).block by rw [HB.out, HR.out]; exact Nat.le_refl _) (.int .i64 (Y b k))))
          generalize Y b k = y at *
          have KP := hid (place_any b k (by omega) (by omega))
          generalize 8 * k + b = z at *
          go_wp2_with (go_at_call 35; (with_reducible refine (KP.out _).mono ?_); rintro e w1 ⟨rfl, rfl⟩)
          exact ⟨⟨k + 1, by omega, by go_num, HN.out.1, HN.out.2⟩, by simp [intOf]; omega⟩
        · obtain rfl : k = 8 := by omega
          have HO2 := hid (RowAt.congr HO.out (laidF_row Y b))
          clear HO
          go_wp2
          exact ⟨⟨b + 1, by omega, by go_num, HO2, HW⟩, by simp [intOf]; omega⟩
    · obtain rfl : b = b1 := by omega
      obtain ⟨ai, ci, hbc⟩ := HBD.out
      have hcell := hbc _ HW.out
      clear hbc HBD
      unfold maxLen at hN1
      generalize N b = nb at *
      go_wp2
      go_ret
      refine ⟨rfl, ?_⟩
      rw [← HB.out]; exact HW.out
theorem lay_no (a : Option Addr) (len cap : Nat) (hl : len ≤ maxLen) (h : len ≠ 8) (w : World) :
    Calls Tryd.prog 12 #[.slice a len cap] w fun e w' => e = .returned (.slice none 0 0) ∧ w' = w := by
  have h1' : ((len : Int) != 8) = true := by
    have : ((len : Int) == 8) = false := by simp; omega
    rw [bne, this]; rfl
  unfold maxLen at hl
  go_enter Tryd.func12, Tryd.ntmps12
  go_wp2
  go_ret
  exact ⟨rfl, rfl⟩
end Go.Proofs.YtfhcfdepjhdhfaaDoor
