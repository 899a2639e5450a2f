/-
  The chapter's example, and a block (awake).
-/
import Derived.Test.YtjeglfhdgabdoaaDoorWH
namespace Go.Proofs.YtjeglfhdgabdoaaDoor
open Go.ChangeShapes Go.WideShapes Go.ChangeAt Go.RowKit
set_option linter.unusedVariables false

theorem fold_zero (k : Nat) : foldF 8 (fun _ => 0) k = 0 := by
  unfold foldF headI tailI
  simp only [Int.mul_zero]
  split
  · rfl
  · split <;> rfl
def oneX : Nat → Int := upd (fun _ => 0) 8 32768
theorem fold_one : foldF 8 oneX 4 = 32764 := by decide
theorem fit_zero : Fit24 (fun _ => 0) 16 := fun i _ => by
  show (-16777216 : Int) ≤ 0 ∧ (0 : Int) ≤ 16777216
  omega
theorem fit_one : Fit24 oneX 16 := fun i _ => by
  unfold oneX upd
  split
  · omega
  · show (-16777216 : Int) ≤ 0 ∧ (0 : Int) ≤ 16777216
    omega
theorem awake_any (w : World) (ht : STab w) : Calls Tryd.prog 6 #[] w fun e w' => e = .returned (.bool true) ∧ Below w.heap.size w w' := by
  have hmk : ∀ w, (Instr.makeSlice 22 (.int .i64 16) (.int .i64 16)).run Tryd.prog w = .ok (.slice (some ⟨w.heap.size, 0, none⟩) 16 16) (w.alloc (.cells (rowA 16 (fun _ => 0)) 3)) := make_ints (n := 16) (by omega)
  have hmk8 : ∀ w, (Instr.makeSlice 22 (.int .i64 8) (.int .i64 8)).run Tryd.prog w = .ok (.slice (some ⟨w.heap.size, 0, none⟩) 8 8) (w.alloc (.cells (rowA 8 (fun _ => 0)) 3)) := make_ints (n := 8) (by omega)
  have hx : RowAt w.heap.size 16 (fun _ => 0) (w.alloc (.cells (rowA 16 (fun _ => 0)) 3)) := al_new w _
  have HX : Hid (RowAt w.heap.size 16 (fun _ => 0) (w.alloc (.cells (rowA 16 (fun _ => 0)) 3)) ∧ Below w.heap.size w (w.alloc (.cells (rowA 16 (fun _ => 0)) 3))) := ⟨hx, (Below.refl _ w).alloc (Nat.le_refl _) _⟩
  have HS := hid ht
  clear hx ht
  go_enter Tryd.func6, Tryd.ntmps6
  go_wp2_with (fail)
  generalize w.alloc (.cells (rowA 16 (fun _ => 0)) 3) = W0 at HX ⊢
  obtain ⟨B, hB⟩ : ∃ B, B = w.heap.size := ⟨_, rfl⟩
  have HX' : Hid (RowAt w.heap.size 16 (fun _ => 0) W0 ∧ Below B w W0) := by rw [hB]; exact HX
  clear HX
  have HX := HX'
  clear HX'
  have HB := hid hB
  have HBr := hid (show B ≤ w.heap.size by omega)
  clear hB
  generalize hr : w.heap.size = r at HX HBr ⊢
  have HR := hid hr
  clear hr hmk
  have HS1 : Hid (∀ W, Below B w W → STab W) := fun W hW => HS.out.frame hW (by rw [HB.out]; exact HS.out.lt)
  clear HS
  refine (fold_yes 8 16 (.inl rfl) rfl _ _ (fun _ => 0) fit_zero W0 (HS1.out _ HX.out.2) (HX.out.1.ints (by decide))).mono ?_
  rintro e w2 ⟨ra, rfl, a1, a2, a3⟩
  have HA := hid (a1.congr (Y := fun _ => 0) fun i _ => fold_zero i)
  have H2 : Hid (RowAt r 16 (fun _ => 0) w2 ∧ Below B w w2) := ⟨HX.out.1.below a2, HX.out.2.trans (a2.mono (Nat.le_trans HBr.out (Nat.le_of_lt HX.out.1.lt)))⟩
  have hne : r ≠ ra := by have := HX.out.1.lt; omega
  clear a1 a2 a3 HX
  have hc8 := H2.out.1.get (j := 8) (by omega)
  have hf8 := IsAt.frozen H2.out.1 8
  have H3 : Hid (RowAt r 16 oneX (w2.setCell ⟨r, 8, none⟩ (.int .i64 32768)) ∧ Below B w (w2.setCell ⟨r, 8, none⟩ (.int .i64 32768)) ∧ RowAt ra 8 (fun _ => 0) (w2.setCell ⟨r, 8, none⟩ (.int .i64 32768))) :=
    ⟨H2.out.1.set (by omega) _, H2.out.2.setCell (show B ≤ (Addr.mk r 8 none).block from HBr.out) _, IsAt.other HA.out (fun e => hne e.symm) _⟩
  clear H2 HA hne
  go_wp2_with (fail)
  clear hc8 hf8
  generalize w2.setCell ⟨r, 8, none⟩ (.int .i64 32768) = W3 at H3 ⊢
  refine (fold_yes 8 16 (.inl rfl) rfl _ _ oneX fit_one W3 (HS1.out _ H3.out.2.1) (H3.out.1.ints (by decide))).mono ?_
  rintro e w4 ⟨rb, rfl, b1, b2, b3⟩
  have HBW : B ≤ W3.heap.size := Nat.le_trans HBr.out (Nat.le_of_lt H3.out.1.lt)
  have hB4 : B ≤ w4.heap.size := Nat.le_trans HBW b2.size
  have H4 : Hid (RowAt rb 8 (foldF 8 oneX) w4 ∧ Below B w w4 ∧ RowAt ra 8 (fun _ => 0) w4) := ⟨b1, H3.out.2.1.trans (b2.mono HBW), H3.out.2.2.below b2⟩
  clear b1 b2 b3 H3 HBW
  have K1 := hid (same_yes (some ⟨ra, 0, none⟩) (some ⟨w4.heap.size, 0, none⟩) 8 8 8 (fun _ => 0) (by omega) (w4.alloc (.cells (rowA 8 (fun _ => 0)) 3))
    ((H4.out.2.2.ints (by decide)).below ((Below.refl _ w4).alloc (Nat.le_refl _) _)) (RowAt.ints (al_new w4 _) (by decide)))
  have HA4 := hid ((Below.refl _ w4).alloc (Nat.le_refl _) (.cells (rowA 8 (fun _ => 0)) 3))
  have hidx : ∀ w, (Instr.index 24 (arr8 wF) (.int .i64 7)).run Tryd.prog w = .ok (.int .i64 32764) w := fun w => arr8_index wF (k := 7) (by omega) w
  go_wp2_with (first
    | (go_at_call 8; (with_reducible refine K1.out.mono ?_); rintro e w5 ⟨rfl, hb5⟩
       have H5 := hid (below_then HA4.out hb5)
       have h4 : w5.cell? ⟨rb, 4, none⟩ = some (.int .i64 32764) := by
         have := (H4.out.1.below H5.out).get (j := 4) (by omega)
         rwa [fold_one] at this
       clear hb5)
    | (go_at_call 7; refine (slope_any _ (HS1.out _ (H4.out.2.1.trans (H5.out.mono hB4)))).mono ?_; rintro e w6 ⟨rfl, hb6⟩))
  go_ret
  refine ⟨rfl, ?_⟩
  rw [← HB.out]
  exact H4.out.2.1.trans ((below_then H5.out hb6).mono hB4)
end Go.Proofs.YtjeglfhdgabdoaaDoor
