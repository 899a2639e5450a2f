/-
  The contracts of rc's told octets inside a Coder: open, text, tell, carry.
-/
import Derived.Test.YtdfpmhdgebajfaaDoorE
namespace Go.Proofs.YtdfpmhdgebajfaaDoor
open Go.ChangeShapes Go.WideShapes Go.ChangeAt Go.RowKit
set_option linter.unusedVariables false
set_option maxRecDepth 100000

/-- 'string([]byte{x})', the slice being known. -/
theorem conv_at (w : World) (r : Nat) (x : Int) (h : w.cell? ⟨r, 0, none⟩ = some (.int .u8 x)) :
    (convert 62 9 (.slice (some ⟨r, 0, none⟩) 1 1)).run Tryd.prog w = .ok (.string ⟨#[UInt8.ofNat x.toNat]⟩) w := by
  have h := run_convert_bytes_arg (P := Tryd.prog) w 62 5 Tryd.underlying62 Tryd.underlying5 r 0 1 1 [x] rfl (by
    intro i hi
    obtain rfl : i = 0 := by omega
    simpa using h) 9 Tryd.underlying9
  rw [h]
  rfl
theorem conv_one (w : World) (x : Int) :
    (convert 62 9 (.slice (some ⟨w.heap.size, 0, none⟩) 1 1)).run Tryd.prog (w.alloc (.cells #[.int .u8 x] 5)) = .ok (.string ⟨#[UInt8.ofNat x.toNat]⟩) (w.alloc (.cells #[.int .u8 x] 5)) :=
  conv_at _ _ _ (by go_simp)
theorem conv_oneD (w : World) (x : Int) :
    (convert 62 9 (.slice (some ⟨w.heap.size, 0, none⟩) 1 1)).run Tryd.prog (w.alloc (.cells #[.int .u8 x] 5)).drew = .ok (.string ⟨#[UInt8.ofNat x.toNat]⟩) (w.alloc (.cells #[.int .u8 x] 5)).drew :=
  conv_at _ _ _ (by go_simp)
/-- The octets that may still change. -/
def openL (sm : Bool) (last : UInt8) (beh : Nat) : List UInt8 := if sm then last :: List.replicate beh 255 else []
theorem ofNat_toNat_int (x : UInt8) : UInt8.ofNat ((x.toNat : Int)).toNat = x := by simp
/-- Repeat, with what the region asks of the world behind it. -/
theorem repeat_keep (x : UInt8) (k g : Nat) (v5 v6 : Value) (w : World) (hk : k ≤ 10000) (hg : g < w.heap.size) (h5 : w.cell? ⟨g, 5, none⟩ = some v5) (h6 : w.cell? ⟨g, 6, none⟩ = some v6) :
    Calls Tryd.prog 66 #[.string ⟨#[x]⟩, .int .i64 k] w fun e w' => e = .returned (.string ⟨(List.replicate k x).toArray⟩) ∧ w'.cell? ⟨g, 5, none⟩ = some v5 ∧ w'.cell? ⟨g, 6, none⟩ = some v6 ∧
      (∀ r y, w.cell? ⟨r, 0, none⟩ = some (.int .u8 y) → (convert 62 9 (.slice (some ⟨r, 0, none⟩) 1 1)).run Tryd.prog w' = .ok (.string ⟨#[UInt8.ofNat y.toNat]⟩) w') ∧ Below w.heap.size w w' := by
  refine (repeat_any x k w (by omega)).mono ?_
  rintro e w' ⟨rfl, hb⟩
  refine ⟨rfl, ?_, ?_, ?_, hb⟩
  · rw [hb.cell (p := ⟨g, 5, none⟩) hg, h5]
  · rw [hb.cell (p := ⟨g, 6, none⟩) hg, h6]
  · intro r y h
    refine conv_at w' r y ?_
    rw [hb.cell (p := ⟨r, 0, none⟩) (block_lt_of_cell h), h]
theorem open_str (last : UInt8) (beh : Nat) : (⟨#[last]⟩ ++ ⟨Array.replicate beh 255⟩ : ByteArray) = ⟨(openL true last beh).toArray⟩ := by
  apply ByteArray.ext
  rw [ByteArray.data_append]
  apply Array.ext'
  simp [openL]
theorem below_a {w w2 : World} {o : Obj} (h : Below (w.alloc o).drew.heap.size (w.alloc o).drew w2) : Below w.heap.size w w2 :=
  (((Below.refl _ w).alloc (Nat.le_refl _) o).drew).trans (h.mono (by simp))
theorem below_b {w w2 : World} {o : Obj} (h : Below w.drew.heap.size w.drew w2) : Below w.heap.size w (w2.alloc o) :=
  (((Below.refl _ w).drew).trans (h.mono (by simp))).alloc h.size o
set_option maxHeartbeats 4000000 in
theorem open_at (g : Nat) (sm : Bool) (last : UInt8) (beh : Nat) (w : World) (h4 : w.cell? ⟨g, 4, none⟩ = some (.bool sm)) (h5 : w.cell? ⟨g, 5, none⟩ = some (.int .u8 last.toNat)) (h6 : w.cell? ⟨g, 6, none⟩ = some (.int .i64 beh))
    (hg : g < w.heap.size) (hk : beh ≤ 10000) :
    Calls Tryd.prog 50 #[.pointer (some ⟨g, 2, none⟩)] w fun e w' => e = .returned (.string ⟨(openL sm last beh).toArray⟩) ∧ Below w.heap.size w w' := by
  cases sm with
  | false =>
    go_enter Tryd.func50, Tryd.ntmps50
    go_wp2
    go_ret
    exact ⟨rfl, Below.refl _ _⟩
  | true =>
    have hcv := conv_one
    have hcvD := conv_oneD
    have n5 := World.new_ne w ⟨g, 5, none⟩ h5
    have n6 := World.new_ne w ⟨g, 6, none⟩ h6
    have hsz : ¬ 9223372036854775807 < 1 + beh := by omega
    go_enter Tryd.func50, Tryd.ntmps50
    go_wp2
    go_region_with (first | (go_at_call 66; refine (repeat_keep 255 beh g (.int .u8 last.toNat) (.int .i64 beh) _ hk ?_ ?_ ?_).mono ?_; (first | (simp; omega) | omega); go_keep; go_keep; rintro e w2 ⟨rfl, d5, d6, hcv2, hb⟩))
    all_goals (go_wp2; go_ret; exact ⟨ret_str (open_str last beh), by first | exact below_a hb | exact below_b hb⟩)
end Go.Proofs.YtdfpmhdgebajfaaDoor
