/-
  The contracts of rc's told octets inside a Coder: text, tell, carry.
-/
import Derived.Test.YtdfpmhdgebajfaaDoorF
namespace Go.Proofs.YtdfpmhdgebajfaaDoor
open Go.ChangeShapes Go.WideShapes Go.ChangeAt Go.RowKit
set_option linter.unusedVariables false
set_option maxRecDepth 100000

/-- Block g (one from B on) is a Coder with these told octets. -/
abbrev ToAt (B g : Nat) (x0 x1 : Value) (set : List UInt8) (sm : Bool) (last : UInt8) (beh : Nat) (w : World) : Prop :=
  BuAt B g x0 x1 (.bool sm) (.int .u8 (last.toNat : Int)) (.int .i64 (beh : Int)) set w
theorem BuAt.cell {B g : Nat} {x0 x1 x4 x5 x6 : Value} {l : List UInt8} {w : World} (h : BuAt B g x0 x1 x4 x5 x6 l w) :
    w.cell? ⟨g, 0, none⟩ = some x0 ∧ w.cell? ⟨g, 1, none⟩ = some x1 ∧ w.cell? ⟨g, 4, none⟩ = some x4 ∧ w.cell? ⟨g, 5, none⟩ = some x5 ∧ w.cell? ⟨g, 6, none⟩ = some x6 := by
  obtain ⟨p, hp⟩ := h.form
  exact ⟨hp.cell 0, hp.cell 1, hp.cell 4, hp.cell 5, hp.cell 6⟩
theorem BuAt.frozen {B g : Nat} {x0 x1 x4 x5 x6 : Value} {l : List UInt8} {w : World} (h : BuAt B g x0 x1 x4 x5 x6 l w) (j : Nat) : w.frozen? ⟨g, j, none⟩ = false := by
  obtain ⟨p, hp⟩ := h.form
  exact hp.frozen j
theorem BuAt.drewN {B g : Nat} {x0 x1 x4 x5 x6 : Value} {l : List UInt8} {w : World} (h : BuAt B g x0 x1 x4 x5 x6 l w) (n : Nat) : BuAt B g x0 x1 x4 x5 x6 l (w.drewN n) :=
  h.below (below_drewN (Below.refl _ w) n)
theorem append_str (a b : List UInt8) : (⟨a.toArray⟩ ++ ⟨b.toArray⟩ : ByteArray) = ⟨(a ++ b).toArray⟩ := by
  apply ByteArray.ext
  rw [ByteArray.data_append]
  apply Array.ext'
  simp
theorem text_at (B g : Nat) (x0 x1 : Value) (set : List UInt8) (sm : Bool) (last : UInt8) (beh : Nat) (w : World) (h : ToAt B g x0 x1 set sm last beh w) (hB : B ≤ w.heap.size) (hl : set.length + beh ≤ 5000) :
    Calls Tryd.prog 28 #[.pointer (some ⟨g, 2, none⟩)] w fun e w' => e = .returned (.string ⟨(set ++ openL sm last beh).toArray⟩) ∧ ToAt B g x0 x1 set sm last beh w' ∧ Fr B w w' ∧ Cells w w' := by
  have H : Hid (ToAt B g x0 x1 set sm last beh w) := h
  have hlen : (openL sm last beh).length ≤ 5001 := by unfold openL; cases sm <;> simp; omega
  have hsz : ¬ 9223372036854775807 < set.length + (openL sm last beh).length := by omega
  clear h
  go_enter Tryd.func28, Tryd.ntmps28
  go_wp2_with (fail)
  refine (btext_at B g x0 x1 _ _ _ set _ H.out hB (by omega)).mono ?_
  rintro e w1 ⟨rfl, h1, f1, k1⟩
  have HK1 : Hid (Cells w w1) := k1
  clear k1
  have H1 : Hid (ToAt B g x0 x1 set sm last beh w1) := h1
  have F1 : Hid (Fr B w w1) := f1
  clear h1 f1
  obtain ⟨c0, c1, c4, c5, c6⟩ := H1.out.cell
  have hg := H1.out.lt
  go_wp2_with (fail)
  refine (open_at g sm last beh w1 c4 c5 c6 hg (by omega)).mono ?_
  rintro e w2 ⟨rfl, h2⟩
  have H2 : Hid (Below w1.heap.size w1 w2) := h2
  clear h2
  go_wp2
  go_ret
  exact ⟨ret_str (append_str _ _), H1.out.below H2.out, F1.out.trans (Fr.of_below H2.out (Nat.le_trans hB F1.out.below.size)), fun a v ha => by have := HK1.out a v ha; rw [H2.out.cell (p := a) (block_lt_of_cell this)]; exact this⟩
/-- tell of 255 behind others. -/
theorem tell_ff (B g : Nat) (x0 x1 : Value) (set : List UInt8) (last : UInt8) (beh : Nat) (w : World) (h : ToAt B g x0 x1 set true last beh w) (hl : beh ≤ 5000) :
    Calls Tryd.prog 59 #[.pointer (some ⟨g, 2, none⟩), .int .u8 255] w fun e w' => e = .returned (.tuple #[]) ∧ ToAt B g x0 x1 set true last (beh + 1) w' ∧ Fr B w w' := by
  obtain ⟨c0, c1, c4, c5, c6⟩ := h.cell
  have f6 := h.frozen 6
  have H : Hid (ToAt B g x0 x1 set true last beh w) := h
  clear h
  go_enter Tryd.func59, Tryd.ntmps59
  go_wp2
  (try simp only [Exit.inBlock, Exit.then])
  refine bodyPost_ret (results_none rfl _ _ _) rfl ?_
  exact ⟨rfl, H.out.set6 _, H.out.fr (Fr.refl B w) _ _⟩
/-- tell of the first octet. -/
theorem tell_first (B g : Nat) (x0 x1 : Value) (set : List UInt8) (last : UInt8) (beh : Nat) (o : UInt8) (w : World) (h : ToAt B g x0 x1 set false last beh w) :
    Calls Tryd.prog 59 #[.pointer (some ⟨g, 2, none⟩), .int .u8 (o.toNat : Int)] w fun e w' => e = .returned (.tuple #[]) ∧ ToAt B g x0 x1 set true o 0 w' ∧ Fr B w w' := by
  obtain ⟨c0, c1, c4, c5, c6⟩ := h.cell
  have f4 := h.frozen 4
  have f5 := h.frozen 5
  have f6 := h.frozen 6
  have H : Hid (ToAt B g x0 x1 set false last beh w) := h
  clear h
  go_enter Tryd.func59, Tryd.ntmps59
  go_wp2
  go_end0
  have h1 := H.out.set4 (.bool true)
  have h2 := h1.set5 (.int .u8 (o.toNat : Int))
  exact ⟨rfl, h2.set6 _, h2.fr (h1.fr (H.out.fr (Fr.refl B w) _ _) _ _) _ _⟩
/-- tell of another octet behind others. -/
theorem tell_put (B g : Nat) (x0 x1 : Value) (set : List UInt8) (last : UInt8) (beh : Nat) (o : UInt8) (w : World) (h : ToAt B g x0 x1 set true last beh w) (ho : o ≠ 255) (hB : B ≤ w.heap.size) (hl : set.length + beh ≤ 4000) :
    Calls Tryd.prog 59 #[.pointer (some ⟨g, 2, none⟩), .int .u8 (o.toNat : Int)] w fun e w' => e = .returned (.tuple #[]) ∧ ToAt B g x0 x1 (set ++ openL true last beh) true o 0 w' ∧ Fr B w w' := by
  obtain ⟨c0, c1, c4, c5, c6⟩ := h.cell
  have hg := h.lt
  have hne : ((o.toNat : Int) == 255) = false := by
    have : o.toNat ≠ 255 := fun e => ho (UInt8.toNat_inj.1 (by rw [e]; rfl))
    simp
    omega
  have hlen : (openL true last beh).length = beh + 1 := by simp [openL]
  have HO : Hid (Calls Tryd.prog 50 #[.pointer (some ⟨g, 2, none⟩)] w.drew fun e w' => e = .returned (.string ⟨(openL true last beh).toArray⟩) ∧ Below w.drew.heap.size w.drew w') := open_at g true last beh w.drew c4 c5 c6 hg (by omega)
  have HP : Hid (∀ w2, Below w.drew.heap.size w.drew w2 → Calls Tryd.prog 67 #[.pointer (some ⟨g, 2, none⟩), .string ⟨(openL true last beh).toArray⟩] w2 fun e w' => e = .returned (.tuple #[]) ∧
      (w'.cell? ⟨g, 4, none⟩ = some (.bool true) ∧ w'.cell? ⟨g, 5, none⟩ = some (.int .u8 (last.toNat : Int)) ∧ w'.cell? ⟨g, 6, none⟩ = some (.int .i64 (beh : Int)) ∧ w'.frozen? ⟨g, 4, none⟩ = false ∧ w'.frozen? ⟨g, 5, none⟩ = false ∧ w'.frozen? ⟨g, 6, none⟩ = false) ∧
      ToAt B g x0 x1 (set ++ openL true last beh) true last beh w' ∧ Fr B w w') := by
    intro w2 h2
    have hd := (Below.drew (Below.refl w.heap.size w)).trans (h2.mono (Nat.le_refl _))
    refine (put_at B g x0 x1 _ _ _ set _ w2 (h.below hd) (by simp [openL]) (Nat.le_trans hB h2.size) (by show set.length + (openL true last beh).toArray.size ≤ _; simp [hlen]; omega)).mono ?_
    rintro e w3 ⟨rfl, h3, f3⟩
    obtain ⟨d0, d1, d4, d5, d6⟩ := h3.cell
    exact ⟨rfl, ⟨d4, d5, d6, h3.frozen 4, h3.frozen 5, h3.frozen 6⟩, h3, (Fr.of_below hd hB).trans f3⟩
  clear h
  go_enter Tryd.func59, Tryd.ntmps59
  go_wp2
  go_region_with (first
    | (go_at_call 50; refine HO.out.mono ?_; rintro e w2 ⟨rfl, h2⟩)
    | (go_at_call 67; refine (HP.out _ h2).mono ?_; rintro e w3 ⟨rfl, ⟨d4, d5, d6, f4, f5, f6⟩, h3, f3⟩))
  all_goals (
    have H3 : Hid (ToAt B g x0 x1 (set ++ openL true last beh) true last beh w3) := h3
    have F3 : Hid (Fr B w w3) := f3
    clear h3 f3
    go_wp2
    go_end0
    have k1 := H3.out.set4 (.bool true)
    have k2 := k1.set5 (.int .u8 (o.toNat : Int))
    exact ⟨rfl, k2.set6 _, k2.fr (k1.fr (H3.out.fr F3.out _ _) _ _) _ _⟩)
/-- carry, where no 255 stands behind. -/
theorem carry_zero (B g : Nat) (x0 x1 : Value) (set : List UInt8) (sm : Bool) (last : UInt8) (w : World) (h : ToAt B g x0 x1 set sm last 0 w) (hl : last ≠ 255) :
    Calls Tryd.prog 58 #[.pointer (some ⟨g, 2, none⟩)] w fun e w' => e = .returned (.tuple #[]) ∧ ToAt B g x0 x1 set sm (last + 1) 0 w' ∧ Fr B w w' := by
  obtain ⟨c0, c1, c4, c5, c6⟩ := h.cell
  have f5 := h.frozen 5
  have hs := uint8_succ last hl
  have hi : (last.toNat : Int) < 255 := by
    have : last.toNat ≠ 255 := fun e => hl (UInt8.toNat_inj.1 (by rw [e]; rfl))
    have := last.toNat_lt
    omega
  have H : Hid (ToAt B g x0 x1 set sm last 0 w) := h
  have HS : Hid ((last.toNat : Int) + 1 = ((last + 1).toNat : Int)) := by show _ = _; rw [hs]; rfl
  clear h hs
  go_enter Tryd.func58, Tryd.ntmps58
  go_wp2
  (try simp only [Exit.inBlock, Exit.then])
  refine bodyPost_ret (results_none rfl _ _ _) rfl ?_
  rw [HS.out]
  exact ⟨rfl, H.out.set5 _, H.out.fr (Fr.refl B w) _ _⟩
end Go.Proofs.YtdfpmhdgebajfaaDoor
