/-
  The contract of told.carry, where octets 255 stand behind.
-/
import Derived.Test.YtdfpmhdgebajfaaDoorG
namespace Go.Proofs.YtdfpmhdgebajfaaDoor
open Go.ChangeShapes Go.WideShapes Go.ChangeAt Go.RowKit
set_option linter.unusedVariables false
set_option maxRecDepth 100000

theorem zeros_str (last : UInt8) (k : Nat) : (⟨#[last]⟩ ++ ⟨Array.replicate k 0⟩ : ByteArray) = ⟨(last :: List.replicate k 0).toArray⟩ := by
  apply ByteArray.ext
  rw [ByteArray.data_append]
  apply Array.ext'
  simp
theorem wrap_nat (k : Nat) (h : k ≤ 100000) : IntKind.i64.wrap (k : Int) = k := by
  simp [IntKind.wrap, IntKind.signed, IntKind.bits]
  omega
theorem below_a' {w w2 : World} {o : Obj} (h : Below (w.alloc o).drew.heap.size (w.alloc o).drew w2) : Below w.heap.size w w2 := below_a h
set_option maxHeartbeats 2000000 in
theorem carry_more (B g : Nat) (x0 x1 : Value) (set : List UInt8) (sm : Bool) (last : UInt8) (k : Nat) (w : World) (h : ToAt B g x0 x1 set sm last (k + 1) w) (hl : last ≠ 255) (hB : B ≤ w.heap.size) (hk : set.length + k ≤ 4000) :
    Calls Tryd.prog 58 #[.pointer (some ⟨g, 2, none⟩)] w fun e w' => e = .returned (.tuple #[]) ∧ ToAt B g x0 x1 (set ++ (last + 1) :: List.replicate k 0) sm 0 0 w' ∧ Fr B w w' := by
  obtain ⟨c0, c1, c4, c5, c6⟩ := h.cell
  have f5 := h.frozen 5
  have hs := uint8_succ last hl
  have hi : (last.toNat : Int) < 255 := by
    have : last.toNat ≠ 255 := fun e => hl (UInt8.toNat_inj.1 (by rw [e]; rfl))
    have := last.toNat_lt
    omega
  have H : Hid (ToAt B g x0 x1 set sm last (k + 1) w) := h
  have HS : Hid ((last.toNat : Int) + 1 = ((last + 1).toNat : Int)) := by show _ = _; rw [hs]; rfl
  have c6' : w.cell? ⟨g, 6, none⟩ = some (.int .i64 ((k : Int) + 1)) := c6
  have hd : ((k : Int) + 1 == 0) = false := by simp; omega
  have hsz : ¬ 9223372036854775807 < 1 + k := by omega
  have hwk : IntKind.i64.wrap (k : Int) = k := wrap_nat k (by omega)
  clear h hs c6
  go_enter Tryd.func58, Tryd.ntmps58
  go_wp2
  rw [HS.out]
  have K := H.out.set5 (.int .u8 ((last + 1).toNat : Int))
  have FK := H.out.fr (Fr.refl B w) 5 (.int .u8 ((last + 1).toNat : Int))
  have hBW : B ≤ (w.setCell ⟨g, 5, none⟩ (.int .u8 ((last + 1).toNat : Int))).heap.size := Nat.le_trans hB FK.below.size
  generalize hl1 : last + 1 = l1 at *
  generalize hW : w.setCell ⟨g, 5, none⟩ (.int .u8 (l1.toNat : Int)) = W at *
  clear hW H HS c0 c1 c4 c5 c6' f5 hi
  obtain ⟨c0, c1, c4, c5, c6⟩ := K.cell
  have c6' : W.cell? ⟨g, 6, none⟩ = some (.int .i64 ((k : Int) + 1)) := c6
  have hg := K.lt
  have n5 := World.new_ne W ⟨g, 5, none⟩ c5
  have n6 := World.new_ne W ⟨g, 6, none⟩ c6
  have HP : Hid (∀ w2, Below W.heap.size W w2 → Calls Tryd.prog 67 #[.pointer (some ⟨g, 2, none⟩), .string (⟨#[l1]⟩ ++ ⟨Array.replicate k 0⟩)] w2 fun e w' => e = .returned (.tuple #[]) ∧
      (w'.cell? ⟨g, 5, none⟩ = some (.int .u8 (l1.toNat : Int)) ∧ w'.cell? ⟨g, 6, none⟩ = some (.int .i64 ((k : Int) + 1)) ∧ w'.frozen? ⟨g, 5, none⟩ = false ∧ w'.frozen? ⟨g, 6, none⟩ = false) ∧
      ToAt B g x0 x1 (set ++ l1 :: List.replicate k 0) sm l1 (k + 1) w' ∧ Fr B w w') := by
    intro w2 h2
    rw [zeros_str]
    refine (put_at B g x0 x1 _ _ _ set _ w2 (K.below h2) (by simp) (Nat.le_trans hBW h2.size) (by show set.length + (l1 :: List.replicate k 0).toArray.size ≤ _; simp; omega)).mono ?_
    rintro e w3 ⟨rfl, h3, f3⟩
    obtain ⟨d0, d1, d4, d5, d6⟩ := h3.cell
    exact ⟨rfl, ⟨d5, d6, h3.frozen 5, h3.frozen 6⟩, h3, FK.trans ((Fr.of_below h2 hBW).trans f3)⟩
  have hcv := conv_one
  have hcvD := conv_oneD
  clear K FK c6
  refine wp_region_noPanic ?_
  refine wp_region_held_drew (S := fun w' => w'.cell? ⟨g, 5, none⟩ = some (.int .u8 (l1.toNat : Int)) ∧ w'.cell? ⟨g, 6, none⟩ = some (.int .i64 ((k : Int) + 1))) (by kernel_rfl) ⟨c5, c6'⟩ (fun hHeld => ?_)
  refine wpAnyH_take (i := 0) (v := ?_) rfl (by kernel_rfl) (by kernel_rfl) (by kernel_rfl) (fun _ _ _ h => h) (Or.inl ⟨by rfl, ?_⟩) hHeld ?_
  rotate_left
  · (intro wz hSw; obtain ⟨k5, k6⟩ := hSw; simp only [List.getElem_toArray, List.getElem_cons_zero]; go_simp; try (with_reducible rfl))
  simp only [List.getElem_toArray, List.getElem_cons_zero, Act.put, List.setIfInBounds_toArray, List.set_cons_zero, List.set_cons_succ]
  refine wpAnyH_take (i := 1) (v := ?_) rfl (by kernel_rfl) (by kernel_rfl) (by kernel_rfl) (fun _ _ _ h => h) (Or.inl ⟨by rfl, ?_⟩) hHeld ?_
  rotate_left
  · (intro wz hSw; obtain ⟨k5, k6⟩ := hSw; simp only [List.getElem_toArray, List.getElem_cons_zero, List.getElem_cons_succ]; go_simp; try (with_reducible rfl))
  simp only [List.getElem_toArray, List.getElem_cons_zero, List.getElem_cons_succ, Act.put, List.setIfInBounds_toArray, List.set_cons_zero, List.set_cons_succ]
  refine wpAnyH_take (i := 2) (v := ?_) rfl (by kernel_rfl) (by kernel_rfl) (by kernel_rfl) (fun _ _ _ h => h) (Or.inl ⟨by rfl, ?_⟩) hHeld ?_
  rotate_left
  · (intro wz hSw; obtain ⟨k5, k6⟩ := hSw; simp only [List.getElem_toArray, List.getElem_cons_zero, List.getElem_cons_succ]; go_simp; try (with_reducible rfl))
  simp only [List.getElem_toArray, List.getElem_cons_zero, List.getElem_cons_succ, Act.put, List.setIfInBounds_toArray, List.set_cons_zero, List.set_cons_succ]
  refine wpAnyH_take (i := 3) (v := ?_) rfl (by kernel_rfl) (by kernel_rfl) (by kernel_rfl) (fun _ _ _ h => h) (Or.inl ⟨by rfl, ?_⟩) hHeld ?_
  rotate_left
  · (intro wz hSw; obtain ⟨k5, k6⟩ := hSw; simp only [List.getElem_toArray, List.getElem_cons_zero, List.getElem_cons_succ]; go_simp; try (with_reducible rfl))
  simp only [List.getElem_toArray, List.getElem_cons_zero, List.getElem_cons_succ, Act.put, List.setIfInBounds_toArray, List.set_cons_zero, List.set_cons_succ]
  refine wpAnyH_take (i := 4) (v := ?_) rfl (by kernel_rfl) (by kernel_rfl) (by kernel_rfl) (fun _ _ _ h => h) (Or.inl ⟨by rfl, ?_⟩) hHeld ?_
  rotate_left
  · (intro wz hSw; obtain ⟨k5, k6⟩ := hSw; simp only [List.getElem_toArray, List.getElem_cons_zero, List.getElem_cons_succ]; go_simp; try (with_reducible rfl))
  simp only [List.getElem_toArray, List.getElem_cons_zero, List.getElem_cons_succ, Act.put, List.setIfInBounds_toArray, List.set_cons_zero, List.set_cons_succ]
  refine wpAnyH_take (i := 5) (v := ?_) rfl (by kernel_rfl) (by kernel_rfl) (by kernel_rfl) (fun _ _ _ h => h) (Or.inl ⟨by rfl, ?_⟩) hHeld ?_
  rotate_left
  · (intro wz hSw; obtain ⟨k5, k6⟩ := hSw; simp only [List.getElem_toArray, List.getElem_cons_zero, List.getElem_cons_succ]; go_simp; try (with_reducible rfl))
  simp only [List.getElem_toArray, List.getElem_cons_zero, List.getElem_cons_succ, Act.put, List.setIfInBounds_toArray, List.set_cons_zero, List.set_cons_succ]
  refine wpAnyH_take (i := 6) (v := ?_) rfl (by kernel_rfl) (by kernel_rfl) (by kernel_rfl) (fun _ _ _ h => h) (Or.inl ⟨by rfl, ?_⟩) hHeld ?_
  rotate_left
  · (intro wz hSw; obtain ⟨k5, k6⟩ := hSw; simp only [List.getElem_toArray, List.getElem_cons_zero, List.getElem_cons_succ]; go_simp; try (with_reducible rfl))
  simp only [List.getElem_toArray, List.getElem_cons_zero, List.getElem_cons_succ, Act.put, List.setIfInBounds_toArray, List.set_cons_zero, List.set_cons_succ]
  refine wpAnyH_take (i := 9) (v := ?_) rfl (by kernel_rfl) (by kernel_rfl) (by kernel_rfl) (fun _ _ _ h => h) (Or.inl ⟨by rfl, ?_⟩) hHeld ?_
  rotate_left
  · (intro wz hSw; obtain ⟨k5, k6⟩ := hSw; simp only [List.getElem_toArray, List.getElem_cons_zero, List.getElem_cons_succ]; go_simp; try (with_reducible rfl))
  simp only [List.getElem_toArray, List.getElem_cons_zero, List.getElem_cons_succ, Act.put, List.setIfInBounds_toArray, List.set_cons_zero, List.set_cons_succ]
  refine wpAnyH_take (i := 10) (v := ?_) rfl (by kernel_rfl) (by kernel_rfl) (by kernel_rfl) (fun _ _ _ h => h) (Or.inl ⟨by rfl, ?_⟩) hHeld ?_
  rotate_left
  · (intro wz hSw; obtain ⟨k5, k6⟩ := hSw; simp only [List.getElem_toArray, List.getElem_cons_zero, List.getElem_cons_succ]; go_simp; try (with_reducible rfl))
  simp only [List.getElem_toArray, List.getElem_cons_zero, List.getElem_cons_succ, Act.put, List.setIfInBounds_toArray, List.set_cons_zero, List.set_cons_succ]
  refine wpAnyH_take (i := 11) (v := ?_) rfl (by kernel_rfl) (by kernel_rfl) (by kernel_rfl) (fun _ _ _ h => h) (Or.inl ⟨by rfl, ?_⟩) hHeld ?_
  rotate_left
  · (intro wz hSw; obtain ⟨k5, k6⟩ := hSw; simp only [List.getElem_toArray, List.getElem_cons_zero, List.getElem_cons_succ]; go_simp; try (with_reducible rfl))
  simp only [List.getElem_toArray, List.getElem_cons_zero, List.getElem_cons_succ, Act.put, List.setIfInBounds_toArray, List.set_cons_zero, List.set_cons_succ]
  refine wpAnyH_take (i := 12) (v := ?_) rfl (by kernel_rfl) (by kernel_rfl) (by kernel_rfl) (fun _ _ _ h => h) (Or.inl ⟨by rfl, ?_⟩) hHeld ?_
  rotate_left
  · (intro wz hSw; obtain ⟨k5, k6⟩ := hSw; simp only [List.getElem_toArray, List.getElem_cons_zero, List.getElem_cons_succ]; go_simp; try (with_reducible rfl))
  simp only [List.getElem_toArray, List.getElem_cons_zero, List.getElem_cons_succ, Act.put, List.setIfInBounds_toArray, List.set_cons_zero, List.set_cons_succ]
  refine wpAnyH_take (i := 13) (v := ?_) rfl (by kernel_rfl) (by kernel_rfl) (by kernel_rfl) (fun _ _ _ h => h) (Or.inl ⟨by rfl, ?_⟩) hHeld ?_
  rotate_left
  · (intro wz hSw; obtain ⟨k5, k6⟩ := hSw; simp only [List.getElem_toArray, List.getElem_cons_zero, List.getElem_cons_succ]; go_simp; try (with_reducible rfl))
  simp only [List.getElem_toArray, List.getElem_cons_zero, List.getElem_cons_succ, Act.put, List.setIfInBounds_toArray, List.set_cons_zero, List.set_cons_succ]
  refine wpAnyH_ready (rs := [7, 14]) (by kernel_rfl) (by simp) ?_
  refine AllReadyH.cons rfl (fun K hK => ?_) ?_
  · simp only [List.getElem_toArray, List.getElem_cons_zero, List.getElem_cons_succ]
    go_simp
    refine hK.out _ _ (by go_keep) (fun hHeld => ?_)
    clear hK K
    refine wpAnyH_ready (rs := [8, 14]) (by kernel_rfl) (by simp) ?_
    refine AllReadyH.cons rfl (fun K hK => ?_) ?_
    · simp only [List.getElem_toArray, List.getElem_cons_zero, List.getElem_cons_succ]
      go_simp
      refine hK.out _ _ hHeld (fun hHeld => ?_)
      clear hK K
      refine wpAnyH_ready (rs := [14]) (by kernel_rfl) (by simp) ?_
      refine AllReadyH.cons rfl (fun K hK => ?_) AllReadyH.nil
      simp only [List.getElem_toArray, List.getElem_cons_zero, List.getElem_cons_succ]
      go_simp
      refine (repeat_keep 0 k g (.int .u8 l1.toNat) (.int .i64 ((k : Int) + 1)) _ (by omega) (by first | (simp; omega) | exact hg) hHeld.1 hHeld.2).mono ?_
      rintro e w2 ⟨rfl, d5, d6, hcv2, hb⟩
      refine hK.out _ _ ⟨d5, d6⟩ (fun hHeld => ?_)
      clear hK K
      refine wpAnyH_take (i := 15) (v := ?_) rfl (by kernel_rfl) (by kernel_rfl) (by kernel_rfl) (fun _ _ _ h => h) (Or.inl ⟨by rfl, ?_⟩) hHeld ?_
      rotate_left
      · (intro wz hSw; obtain ⟨k5, k6⟩ := hSw; simp only [List.getElem_toArray, List.getElem_cons_zero, List.getElem_cons_succ]; go_simp; try (with_reducible rfl))
      simp only [List.getElem_toArray, List.getElem_cons_zero, List.getElem_cons_succ, Act.put, List.setIfInBounds_toArray, List.set_cons_zero, List.set_cons_succ]
      refine wpAnyH_ready (rs := [16]) (by kernel_rfl) (by simp) ?_
      refine AllReadyH.cons rfl (fun K hK => ?_) AllReadyH.nil
      simp only [List.getElem_toArray, List.getElem_cons_zero, List.getElem_cons_succ]
      go_simp
      refine (HP.out _ (by first | exact below_a hb | exact below_b hb)).mono ?_
      rintro e w3 ⟨rfl, ⟨e5, e6, f5, f6⟩, h3, f3⟩
      refine hK.out _ _ ⟨e5, e6⟩ (fun hHeld => ?_)
      clear hK K
      refine wpAnyH_done (by kernel_rfl) ?_ _
      refine NoPanic.normal ?_
      have H3 : Hid (ToAt B g x0 x1 (set ++ l1 :: List.replicate k 0) sm l1 (k + 1) w3) := h3
      have F3 : Hid (Fr B w w3) := f3
      clear h3 f3 hHeld hcv hcvD hcv2 hb
      go_wp2
      go_end0
      have k1 := H3.out.set5 (.int .u8 0)
      exact ⟨rfl, k1.set6 _, k1.fr (H3.out.fr F3.out _ _) _ _⟩
    refine AllReadyH.cons rfl (fun K hK => ?_) AllReadyH.nil
    simp only [List.getElem_toArray, List.getElem_cons_zero, List.getElem_cons_succ]
    go_simp
    refine (repeat_keep 0 k g (.int .u8 l1.toNat) (.int .i64 ((k : Int) + 1)) _ (by omega) (by first | (simp; omega) | exact hg) hHeld.1 hHeld.2).mono ?_
    rintro e w2 ⟨rfl, d5, d6, hcv2, hb⟩
    refine hK.out _ _ ⟨d5, d6⟩ (fun hHeld => ?_)
    clear hK K
    refine wpAnyH_ready (rs := [8]) (by kernel_rfl) (by simp) ?_
    refine AllReadyH.cons rfl (fun K hK => ?_) AllReadyH.nil
    simp only [List.getElem_toArray, List.getElem_cons_zero, List.getElem_cons_succ]
    go_simp
    refine hK.out _ _ hHeld (fun hHeld => ?_)
    clear hK K
    refine wpAnyH_take (i := 15) (v := ?_) rfl (by kernel_rfl) (by kernel_rfl) (by kernel_rfl) (fun _ _ _ h => h) (Or.inl ⟨by rfl, ?_⟩) hHeld ?_
    rotate_left
    · (intro wz hSw; obtain ⟨k5, k6⟩ := hSw; simp only [List.getElem_toArray, List.getElem_cons_zero, List.getElem_cons_succ]; go_simp; try (with_reducible rfl))
    simp only [List.getElem_toArray, List.getElem_cons_zero, List.getElem_cons_succ, Act.put, List.setIfInBounds_toArray, List.set_cons_zero, List.set_cons_succ]
    refine wpAnyH_ready (rs := [16]) (by kernel_rfl) (by simp) ?_
    refine AllReadyH.cons rfl (fun K hK => ?_) AllReadyH.nil
    simp only [List.getElem_toArray, List.getElem_cons_zero, List.getElem_cons_succ]
    go_simp
    refine (HP.out _ (by first | exact below_a hb | exact below_b hb)).mono ?_
    rintro e w3 ⟨rfl, ⟨e5, e6, f5, f6⟩, h3, f3⟩
    refine hK.out _ _ ⟨e5, e6⟩ (fun hHeld => ?_)
    clear hK K
    refine wpAnyH_done (by kernel_rfl) ?_ _
    refine NoPanic.normal ?_
    have H3 : Hid (ToAt B g x0 x1 (set ++ l1 :: List.replicate k 0) sm l1 (k + 1) w3) := h3
    have F3 : Hid (Fr B w w3) := f3
    clear h3 f3 hHeld hcv hcvD hcv2 hb
    go_wp2
    go_end0
    have k1 := H3.out.set5 (.int .u8 0)
    exact ⟨rfl, k1.set6 _, k1.fr (H3.out.fr F3.out _ _) _ _⟩
  refine AllReadyH.cons rfl (fun K hK => ?_) AllReadyH.nil
  simp only [List.getElem_toArray, List.getElem_cons_zero, List.getElem_cons_succ]
  go_simp
  refine (repeat_keep 0 k g (.int .u8 l1.toNat) (.int .i64 ((k : Int) + 1)) _ (by omega) (by first | (simp; omega) | exact hg) hHeld.1 hHeld.2).mono ?_
  rintro e w2 ⟨rfl, d5, d6, hcv2, hb⟩
  refine hK.out _ _ ⟨d5, d6⟩ (fun hHeld => ?_)
  clear hK K
  refine wpAnyH_ready (rs := [7]) (by kernel_rfl) (by simp) ?_
  refine AllReadyH.cons rfl (fun K hK => ?_) AllReadyH.nil
  simp only [List.getElem_toArray, List.getElem_cons_zero, List.getElem_cons_succ]
  go_simp
  refine hK.out _ _ (by go_keep) (fun hHeld => ?_)
  clear hK K
  refine wpAnyH_ready (rs := [8]) (by kernel_rfl) (by simp) ?_
  refine AllReadyH.cons rfl (fun K hK => ?_) AllReadyH.nil
  simp only [List.getElem_toArray, List.getElem_cons_zero, List.getElem_cons_succ]
  go_simp
  refine hK.out _ _ hHeld (fun hHeld => ?_)
  clear hK K
  refine wpAnyH_take (i := 15) (v := ?_) rfl (by kernel_rfl) (by kernel_rfl) (by kernel_rfl) (fun _ _ _ h => h) (Or.inl ⟨by rfl, ?_⟩) hHeld ?_
  rotate_left
  · (intro wz hSw; obtain ⟨k5, k6⟩ := hSw; simp only [List.getElem_toArray, List.getElem_cons_zero, List.getElem_cons_succ]; go_simp; try (with_reducible rfl))
  simp only [List.getElem_toArray, List.getElem_cons_zero, List.getElem_cons_succ, Act.put, List.setIfInBounds_toArray, List.set_cons_zero, List.set_cons_succ]
  refine wpAnyH_ready (rs := [16]) (by kernel_rfl) (by simp) ?_
  refine AllReadyH.cons rfl (fun K hK => ?_) AllReadyH.nil
  simp only [List.getElem_toArray, List.getElem_cons_zero, List.getElem_cons_succ]
  go_simp
  refine (HP.out _ (by first | exact below_a hb | exact below_b hb)).mono ?_
  rintro e w3 ⟨rfl, ⟨e5, e6, f5, f6⟩, h3, f3⟩
  refine hK.out _ _ ⟨e5, e6⟩ (fun hHeld => ?_)
  clear hK K
  refine wpAnyH_done (by kernel_rfl) ?_ _
  refine NoPanic.normal ?_
  have H3 : Hid (ToAt B g x0 x1 (set ++ l1 :: List.replicate k 0) sm l1 (k + 1) w3) := h3
  have F3 : Hid (Fr B w w3) := f3
  clear h3 f3 hHeld hcv hcvD hcv2 hb
  go_wp2
  go_end0
  have k1 := H3.out.set5 (.int .u8 0)
  exact ⟨rfl, k1.set6 _, k1.fr (H3.out.fr F3.out _ _) _ _⟩
end Go.Proofs.YtdfpmhdgebajfaaDoor
