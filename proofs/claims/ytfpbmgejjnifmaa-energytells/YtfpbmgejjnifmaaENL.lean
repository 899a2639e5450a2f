/-
  The chapter's example.
-/
import Derived.Test.YtfpbmgejjnifmaaENI
namespace Go.Proofs.Ytfpbmgejjnifmaa
open Go.ChangeShapes Go.WideShapes Go.ChangeAt Go.RowKit
set_option linter.unusedVariables false

set_option maxRecDepth 100000 in
theorem enawake_any (w : World) : Calls Try.prog 5 #[] w fun e w' => e = .returned (.bool true) ∧ Below w.heap.size w w' := by
  obtain ⟨i0, hi, hz0, hz1, hz2⟩ := infoI
  have HII : Hid (Try.prog.info? 3 = some i0) := hi
  obtain ⟨B, hB⟩ : ∃ B, B = w.heap.size := ⟨_, rfl⟩
  have HB := hid hB
  have HB0 := hid (Below.refl B w)
  have HZ0 := hid (show B ≤ w.heap.size from Nat.le_of_eq hB)
  have e1 : eRightB 13 (fun _ => 8) = true := by decide
  have e2 : eRightB 0 (fun _ => 0) = false := by decide
  have hout : ¬ (0 ≤ eRowF true (fun _ => 0) (fun _ => 8) 1 ∧ eRowF true (fun _ => 0) (fun _ => 8) 1 ≤ 23) := by decide
  have h8 : ∀ b, b < 1 → 0 ≤ eRowF true (fun _ => 0) (fun _ => 8) b ∧ eRowF true (fun _ => 0) (fun _ => 8) b ≤ 23 := by decide
  have hdl : allIn 0 0 (dltF true (fun _ => 0) (fun _ => 8)) 13 = true := by decide
  have HN : Hid (∀ W, IsInts W none 0 0 (fun _ => 0)) := fun W => .inl rfl
  have K1 : Hid (∀ W a cap, IsInts W a 13 cap (fun _ => 8) → Calls Try.prog 11 #[.bool true, .slice none 0 0, .slice a 13 cap] W (OPost 13 (dltF true (fun _ => 0) (fun _ => 8)) W)) := fun W a cap h =>
    deltas_yes true none 0 0 (fun _ => 0) (by decide) rfl a cap (fun _ => 8) e1 W (HN.out W) h
  have K2 : Hid (∀ W a cap, IsInts W a 13 cap (fun _ => 8) → Calls Try.prog 6 #[.bool true, .slice none 0 0, .slice a 13 cap] W (RNone W)) := fun W a cap h =>
    row_any false 1 true none 0 0 (fun _ => 0) (by decide) rfl a cap (fun _ => 8) (fun _ _ => by decide) h8 (by simpa using hout) W (HN.out W) h
  have K3 : Hid (∀ W a cap, IsInts W a 13 cap (fun _ => 8) → Calls Try.prog 8 #[.slice a 13 cap] W fun e w' => e = .returned (.bool true) ∧ w' = W) := fun W a cap h => by
    have := right_any a 13 cap _ (by decide) W h
    rwa [e1] at this
  have K4 : Hid (∀ W, Calls Try.prog 8 #[.slice none 0 0] W fun e w' => e = .returned (.bool false) ∧ w' = W) := fun W => by
    have := right_any none 0 0 _ (by decide) W (HN.out W)
    rwa [e2] at this
  have K5 : Hid (∀ W a cap, IsInts W a 13 cap (dltF true (fun _ => 0) (fun _ => 8)) → Calls Try.prog 13 #[.slice a 13 cap, .int .i64 0, .int .i64 0] W fun e w' => e = .returned (.bool true) ∧ w' = W) := fun W a cap h => by
    have := rwithin_g 0 0 a 13 cap _ (by decide) W h
    rwa [hdl] at this
  clear hi hB e1 e2 hout h8 hdl HN
  go_enter Try.func5, Try.ntmps5
  go_wp2
  go_loopw [1, 2] (fun o i wr => ∃ k : Nat, k ≤ 13 ∧ i = .int .i64 k ∧ Hid (wr.ownsRow B 3 1 o k (intL k (fun _ => 8))) ∧ Hid (Below B w wr) ∧ Hid (B ≤ wr.heap.size)) (fun _ i _ => 13 - (intOf i).toNat)
  case atStart => exact ⟨0, by omega, rfl, World.ownsRow_nil _ _ _ _, HB0.out, HZ0.out⟩
  case round =>
    clear HB0 HZ0
    obtain ⟨k, hk, rfl, HO, HW, HZ⟩ := hrel
    by_cases hlt : k < 13
    · have HA : Hid ((wr.alloc (.cells #[.int .i64 8] 3)).ownsRow B 3 1 u1 k (intL k (fun _ => 8))) := HO.out.alloc _
      have HS : Hid (B ≤ (wr.alloc (.cells #[.int .i64 8] 3)).heap.size) := Nat.le_trans HZ.out (by simp)
      clear K1 K2 K3 K4 K5
      go_wp2_with (at_builtin; refine wpList_append_lies _ rfl _ _ _ rfl B 3 i0 (.int .i64 0) 1 8 Try.underlying22 HII.out hz0 hz1 hz2 rfl (by omega) _ _ _ rfl HA.out ⟨wr.heap.size, 0, none⟩ 1 1 [.int .i64 8] rfl rfl (World.news_of_block (cs := #[.int .i64 8]) (heap_alloc_new wr _)) (by intro u hu; simp at hu; subst hu; rfl) (by omega) (by unfold maxLen; omega) (by omega) HS.out _ rfl ?_)
      intro gg cap1 w4 hown hgr _ _
      obtain ⟨o1, o2, o3⟩ := oi_step (X := fun _ => 8) HO.out HW.out HZ.out rfl hown hgr
      have O1 := hid o1
      have O2 := hid o2
      have O3 := hid o3
      clear hown hgr o1 o2 o3 HA HS
      go_wp2
      exact ⟨⟨k + 1, by omega, by go_num, O1, O2, O3⟩, by simp [intOf]; omega⟩
    · obtain rfl : k = 13 := by omega
      obtain ⟨a1, c1, rfl, i1⟩ := own_ints HO.out
      have I1 := hid i1
      have HW1 : Hid (Below w.heap.size w wr) := by rw [← HB.out]; exact HW.out
      clear i1 HO HW HZ
      go_wp2_with (fail)
      refine Calls.mono (K1.out _ _ _ I1.out) ?_
      rintro e w1 ⟨a2, c2, rfl, i2, b2, _⟩
      have J1 := hid (I1.out.below b2)
      have I2 := hid i2
      have B2 := hid (below_then HW1.out b2)
      clear b2 i2 I1 K1
      go_wp2_with (fail)
      refine Calls.mono (K2.out _ _ _ J1.out) ?_
      rintro e w2 ⟨rfl, b3⟩
      have J3 := hid (J1.out.below b3)
      have I3 := hid (I2.out.below b3)
      have B3 := hid (below_then B2.out b3)
      clear b3 I2 J1 K2 B2
      go_wp2_with (first
        | (go_at_call 13; (with_reducible refine (K5.out _ _ _ I3.out).mono ?_); rintro e w3 ⟨rfl, rfl⟩)
        | (go_at_call 8; (with_reducible refine (K3.out _ _ _ J3.out).mono ?_); rintro e w4 ⟨rfl, rfl⟩)
        | (go_at_call 8; (with_reducible refine (K4.out _).mono ?_); rintro e w5 ⟨rfl, rfl⟩))
      go_ret
      exact ⟨rfl, B3.out⟩
theorem enawake_to (w : World) : Hid (∀ W, Below w.heap.size w W → Calls Try.prog 5 #[] W fun e w' => e = .returned (.bool true) ∧ Below w.heap.size w w') := fun W hb =>
  (enawake_any W).mono fun e w' h => ⟨h.1, below_then hb h.2⟩
end Go.Proofs.Ytfpbmgejjnifmaa
