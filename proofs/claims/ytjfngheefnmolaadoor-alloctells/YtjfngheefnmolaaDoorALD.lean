/-
  The document's All; both sides together.
-/
import Derived.Test.YtjfngheefnmolaaDoorALC
import Derived.Test.YtjfngheefnmolaaDoorLYE
import Derived.Test.YtjfngheefnmolaaDoorRT
import Derived.Deep.AppendLies
namespace Go.Proofs.YtjfngheefnmolaaDoor
open Go.ChangeShapes Go.WideShapes Go.ChangeAt Go.RowKit
set_option linter.unusedVariables false

theorem rwidth_n {b : Nat} (h : b < 13) (w : World) : Calls Tryd.prog 18 #[.int .i64 (b : Int)] w fun e w' => e = .returned (.int .i64 ((widN b : Nat) : Int)) ∧ w' = w := by
  have := rwidth_any (b : Int) w
  rwa [widF_nat h] at this
set_option maxRecDepth 100000 in
theorem rall_yes (q : Int) (hq : qualB q = true) (a : Option Addr) (cap : Nat) (C : Nat → Int) (hC : eRightB 13 C = true) (w : World) (h : IsInts w a 13 cap C) :
    Calls Tryd.prog 10 #[.int .i64 q, .slice a 13 cap] w (OPost 13 (bandsF q C) w) := by
  obtain ⟨i0, hi, hz0, hz1, hz2⟩ := infoI
  have HII : Hid (Tryd.prog.info? 3 = some i0) := hi
  have hq' : 0 ≤ q ∧ q ≤ 10 := by simp [qualB] at hq; exact hq
  have K1 := hid (rright_any a 13 cap C (by decide) w h)
  rw [hC] at K1
  obtain ⟨F, hF⟩ : ∃ F : Nat → Int, F = bandsF q C := ⟨_, rfl⟩
  have HF : Hid (∀ k : Nat, bandF q (C k) ((widN k : Nat) : Int) = F k) := fun k => by rw [hF]; rfl
  rw [← hF]
  obtain ⟨cb, co, rfl, hcc⟩ := h.cells (by omega)
  have HC := hid hcc
  obtain ⟨B, hB⟩ : ∃ B, B = w.heap.size := ⟨_, rfl⟩
  have HB := hid hB
  have HB0 := hid (Below.refl B w)
  rw [← hB] at HC
  clear h hC hq hcc hi hB hF
  go_enter Tryd.func10, Tryd.ntmps10
  go_wp2_with (fail)
  refine Calls.mono K1.out ?_
  rintro e w1 ⟨rfl, h1⟩
  rw [h1]
  clear K1 h1 w1
  go_wp2
  have HZ0 := hid (show B ≤ w.heap.size from Nat.le_of_eq HB.out)
  go_loopw [5, 6] (fun o i wr => ∃ k : Nat, k ≤ 13 ∧ i = .int .i64 k ∧ Hid (wr.ownsRow B 3 1 o k (intL k F)) ∧ Hid (Below B w wr) ∧ Hid (B ≤ wr.heap.size)) (fun _ i _ => 13 - (intOf i).toNat)
  case atStart => exact ⟨0, by omega, rfl, World.ownsRow_nil _ _ _ _, HB0.out, HZ0.out⟩
  case round =>
    clear HB0 HZ0
    obtain ⟨k, hk, rfl, HO, HW, HZ⟩ := hrel
    by_cases hlt : k < 13
    · have d1 : ∀ W, Below wr.heap.size wr W → W.cell? ⟨cb, co + k, none⟩ = some (.int .i64 (C k)) := fun W hW => HC.out W (HW.out.trans (hW.mono HZ.out)) k hlt
      have hA1 : Hid (∀ W, Below wr.heap.size wr W → Calls Tryd.prog 18 #[.int .i64 k] W fun e w' => e = .returned (.int .i64 ((widN k : Nat) : Int)) ∧ Below wr.heap.size wr w') := fun W hW =>
        (rwidth_n hlt W).mono fun e w' ⟨he, hb⟩ => ⟨he, by rw [hb]; exact hW⟩
      have hA2 : Hid (∀ W, Below wr.heap.size wr W → Calls Tryd.prog 7 #[.int .i64 q, .int .i64 (C k), .int .i64 ((widN k : Nat) : Int)] W fun e w' => e = .returned (.int .i64 (F k)) ∧ Below wr.heap.size wr w') := fun W hW =>
        (rband_any q (C k) ((widN k : Nat) : Int) W).mono fun e w' ⟨he, hb⟩ => ⟨by rw [he, HF.out], by rw [hb]; exact hW⟩
      obtain ⟨c, hc⟩ : ∃ c, c = F k := ⟨_, rfl⟩
      rw [← hc] at hA2
      have HCC := hid hc
      clear hc
      generalize C k = x at d1 hA2
      generalize ((widN k : Nat) : Int) = z at hA1 hA2
      have D1 := hid d1
      clear d1
      go_wp2
      refine wp_region_held_drew (S := fun _ => True) (by kernel_rfl) trivial (fun _ => ?_)
      refine wpAnyH_take (i := 0) (v := u5) rfl (by kernel_rfl) (by kernel_rfl) (by kernel_rfl) (fun _ _ _ h => h) (Or.inl ⟨by rfl, ?_⟩) trivial ?_
      · intro wz _; simp only [List.getElem_toArray, List.getElem_cons_zero]; go_simp; try (with_reducible rfl)
      simp only [List.getElem_toArray, List.getElem_cons_zero, Act.put, List.setIfInBounds_toArray, List.set_cons_zero, List.set_cons_succ]
      refine' anyH_tail (C := Below wr.heap.size wr) 1 9 (by kernel_rfl) (by kernel_rfl) (by kernel_rfl) (by decide) (by decide) (by kernel_rfl) (by kernel_rfl) (Below.refl _ _).drew (Qa := fun a' => a' = _) ?_ ?_
      rotate_left
      · dsimp only [idleTail, idleN, List.drop]
        repeat (go_big_quiet_step (first
          | (intro hq; rfl)
          | (intro hq; rw [D1.out _ hq]; exact ⟨rfl, rfl⟩)
          | (intro hq; go_at_call 18; (with_reducible exact hA1.out _ hq))
          | (intro hq; go_at_call 7; (with_reducible exact hA2.out _ hq))))
        refine wpQuiet_nil ?_
        exact rfl
      · rintro a' w2 hb2 rfl
        dsimp only [List.drop]
        have HB2 : Hid (Below B w w2) := HW.out.trans (hb2.mono HZ.out)
        have HZ2 : Hid (B ≤ w2.heap.size) := Nat.le_trans HZ.out hb2.size
        have HO2 : Hid (w2.ownsRow B 3 1 u5 k (intL k F)) := owns_below HO.out hb2
        clear hb2 HO HW HZ hA1 hA2 D1
        have HA : Hid ((w2.alloc (.cells #[.int .i64 c] 3)).ownsRow B 3 1 u5 k (intL k F)) := HO2.out.alloc _
        have HS : Hid (B ≤ (w2.alloc (.cells #[.int .i64 c] 3)).heap.size) := Nat.le_trans HZ2.out (by simp)
        go_wp2_with (at_builtin; refine wpList_append_lies _ rfl _ _ _ rfl B 3 i0 (.int .i64 0) 1 8 Tryd.underlying22 HII.out hz0 hz1 hz2 rfl (by omega) _ _ _ rfl HA.out ⟨w2.heap.size, 0, none⟩ 1 1 [.int .i64 c] rfl rfl (World.news_of_block (cs := #[.int .i64 c]) (heap_alloc_new w2 _)) (by intro u hu; simp at hu; subst hu; rfl) (by omega) (by unfold maxLen; omega) (by omega) HS.out _ rfl ?_)
        intro gg cap1 w4 hown hgr _ _
        obtain ⟨o1, o2, o3⟩ := oi_step HO2.out HB2.out HZ2.out HCC.out hown hgr
        have O1 := hid o1
        have O2 := hid o2
        have O3 := hid o3
        clear hown hgr o1 o2 o3 HA HS
        go_wp2
        exact ⟨⟨k + 1, by omega, by go_num, O1, O2, O3⟩, by simp [intOf]; omega⟩
    · obtain rfl : k = 13 := by omega
      obtain ⟨a1, c1, rfl, i1⟩ := own_ints HO.out
      have I1 := hid i1
      clear i1
      go_wp2
      go_ret
      exact ⟨a1, c1, rfl, I1.out, by rw [← HB.out]; exact HW.out, fun x hx => by rw [← HB.out]; exact own_new HO.out x hx⟩
theorem rall_no (q : Int) (a : Option Addr) (len cap : Nat) (C : Nat → Int) (ml : len ≤ maxLen) (hn : (qualB q && eRightB len C) = false) (w : World) (h : IsInts w a len cap C) :
    Calls Tryd.prog 10 #[.int .i64 q, .slice a len cap] w fun e w' => e = .returned (.slice none 0 0) ∧ w' = w := by
  have K2 := hid (rright_any a len cap C ml w h)
  clear h
  by_cases h1 : q < 0
  · clear hn K2
    go_enter Tryd.func10, Tryd.ntmps10
    go_wp2
    go_ret
    exact ⟨rfl, rfl⟩
  by_cases h2 : 10 < q
  · clear hn K2
    go_enter Tryd.func10, Tryd.ntmps10
    go_wp2
    go_ret
    exact ⟨rfl, rfl⟩
  have hq : qualB q = true := by simp [qualB]; omega
  have hR : eRightB len C = false := by simpa [hq] using hn
  rw [hR] at K2
  clear hn hq hR
  go_enter Tryd.func10, Tryd.ntmps10
  go_wp2_with (fail)
  refine Calls.mono K2.out ?_
  rintro e w1 ⟨rfl, rfl⟩
  go_wp2
  go_ret
  exact ⟨rfl, rfl⟩
/-- Both sides together. -/
theorem all_both (q : Int) (a : Option Addr) (len cap : Nat) (C : Nat → Int) (ml : len ≤ maxLen) (w : World) (hw : WTab w) (h : IsInts w a len cap C) :
    ∃ (n : Nat) (F : Nat → Int), n ≤ 13 ∧ (∀ W, Below w.heap.size w W → Calls Tryd.prog 9 #[.int .i64 q, .slice a len cap] W (OPost n F W)) ∧ (∀ W, Below w.heap.size w W → Calls Tryd.prog 10 #[.int .i64 q, .slice a len cap] W (OPost n F W)) := by
  cases hR : qualB q && eRightB len C with
  | false =>
    refine ⟨0, fun _ => 0, by omega, fun W hW => ?_, fun W hW => ?_⟩
    · exact (all_no q a len cap C ml hR W (h.below hW)).mono fun e w' ⟨he, hb⟩ => ⟨none, 0, he, .inl rfl, by rw [hb]; exact Below.refl _ _, fun x hx => by cases hx⟩
    · exact (rall_no q a len cap C ml hR W (h.below hW)).mono fun e w' ⟨he, hb⟩ => ⟨none, 0, he, .inl rfl, by rw [hb]; exact Below.refl _ _, fun x hx => by cases hx⟩
  | true =>
    obtain ⟨h1, h2⟩ : qualB q = true ∧ eRightB len C = true := by simpa using hR
    obtain rfl : len = 13 := by simp [eRightB] at h2; exact h2.1
    exact ⟨13, bandsF q C, by omega, fun W hW => all_yes q h1 a cap C h2 W (hw.below hW) (h.below hW), fun W hW => rall_yes q h1 a cap C h2 W (h.below hW)⟩
end Go.Proofs.YtjfngheefnmolaaDoor
