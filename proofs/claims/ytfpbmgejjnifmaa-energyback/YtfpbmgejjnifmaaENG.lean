/-
  The document's Deltas.
-/
import Derived.Test.YtfpbmgejjnifmaaENF
namespace Go.Proofs.Ytfpbmgejjnifmaa
open Go.ChangeShapes Go.WideShapes Go.ChangeAt Go.RowKit
set_option linter.unusedVariables false

/-- Right of the row ahead, where it is asked. -/
theorem rside_any (a : Option Addr) (len cap : Nat) (P : Nat → Int) (ml : len ≤ maxLen) (w : World) (h : IsInts w a len cap P) (v : Bool) (hs : eSideB false len P = v) :
    Calls Try.prog 9 #[.slice a len cap] w fun e w' => e = .returned (.bool v) ∧ w' = w := by
  have := rright_any a len cap P ml w h
  rwa [show eRightB len P = v from by simpa [eSideB] using hs] at this
set_option maxRecDepth 100000 in
theorem rdeltas_yes (i : Bool) (a : Option Addr) (len cap : Nat) (P : Nat → Int) (ml : len ≤ maxLen) (hs : eSideB i len P = true) (a' : Option Addr) (cap' : Nat) (C : Nat → Int) (hC : eRightB 13 C = true) (w : World) (h : IsInts w a len cap P) (h' : IsInts w a' 13 cap' C) :
    Calls Try.prog 12 #[.bool i, .slice a len cap, .slice a' 13 cap'] w (OPost 13 (dltF i P C) w) := by
  obtain ⟨i0, hi, hz0, hz1, hz2⟩ := infoI
  have HII : Hid (Try.prog.info? 3 = some i0) := hi
  obtain ⟨hp, ha⟩ := aside_of hs
  have hR := right_yes hC
  have K1 := hid (rright_any a' 13 cap' C (by decide) w h')
  rw [hC] at K1
  have K2 := hid (fun (hi : i = false) => rside_any a len cap P ml w h true (by rw [← hi]; exact hs))
  obtain ⟨E, hE⟩ : ∃ E : Nat → Int, E = fun k => expL i P (prevF i P C k) k := ⟨_, rfl⟩
  obtain ⟨F, hF⟩ : ∃ F : Nat → Int, F = dltF i P C := ⟨_, rfl⟩
  have HX : Hid (∀ k : Nat, k < 13 → ∀ W, Below w.heap.size w W → Calls Try.prog 17 #[.bool i, .slice a len cap, .slice a' 13 cap', .int .i64 k] W fun e w' => e = .returned (.int .i64 (E k)) ∧ w' = W) := fun k hk W hW => by
    subst hE
    exact rexp_any i a len cap P hp ha a' 13 cap' C k hk (by omega) (by omega) (prev_bd ha hR hk) W (h.below hW) (h'.below hW)
  have HEB : Hid (∀ k : Nat, k < 13 → 0 ≤ E k ∧ E k ≤ 23) := fun k hk => by
    subst hE
    have := prev_bd ha hR hk
    exact exp_bd ha this.1 this.2 hk
  have HEF : Hid (∀ k : Nat, C k - E k = F k) := fun k => by rw [hE, hF]; rfl
  rw [← hF]
  obtain ⟨cb, co, rfl, hcc⟩ := h'.cells (by omega)
  have HC := hid hcc
  have HR := hid hR
  obtain ⟨B, hB⟩ : ∃ B, B = w.heap.size := ⟨_, rfl⟩
  have HB := hid hB
  have HB0 := hid (Below.refl B w)
  rw [← hB] at HC HX
  clear h h' hs hC hp ha hR hcc hi hB hE hF
  go_enter Try.func12, Try.ntmps12
  go_wp2_with (fail)
  refine Calls.mono K1.out ?_
  rintro e w1 ⟨rfl, h1⟩
  rw [h1]
  clear K1 h1 w1
  cases i
  case' true =>
    clear K2
    go_wp2
  case' false =>
    go_wp2_with (fail)
    refine Calls.mono (K2.out trivial) ?_
    rintro e w1 ⟨rfl, h1⟩
    rw [h1]
    clear K2 h1 w1
    go_wp2
  all_goals
    have HZ0 := hid (show B ≤ w.heap.size from Nat.le_of_eq HB.out)
    go_loopw [7, 8] (fun o i wr => ∃ k : Nat, k ≤ 13 ∧ i = .int .i64 k ∧ Hid (wr.ownsRow B 3 1 o k (intL k F)) ∧ Hid (Below B w wr) ∧ Hid (B ≤ wr.heap.size)) (fun _ i _ => 13 - (intOf i).toNat)
    case atStart => exact ⟨0, by omega, rfl, World.ownsRow_nil _ _ _ _, HB0.out, HZ0.out⟩
    case round =>
      clear HB0 HZ0
      obtain ⟨k, hk, rfl, HO, HW, HZ⟩ := hrel
      by_cases hlt : k < 13
      · have hK : Hid (∀ W, Below wr.heap.size wr W → Calls Try.prog 17 #[.bool _, .slice a len cap, .slice (some ⟨cb, co, none⟩) 13 cap', .int .i64 k] W fun e w' => e = .returned (.int .i64 (E k)) ∧ Below wr.heap.size wr w') := fun W hW =>
          (HX.out k hlt W (HW.out.trans (hW.mono HZ.out))).mono fun e w' ⟨he, hb⟩ => ⟨he, by rw [hb]; exact hW⟩
        have d1 : ∀ W, Below wr.heap.size wr W → W.cell? ⟨cb, co + k, none⟩ = some (.int .i64 (C k)) := fun W hW => HC.out W (HW.out.trans (hW.mono HZ.out)) k hlt
        have hxb := HR.out k hlt
        have heb := HEB.out k hlt
        have HD := hid (HEF.out k)
        obtain ⟨c, hc⟩ : ∃ c, c = F k := ⟨_, rfl⟩
        rw [← hc] at HD
        have HCC := hid hc
        clear hc
        generalize E k = z at hK heb HD
        generalize C k = x at d1 hxb HD
        have hd := HD.out
        have D1 := hid d1
        clear d1 HD
        go_wp2
        refine wp_region_held_drew (S := fun _ => True) (by kernel_rfl) trivial (fun _ => ?_)
        refine wpAnyH_take (i := 0) (v := u7) rfl (by kernel_rfl) (by kernel_rfl) (by kernel_rfl) (fun _ _ _ h => h) (Or.inl ⟨by rfl, ?_⟩) trivial ?_
        · intro wz _; simp only [List.getElem_toArray, List.getElem_cons_zero]; go_simp; try (with_reducible rfl)
        simp only [List.getElem_toArray, List.getElem_cons_zero, Act.put, List.setIfInBounds_toArray, List.set_cons_zero, List.set_cons_succ]
        refine' anyH_tail (C := Below wr.heap.size wr) 1 11 (by kernel_rfl) (by kernel_rfl) (by kernel_rfl) (by decide) (by decide) (by kernel_rfl) (by kernel_rfl) (Below.refl _ _).drew (Qa := fun a' => a' = _) ?_ ?_
        rotate_left
        · dsimp only [idleTail, idleN, List.drop]
          repeat (go_big_quiet_step (first
            | (intro hq; rfl)
            | (intro hq; rw [D1.out _ hq]; exact ⟨rfl, rfl⟩)
            | (intro hq; go_at_call 17; (with_reducible exact hK.out _ hq))))
          refine wpQuiet_nil ?_
          exact rfl
        · rintro a' w2 hb2 rfl
          dsimp only [List.drop]
          have HB2 : Hid (Below B w w2) := HW.out.trans (hb2.mono HZ.out)
          have HZ2 : Hid (B ≤ w2.heap.size) := Nat.le_trans HZ.out hb2.size
          have HO2 : Hid (w2.ownsRow B 3 1 u7 k (intL k F)) := owns_below HO.out hb2
          clear hb2 HO HW HZ hK D1
          have HA : Hid ((w2.alloc (.cells #[.int .i64 c] 3)).ownsRow B 3 1 u7 k (intL k F)) := HO2.out.alloc _
          have HS : Hid (B ≤ (w2.alloc (.cells #[.int .i64 c] 3)).heap.size) := Nat.le_trans HZ2.out (by simp)
          go_wp2_with (at_builtin; refine wpList_append_lies _ rfl _ _ _ rfl B 3 i0 (.int .i64 0) 1 8 Try.underlying22 HII.out hz0 hz1 hz2 rfl (by omega) _ _ _ rfl HA.out ⟨w2.heap.size, 0, none⟩ 1 1 [.int .i64 c] rfl rfl (World.news_of_block (cs := #[.int .i64 c]) (heap_alloc_new w2 _)) (by intro u hu; simp at hu; subst hu; rfl) (by omega) (by unfold maxLen; omega) (by omega) HS.out _ rfl ?_)
          intro gg cap1 w4 hown hgr _ _
          obtain ⟨o1, o2, o3⟩ := oi_step HO2.out HB2.out HZ2.out HCC.out hown hgr
          have O1 := hid o1
          have O2 := hid o2
          have O3 := hid o3
          clear hown hgr o1 o2 o3 HA HS
          go_wp2
          exact ⟨⟨k + 1, by omega, by go_num, O1, O2, O3⟩, by simp [intOf]; omega⟩
      · obtain rfl : k = 13 := by omega
        obtain ⟨a1, c1, rfl, i1⟩ := own_ints HO.out
        have I1 := hid i1
        clear i1
        go_wp2
        go_ret
        exact ⟨a1, c1, rfl, I1.out, by rw [← HB.out]; exact HW.out, fun x hx => by rw [← HB.out]; exact own_new HO.out x hx⟩
theorem rdeltas_no (i : Bool) (a : Option Addr) (len cap : Nat) (P : Nat → Int) (ml : len ≤ maxLen) (a' : Option Addr) (len' cap' : Nat) (ml' : len' ≤ maxLen) (C : Nat → Int) (hn : (eRightB len' C && eSideB i len P) = false) (w : World) (h : IsInts w a len cap P) (h' : IsInts w a' len' cap' C) :
    Calls Try.prog 12 #[.bool i, .slice a len cap, .slice a' len' cap'] w fun e w' => e = .returned (.slice none 0 0) ∧ w' = w := by
  have K1 := hid (rright_any a' len' cap' C ml' w h')
  clear h'
  cases hR : eRightB len' C with
  | false =>
    rw [hR] at K1
    clear h
    go_enter Try.func12, Try.ntmps12
    go_wp2_with (fail)
    refine Calls.mono K1.out ?_
    rintro e w1 ⟨rfl, rfl⟩
    go_wp2
    go_ret
    exact ⟨rfl, rfl⟩
  | true =>
    have hS : eSideB i len P = false := by simpa [hR] using hn
    rw [hR] at K1
    cases i with
    | true => cases hS
    | false =>
      have K2 := hid (rside_any a len cap P ml w h false hS)
      clear h
      go_enter Try.func12, Try.ntmps12
      go_wp2_with (fail)
      refine Calls.mono K1.out ?_
      rintro e w1 ⟨rfl, rfl⟩
      go_wp2_with (fail)
      refine Calls.mono K2.out ?_
      rintro e w1 ⟨rfl, rfl⟩
      go_wp2
      go_ret
      exact ⟨rfl, rfl⟩
end Go.Proofs.Ytfpbmgejjnifmaa
