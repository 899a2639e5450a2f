/-
  The document's Row.
-/
import Derived.Test.YtfpbmgejjnifmaaENG
namespace Go.Proofs.Ytfpbmgejjnifmaa
open Go.ChangeShapes Go.WideShapes Go.ChangeAt Go.RowKit
set_option linter.unusedVariables false

set_option maxRecDepth 100000 in
theorem rrow_any (good : Bool) (m : Nat) (i : Bool) (a : Option Addr) (len cap : Nat) (P : Nat → Int) (ml : len ≤ maxLen) (hs : eSideB i len P = true) (a' : Option Addr) (cap' : Nat) (D : Nat → Int) (hD : allIn (-67) 67 D 13 = true)
    (hm : ∀ b, b < m → 0 ≤ eRowF i P D b ∧ eRowF i P D b ≤ 23) (hg : if good then m = 13 else m < 13 ∧ ¬ (0 ≤ eRowF i P D m ∧ eRowF i P D m ≤ 23)) (w : World) (h : IsInts w a len cap P) (h' : IsInts w a' 13 cap' D) :
    Calls Try.prog 7 #[.bool i, .slice a len cap, .slice a' 13 cap'] w fun e w' => if good then RPost (eRowF i P D) w e w' else RNone w e w' := by
  obtain ⟨i0, hi, hz0, hz1, hz2⟩ := infoI
  have HII : Hid (Try.prog.info? 3 = some i0) := hi
  obtain ⟨hp, ha⟩ := aside_of hs
  have hm13 : m ≤ 13 := by
    cases good with
    | true => simp at hg; omega
    | false => simp at hg; omega
  have K1 := hid (rwithin_g (-67) 67 a' 13 cap' D (by omega) w h')
  rw [hD] at K1
  have HDB := hid ((allIn_iff _ _ _ _).1 hD)
  have K2 := hid (fun (hi : i = false) => rside_any a len cap P ml w h true (by rw [← hi]; exact hs))
  obtain ⟨F, hF⟩ : ∃ F : Nat → Int, F = eRowF i P D := ⟨_, rfl⟩
  obtain ⟨E, hE⟩ : ∃ E : Nat → Int, E = fun k => expL i P (prevF i P F k) k := ⟨_, rfl⟩
  rw [← hF] at hm hg ⊢
  have hK : ∀ k, k ≤ m → 0 ≤ prevF i P F k ∧ prevF i P F k ≤ 23 := fun k hk => by
    rw [hF, prev_row]
    exact last_bd ha (D := D) (k := k) (fun b hb => by have := hm b (by omega); rwa [hF] at this)
  have HX : Hid (∀ k : Nat, k < 13 → k ≤ m → ∀ W ar capr, Below w.heap.size w W → IsInts W ar k capr F → Calls Try.prog 17 #[.bool i, .slice a len cap, .slice ar k capr, .int .i64 k] W fun e w' => e = .returned (.int .i64 (E k)) ∧ w' = W) := fun k hk hkm W ar capr hW hI => by
    subst hE
    exact rexp_any i a len cap P hp ha ar k capr F k hk (by omega) (by omega) (hK k hkm) W (h.below hW) hI
  have HEB : Hid (∀ k : Nat, k < 13 → k ≤ m → 0 ≤ E k ∧ E k ≤ 23) := fun k hk hkm => by
    subst hE
    have := hK k hkm
    exact exp_bd ha this.1 this.2 hk
  have HEF : Hid (∀ k : Nat, E k + D k = F k) := fun k => by
    rw [hE]
    show expL i P (prevF i P F k) k + D k = F k
    rw [hF, prev_row]; rfl
  obtain ⟨cb, co, rfl, hcc⟩ := h'.cells (by omega)
  have HC := hid hcc
  have HM := hid hm
  have HG := hid hg
  obtain ⟨B, hB⟩ : ∃ B, B = w.heap.size := ⟨_, rfl⟩
  have HB := hid hB
  have HB0 := hid (Below.refl B w)
  rw [← hB] at HC HX
  clear h h' hs hD hp ha hm hg hcc hi hB hE hF hK
  go_enter Try.func7, Try.ntmps7
  go_wp2_with (fail)
  refine Calls.mono K1.out ?_
  rintro e w1 ⟨rfl, h1⟩
  rw [h1]
  clear K1 h1 w1
  cases i
  case' true =>
    clear K2
    go_wp2
  case' false =>
    go_wp2_with (fail)
    refine Calls.mono (K2.out trivial) ?_
    rintro e w1 ⟨rfl, h1⟩
    rw [h1]
    clear K2 h1 w1
    go_wp2
  all_goals
    have HZ0 := hid (show B ≤ w.heap.size from Nat.le_of_eq HB.out)
    go_loopw [8, 9] (fun o i wr => ∃ k : Nat, k ≤ m ∧ i = .int .i64 k ∧ Hid (wr.ownsRow B 3 1 o k (intL k F)) ∧ Hid (Below B w wr) ∧ Hid (B ≤ wr.heap.size)) (fun _ i _ => 13 - (intOf i).toNat)
    case atStart => exact ⟨0, by omega, rfl, World.ownsRow_nil _ _ _ _, HB0.out, HZ0.out⟩
    case round =>
      clear HB0 HZ0
      obtain ⟨k, hk, rfl, HO, HW, HZ⟩ := hrel
      by_cases hlt : k < 13
      · obtain ⟨ar, capr, rfl, ir⟩ := own_ints HO.out
        have hK : Hid (∀ W, Below wr.heap.size wr W → Calls Try.prog 17 #[.bool _, .slice a len cap, .slice ar k capr, .int .i64 k] W fun e w' => e = .returned (.int .i64 (E k)) ∧ Below wr.heap.size wr w') := fun W hW =>
          (HX.out k hlt hk W ar capr (HW.out.trans (hW.mono HZ.out)) (ir.below hW)).mono fun e w' ⟨he, hb⟩ => ⟨he, by rw [hb]; exact hW⟩
        have d1 : ∀ W, Below wr.heap.size wr W → W.cell? ⟨cb, co + k, none⟩ = some (.int .i64 (D k)) := fun W hW => HC.out W (HW.out.trans (hW.mono HZ.out)) k hlt
        have hxb := HDB.out k hlt
        have heb := HEB.out k hlt hk
        have HD := hid (HEF.out k)
        have hir := hid (HM.out k)
        have hgg := HG.out
        obtain ⟨c, hc⟩ : ∃ c, c = F k := ⟨_, rfl⟩
        rw [← hc] at HD
        have HCC := hid hc
        generalize E k = z at hK heb HD
        generalize D k = x at d1 hxb HD
        have hd := HD.out
        have D1 := hid d1
        have hmn := HM.out
        by_cases hin : 0 ≤ c ∧ c ≤ 23
        · have hlm : k < m := by
            refine Decidable.byContradiction fun hno => ?_
            obtain rfl : k = m := by omega
            cases good with
            | true => simp at hgg; omega
            | false => simp at hgg; rw [← hc] at hgg; omega
          clear d1 HD ir hir hgg hmn hc
          go_wp2
          refine region_below (by kernel_rfl) (by kernel_rfl) ?_
          repeat (go_big_quiet_step (first
            | (intro hq; rfl)
            | (intro hq; rw [D1.out _ hq]; exact ⟨rfl, rfl⟩)
            | (intro hq; go_at_call 17; (with_reducible exact hK.out _ hq))))
          refine wpQuiet_nil ?_
          intro w2 hb2
          have HB2 : Hid (Below B w w2) := HW.out.trans (hb2.mono HZ.out)
          have HZ2 : Hid (B ≤ w2.heap.size) := Nat.le_trans HZ.out hb2.size
          have HO2 : Hid (w2.ownsRow B 3 1 (.slice ar k capr) k (intL k F)) := owns_below HO.out hb2
          clear hb2 HO HW HZ hK D1
          have HA : Hid ((w2.alloc (.cells #[.int .i64 c] 3)).ownsRow B 3 1 (.slice ar k capr) k (intL k F)) := HO2.out.alloc _
          have HS : Hid (B ≤ (w2.alloc (.cells #[.int .i64 c] 3)).heap.size) := Nat.le_trans HZ2.out (by simp)
          go_wp2_with (at_builtin; refine wpList_append_lies _ rfl _ _ _ rfl B 3 i0 (.int .i64 0) 1 8 Try.underlying22 HII.out hz0 hz1 hz2 rfl (by omega) _ _ _ rfl HA.out ⟨w2.heap.size, 0, none⟩ 1 1 [.int .i64 c] rfl rfl (World.news_of_block (cs := #[.int .i64 c]) (heap_alloc_new w2 _)) (by intro u hu; simp at hu; subst hu; rfl) (by omega) (by unfold maxLen; omega) (by omega) HS.out _ rfl ?_)
          intro gg cap1 w4 hown hgr _ _
          obtain ⟨o1, o2, o3⟩ := oi_step HO2.out HB2.out HZ2.out HCC.out hown hgr
          have O1 := hid o1
          have O2 := hid o2
          have O3 := hid o3
          clear hown hgr o1 o2 o3 HA HS
          go_wp2
          exact ⟨⟨k + 1, by omega, by go_num, O1, O2, O3⟩, by simp [intOf]; omega⟩
        · have hgood : good = false := by
            cases good with
            | false => rfl
            | true => simp at hgg; have := hir.out (by omega); rw [← hc] at this; omega
          subst hgood
          have HB0 := hid (show ∀ W, Below wr.heap.size wr W → Below w.heap.size w W from fun W hW => by rw [← HB.out]; exact HW.out.trans (hW.mono HZ.out))
          clear d1 HD ir hir hgg hmn hc HO HW HZ
          by_cases h0 : c < 0
          · go_wp2
            refine region_below (by kernel_rfl) (by kernel_rfl) ?_
            repeat (go_big_quiet_step (first
              | (intro hq; rfl)
              | (intro hq; rw [D1.out _ hq]; exact ⟨rfl, rfl⟩)
              | (intro hq; go_at_call 17; (with_reducible exact hK.out _ hq))))
            refine wpQuiet_nil ?_
            intro w2 hb2
            have HB2 := hid (HB0.out w2 hb2)
            clear hb2 hK D1
            go_wp2
            go_ret2
            exact ⟨rfl, HB2.out⟩
          · have h23 : 23 < c := by omega
            go_wp2
            refine region_below (by kernel_rfl) (by kernel_rfl) ?_
            repeat (go_big_quiet_step (first
              | (intro hq; rfl)
              | (intro hq; rw [D1.out _ hq]; exact ⟨rfl, rfl⟩)
              | (intro hq; go_at_call 17; (with_reducible exact hK.out _ hq))))
            refine wpQuiet_nil ?_
            intro w2 hb2
            have HB2 := hid (HB0.out w2 hb2)
            clear hb2 hK D1
            go_wp2
            go_ret2
            exact ⟨rfl, HB2.out⟩
      · obtain rfl : k = 13 := by omega
        have hgood : good = true := by
          have hg := HG.out
          cases good with
          | true => rfl
          | false => simp at hg; omega
        subst hgood
        obtain ⟨a1, c1, rfl, i1⟩ := own_ints HO.out
        have I1 := hid i1
        clear i1
        go_wp2
        go_ret2
        exact ⟨a1, c1, rfl, I1.out, by rw [← HB.out]; exact HW.out, fun x hx => by rw [← HB.out]; exact own_new HO.out x hx⟩
theorem rrow_no (i : Bool) (a : Option Addr) (len cap : Nat) (P : Nat → Int) (ml : len ≤ maxLen) (a' : Option Addr) (len' cap' : Nat) (ml' : len' ≤ maxLen) (D : Nat → Int) (hn : len' ≠ 13 ∨ allIn (-67) 67 D 13 = false ∨ eSideB i len P = false) (w : World) (h : IsInts w a len cap P) (h' : IsInts w a' len' cap' D) :
    Calls Try.prog 7 #[.bool i, .slice a len cap, .slice a' len' cap'] w (RNone w) := by
  have HB0 := hid (Below.refl w.heap.size w)
  by_cases h13 : len' = 13
  · subst h13
    have K1 := hid (rwithin_g (-67) 67 a' 13 cap' D (by omega) w h')
    cases hD : allIn (-67) 67 D 13 with
    | false =>
      rw [hD] at K1
      clear hn h h'
      go_enter Try.func7, Try.ntmps7
      go_wp2_with (fail)
      refine Calls.mono K1.out ?_
      rintro e w1 ⟨rfl, rfl⟩
      go_wp2
      go_ret2
      exact ⟨rfl, HB0.out⟩
    | true =>
      have hs : eSideB i len P = false := by
        rcases hn with h | h | h
        · exact absurd rfl h
        · rw [hD] at h; cases h
        · exact h
      rw [hD] at K1
      cases i with
      | true => cases hs
      | false =>
        have K2 := hid (rside_any a len cap P ml w h false hs)
        clear hn h h'
        go_enter Try.func7, Try.ntmps7
        go_wp2_with (fail)
        refine Calls.mono K1.out ?_
        rintro e w1 ⟨rfl, rfl⟩
        go_wp2_with (fail)
        refine Calls.mono K2.out ?_
        rintro e w1 ⟨rfl, rfl⟩
        go_wp2
        go_ret2
        exact ⟨rfl, HB0.out⟩
  · have h1 : ((len' : Int) != 13) = true := by
      have : ((len' : Int) == 13) = false := by simp; omega
      rw [bne, this]; rfl
    unfold maxLen at ml'
    clear hn h h'
    go_enter Try.func7, Try.ntmps7
    go_wp2
    go_ret2
    exact ⟨rfl, HB0.out⟩
end Go.Proofs.Ytfpbmgejjnifmaa
