/-
  The contract of the document's Back.
-/
import Derived.Test.YtgkjjkdjalbfaaaDoorXD
import Derived.Test.YtgkjjkdjalbfaaaDoorXE
import Derived.Test.YtgkjjkdjalbfaaaDoorNShrR
namespace Go.Proofs.YtgkjjkdjalbfaaaDoor
open Go.ChangeShapes Go.WideShapes Go.ChangeAt Go.RowKit
set_option linter.unusedVariables false

set_option maxRecDepth 100000 in
theorem rback_yes {n : Nat} (hN : IsN n) (a : Option Addr) (cap : Nat) (U : Nat → Int) (hU : ∀ i, i < n → -33554432 ≤ U i ∧ U i ≤ 33554432) (w : World) (hu : IsInts w a n cap U) :
    Calls Tryd.prog 11 #[.slice a n cap] w (OPost n (backF n U) w) := by
  obtain ⟨i0, hi, hz0, hz1, hz2⟩ := infoI
  have HI : Hid (Tryd.prog.info? 3 = some i0) := hi
  have hle := hN.le
  have HR : Hid (Calls Tryd.prog 13 #[.slice a n cap, .int .i64 33554432] w fun e w' => e = .returned (.bool true) ∧ w' = w) := by
    have := xright_any 33554432 (by omega) (by omega) a n cap U (Nat.le_trans hN.le (by decide)) w hu
    rwa [rightF_of hN hU] at this
  have HS : Hid (Calls Tryd.prog 21 #[.slice a n cap] w (OPost n (xsum n U) w)) := rsums_any hN a cap U hU w hu
  have HB : Hid (∀ k, shrF (xsum n U k) (if n = 64 then 29 else 26) = backF n U k) := fun k => shr_back hN hU k
  have HN1 : Hid (1 ≤ n) := by show _ ≤ _; have := hN.ge; omega
  clear hi hU hu
  obtain ⟨by', hby⟩ : ∃ b : Int, b = if n = 64 then 29 else 26 := ⟨_, rfl⟩
  rw [← hby] at HB
  rcases hN with rfl | rfl
  all_goals
    simp only [if_true, Nat.reduceEqDiff, if_false] at hby
    subst hby
    go_enter Tryd.func11, Tryd.ntmps11
    go_wp2_with (first
      | (go_at_call 13; refine HR.out.mono ?_; rintro e w1 ⟨rfl, rfl⟩)
      | (go_at_call 21; refine Calls.mono HS.out ?_; rintro e w2 ⟨a2, c2, rfl, i2, b2⟩; obtain ⟨lb, lo, rfl, HL⟩ := i2.cells HN1.out; replace HL : Hid _ := HL; replace b2 : Hid _ := b2; clear i2))
  · go_loopw [5, 6] (fun o i wr => ∃ k : Nat, k ≤ 8 ∧ i = .int .i64 k ∧ Hid (wr.ownsRow w2.heap.size 3 1 o k (intL k (backF 8 U))) ∧ Hid (Below w2.heap.size w2 wr) ∧ Hid (w2.heap.size ≤ wr.heap.size)) (fun _ i _ => 8 - (intOf i).toNat)
    case atStart => exact ⟨0, by omega, rfl, World.ownsRow_nil _ _ _ _, Below.refl _ _, Nat.le_refl _⟩
    case round =>
      obtain ⟨k, hk, rfl, HO, HW, HZ⟩ := hrel
      by_cases hlt : k < 8
      · have hck := HL.out wr HW.out k hlt
        have HK : Hid (Calls Tryd.prog 19 #[.int .i64 (xsum 8 U k), .int .i64 26] wr fun e w' => e = .returned (.int .i64 (backF 8 U k)) ∧ Below wr.heap.size wr w') := by
          have h := shrR_any (xsum 8 U k) 26 wr
          rwa [HB.out] at h
        obtain ⟨c, hc⟩ : ∃ c, c = backF 8 U k := ⟨_, rfl⟩
        have HCC : Hid (c = backF 8 U k) := hc
        rw [← hc] at HK
        clear hc
        generalize xsum 8 U k = S at *
        go_wp2_with (first
          | (go_at_call 19; refine Calls.mono HK.out ?_; rintro e w4 ⟨rfl, hb2⟩
             have HB2 : Hid (Below w2.heap.size w2 w4) := below_then HW.out hb2
             have HZ2 : Hid (w2.heap.size ≤ w4.heap.size) := HB2.out.size
             have HO2 : Hid (w4.ownsRow w2.heap.size 3 1 u5 k (intL k (backF 8 U))) := owns_below HO.out hb2
             have HA : Hid ((w4.alloc (.cells #[.int .i64 c] 3)).ownsRow w2.heap.size 3 1 u5 k (intL k (backF 8 U))) := HO2.out.alloc _
             have HSS : Hid (w2.heap.size ≤ (w4.alloc (.cells #[.int .i64 c] 3)).heap.size) := Nat.le_trans HZ2.out (by simp)
             clear hb2 HK HO HW HZ)
          | (at_builtin; refine wpList_append_lies _ rfl _ _ _ rfl w2.heap.size 3 i0 (.int .i64 0) 1 8 Tryd.underlying22 HI.out hz0 hz1 hz2 rfl (by omega) _ _ _ rfl HA.out ⟨w4.heap.size, 0, none⟩ 1 1 [.int .i64 c] rfl rfl (World.news_of_block (cs := #[.int .i64 c]) (heap_alloc_new w4 _)) (by intro u hu; simp at hu; subst hu; rfl) (by omega) (by unfold maxLen; omega) (by omega) HSS.out _ rfl ?_))
        intro gg cap w3 hown hgr _ _
        obtain ⟨o1, o2, o3⟩ := oi_step HO2.out HB2.out HZ2.out HCC.out hown hgr
        have O1 : Hid _ := o1
        have O2 : Hid _ := o2
        have O3 : Hid _ := o3
        clear hown hgr o1 o2 o3 HA HSS hck
        go_wp2
        refine ⟨⟨k + 1, by omega, by go_num, O1, O2, O3⟩, by simp [intOf]; omega⟩
      · obtain rfl : k = 8 := by omega
        obtain ⟨a1, c1, rfl, i1⟩ := own_ints HO.out
        have I1 : Hid _ := i1
        clear i1
        go_wp2
        go_ret
        exact ⟨a1, c1, rfl, I1.out, below_then b2.out HW.out⟩
  · go_loopw [5, 6] (fun o i wr => ∃ k : Nat, k ≤ 64 ∧ i = .int .i64 k ∧ Hid (wr.ownsRow w2.heap.size 3 1 o k (intL k (backF 64 U))) ∧ Hid (Below w2.heap.size w2 wr) ∧ Hid (w2.heap.size ≤ wr.heap.size)) (fun _ i _ => 64 - (intOf i).toNat)
    case atStart => exact ⟨0, by omega, rfl, World.ownsRow_nil _ _ _ _, Below.refl _ _, Nat.le_refl _⟩
    case round =>
      obtain ⟨k, hk, rfl, HO, HW, HZ⟩ := hrel
      by_cases hlt : k < 64
      · have hck := HL.out wr HW.out k hlt
        have HK : Hid (Calls Tryd.prog 19 #[.int .i64 (xsum 64 U k), .int .i64 29] wr fun e w' => e = .returned (.int .i64 (backF 64 U k)) ∧ Below wr.heap.size wr w') := by
          have h := shrR_any (xsum 64 U k) 29 wr
          rwa [HB.out] at h
        obtain ⟨c, hc⟩ : ∃ c, c = backF 64 U k := ⟨_, rfl⟩
        have HCC : Hid (c = backF 64 U k) := hc
        rw [← hc] at HK
        clear hc
        generalize xsum 64 U k = S at *
        go_wp2_with (first
          | (go_at_call 19; refine Calls.mono HK.out ?_; rintro e w4 ⟨rfl, hb2⟩
             have HB2 : Hid (Below w2.heap.size w2 w4) := below_then HW.out hb2
             have HZ2 : Hid (w2.heap.size ≤ w4.heap.size) := HB2.out.size
             have HO2 : Hid (w4.ownsRow w2.heap.size 3 1 u5 k (intL k (backF 64 U))) := owns_below HO.out hb2
             have HA : Hid ((w4.alloc (.cells #[.int .i64 c] 3)).ownsRow w2.heap.size 3 1 u5 k (intL k (backF 64 U))) := HO2.out.alloc _
             have HSS : Hid (w2.heap.size ≤ (w4.alloc (.cells #[.int .i64 c] 3)).heap.size) := Nat.le_trans HZ2.out (by simp)
             clear hb2 HK HO HW HZ)
          | (at_builtin; refine wpList_append_lies _ rfl _ _ _ rfl w2.heap.size 3 i0 (.int .i64 0) 1 8 Tryd.underlying22 HI.out hz0 hz1 hz2 rfl (by omega) _ _ _ rfl HA.out ⟨w4.heap.size, 0, none⟩ 1 1 [.int .i64 c] rfl rfl (World.news_of_block (cs := #[.int .i64 c]) (heap_alloc_new w4 _)) (by intro u hu; simp at hu; subst hu; rfl) (by omega) (by unfold maxLen; omega) (by omega) HSS.out _ rfl ?_))
        intro gg cap w3 hown hgr _ _
        obtain ⟨o1, o2, o3⟩ := oi_step HO2.out HB2.out HZ2.out HCC.out hown hgr
        have O1 : Hid _ := o1
        have O2 : Hid _ := o2
        have O3 : Hid _ := o3
        clear hown hgr o1 o2 o3 HA HSS hck
        go_wp2
        refine ⟨⟨k + 1, by omega, by go_num, O1, O2, O3⟩, by simp [intOf]; omega⟩
      · obtain rfl : k = 64 := by omega
        obtain ⟨a1, c1, rfl, i1⟩ := own_ints HO.out
        have I1 : Hid _ := i1
        clear i1
        go_wp2
        go_ret
        exact ⟨a1, c1, rfl, I1.out, below_then b2.out HW.out⟩
end Go.Proofs.YtgkjjkdjalbfaaaDoor
