/-
  The contract of the document's Four; of both that refuse.
-/
import Derived.Test.YtgkjjkdjalbfaaaDoorXF
namespace Go.Proofs.YtgkjjkdjalbfaaaDoor
open Go.ChangeShapes Go.WideShapes Go.ChangeAt Go.RowKit
set_option linter.unusedVariables false

set_option maxRecDepth 100000 in
theorem rfour_yes {n : Nat} (hN : IsN n) (a : Option Addr) (cap : Nat) (U : Nat → Int) (hU : ∀ i, i < n → -33554432 ≤ U i ∧ U i ≤ 33554432) (w : World) (hu : IsInts w a n cap U) :
    Calls Tryd.prog 9 #[.slice a n cap] w (OPost n (fourF n U) w) := by
  obtain ⟨i0, hi, hz0, hz1, hz2⟩ := infoI
  have HI : Hid (Tryd.prog.info? 3 = some i0) := hi
  have hle := hN.le
  have HR : Hid (Calls Tryd.prog 13 #[.slice a n cap, .int .i64 33554432] w fun e w' => e = .returned (.bool true) ∧ w' = w) := by
    have := xright_any 33554432 (by omega) (by omega) a n cap U (Nat.le_trans hN.le (by decide)) w hu
    rwa [rightF_of hN hU] at this
  have HSm : Hid (∀ g gc W, CosAt g W → Below w.heap.size w W → ∀ k, k < n → Calls Tryd.prog 20 #[.slice (some ⟨g, 0, none⟩) 512 gc, .slice a n cap, .int .i64 k] W fun e w' => e = .returned (.int .i64 (xsum n U k)) ∧ Below W.heap.size W w') :=
    fun g gc W hg hb k hk => rsum_any hN g gc a cap U hU k hk W hg (hu.below hb)
  have HF : Hid (∀ k W, Calls Tryd.prog 19 #[.int .i64 (xsum n U k), .int .i64 24] W fun e w' => e = .returned (.int .i64 (fourF n U k)) ∧ Below W.heap.size W w') := fun k W => by
    have h := shrR_any (xsum n U k) 24 W
    rwa [shr_four hN hU] at h
  clear hi hU hu hN
  go_enter Tryd.func9, Tryd.ntmps9
  go_wp2_with (first
    | (go_at_call 13; refine HR.out.mono ?_; rintro e wz ⟨rfl, rfl⟩)
    | (go_at_call 18; refine (rmake_any _).mono ?_; rintro e w1 ⟨g, gc, rfl, hg1, hg2, hb⟩))
  have HB : Hid (Below wz.heap.size wz w1) := hb
  have HG : Hid (CosAt g w1) := ⟨hg1, hg2⟩
  clear hb hg1 hg2 HR
  go_loopw [4, 5] (fun o i wr => ∃ k : Nat, k ≤ n ∧ i = .int .i64 k ∧ Hid (wr.ownsRow w1.heap.size 3 1 o k (intL k (fourF n U))) ∧ Hid (Below w1.heap.size w1 wr) ∧ Hid (w1.heap.size ≤ wr.heap.size)) (fun _ i _ => n - (intOf i).toNat)
  case atStart => exact ⟨0, by omega, rfl, World.ownsRow_nil _ _ _ _, Below.refl _ _, Nat.le_refl _⟩
  case round =>
    obtain ⟨k, hk, rfl, HO, HW, HZ⟩ := hrel
    by_cases hlt : k < n
    · have HK := HSm.out g gc wr (HG.out.below HW.out) (below_then HB.out HW.out) k hlt
      replace HK : Hid _ := HK
      have HK2 : Hid (∀ W, Calls Tryd.prog 19 #[.int .i64 (xsum n U k), .int .i64 24] W fun e w' => e = .returned (.int .i64 (fourF n U k)) ∧ Below W.heap.size W w') := HF.out k
      obtain ⟨c, hc⟩ : ∃ c, c = fourF n U k := ⟨_, rfl⟩
      have HCC : Hid (c = fourF n U k) := hc
      rw [← hc] at HK2
      clear hc
      generalize xsum n U k = S at *
      go_wp2_with (first
        | (go_at_call 20; refine Calls.mono HK.out ?_; rintro e w5 ⟨rfl, hb5⟩; replace hb5 : Hid _ := hb5)
        | (go_at_call 19; refine Calls.mono (HK2.out _) ?_; rintro e w2 ⟨rfl, hb2⟩
           have hb6 := below_then hb5.out hb2
           have HB2 : Hid (Below w1.heap.size w1 w2) := below_then HW.out hb6
           have HZ2 : Hid (w1.heap.size ≤ w2.heap.size) := HB2.out.size
           have HO2 : Hid (w2.ownsRow w1.heap.size 3 1 u4 k (intL k (fourF n U))) := owns_below HO.out hb6
           have HA : Hid ((w2.alloc (.cells #[.int .i64 c] 3)).ownsRow w1.heap.size 3 1 u4 k (intL k (fourF n U))) := HO2.out.alloc _
           have HS : Hid (w1.heap.size ≤ (w2.alloc (.cells #[.int .i64 c] 3)).heap.size) := Nat.le_trans HZ2.out (by simp)
           clear hb2 hb5 hb6 HK HK2 HO HW HZ HSm)
        | (at_builtin; refine wpList_append_lies _ rfl _ _ _ rfl w1.heap.size 3 i0 (.int .i64 0) 1 8 Tryd.underlying22 HI.out hz0 hz1 hz2 rfl (by omega) _ _ _ rfl HA.out ⟨w2.heap.size, 0, none⟩ 1 1 [.int .i64 c] rfl rfl (World.news_of_block (cs := #[.int .i64 c]) (heap_alloc_new w2 _)) (by intro u hu; simp at hu; subst hu; rfl) (by omega) (by unfold maxLen; omega) (by omega) HS.out _ rfl ?_))
      intro gg cap w3 hown hgr _ _
      obtain ⟨o1, o2, o3⟩ := oi_step HO2.out HB2.out HZ2.out HCC.out hown hgr
      have O1 : Hid _ := o1
      have O2 : Hid _ := o2
      have O3 : Hid _ := o3
      clear hown hgr o1 o2 o3 HA HS
      go_wp2
      refine ⟨⟨k + 1, by omega, by go_num, O1, O2, O3⟩, by simp [intOf]; omega⟩
    · obtain rfl : k = n := by omega
      obtain ⟨a1, c1, rfl, i1⟩ := own_ints HO.out
      have I1 : Hid _ := i1
      clear i1
      go_wp2
      go_ret
      exact ⟨a1, c1, rfl, I1.out, below_then HB.out HW.out⟩
theorem rfour_no (a : Option Addr) (len cap : Nat) (U : Nat → Int) (hl : len ≤ maxLen) (h : rightF U len 33554432 = false) (w : World) (hu : IsInts w a len cap U) :
    Calls Tryd.prog 9 #[.slice a len cap] w fun e w' => e = .returned (.slice none 0 0) ∧ w' = w := by
  have HR : Hid (Calls Tryd.prog 13 #[.slice a len cap, .int .i64 33554432] w fun e w' => e = .returned (.bool false) ∧ w' = w) := by
    have := xright_any 33554432 (by omega) (by omega) a len cap U hl w hu
    rwa [h] at this
  clear h hu hl
  go_enter Tryd.func9, Tryd.ntmps9
  go_wp2_with (go_at_call 13; refine HR.out.mono ?_; rintro e w1 ⟨rfl, rfl⟩)
  go_ret
  exact ⟨rfl, rfl⟩
theorem rback_no (a : Option Addr) (len cap : Nat) (U : Nat → Int) (hl : len ≤ maxLen) (h : rightF U len 33554432 = false) (w : World) (hu : IsInts w a len cap U) :
    Calls Tryd.prog 11 #[.slice a len cap] w fun e w' => e = .returned (.slice none 0 0) ∧ w' = w := by
  have HR : Hid (Calls Tryd.prog 13 #[.slice a len cap, .int .i64 33554432] w fun e w' => e = .returned (.bool false) ∧ w' = w) := by
    have := xright_any 33554432 (by omega) (by omega) a len cap U hl w hu
    rwa [h] at this
  clear h hu hl
  go_enter Tryd.func11, Tryd.ntmps11
  go_wp2_with (go_at_call 13; refine HR.out.mono ?_; rintro e w1 ⟨rfl, rfl⟩)
  go_ret
  exact ⟨rfl, rfl⟩
end Go.Proofs.YtgkjjkdjalbfaaaDoor
