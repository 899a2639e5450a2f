/-
  The contracts of the document's sum and Sums.
-/
import Derived.Test.YtfhcfdepjhdhfaaDoorZI
import Derived.Test.YtfhcfdepjhdhfaaDoorZB
import Derived.Test.YtfhcfdepjhdhfaaDoorZC
import Derived.Test.YtfhcfdepjhdhfaaDoorZA
namespace Go.Proofs.YtfhcfdepjhdhfaaDoor
open Go.ChangeShapes Go.WideShapes Go.ChangeAt Go.RowKit
set_option linter.unusedVariables false

/-- Block g holds the document's cosines. -/
def CosAt (g : Nat) (w : World) : Prop := g < w.heap.size ∧ ∀ i, i < 512 → w.cell? ⟨g, i, none⟩ = some (.int .i64 (cosT i))
theorem CosAt.below {g : Nat} {w w' : World} (h : CosAt g w) (hb : Below w.heap.size w w') : CosAt g w' :=
  ⟨Nat.lt_of_lt_of_le h.1 hb.size, fun i hi => (hb.cell (p := ⟨g, i, none⟩) h.1).trans (h.2 i hi)⟩
theorem xsum_snoc (n : Nat) (U : Nat → Int) (k i : Nat) : sumN (i + 1) (fun i => U i * cosI (xang n i k)) = sumN i (fun i => U i * cosI (xang n i k)) + U i * cosI (xang n i k) := rfl
set_option maxRecDepth 100000 in
set_option maxHeartbeats 1000000 in
theorem rsum_any {n : Nat} (hN : IsN n) (g gc : Nat) (a : Option Addr) (cap : Nat) (U : Nat → Int) (hU : ∀ i, i < n → -33554432 ≤ U i ∧ U i ≤ 33554432) (k : Nat) (hk : k < n) (w : World) (hg : CosAt g w) (hu : IsInts w a n cap U) :
    Calls Tryd.prog 65 #[.slice (some ⟨g, 0, none⟩) 512 gc, .slice a n cap, .int .i64 k] w fun e w' => e = .returned (.int .i64 (xsum n U k)) ∧ Below w.heap.size w w' := by
  obtain ⟨st, hst, hs1, hs8, htd, hnz⟩ := hN.div
  have hle := hN.le
  have HN : Hid (IsN n) := hN
  obtain ⟨ub, uo, rfl, HC⟩ := hu.cells (by have := hN.ge; omega)
  replace HC : Hid (∀ W, Below w.heap.size w W → ∀ i, i < n → W.cell? ⟨ub, uo + i, none⟩ = some (.int .i64 (U i))) := HC
  have HG : Hid (∀ W, Below w.heap.size w W → ∀ i, i < 512 → W.cell? ⟨g, i, none⟩ = some (.int .i64 (cosT i))) := fun W hb => (hg.below hb).2
  have HU : Hid (∀ i, i < n → -33554432 ≤ U i ∧ U i ≤ 33554432) := hU
  have HX : Hid (∀ i, xang n i k = ((st : Int) * (2 * (i : Int) + 1)) * (2 * (k : Int) + 1)) := fun i => by rw [xang, hst]; simp
  have HSum : Hid (∀ i, i ≤ n → -(n * (33554432 * 16777216 : Int)) ≤ sumN i (fun i => U i * cosI (xang n i k)) ∧ sumN i (fun i => U i * cosI (xang n i k)) ≤ n * (33554432 * 16777216 : Int)) := fun i hi => by
    have h := sumN_bd (B := 33554432 * 16777216) i (g := fun i => U i * cosI (xang n i k)) (fun j hj => mul_bd (hU j (by omega)).1 (hU j (by omega)).2 (cosI_bd _).1 (cosI_bd _).2)
    have e : (i : Int) * (33554432 * 16777216) ≤ n * (33554432 * 16777216) := Int.mul_le_mul_of_nonneg_right (by omega) (by omega)
    omega
  have HA : Hid (xsum n U k = sumN n (fun i => U i * cosI (xang n i k))) := rfl
  have hwst : wrap64 (st : Int) = (st : Int) := by unfold wrap64; omega
  clear hu hg hU hst hN
  rw [HA.out]
  go_enter Tryd.func65, Tryd.ntmps65
  go_wp2
  go_loopw [7, 9] (fun s i wr => ∃ j : Nat, j ≤ n ∧ i = .int .i64 j ∧ s = .int .i64 (sumN j (fun i => U i * cosI (xang n i k))) ∧ Hid (Below w.heap.size w wr)) (fun _ i _ => n - (intOf i).toNat)
  case atStart => exact ⟨0, Nat.zero_le _, rfl, rfl, Below.refl _ _⟩
  case round =>
    obtain ⟨j, hj, rfl, rfl, HW⟩ := hrel
    by_cases hlt : j < n
    · have hx := xang_bd (i := j) (k := k) HN.out (by omega) (by omega)
      have hX := HX.out j
      obtain ⟨m, hm⟩ : ∃ m : Nat, xang n j k = (m : Int) := ⟨(xang n j k).toNat, by omega⟩
      have hcos : cosI (xang n j k) = cosT (m % 512) := by rw [hm, cosI]; congr 1
      have b1 := mul_bd (HU.out j hlt).1 (HU.out j hlt).2 (cosI_bd (xang n j k)).1 (cosI_bd (xang n j k)).2
      have b2 := HSum.out j (by omega)
      have e64 : (n : Int) * (33554432 * 16777216) ≤ 64 * (33554432 * 16777216) := Int.mul_le_mul_of_nonneg_right (by omega) (by omega)
      have HS' : Hid (sumN (j + 1) (fun i => U i * cosI (xang n i k)) = sumN j (fun i => U i * cosI (xang n i k)) + U j * cosI (xang n j k)) := rfl
      generalize sumN j (fun i => U i * cosI (xang n i k)) = S at *
      have ca : ∀ W, Below wr.heap.size wr W → W.cell? ⟨ub, uo + j, none⟩ = some (.int .i64 (U j)) := fun W hq => HC.out W (below_then HW.out hq) j hlt
      have cb : ∀ W, Below wr.heap.size wr W → W.cell? ⟨g, m % 512, none⟩ = some (.int .i64 (cosI (xang n j k))) := fun W hq => by rw [hcos]; exact HG.out W (below_then HW.out hq) _ (by omega)
      generalize cosI (xang n j k) = c at *
      generalize U j = y at *
      have p1 : (st : Int) * (2 * (j : Int) + 1) = ((st * (2 * j + 1) : Nat) : Int) := by simp
      have p2 : st * (2 * j + 1) ≤ 8 * 127 := Nat.mul_le_mul hs8 (by omega)
      have p3 : (st : Int) * (2 * (j : Int) + 1) * (2 * (k : Int) + 1) = (m : Int) := by rw [← hX, hm]
      have q3 : (m : Int).tmod 512 = ((m % 512 : Nat) : Int) := by rw [Int.tmod_eq_emod_of_nonneg (by omega)]; omega
      have q3' : (m : Int) % 512 = ((m % 512 : Nat) : Int) := by omega
      have q1 : Hid (wrap64 ((st : Int) * (2 * (j : Int) + 1)) = (st : Int) * (2 * (j : Int) + 1)) := by rw [p1]; exact wr_in (by omega) (by omega)
      have q2 : Hid (wrap64 ((st : Int) * (2 * (j : Int) + 1) * (2 * (k : Int) + 1)) = (m : Int)) := by rw [p3]; exact wr_in (by omega) (by omega)
      have q4 : Hid (wrap64 (y * c) = y * c) := wr_in (by omega) (by omega)
      have q5 : Hid (wrap64 (S + y * c) = S + y * c) := wr_in (by omega) (by omega)
      have hm512 : m % 512 < 512 := by omega
      have hmi : 0 ≤ ((m % 512 : Nat) : Int) := by omega
      have hmi2 : ((m % 512 : Nat) : Int) < 512 := by omega
      clear hx hX hm b1 b2 e64 p1 p2 p3 hcos
      replace q1 := q1.out
      replace q2 := q2.out
      replace q4 := q4.out
      generalize m % 512 = d at *
      go_wp2
      refine region_below (by kernel_rfl) (by kernel_rfl) ?_
      repeat (go_big_quiet_step (first
        | (intro hq; rfl)
        | (intro hq; rw [ca _ hq]; exact ⟨rfl, rfl⟩)
        | (intro hq; rw [cb _ hq]; exact ⟨rfl, rfl⟩)))
      refine wpQuiet_nil ?_
      intro w1 hq
      have HW1 : Hid (Below w.heap.size w w1) := below_then HW.out hq
      clear hq ca cb HW
      go_wp2
      refine ⟨⟨j + 1, by omega, by go_num, by rw [HS'.out, q5.out], HW1⟩, by simp [intOf]; omega⟩
    · obtain rfl : j = n := by omega
      go_wp2
      go_ret
      exact ⟨rfl, HW.out⟩
set_option maxRecDepth 100000 in
theorem rsums_any {n : Nat} (hN : IsN n) (a : Option Addr) (cap : Nat) (U : Nat → Int) (hU : ∀ i, i < n → -33554432 ≤ U i ∧ U i ≤ 33554432) (w : World) (hu : IsInts w a n cap U) :
    Calls Tryd.prog 54 #[.slice a n cap] w (OPost n (xsum n U) w) := by
  obtain ⟨i0, hi, hz0, hz1, hz2⟩ := infoI
  have HI : Hid (Tryd.prog.info? 3 = some i0) := hi
  have hle := hN.le
  have HM : Hid (Calls Tryd.prog 64 #[] w fun e w' => MakePost w e w') := rmake_any w
  have HSm : Hid (∀ g gc W, CosAt g W → Below w.heap.size w W → ∀ k, k < n → Calls Tryd.prog 65 #[.slice (some ⟨g, 0, none⟩) 512 gc, .slice a n cap, .int .i64 k] W fun e w' => e = .returned (.int .i64 (xsum n U k)) ∧ Below W.heap.size W w') :=
    fun g gc W hg hb k hk => rsum_any hN g gc a cap U hU k hk W hg (hu.below hb)
  clear hi hU hu hN
  go_enter Tryd.func54, Tryd.ntmps54
  go_wp2_with (go_at_call 64; refine HM.out.mono ?_; rintro e w1 ⟨g, gc, rfl, hg1, hg2, hb⟩)
  have HB : Hid (Below w.heap.size w w1) := hb
  have HG : Hid (CosAt g w1) := ⟨hg1, hg2⟩
  clear hb hg1 hg2 HM
  go_loopw [4, 5] (fun o i wr => ∃ k : Nat, k ≤ n ∧ i = .int .i64 k ∧ Hid (wr.ownsRow w1.heap.size 3 1 o k (intL k (xsum n U))) ∧ Hid (Below w1.heap.size w1 wr) ∧ Hid (w1.heap.size ≤ wr.heap.size)) (fun _ i _ => n - (intOf i).toNat)
  case atStart => exact ⟨0, by omega, rfl, World.ownsRow_nil _ _ _ _, Below.refl _ _, Nat.le_refl _⟩
  case round =>
    obtain ⟨k, hk, rfl, HO, HW, HZ⟩ := hrel
    by_cases hlt : k < n
    · have HK := HSm.out g gc wr (HG.out.below HW.out) (below_then HB.out HW.out) k hlt
      replace HK : Hid _ := HK
      obtain ⟨c, hc⟩ : ∃ c, c = xsum n U k := ⟨_, rfl⟩
      have HCC : Hid (c = xsum n U k) := hc
      rw [← hc] at HK
      clear hc
      go_wp2_with (first
        | (go_at_call 65; refine Calls.mono HK.out ?_; rintro e w2 ⟨rfl, hb2⟩
           have HB2 : Hid (Below w1.heap.size w1 w2) := below_then HW.out hb2
           have HZ2 : Hid (w1.heap.size ≤ w2.heap.size) := HB2.out.size
           have HO2 : Hid (w2.ownsRow w1.heap.size 3 1 u4 k (intL k (xsum n U))) := owns_below HO.out hb2
           have HA : Hid ((w2.alloc (.cells #[.int .i64 c] 3)).ownsRow w1.heap.size 3 1 u4 k (intL k (xsum n U))) := HO2.out.alloc _
           have HS : Hid (w1.heap.size ≤ (w2.alloc (.cells #[.int .i64 c] 3)).heap.size) := Nat.le_trans HZ2.out (by simp)
           clear hb2 HK HO HW HZ HSm)
        | (at_builtin; refine wpList_append_lies _ rfl _ _ _ rfl w1.heap.size 3 i0 (.int .i64 0) 1 8 Tryd.underlying23 HI.out hz0 hz1 hz2 rfl (by omega) _ _ _ rfl HA.out ⟨w2.heap.size, 0, none⟩ 1 1 [.int .i64 c] rfl rfl (World.news_of_block (cs := #[.int .i64 c]) (heap_alloc_new w2 _)) (by intro u hu; simp at hu; subst hu; rfl) (by omega) (by unfold maxLen; omega) (by omega) HS.out _ rfl ?_))
      intro gg cap w3 hown hgr _ _
      obtain ⟨o1, o2, o3⟩ := oi_step HO2.out HB2.out HZ2.out HCC.out hown hgr
      have O1 : Hid _ := o1
      have O2 : Hid _ := o2
      have O3 : Hid _ := o3
      clear hown hgr o1 o2 o3 HA HS
      go_wp2
      refine ⟨⟨k + 1, by omega, by go_num, O1, O2, O3⟩, by simp [intOf]; omega⟩
    · obtain rfl : k = n := by omega
      obtain ⟨a1, c1, rfl, i1⟩ := own_ints HO.out
      have I1 : Hid _ := i1
      clear i1
      go_wp2
      go_ret
      exact ⟨a1, c1, rfl, I1.out, below_then HB.out HW.out, fun x hx => Nat.le_trans HB.out.size (own_new HO.out x hx)⟩
end Go.Proofs.YtfhcfdepjhdhfaaDoor
/-
  The contract of the document's Back.
-/
namespace Go.Proofs.YtfhcfdepjhdhfaaDoor
open Go.ChangeShapes Go.WideShapes Go.ChangeAt Go.RowKit
set_option linter.unusedVariables false

set_option maxRecDepth 100000 in
theorem rback_yes {n : Nat} (hN : IsN n) (a : Option Addr) (cap : Nat) (U : Nat → Int) (hU : ∀ i, i < n → -33554432 ≤ U i ∧ U i ≤ 33554432) (w : World) (hu : IsInts w a n cap U) :
    Calls Tryd.prog 51 #[.slice a n cap] w (OPost n (backF n U) w) := by
  obtain ⟨i0, hi, hz0, hz1, hz2⟩ := infoI
  have HI : Hid (Tryd.prog.info? 3 = some i0) := hi
  have hle := hN.le
  have HR : Hid (Calls Tryd.prog 16 #[.slice a n cap, .int .i64 33554432] w fun e w' => e = .returned (.bool true) ∧ w' = w) := by
    have := xright_any 33554432 (by omega) (by omega) a n cap U (Nat.le_trans hN.le (by decide)) w hu
    rwa [rightF_of hN hU] at this
  have HS : Hid (Calls Tryd.prog 54 #[.slice a n cap] w (OPost n (xsum n U) w)) := rsums_any hN a cap U hU w hu
  have HB : Hid (∀ k, shrF (xsum n U k) (if n = 64 then 29 else 26) = backF n U k) := fun k => shr_back hN hU k
  have HN1 : Hid (1 ≤ n) := by show _ ≤ _; have := hN.ge; omega
  clear hi hU hu
  obtain ⟨by', hby⟩ : ∃ b : Int, b = if n = 64 then 29 else 26 := ⟨_, rfl⟩
  rw [← hby] at HB
  rcases hN with rfl | rfl
  all_goals
    simp only [if_true, Nat.reduceEqDiff, if_false] at hby
    subst hby
    go_enter Tryd.func51, Tryd.ntmps51
    go_wp2_with (first
      | (go_at_call 16; refine HR.out.mono ?_; rintro e w1 ⟨rfl, rfl⟩)
      | (go_at_call 54; refine Calls.mono HS.out ?_; rintro e w2 ⟨a2, c2, rfl, i2, b2, _⟩; obtain ⟨lb, lo, rfl, HL⟩ := i2.cells HN1.out; replace HL : Hid _ := HL; replace b2 : Hid _ := b2; clear i2))
  · go_loopw [5, 6] (fun o i wr => ∃ k : Nat, k ≤ 8 ∧ i = .int .i64 k ∧ Hid (wr.ownsRow w2.heap.size 3 1 o k (intL k (backF 8 U))) ∧ Hid (Below w2.heap.size w2 wr) ∧ Hid (w2.heap.size ≤ wr.heap.size)) (fun _ i _ => 8 - (intOf i).toNat)
    case atStart => exact ⟨0, by omega, rfl, World.ownsRow_nil _ _ _ _, Below.refl _ _, Nat.le_refl _⟩
    case round =>
      obtain ⟨k, hk, rfl, HO, HW, HZ⟩ := hrel
      by_cases hlt : k < 8
      · have hck := HL.out wr HW.out k hlt
        have HK : Hid (Calls Tryd.prog 52 #[.int .i64 (xsum 8 U k), .int .i64 26] wr fun e w' => e = .returned (.int .i64 (backF 8 U k)) ∧ Below wr.heap.size wr w') := by
          have h := shrR_any (xsum 8 U k) 26 wr
          rwa [HB.out] at h
        obtain ⟨c, hc⟩ : ∃ c, c = backF 8 U k := ⟨_, rfl⟩
        have HCC : Hid (c = backF 8 U k) := hc
        rw [← hc] at HK
        clear hc
        generalize xsum 8 U k = S at *
        go_wp2_with (first
          | (go_at_call 52; refine Calls.mono HK.out ?_; rintro e w4 ⟨rfl, hb2⟩
             have HB2 : Hid (Below w2.heap.size w2 w4) := below_then HW.out hb2
             have HZ2 : Hid (w2.heap.size ≤ w4.heap.size) := HB2.out.size
             have HO2 : Hid (w4.ownsRow w2.heap.size 3 1 u5 k (intL k (backF 8 U))) := owns_below HO.out hb2
             have HA : Hid ((w4.alloc (.cells #[.int .i64 c] 3)).ownsRow w2.heap.size 3 1 u5 k (intL k (backF 8 U))) := HO2.out.alloc _
             have HSS : Hid (w2.heap.size ≤ (w4.alloc (.cells #[.int .i64 c] 3)).heap.size) := Nat.le_trans HZ2.out (by simp)
             clear hb2 HK HO HW HZ)
          | (at_builtin; refine wpList_append_lies _ rfl _ _ _ rfl w2.heap.size 3 i0 (.int .i64 0) 1 8 Tryd.underlying23 HI.out hz0 hz1 hz2 rfl (by omega) _ _ _ rfl HA.out ⟨w4.heap.size, 0, none⟩ 1 1 [.int .i64 c] rfl rfl (World.news_of_block (cs := #[.int .i64 c]) (heap_alloc_new w4 _)) (by intro u hu; simp at hu; subst hu; rfl) (by omega) (by unfold maxLen; omega) (by omega) HSS.out _ rfl ?_))
        intro gg cap w3 hown hgr _ _
        obtain ⟨o1, o2, o3⟩ := oi_step HO2.out HB2.out HZ2.out HCC.out hown hgr
        have O1 : Hid _ := o1
        have O2 : Hid _ := o2
        have O3 : Hid _ := o3
        clear hown hgr o1 o2 o3 HA HSS hck
        go_wp2
        refine ⟨⟨k + 1, by omega, by go_num, O1, O2, O3⟩, by simp [intOf]; omega⟩
      · obtain rfl : k = 8 := by omega
        obtain ⟨a1, c1, rfl, i1⟩ := own_ints HO.out
        have I1 : Hid _ := i1
        clear i1
        go_wp2
        go_ret
        exact ⟨a1, c1, rfl, I1.out, below_then b2.out HW.out, fun x hx => Nat.le_trans b2.out.size (own_new HO.out x hx)⟩
  · go_loopw [5, 6] (fun o i wr => ∃ k : Nat, k ≤ 64 ∧ i = .int .i64 k ∧ Hid (wr.ownsRow w2.heap.size 3 1 o k (intL k (backF 64 U))) ∧ Hid (Below w2.heap.size w2 wr) ∧ Hid (w2.heap.size ≤ wr.heap.size)) (fun _ i _ => 64 - (intOf i).toNat)
    case atStart => exact ⟨0, by omega, rfl, World.ownsRow_nil _ _ _ _, Below.refl _ _, Nat.le_refl _⟩
    case round =>
      obtain ⟨k, hk, rfl, HO, HW, HZ⟩ := hrel
      by_cases hlt : k < 64
      · have hck := HL.out wr HW.out k hlt
        have HK : Hid (Calls Tryd.prog 52 #[.int .i64 (xsum 64 U k), .int .i64 29] wr fun e w' => e = .returned (.int .i64 (backF 64 U k)) ∧ Below wr.heap.size wr w') := by
          have h := shrR_any (xsum 64 U k) 29 wr
          rwa [HB.out] at h
        obtain ⟨c, hc⟩ : ∃ c, c = backF 64 U k := ⟨_, rfl⟩
        have HCC : Hid (c = backF 64 U k) := hc
        rw [← hc] at HK
        clear hc
        generalize xsum 64 U k = S at *
        go_wp2_with (first
          | (go_at_call 52; refine Calls.mono HK.out ?_; rintro e w4 ⟨rfl, hb2⟩
             have HB2 : Hid (Below w2.heap.size w2 w4) := below_then HW.out hb2
             have HZ2 : Hid (w2.heap.size ≤ w4.heap.size) := HB2.out.size
             have HO2 : Hid (w4.ownsRow w2.heap.size 3 1 u5 k (intL k (backF 64 U))) := owns_below HO.out hb2
             have HA : Hid ((w4.alloc (.cells #[.int .i64 c] 3)).ownsRow w2.heap.size 3 1 u5 k (intL k (backF 64 U))) := HO2.out.alloc _
             have HSS : Hid (w2.heap.size ≤ (w4.alloc (.cells #[.int .i64 c] 3)).heap.size) := Nat.le_trans HZ2.out (by simp)
             clear hb2 HK HO HW HZ)
          | (at_builtin; refine wpList_append_lies _ rfl _ _ _ rfl w2.heap.size 3 i0 (.int .i64 0) 1 8 Tryd.underlying23 HI.out hz0 hz1 hz2 rfl (by omega) _ _ _ rfl HA.out ⟨w4.heap.size, 0, none⟩ 1 1 [.int .i64 c] rfl rfl (World.news_of_block (cs := #[.int .i64 c]) (heap_alloc_new w4 _)) (by intro u hu; simp at hu; subst hu; rfl) (by omega) (by unfold maxLen; omega) (by omega) HSS.out _ rfl ?_))
        intro gg cap w3 hown hgr _ _
        obtain ⟨o1, o2, o3⟩ := oi_step HO2.out HB2.out HZ2.out HCC.out hown hgr
        have O1 : Hid _ := o1
        have O2 : Hid _ := o2
        have O3 : Hid _ := o3
        clear hown hgr o1 o2 o3 HA HSS hck
        go_wp2
        refine ⟨⟨k + 1, by omega, by go_num, O1, O2, O3⟩, by simp [intOf]; omega⟩
      · obtain rfl : k = 64 := by omega
        obtain ⟨a1, c1, rfl, i1⟩ := own_ints HO.out
        have I1 : Hid _ := i1
        clear i1
        go_wp2
        go_ret
        exact ⟨a1, c1, rfl, I1.out, below_then b2.out HW.out, fun x hx => Nat.le_trans b2.out.size (own_new HO.out x hx)⟩
end Go.Proofs.YtfhcfdepjhdhfaaDoor
