/-
  The contracts of lap.blocks: an iterator over the blocks of a spectrum, which makes each of them.
-/
import Derived.Test.YtfhcfdepjhdhfaaDoorYR
import Derived.Test.YtfhcfdepjhdhfaaDoorZD
import Derived.RangeFuncBound
import Derived.Shelf.Abstract
import Derived.LoopNIn
import Derived.LoopIn
namespace Go.Proofs.YtfhcfdepjhdhfaaDoor
open Go.ChangeShapes Go.WideShapes Go.ChangeAt Go.RowKit
set_option linter.unusedVariables false

theorem blocks_any (t : Nat) (a : Option Addr) (len cap : Nat) (short : Bool) (w : World) :
    Calls Tryd.prog 24 #[.pointer (some ⟨t, 0, none⟩), .slice a len cap, .bool short] w fun e w' => e = .returned (.func (.func 44) #[] #[.pointer (some ⟨w.heap.size + 1 + 1, 0, none⟩), .pointer (some ⟨w.heap.size, 0, none⟩), .pointer (some ⟨w.heap.size + 1, 0, none⟩)]) ∧
      w' = ((w.alloc (.cells #[.pointer (some ⟨t, 0, none⟩)] 26)).alloc (.cells #[.slice a len cap] 23)).alloc (.cells #[.bool short] 4) := by
  go_enter Tryd.func24, Tryd.ntmps24
  go_wp2
  go_ret
  exact ⟨rfl, rfl⟩
theorem wrap_small (z : Nat) (h : z ≤ 1000) : IntKind.i64.wrap (z : Int) = (z : Int) := by
  simp [IntKind.wrap, IntKind.signed, IntKind.bits]; omega
/-- What lay below b, and the three boxes from q on, are as they were. -/
def KpB (b q : Nat) (A B : World) : Prop := Below b A B ∧ ∀ j, q ≤ j → j < q + 3 → B.heap[j]? = A.heap[j]?
theorem KpB.refl (b q : Nat) (A : World) : KpB b q A A := ⟨Below.refl _ _, fun _ _ _ => rfl⟩
theorem KpB.trans {b q : Nat} {A B C : World} (h : KpB b q A B) (k : KpB b q B C) : KpB b q A C := ⟨h.1.trans k.1, fun j h1 h2 => (k.2 j h1 h2).trans (h.2 j h1 h2)⟩
theorem KpB.below {b q : Nat} {A B C : World} (h : KpB b q A B) (hb : b ≤ B.heap.size) (hq : q + 3 ≤ B.heap.size) (k : Below B.heap.size B C) : KpB b q A C :=
  h.trans ⟨k.mono hb, fun j h1 h2 => k.block j (by omega)⟩
theorem KpB.minds {b q z : Nat} (hb : b ≤ z) (hq : q + 3 ≤ z) (A : World) : Minds z (KpB b q A) := fun B l o o' h hl ho _ =>
  ⟨h.1.grown (grownBy_putObj' B l o') (by have := (Array.getElem?_eq_some_iff.1 ho).1; omega) (fun k e => by cases e; omega), fun j h1 h2 => (World.putObj_heap_other (by omega)).trans (h.2 j h1 h2)⟩
/-- What is handed out: a place, and a row that was just made. -/
def encB (n k : Nat) (r : Nat) : Array Value := #[.int .i64 ((n * k : Nat) : Int), .slice (some ⟨r, 0, none⟩) n n]
def GvB (z n : Nat) (Y : Nat → Nat → Int) (k r : Nat) (W : World) : Prop := z ≤ r ∧ RowAt r n (Y k) W
theorem GvB.minds {z n : Nat} {Y : Nat → Nat → Int} (v k r : Nat) : Minds v (GvB z n Y k r) := fun A l o o' h _ ho hc => ⟨h.1, by
  have h2 : A.heap[r]? = some _ := h.2
  have e : r ≠ l := fun e => by subst e; rw [ho] at h2; cases h2; cases hc
  exact (World.putObj_heap_other e).trans h2⟩
section
attribute [local go_sem] Oper.semAt_some
set_option maxRecDepth 100000 in
theorem blocks_long (m : Nat) (hm : 1 ≤ m) (b0 q t : Nat) (a : Option Addr) (cap : Nat) (X : Nat → Int) (hX : ∀ i, i < 64 → -33554432 ≤ X i ∧ X i ≤ 33554432) (w : World) (hb : b0 ≤ w.heap.size) (hq : q + 3 ≤ w.heap.size)
    (ht : ∀ W, Below b0 w W → Tab t W) (hx : ∀ W, Below b0 w W → IsInts W a 64 cap X) (c1 : w.cell? ⟨q, 0, none⟩ = some (.pointer (some ⟨t, 0, none⟩))) (c2 : w.cell? ⟨q + 1, 0, none⟩ = some (.slice a 64 cap)) (c3 : w.cell? ⟨q + 1 + 1, 0, none⟩ = some (.bool false)) :
    GivesTo Fence.wide m Tryd.prog 44 #[.pointer (some ⟨q + 1 + 1, 0, none⟩), .pointer (some ⟨q, 0, none⟩), .pointer (some ⟨q + 1, 0, none⟩)] (encB 64) (GvB w.heap.size 64 (fun _ => backF 64 X)) (KpB b0 q) 1 w := by
  intro l J W hW hJ hY h0
  have d1 : W.cell? ⟨q, 0, none⟩ = some (.pointer (some ⟨t, 0, none⟩)) := (hW.cell (p := ⟨q, 0, none⟩) (show q < w.heap.size by omega)).trans c1
  have d2 : W.cell? ⟨q + 1, 0, none⟩ = some (.slice a 64 cap) := (hW.cell (p := ⟨q + 1, 0, none⟩) (show q + 1 < w.heap.size by omega)).trans c2
  have d3 : W.cell? ⟨q + 1 + 1, 0, none⟩ = some (.bool false) := (hW.cell (p := ⟨q + 1 + 1, 0, none⟩) (show q + 1 + 1 < w.heap.size by omega)).trans c3
  have hwb : Below b0 w W := hW.mono hb
  have K1 := hid (back_yes (n := 64) (.inr rfl) t a cap X hX W (ht _ hwb) (hx _ hwb))
  have HY := hid hY
  have HJ := hid hJ
  have H0 := hid h0
  have HS := hid hW.size
  clear hY hJ h0 hW ht hx hX hb hq hwb c1 c2 c3
  refine callsIn_of_wp Tryd.func44 rfl trivial ?_ rfl
  simp only [Tryd.ntmps44, List.size_toArray, List.length_cons, List.length_nil, Nat.reduceAdd, Nat.reduceSub, Array.replicate_succ, Array.replicate_zero, List.push_toArray, List.append_toArray, List.nil_append, List.cons_append]
  gi_wp2_with (refine ⟨trivial, ?_⟩; gi_at_call 45; refine (callsIn_wide.2 K1.out).mono ?_; rintro e w1 ⟨r, rfl, hr, hrow, hb1⟩; obtain ⟨fn, tmps, assign, body, hy, hR⟩ := HY.out 0 r w1 (by omega) (HJ.out _ _ _ H0.out hb1) ⟨Nat.le_trans HS.out hr, hrow⟩; replace hy : (Instr.yield l #[.int .i64 0, .slice (some ⟨r, 0, none⟩) 64 64]).run Tryd.prog w1 = .ok (.round l fn tmps assign body) w1 := hy)
  refine hR.mono ?_
  rintro e W3 ⟨rfl, hJ3, _⟩
  gi_wp2
  refine bodyPost_ret (results_none rfl _ _ _) rfl ?_
  exact ⟨⟨_, rfl⟩, hJ3⟩
set_option maxRecDepth 100000 in
set_option maxHeartbeats 2000000 in
theorem blocks_short (m : Nat) (hm : 1 ≤ m) (b0 q t : Nat) (a : Option Addr) (cap : Nat) (X : Nat → Int) (hX : ∀ i, i < 64 → -33554432 ≤ X i ∧ X i ≤ 33554432) (w : World) (hb : b0 ≤ w.heap.size) (hq : q + 3 ≤ w.heap.size)
    (ht : ∀ W, Below b0 w W → Tab t W) (hx : ∀ W, Below b0 w W → IsInts W a 64 cap X) (c1 : w.cell? ⟨q, 0, none⟩ = some (.pointer (some ⟨t, 0, none⟩))) (c2 : w.cell? ⟨q + 1, 0, none⟩ = some (.slice a 64 cap)) (c3 : w.cell? ⟨q + 1 + 1, 0, none⟩ = some (.bool true)) :
    GivesTo Fence.wide m Tryd.prog 44 #[.pointer (some ⟨q + 1 + 1, 0, none⟩), .pointer (some ⟨q, 0, none⟩), .pointer (some ⟨q + 1, 0, none⟩)] (encB 8) (GvB w.heap.size 8 (fun b => backF 8 (pickF b X))) (KpB b0 q) 8 w := by
  intro l J W hW hJ hY h0
  have HD : Hid (∀ V, KpB b0 q W V → V.cell? ⟨q, 0, none⟩ = some (.pointer (some ⟨t, 0, none⟩)) ∧ V.cell? ⟨q + 1, 0, none⟩ = some (.slice a 64 cap)) := fun V hV =>
    ⟨(World.cell?_of_block (a := ⟨q, 0, none⟩) (hV.2 q (by omega) (by omega))).trans ((hW.cell (p := ⟨q, 0, none⟩) (show q < w.heap.size by omega)).trans c1),
      (World.cell?_of_block (a := ⟨q + 1, 0, none⟩) (hV.2 (q + 1) (by omega) (by omega))).trans ((hW.cell (p := ⟨q + 1, 0, none⟩) (show q + 1 < w.heap.size by omega)).trans c2)⟩
  have d3 : W.cell? ⟨q + 1 + 1, 0, none⟩ = some (.bool true) := (hW.cell (p := ⟨q + 1 + 1, 0, none⟩) (show q + 1 + 1 < w.heap.size by omega)).trans c3
  have HTX : Hid (∀ V, KpB b0 q W V → Tab t V ∧ IsInts V a 64 cap X) := fun V hV => ⟨ht _ ((hW.mono hb).trans hV.1), hx _ ((hW.mono hb).trans hV.1)⟩
  have HX := hid hX
  have HY := hid hY
  have HJ := hid hJ
  have H0 := hid h0
  have HS := hid (And.intro hW.size (And.intro hb hq))
  clear hY hJ h0 hW ht hx hX hb hq c1 c2 c3
  refine callsIn_of_wp Tryd.func44 rfl trivial ?_ rfl
  simp only [Tryd.ntmps44, List.size_toArray, List.length_cons, List.length_nil, Nat.reduceAdd, Nat.reduceSub, Array.replicate_succ, Array.replicate_zero, List.push_toArray, List.append_toArray, List.nil_append, List.cons_append]
  gi_wp2
  gi_loopw [13] (fun i wr => ∃ k : Nat, k ≤ 8 ∧ i = .int .i64 k ∧ Hid (J k wr) ∧ Hid (KpB b0 q W wr) ∧ Hid (W.heap.size ≤ wr.heap.size)) (fun i _ => 8 - (intOf i).toNat)
  case atStart => exact ⟨0, Nat.zero_le _, rfl, H0, KpB.refl _ _ _, Nat.le_refl _⟩
  case round =>
    obtain ⟨k, hk, rfl, HJk, HK, HZ⟩ := hrel
    by_cases hlt : k < 8
    · have HKP : Hid (∀ V, Below wr.heap.size wr V → KpB b0 q W V) := fun V hV => HK.out.below (by have := HS.out; have := HZ.out; omega) (by have := HS.out; have := HZ.out; omega) hV
      have hn8 : 8 * (k : Int) = ((8 * k : Nat) : Int) := by omega
      gi_wp2
      obtain ⟨z, hz8⟩ : ∃ z, z = 8 * k := ⟨_, rfl⟩
      have hw8 : IntKind.i64.wrap (8 * (k : Int)) = (z : Int) := by rw [show 8 * (k : Int) = (z : Int) by omega]; exact wrap_small z (by omega)
      have HZ8 := hid hz8
      clear hz8 hn8
      refine wpIn_region_any (by kernel_rfl) ?_
      have hHeld : Below wr.heap.size wr { wr with drawn := wr.drawn + 1 } := (Below.refl _ wr).drew
      generalize ({ wr with drawn := wr.drawn + 1 } : World) = wd at hHeld ⊢
      refine wpAnyIn_take (i := 0) (v := ?_) rfl rfl (by kernel_rfl) (by kernel_rfl) (by kernel_rfl) (fun _ _ _ h => h) ⟨Or.inl ⟨by rfl, ?_⟩, fun _ => rfl⟩ ?_
      rotate_left
      · (intro wz; go_simp; try (with_reducible rfl))
      simp only [List.getElem_toArray, List.getElem_cons_zero, Act.put, List.setIfInBounds_toArray, List.set_cons_zero, List.set_cons_succ]
      refine wpAnyIn_take (i := 1) (v := ?_) rfl rfl (by kernel_rfl) (by kernel_rfl) (by kernel_rfl) (fun _ _ _ h => h) ⟨Or.inl ⟨by rfl, ?_⟩, fun _ => rfl⟩ ?_
      rotate_left
      · (intro wz; go_simp; try (with_reducible rfl))
      simp only [List.getElem_toArray, List.getElem_cons_zero, List.getElem_cons_succ, Act.put, List.setIfInBounds_toArray, List.set_cons_zero, List.set_cons_succ]
      refine wpAnyIn_take (i := 2) (v := ?_) rfl rfl (by kernel_rfl) (by kernel_rfl) (by kernel_rfl) (fun _ _ _ h => h) ⟨Or.inl ⟨by rfl, ?_⟩, fun _ => rfl⟩ ?_
      rotate_left
      · (intro wz; go_simp; try (with_reducible rfl))
      simp only [List.getElem_toArray, List.getElem_cons_zero, List.getElem_cons_succ, Act.put, List.setIfInBounds_toArray, List.set_cons_zero, List.set_cons_succ]
      refine wpAnyIn_take (i := 5) (v := ?_) rfl rfl (by kernel_rfl) (by kernel_rfl) (by kernel_rfl) (fun _ _ _ h => h) ⟨Or.inl ⟨by rfl, ?_⟩, fun _ => rfl⟩ ?_
      rotate_left
      · (intro wz; go_simp; try (with_reducible rfl))
      simp only [List.getElem_toArray, List.getElem_cons_zero, List.getElem_cons_succ, Act.put, List.setIfInBounds_toArray, List.set_cons_zero, List.set_cons_succ]
      refine wpAnyIn_ready (rs := [3, 4]) (by kernel_rfl) (by simp) ?_
      refine AllReadyIn.cons rfl (fun K hK => ?_) ?_
      · have cc := (HD.out _ (HKP.out _ hHeld)).1
        simp only [List.getElem_toArray, List.getElem_cons_zero, List.getElem_cons_succ]
        go_simp
        refine hK _ _ ?_
        clear hK K cc
        refine wpAnyIn_ready (rs := [4]) (by kernel_rfl) (by simp) ?_
        refine AllReadyIn.cons rfl (fun K hK => ?_) AllReadyIn.nil
        have cc := (HD.out _ (HKP.out _ hHeld)).2
        simp only [List.getElem_toArray, List.getElem_cons_zero, List.getElem_cons_succ]
        go_simp
        refine hK _ _ ?_
        clear hK K cc
        refine wpAnyIn_ready (rs := [6]) (by kernel_rfl) (by simp) ?_
        refine AllReadyIn.cons rfl (fun K hK => ?_) AllReadyIn.nil
        simp only [List.getElem_toArray, List.getElem_cons_zero, List.getElem_cons_succ]
        go_simp
        refine ⟨trivial, (callsIn_wide.2 (pick_yes k hlt a cap X _ (HTX.out _ (HKP.out _ hHeld)).2)).mono ?_⟩
        rintro e w2 ⟨r2, rfl, _, h2, b2⟩
        replace hHeld := below_then hHeld b2
        refine hK _ _ ?_
        clear hK K b2
        refine wpAnyIn_ready (rs := [7]) (by kernel_rfl) (by simp) ?_
        refine AllReadyIn.cons rfl (fun K hK => ?_) AllReadyIn.nil
        simp only [List.getElem_toArray, List.getElem_cons_zero, List.getElem_cons_succ]
        go_simp
        refine ⟨trivial, (callsIn_wide.2 (back_yes (n := 8) (.inl rfl) t _ 8 (pickF k X) (fun i hi => HX.out _ (by omega)) _ (HTX.out _ (HKP.out _ hHeld)).1 (h2.ints (by decide)))).mono ?_⟩
        rintro e w3 ⟨r3, rfl, g3, h3, b3⟩
        have hz := hHeld.size
        replace hHeld := below_then hHeld b3
        obtain ⟨fn, tmps, assign, body, hy, hR⟩ := HY.out k r3 w3 hlt (HJ.out _ _ _ HJk.out hHeld) ⟨by have := HS.out; have := HZ.out; omega, h3⟩
        replace hy : (Instr.yield l #[.int .i64 (z : Int), .slice (some ⟨r3, 0, none⟩) 8 8]).run Tryd.prog w3 = .ok (.round l fn tmps assign body) w3 := by rw [HZ8.out]; exact hy
        refine hK _ _ ?_
        clear hK K b3 h2
        refine wpAnyIn_ready (rs := [8]) (by kernel_rfl) (by simp) ?_
        refine AllReadyIn.cons rfl (fun K hK => ?_) AllReadyIn.nil
        simp only [List.getElem_toArray, List.getElem_cons_zero, List.getElem_cons_succ]
        go_simp
        first | refine hR.mono ?_ | refine ⟨trivial, hR.mono ?_⟩
        rintro e w4 ⟨rfl, hJ4, hk4⟩
        have HJ4 := hid hJ4
        have HK4 := hid ((HKP.out _ hHeld).trans hk4)
        have HZ4 : Hid (W.heap.size ≤ w4.heap.size) := Nat.le_trans HZ.out (Nat.le_trans hHeld.size hk4.1.size)
        clear hJ4 hk4 hHeld
        refine hK _ _ ?_
        clear hK K hy hR h3
        refine wpAnyIn_take (i := 9) (v := ?_) rfl rfl (by kernel_rfl) (by kernel_rfl) (by kernel_rfl) (fun _ _ _ h => h) ⟨Or.inl ⟨by rfl, ?_⟩, fun _ => rfl⟩ ?_
        rotate_left
        · (intro wz; go_simp; try (with_reducible rfl))
        simp only [List.getElem_toArray, List.getElem_cons_zero, List.getElem_cons_succ, Act.put, List.setIfInBounds_toArray, List.set_cons_zero, List.set_cons_succ]
        refine wpAnyIn_done (by kernel_rfl) ?_ _
        gi_wp2
        go_roundw
        case rel => exact ⟨k + 1, by omega, by go_num, HJ4, HK4, HZ4⟩
        case measure => simp [intOf]; omega
      refine AllReadyIn.cons rfl (fun K hK => ?_) AllReadyIn.nil
      have cc := (HD.out _ (HKP.out _ hHeld)).2
      simp only [List.getElem_toArray, List.getElem_cons_zero, List.getElem_cons_succ]
      go_simp
      refine hK _ _ ?_
      clear hK K cc
      refine wpAnyIn_ready (rs := [3, 6]) (by kernel_rfl) (by simp) ?_
      refine AllReadyIn.cons rfl (fun K hK => ?_) ?_
      · have cc := (HD.out _ (HKP.out _ hHeld)).1
        simp only [List.getElem_toArray, List.getElem_cons_zero, List.getElem_cons_succ]
        go_simp
        refine hK _ _ ?_
        clear hK K cc
        refine wpAnyIn_ready (rs := [6]) (by kernel_rfl) (by simp) ?_
        refine AllReadyIn.cons rfl (fun K hK => ?_) AllReadyIn.nil
        simp only [List.getElem_toArray, List.getElem_cons_zero, List.getElem_cons_succ]
        go_simp
        refine ⟨trivial, (callsIn_wide.2 (pick_yes k hlt a cap X _ (HTX.out _ (HKP.out _ hHeld)).2)).mono ?_⟩
        rintro e w2 ⟨r2, rfl, _, h2, b2⟩
        replace hHeld := below_then hHeld b2
        refine hK _ _ ?_
        clear hK K b2
        refine wpAnyIn_ready (rs := [7]) (by kernel_rfl) (by simp) ?_
        refine AllReadyIn.cons rfl (fun K hK => ?_) AllReadyIn.nil
        simp only [List.getElem_toArray, List.getElem_cons_zero, List.getElem_cons_succ]
        go_simp
        refine ⟨trivial, (callsIn_wide.2 (back_yes (n := 8) (.inl rfl) t _ 8 (pickF k X) (fun i hi => HX.out _ (by omega)) _ (HTX.out _ (HKP.out _ hHeld)).1 (h2.ints (by decide)))).mono ?_⟩
        rintro e w3 ⟨r3, rfl, g3, h3, b3⟩
        have hz := hHeld.size
        replace hHeld := below_then hHeld b3
        obtain ⟨fn, tmps, assign, body, hy, hR⟩ := HY.out k r3 w3 hlt (HJ.out _ _ _ HJk.out hHeld) ⟨by have := HS.out; have := HZ.out; omega, h3⟩
        replace hy : (Instr.yield l #[.int .i64 (z : Int), .slice (some ⟨r3, 0, none⟩) 8 8]).run Tryd.prog w3 = .ok (.round l fn tmps assign body) w3 := by rw [HZ8.out]; exact hy
        refine hK _ _ ?_
        clear hK K b3 h2
        refine wpAnyIn_ready (rs := [8]) (by kernel_rfl) (by simp) ?_
        refine AllReadyIn.cons rfl (fun K hK => ?_) AllReadyIn.nil
        simp only [List.getElem_toArray, List.getElem_cons_zero, List.getElem_cons_succ]
        go_simp
        first | refine hR.mono ?_ | refine ⟨trivial, hR.mono ?_⟩
        rintro e w4 ⟨rfl, hJ4, hk4⟩
        have HJ4 := hid hJ4
        have HK4 := hid ((HKP.out _ hHeld).trans hk4)
        have HZ4 : Hid (W.heap.size ≤ w4.heap.size) := Nat.le_trans HZ.out (Nat.le_trans hHeld.size hk4.1.size)
        clear hJ4 hk4 hHeld
        refine hK _ _ ?_
        clear hK K hy hR h3
        refine wpAnyIn_take (i := 9) (v := ?_) rfl rfl (by kernel_rfl) (by kernel_rfl) (by kernel_rfl) (fun _ _ _ h => h) ⟨Or.inl ⟨by rfl, ?_⟩, fun _ => rfl⟩ ?_
        rotate_left
        · (intro wz; go_simp; try (with_reducible rfl))
        simp only [List.getElem_toArray, List.getElem_cons_zero, List.getElem_cons_succ, Act.put, List.setIfInBounds_toArray, List.set_cons_zero, List.set_cons_succ]
        refine wpAnyIn_done (by kernel_rfl) ?_ _
        gi_wp2
        go_roundw
        case rel => exact ⟨k + 1, by omega, by go_num, HJ4, HK4, HZ4⟩
        case measure => simp [intOf]; omega
      refine AllReadyIn.cons rfl (fun K hK => ?_) AllReadyIn.nil
      simp only [List.getElem_toArray, List.getElem_cons_zero, List.getElem_cons_succ]
      go_simp
      refine ⟨trivial, (callsIn_wide.2 (pick_yes k hlt a cap X _ (HTX.out _ (HKP.out _ hHeld)).2)).mono ?_⟩
      rintro e w2 ⟨r2, rfl, _, h2, b2⟩
      replace hHeld := below_then hHeld b2
      refine hK _ _ ?_
      clear hK K b2
      refine wpAnyIn_ready (rs := [3]) (by kernel_rfl) (by simp) ?_
      refine AllReadyIn.cons rfl (fun K hK => ?_) AllReadyIn.nil
      have cc := (HD.out _ (HKP.out _ hHeld)).1
      simp only [List.getElem_toArray, List.getElem_cons_zero, List.getElem_cons_succ]
      go_simp
      refine hK _ _ ?_
      clear hK K cc
      refine wpAnyIn_ready (rs := [7]) (by kernel_rfl) (by simp) ?_
      refine AllReadyIn.cons rfl (fun K hK => ?_) AllReadyIn.nil
      simp only [List.getElem_toArray, List.getElem_cons_zero, List.getElem_cons_succ]
      go_simp
      refine ⟨trivial, (callsIn_wide.2 (back_yes (n := 8) (.inl rfl) t _ 8 (pickF k X) (fun i hi => HX.out _ (by omega)) _ (HTX.out _ (HKP.out _ hHeld)).1 (h2.ints (by decide)))).mono ?_⟩
      rintro e w3 ⟨r3, rfl, g3, h3, b3⟩
      have hz := hHeld.size
      replace hHeld := below_then hHeld b3
      obtain ⟨fn, tmps, assign, body, hy, hR⟩ := HY.out k r3 w3 hlt (HJ.out _ _ _ HJk.out hHeld) ⟨by have := HS.out; have := HZ.out; omega, h3⟩
      replace hy : (Instr.yield l #[.int .i64 (z : Int), .slice (some ⟨r3, 0, none⟩) 8 8]).run Tryd.prog w3 = .ok (.round l fn tmps assign body) w3 := by rw [HZ8.out]; exact hy
      refine hK _ _ ?_
      clear hK K b3 h2
      refine wpAnyIn_ready (rs := [8]) (by kernel_rfl) (by simp) ?_
      refine AllReadyIn.cons rfl (fun K hK => ?_) AllReadyIn.nil
      simp only [List.getElem_toArray, List.getElem_cons_zero, List.getElem_cons_succ]
      go_simp
      first | refine hR.mono ?_ | refine ⟨trivial, hR.mono ?_⟩
      rintro e w4 ⟨rfl, hJ4, hk4⟩
      have HJ4 := hid hJ4
      have HK4 := hid ((HKP.out _ hHeld).trans hk4)
      have HZ4 : Hid (W.heap.size ≤ w4.heap.size) := Nat.le_trans HZ.out (Nat.le_trans hHeld.size hk4.1.size)
      clear hJ4 hk4 hHeld
      refine hK _ _ ?_
      clear hK K hy hR h3
      refine wpAnyIn_take (i := 9) (v := ?_) rfl rfl (by kernel_rfl) (by kernel_rfl) (by kernel_rfl) (fun _ _ _ h => h) ⟨Or.inl ⟨by rfl, ?_⟩, fun _ => rfl⟩ ?_
      rotate_left
      · (intro wz; go_simp; try (with_reducible rfl))
      simp only [List.getElem_toArray, List.getElem_cons_zero, List.getElem_cons_succ, Act.put, List.setIfInBounds_toArray, List.set_cons_zero, List.set_cons_succ]
      refine wpAnyIn_done (by kernel_rfl) ?_ _
      gi_wp2
      go_roundw
      case rel => exact ⟨k + 1, by omega, by go_num, HJ4, HK4, HZ4⟩
      case measure => simp [intOf]; omega
    · obtain rfl : k = 8 := by omega
      gi_wp2
      go_end0
      exact ⟨⟨_, rfl⟩, HJk.out⟩
end
end Go.Proofs.YtfhcfdepjhdhfaaDoor
