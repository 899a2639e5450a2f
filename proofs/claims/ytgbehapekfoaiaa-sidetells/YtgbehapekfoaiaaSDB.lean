/-
  The document's Merge and Split.
-/
import Derived.Test.YtgbehapekfoaiaaSDA
import Derived.Test.YtgbehapekfoaiaaNShrR
namespace Go.Proofs.Ytgbehapekfoaiaa
open Go.ChangeShapes Go.WideShapes Go.ChangeAt Go.RowKit
set_option linter.unusedVariables false

theorem TwoOwn.to {B : Nat} {u v : Value} {ka kb : Nat} {X Y : Nat → Int} {w0 w w' : World} (h : TwoOwn B u v ka kb X Y w0 w) (hb : Below w.heap.size w w') : TwoOwn B u v ka kb X Y w0 w' :=
  ⟨owns_below h.a hb, owns_below h.b hb, h.ne, h.bel.trans (hb.mono h.sz), Nat.le_trans h.sz hb.size⟩
theorem TwoOwn.start {X Y : Nat → Int} (w : World) : TwoOwn w.heap.size (.slice none 0 0) (.slice none 0 0) 0 0 X Y w w :=
  ⟨World.ownsRow_nil _ _ _ _, World.ownsRow_nil _ _ _ _, .inl rfl, Below.refl _ _, Nat.le_refl _⟩
theorem TwoOwn.post {u v : Value} {n : Nat} {F G : Nat → Int} {w0 w : World} (h : TwoOwn w0.heap.size u v n n F G w0 w) : SPost n F G w0 (.returned (.tuple #[u, v])) w := by
  obtain ⟨a, c, rfl, h1⟩ := own_ints h.a
  obtain ⟨a', c', rfl, h2⟩ := own_ints h.b
  exact ⟨a, c, a', c', rfl, h1, h2, h.bel⟩
theorem SPost.none {F G : Nat → Int} (w : World) : SPost 0 F G w (.returned (.tuple #[.slice .none 0 0, .slice .none 0 0])) w :=
  ⟨_, _, _, _, rfl, .inl rfl, .inl rfl, Below.refl _ _⟩
theorem rmerge_no (a b : Option Addr) (n m cap cap' : Nat) (A B : Nat → Int) (hn : n ≤ 1000) (hm : m ≤ 1000) (hno : sdB n m A B = false) (w : World) (h : IsInts w a n cap A) (h' : IsInts w b m cap' B) :
    Calls Try.prog 7 #[.slice a n cap, .slice b m cap'] w (SPost 0 (mgL A B) (mgR A B) w) := by
  have K1 := hid (rright19_any a b n m cap cap' A B hn hm w h h')
  rw [hno] at K1
  clear h h' hno
  go_enter Try.func7, Try.ntmps7
  go_wp2_with (go_at_call 17; (with_reducible refine Calls.mono K1.out ?_); rintro e w1 ⟨rfl, rfl⟩)
  go_ret2
  exact SPost.none _
theorem rsplit_no (a b : Option Addr) (n m cap cap' : Nat) (A B : Nat → Int) (hn : n ≤ 1000) (hm : m ≤ 1000) (hno : sdB n m A B = false) (w : World) (h : IsInts w a n cap A) (h' : IsInts w b m cap' B) :
    Calls Try.prog 9 #[.slice a n cap, .slice b m cap'] w (SPost 0 (spM A B) (spS A B) w) := by
  have K1 := hid (rright19_any a b n m cap cap' A B hn hm w h h')
  rw [hno] at K1
  clear h h' hno
  go_enter Try.func9, Try.ntmps9
  go_wp2_with (go_at_call 17; (with_reducible refine Calls.mono K1.out ?_); rintro e w1 ⟨rfl, rfl⟩)
  go_ret2
  exact SPost.none _
set_option maxRecDepth 100000 in
set_option maxHeartbeats 1000000 in
theorem rmerge_yes (a b : Option Addr) (n cap cap' : Nat) (A B : Nat → Int) (hin : SdIn n A B) (w : World) (h : IsInts w a n cap A) (h' : IsInts w b n cap' B) :
    Calls Try.prog 7 #[.slice a n cap, .slice b n cap'] w (SPost n (mgL A B) (mgR A B) w) := by
  obtain ⟨i0, hi, hz0, hz1, hz2⟩ := infoI
  have HI : Hid (Try.prog.info? 3 = some i0) := hi
  have n64 := hin.n64
  have K1 := hid (rright19_any a b n n cap cap' A B (by omega) (by omega) w h h')
  rw [sdB_iff.2 ⟨rfl, hin⟩] at K1
  have HIN := hid hin
  have HA : Hid (∀ W, Below w.heap.size w W → ∀ i, i < n → ∃ b off, a = some ⟨b, off, none⟩ ∧ ∀ W', Below W.heap.size W W' → W'.cell? ⟨b, off + i, none⟩ = some (.int .i64 (A i))) := fun W hW i hi' => by
    obtain ⟨bb, off, e, hc⟩ := h.cells (by omega)
    exact ⟨bb, off, e, fun W' hW' => hc W' (below_then hW hW') i hi'⟩
  by_cases h0 : n = 0
  · subst h0
    have HT := hid (TwoOwn.start (X := mgL A B) (Y := mgR A B) w)
    clear h h' hi hin
    go_enter Try.func7, Try.ntmps7
    go_wp2_with (go_at_call 17; (with_reducible refine Calls.mono K1.out ?_); rintro e w1 ⟨rfl, rfl⟩)
    go_loop [6, 7, 8] (fun s t i => s = .slice none 0 0 ∧ t = .slice none 0 0 ∧ i = .int .i64 0) (fun _ _ i => 0)
    case atStart => exact ⟨rfl, rfl, rfl⟩
    case round =>
      obtain ⟨rfl, rfl, rfl⟩ := hrel
      go_wp2
      go_ret2
      exact HT.out.post
  obtain ⟨ab, ao, rfl, hca⟩ := h.cells (by omega)
  obtain ⟨bb, bo, rfl, hcb⟩ := h'.cells (by omega)
  have HCA := hid hca
  have HCB := hid hcb
  have HT := hid (TwoOwn.start (X := mgL A B) (Y := mgR A B) w)
  clear h h' hi hin HA hca hcb
  go_enter Try.func7, Try.ntmps7
  go_wp2_with (go_at_call 17; (with_reducible refine Calls.mono K1.out ?_); rintro e w1 ⟨rfl, rfl⟩)
  go_loopw [6, 7, 8] (fun u v i wr => ∃ k : Nat, k ≤ n ∧ i = .int .i64 k ∧ Hid (TwoOwn w1.heap.size u v k k (mgL A B) (mgR A B) w1 wr)) (fun _ _ i _ => n - (intOf i).toNat)
  case atStart => exact ⟨0, Nat.zero_le _, rfl, HT.out⟩
  case round =>
    clear HT K1
    obtain ⟨k, hk, rfl, HT⟩ := hrel
    obtain ⟨w5, e5⟩ : ∃ w5, w5 = wr := ⟨_, rfl⟩
    subst e5
    by_cases hlt : k < n
    · have ha := HIN.out.a k hlt
      have hb := HIN.out.b k hlt
      have D1 := hid (fun W (hW : Below w1.heap.size w1 W) => HCA.out W hW k hlt)
      have D2 := hid (fun W (hW : Below w1.heap.size w1 W) => HCB.out W hW k hlt)
      have E1 := hid (show A k + B k = mgL A B k from rfl)
      have E2 := hid (show A k - B k = mgR A B k from rfl)
      generalize A k = x at *
      generalize B k = y at *
      have d1 := hid (fun W (hW : Below w5.heap.size w5 W) => D1.out W (HT.out.bel.trans (hW.mono HT.out.sz)))
      have d2 := hid (fun W (hW : Below w5.heap.size w5 W) => D2.out W (HT.out.bel.trans (hW.mono HT.out.sz)))
      go_wp2
      refine wp_region_held_drew (S := fun _ => True) (by kernel_rfl) trivial (fun _ => ?_)
      refine wpAnyH_take (i := 0) (v := u6) rfl (by kernel_rfl) (by kernel_rfl) (by kernel_rfl) (fun _ _ _ h => h) (Or.inl ⟨by rfl, ?_⟩) trivial ?_
      · intro wz _; simp only [List.getElem_toArray, List.getElem_cons_zero]; go_simp; try (with_reducible rfl)
      simp only [List.getElem_toArray, List.getElem_cons_zero, Act.put, List.setIfInBounds_toArray, List.set_cons_zero, List.set_cons_succ]
      refine' anyH_tail (C := Below w5.heap.size w5) 1 10 (by kernel_rfl) (by kernel_rfl) (by kernel_rfl) (by decide) (by decide) (by kernel_rfl) (by kernel_rfl) (Below.refl _ _).drew (Qa := fun a' => a' = _) ?_ ?_
      rotate_left
      · dsimp only [idleTail, idleN, List.drop]
        repeat (go_big_quiet_step (first
          | (intro hq; rfl)
          | (intro hq; rw [d1.out _ hq]; exact ⟨rfl, rfl⟩)
          | (intro hq; rw [d2.out _ hq]; exact ⟨rfl, rfl⟩)))
        refine wpQuiet_nil ?_
        exact rfl
      · rintro a' w6 hb6 rfl
        dsimp only [List.drop]
        have HT6 := hid (HT.out.to hb6)
        clear hb6 HT d1 d2
        have HA : Hid ((w6.alloc (.cells #[.int .i64 (x + y)] 3)).ownsRow w1.heap.size 3 1 u6 k (intL k (mgL A B))) := HT6.out.a.alloc _
        have HS : Hid (w1.heap.size ≤ (w6.alloc (.cells #[.int .i64 (x + y)] 3)).heap.size) := Nat.le_trans HT6.out.sz (by simp)
        go_wp2_with (at_builtin; refine wpList_append_lies _ rfl _ _ _ rfl w1.heap.size 3 i0 (.int .i64 0) 1 8 Try.underlying22 HI.out hz0 hz1 hz2 rfl (by omega) _ _ _ rfl HA.out ⟨w6.heap.size, 0, none⟩ 1 1 [.int .i64 (x + y)] rfl rfl (World.news_of_block (cs := #[.int .i64 (x + y)]) (heap_alloc_new w6 _)) (by intro u hu; simp at hu; subst hu; rfl) (by omega) (by unfold maxLen; omega) (by omega) HS.out _ rfl ?_)
        intro gg cap1 w7 hown hgr hor _
        have T1 := hid (two_a HT6.out E1.out hown hgr hor)
        have d1 := hid (fun W (hW : Below w7.heap.size w7 W) => D1.out W (T1.out.bel.trans (hW.mono T1.out.sz)))
        have d2 := hid (fun W (hW : Below w7.heap.size w7 W) => D2.out W (T1.out.bel.trans (hW.mono T1.out.sz)))
        clear hown hgr hor HA HS HT6
        go_wp2
        refine wp_region_held_drew (S := fun _ => True) (by kernel_rfl) trivial (fun _ => ?_)
        refine wpAnyH_take (i := 0) (v := u7) rfl (by kernel_rfl) (by kernel_rfl) (by kernel_rfl) (fun _ _ _ h => h) (Or.inl ⟨by rfl, ?_⟩) trivial ?_
        · intro wz _; simp only [List.getElem_toArray, List.getElem_cons_zero]; go_simp; try (with_reducible rfl)
        simp only [List.getElem_toArray, List.getElem_cons_zero, Act.put, List.setIfInBounds_toArray, List.set_cons_zero, List.set_cons_succ]
        refine' anyH_tail (C := Below w7.heap.size w7) 1 10 (by kernel_rfl) (by kernel_rfl) (by kernel_rfl) (by decide) (by decide) (by kernel_rfl) (by kernel_rfl) (Below.refl _ _).drew (Qa := fun a' => a' = _) ?_ ?_
        rotate_left
        · dsimp only [idleTail, idleN, List.drop]
          repeat (go_big_quiet_step (first
            | (intro hq; rfl)
            | (intro hq; rw [d1.out _ hq]; exact ⟨rfl, rfl⟩)
            | (intro hq; rw [d2.out _ hq]; exact ⟨rfl, rfl⟩)))
          refine wpQuiet_nil ?_
          exact rfl
        · rintro a' w8 hb8 rfl
          dsimp only [List.drop]
          have T2 := hid (T1.out.to hb8)
          clear hb8 T1 d1 d2
          have HA : Hid ((w8.alloc (.cells #[.int .i64 (x - y)] 3)).ownsRow w1.heap.size 3 1 u7 k (intL k (mgR A B))) := T2.out.b.alloc _
          have HS : Hid (w1.heap.size ≤ (w8.alloc (.cells #[.int .i64 (x - y)] 3)).heap.size) := Nat.le_trans T2.out.sz (by simp)
          go_wp2_with (at_builtin; refine wpList_append_lies _ rfl _ _ _ rfl w1.heap.size 3 i0 (.int .i64 0) 1 8 Try.underlying22 HI.out hz0 hz1 hz2 rfl (by omega) _ _ _ rfl HA.out ⟨w8.heap.size, 0, none⟩ 1 1 [.int .i64 (x - y)] rfl rfl (World.news_of_block (cs := #[.int .i64 (x - y)]) (heap_alloc_new w8 _)) (by intro u hu; simp at hu; subst hu; rfl) (by omega) (by unfold maxLen; omega) (by omega) HS.out _ rfl ?_)
          intro gg2 cap2 w9 hown hgr hor _
          have T3 := hid (two_b T2.out E2.out hown hgr hor)
          clear hown hgr hor HA HS T2
          go_wp2
          exact ⟨⟨k + 1, by omega, by go_num, T3⟩, by simp [intOf]; omega⟩
    · obtain rfl : k = n := by omega
      have HE := hid HT.out.post
      clear HT
      go_wp2
      go_ret2
      exact HE.out
set_option maxRecDepth 100000 in
set_option maxHeartbeats 1000000 in
theorem rsplit_yes (a b : Option Addr) (n cap cap' : Nat) (A B : Nat → Int) (hin : SdIn n A B) (w : World) (h : IsInts w a n cap A) (h' : IsInts w b n cap' B) :
    Calls Try.prog 9 #[.slice a n cap, .slice b n cap'] w (SPost n (spM A B) (spS A B) w) := by
  obtain ⟨i0, hi, hz0, hz1, hz2⟩ := infoI
  have HI : Hid (Try.prog.info? 3 = some i0) := hi
  have n64 := hin.n64
  have K1 := hid (rright19_any a b n n cap cap' A B (by omega) (by omega) w h h')
  rw [sdB_iff.2 ⟨rfl, hin⟩] at K1
  have HIN := hid hin
  have HA : Hid (∀ W, Below w.heap.size w W → ∀ i, i < n → ∃ b off, a = some ⟨b, off, none⟩ ∧ ∀ W', Below W.heap.size W W' → W'.cell? ⟨b, off + i, none⟩ = some (.int .i64 (A i))) := fun W hW i hi' => by
    obtain ⟨bb, off, e, hc⟩ := h.cells (by omega)
    exact ⟨bb, off, e, fun W' hW' => hc W' (below_then hW hW') i hi'⟩
  by_cases h0 : n = 0
  · subst h0
    have HT := hid (TwoOwn.start (X := spM A B) (Y := spS A B) w)
    clear h h' hi hin
    go_enter Try.func9, Try.ntmps9
    go_wp2_with (go_at_call 17; (with_reducible refine Calls.mono K1.out ?_); rintro e w1 ⟨rfl, rfl⟩)
    go_loop [6, 7, 8] (fun s t i => s = .slice none 0 0 ∧ t = .slice none 0 0 ∧ i = .int .i64 0) (fun _ _ i => 0)
    case atStart => exact ⟨rfl, rfl, rfl⟩
    case round =>
      obtain ⟨rfl, rfl, rfl⟩ := hrel
      go_wp2
      go_ret2
      exact HT.out.post
  obtain ⟨ab, ao, rfl, hca⟩ := h.cells (by omega)
  obtain ⟨bb, bo, rfl, hcb⟩ := h'.cells (by omega)
  have HCA := hid hca
  have HCB := hid hcb
  have HT := hid (TwoOwn.start (X := spM A B) (Y := spS A B) w)
  clear h h' hi hin HA hca hcb
  go_enter Try.func9, Try.ntmps9
  go_wp2_with (go_at_call 17; (with_reducible refine Calls.mono K1.out ?_); rintro e w1 ⟨rfl, rfl⟩)
  go_loopw [6, 7, 8] (fun u v i wr => ∃ k : Nat, k ≤ n ∧ i = .int .i64 k ∧ Hid (TwoOwn w1.heap.size u v k k (spM A B) (spS A B) w1 wr)) (fun _ _ i _ => n - (intOf i).toNat)
  case atStart => exact ⟨0, Nat.zero_le _, rfl, HT.out⟩
  case round =>
    clear HT K1
    obtain ⟨k, hk, rfl, HT⟩ := hrel
    obtain ⟨w5, e5⟩ : ∃ w5, w5 = wr := ⟨_, rfl⟩
    subst e5
    by_cases hlt : k < n
    · have ha := HIN.out.a k hlt
      have hb := HIN.out.b k hlt
      have D1 := hid (fun W (hW : Below w1.heap.size w1 W) => HCA.out W hW k hlt)
      have D2 := hid (fun W (hW : Below w1.heap.size w1 W) => HCB.out W hW k hlt)
      have K3 := hid (fun W => shrR_any (A k + B k) 1 W)
      have K4 := hid (fun W => shrR_any (A k - B k) 1 W)
      obtain ⟨cl, hcl⟩ : ∃ cl, cl = shrF (A k + B k) 1 := ⟨_, rfl⟩
      obtain ⟨cr, hcr⟩ : ∃ cr, cr = shrF (A k - B k) 1 := ⟨_, rfl⟩
      have E1 := hid (show cl = spM A B k from hcl)
      have E2 := hid (show cr = spS A B k from hcr)
      rw [← hcl] at K3
      rw [← hcr] at K4
      clear hcl hcr
      generalize A k = x at *
      generalize B k = y at *
      have d1 := hid (fun W (hW : Below w5.heap.size w5 W) => D1.out W (HT.out.bel.trans (hW.mono HT.out.sz)))
      have k3 : Hid (∀ W, Below w5.heap.size w5 W → Calls Try.prog 20 #[.int .i64 (x + y), .int .i64 1] W fun e w' => e = .returned (.int .i64 cl) ∧ Below w5.heap.size w5 w') := fun W hW => (K3.out W).mono fun e w' ⟨he, hb⟩ => ⟨he, below_then hW hb⟩
      have d2 := hid (fun W (hW : Below w5.heap.size w5 W) => D2.out W (HT.out.bel.trans (hW.mono HT.out.sz)))
      go_wp2
      refine wp_region_held_drew (S := fun _ => True) (by kernel_rfl) trivial (fun _ => ?_)
      refine wpAnyH_take (i := 0) (v := u6) rfl (by kernel_rfl) (by kernel_rfl) (by kernel_rfl) (fun _ _ _ h => h) (Or.inl ⟨by rfl, ?_⟩) trivial ?_
      · intro wz _; simp only [List.getElem_toArray, List.getElem_cons_zero]; go_simp; try (with_reducible rfl)
      simp only [List.getElem_toArray, List.getElem_cons_zero, Act.put, List.setIfInBounds_toArray, List.set_cons_zero, List.set_cons_succ]
      refine' anyH_tail (C := Below w5.heap.size w5) 1 11 (by kernel_rfl) (by kernel_rfl) (by kernel_rfl) (by decide) (by decide) (by kernel_rfl) (by kernel_rfl) (Below.refl _ _).drew (Qa := fun a' => a' = _) ?_ ?_
      rotate_left
      · dsimp only [idleTail, idleN, List.drop]
        repeat (go_big_quiet_step (first
          | (intro hq; rfl)
          | (intro hq; rw [d1.out _ hq]; exact ⟨rfl, rfl⟩)
          | (intro hq; rw [d2.out _ hq]; exact ⟨rfl, rfl⟩)
          | (intro hq; go_at_call 20; (with_reducible exact k3.out _ hq))))
        refine wpQuiet_nil ?_
        exact rfl
      · rintro a' w6 hb6 rfl
        dsimp only [List.drop]
        have HT6 := hid (HT.out.to hb6)
        clear hb6 HT d1 d2 k3 K3
        have HA : Hid ((w6.alloc (.cells #[.int .i64 cl] 3)).ownsRow w1.heap.size 3 1 u6 k (intL k (spM A B))) := HT6.out.a.alloc _
        have HS : Hid (w1.heap.size ≤ (w6.alloc (.cells #[.int .i64 cl] 3)).heap.size) := Nat.le_trans HT6.out.sz (by simp)
        go_wp2_with (at_builtin; refine wpList_append_lies _ rfl _ _ _ rfl w1.heap.size 3 i0 (.int .i64 0) 1 8 Try.underlying22 HI.out hz0 hz1 hz2 rfl (by omega) _ _ _ rfl HA.out ⟨w6.heap.size, 0, none⟩ 1 1 [.int .i64 cl] rfl rfl (World.news_of_block (cs := #[.int .i64 cl]) (heap_alloc_new w6 _)) (by intro u hu; simp at hu; subst hu; rfl) (by omega) (by unfold maxLen; omega) (by omega) HS.out _ rfl ?_)
        intro gg cap1 w7 hown hgr hor _
        have T1 := hid (two_a HT6.out E1.out hown hgr hor)
        have k4 : Hid (∀ W, Below w7.heap.size w7 W → Calls Try.prog 20 #[.int .i64 (x - y), .int .i64 1] W fun e w' => e = .returned (.int .i64 cr) ∧ Below w7.heap.size w7 w') := fun W hW => (K4.out W).mono fun e w' ⟨he, hb⟩ => ⟨he, below_then hW hb⟩
        have d1 := hid (fun W (hW : Below w7.heap.size w7 W) => D1.out W (T1.out.bel.trans (hW.mono T1.out.sz)))
        have d2 := hid (fun W (hW : Below w7.heap.size w7 W) => D2.out W (T1.out.bel.trans (hW.mono T1.out.sz)))
        clear hown hgr hor HA HS HT6
        go_wp2
        refine wp_region_held_drew (S := fun _ => True) (by kernel_rfl) trivial (fun _ => ?_)
        refine wpAnyH_take (i := 0) (v := u7) rfl (by kernel_rfl) (by kernel_rfl) (by kernel_rfl) (fun _ _ _ h => h) (Or.inl ⟨by rfl, ?_⟩) trivial ?_
        · intro wz _; simp only [List.getElem_toArray, List.getElem_cons_zero]; go_simp; try (with_reducible rfl)
        simp only [List.getElem_toArray, List.getElem_cons_zero, Act.put, List.setIfInBounds_toArray, List.set_cons_zero, List.set_cons_succ]
        refine' anyH_tail (C := Below w7.heap.size w7) 1 11 (by kernel_rfl) (by kernel_rfl) (by kernel_rfl) (by decide) (by decide) (by kernel_rfl) (by kernel_rfl) (Below.refl _ _).drew (Qa := fun a' => a' = _) ?_ ?_
        rotate_left
        · dsimp only [idleTail, idleN, List.drop]
          repeat (go_big_quiet_step (first
            | (intro hq; rfl)
            | (intro hq; rw [d1.out _ hq]; exact ⟨rfl, rfl⟩)
            | (intro hq; rw [d2.out _ hq]; exact ⟨rfl, rfl⟩)
            | (intro hq; go_at_call 20; (with_reducible exact k4.out _ hq))))
          refine wpQuiet_nil ?_
          exact rfl
        · rintro a' w8 hb8 rfl
          dsimp only [List.drop]
          have T2 := hid (T1.out.to hb8)
          clear hb8 T1 d1 d2 k4 K4
          have HA : Hid ((w8.alloc (.cells #[.int .i64 cr] 3)).ownsRow w1.heap.size 3 1 u7 k (intL k (spS A B))) := T2.out.b.alloc _
          have HS : Hid (w1.heap.size ≤ (w8.alloc (.cells #[.int .i64 cr] 3)).heap.size) := Nat.le_trans T2.out.sz (by simp)
          go_wp2_with (at_builtin; refine wpList_append_lies _ rfl _ _ _ rfl w1.heap.size 3 i0 (.int .i64 0) 1 8 Try.underlying22 HI.out hz0 hz1 hz2 rfl (by omega) _ _ _ rfl HA.out ⟨w8.heap.size, 0, none⟩ 1 1 [.int .i64 cr] rfl rfl (World.news_of_block (cs := #[.int .i64 cr]) (heap_alloc_new w8 _)) (by intro u hu; simp at hu; subst hu; rfl) (by omega) (by unfold maxLen; omega) (by omega) HS.out _ rfl ?_)
          intro gg2 cap2 w9 hown hgr hor _
          have T3 := hid (two_b T2.out E2.out hown hgr hor)
          clear hown hgr hor HA HS T2
          go_wp2
          exact ⟨⟨k + 1, by omega, by go_num, T3⟩, by simp [intOf]; omega⟩
    · obtain rfl : k = n := by omega
      have HE := hid HT.out.post
      clear HT
      go_wp2
      go_ret2
      exact HE.out
end Go.Proofs.Ytgbehapekfoaiaa
