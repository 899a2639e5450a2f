/-
  The contract of lap.Frame, of a spectrum that is right.
-/
import Derived.Test.YtfhcfdepjhdhfaaDoorYS
import Derived.Test.YtfhcfdepjhdhfaaDoorYF
import Derived.Test.YtfhcfdepjhdhfaaDoorZL
namespace Go.Proofs.YtfhcfdepjhdhfaaDoor
open Go.ChangeShapes Go.WideShapes Go.ChangeAt Go.RowKit
set_option linter.unusedVariables false

theorem in_value {F : Fence} {n : Nat} {P : Program} {o : Oper} {a : Act} {w w' : World} {v : Value} {K : Act → World → Prop} {Q : Exit → Act → World → Prop} (hfn : ∀ f, F.fn f) (hnd : isDefer o.op = false)
    (h : (execOp a.eval o).run P w = .ok (.value v) w') (hK : K (a.put o.dst v) w') : o.wpIn F n P a w K Q := by
  unfold Oper.wpIn
  refine ⟨fun f _ => hfn f, ?_⟩
  rw [Oper.semAt_plain F _ o (isDefer_no hnd), h]
  exact hK
theorem in_skip {F : Fence} {n : Nat} {P : Program} {o : Oper} {a : Act} {w w' : World} {K : Act → World → Prop} {Q : Exit → Act → World → Prop} (hfn : ∀ f, F.fn f) (hnd : isDefer o.op = false)
    (h : (execOp a.eval o).run P w = .ok .skip w') (hK : K (a.put o.dst undef) w') : o.wpIn F n P a w K Q := by
  unfold Oper.wpIn
  refine ⟨fun f _ => hfn f, ?_⟩
  rw [Oper.semAt_plain F _ o (isDefer_no hnd), h]
  exact hK
theorem if_want {c : Bool} {A B : Prop} (h : c = true) (k : A) : if c = true then A else B := by rw [if_pos h]; exact k
theorem listIn_skip {F : Fence} {n : Nat} {P : Program} {ops : Array Oper} {rest : List Oper} {o : Oper} {a : Act} {w w' : World} {Q : Exit → Act → World → Prop} (hfn : ∀ f, F.fn f) (hnd : isDefer o.op = false) (hgd : o.guard = none)
    (h : (execOp a.eval o).run P w = .ok .skip w') (k : wpListIn F n P ops Q rest (a.put o.dst undef) w') : wpListIn F n P ops Q (o :: rest) a w := by
  unfold wpListIn
  rw [if_pos (by simp [Region.wanted, hgd])]
  exact in_skip hfn hnd h k
theorem exec_store8 {o : Oper} {ev : Operand → Value} {w : World} {x y : Operand} {r : Nat} {X Z : Nat → Int} (ho : o.op = .store 22 x y) (hx : ev x = .pointer (some ⟨r, 0, none⟩)) (hy : ev y = arr8 X) (h : ArrAt r Z w) :
    (execOp ev o).run Tryd.prog w = .ok .skip (w.setRow r (rowA 8 X)) := by
  have hs := h.store X
  unfold execOp
  simp only [ho, hx, hy, Instr.storeAt, Instr.sureAddr, Sem.run_bind, Sem.run_pure, Result.andThen_ok, hs]
/-- Every old block but s and p is as it was. -/
structure ChF (s p : Nat) (W V : World) : Prop where
  bel : Below 0 W V
  old : ∀ j, j < W.heap.size → j ≠ s → j ≠ p → V.heap[j]? = W.heap[j]?
theorem ChF.refl (s p : Nat) (W : World) : ChF s p W W := ⟨Below.refl _ _, fun _ _ _ _ => rfl⟩
theorem ChF.trans {s p : Nat} {A B C : World} (h : ChF s p A B) (k : ChF s p B C) : ChF s p A C :=
  ⟨h.bel.trans k.bel, fun j h1 h2 h3 => (k.old j (Nat.lt_of_lt_of_le h1 h.bel.size) h2 h3).trans (h.old j h1 h2 h3)⟩
theorem ChF.of_below {s p : Nat} {A B : World} (h : Below A.heap.size A B) : ChF s p A B := ⟨h.mono (Nat.zero_le _), fun j h1 _ _ => h.block j h1⟩
theorem ChF.of_but {s p : Nat} {A B : World} (h : ButX s A B) : ChF s p A B := ⟨h.bel.mono (Nat.zero_le _), fun j h1 h2 _ => h.other h2 h1⟩
theorem ChF.of_row {s p : Nat} (A : World) (X : Nat → Int) : ChF s p A (A.setRow p (rowA 8 X)) := ⟨below_setRow (Below.refl _ _) (Nat.zero_le _) _, fun j _ _ h3 => setRow_other A p j _ (by omega)⟩
theorem ChF.below {s p b : Nat} {A B : World} (h : ChF s p A B) (hs : b ≤ s) (hp : b ≤ p) (hb : b ≤ A.heap.size) : Below b A B :=
  ⟨h.bel.os, h.bel.tape, h.bel.output, h.bel.size, fun k hk => h.old k (by omega) (by omega) (by omega)⟩
theorem ChF.keeps {s p n : Nat} {X T : Nat → Int} {A B : World} (h : ChF s p A B) (hs : RowAt s n X A) (hp : ArrAt p T A) : KeepsOthers A B :=
  ⟨h.bel.size, fun k o hk ho => by
    have hk' := (Array.getElem?_eq_some_iff.1 hk).1
    by_cases e1 : k = s
    · subst e1
      have h2 : A.heap[k]? = some _ := hs
      rw [hk] at h2; cases h2; cases ho
    by_cases e2 : k = p
    · subst e2
      have h2 : A.heap[k]? = some _ := hp
      rw [hk] at h2; cases h2; cases ho
    exact (h.old k hk' e1 e2).trans hk⟩
theorem ChF.kpB {s p b q : Nat} {A B : World} (h : ChF s p A B) (hs : b ≤ s) (hp : b ≤ p) (hb : b ≤ A.heap.size) (hq : q + 3 ≤ A.heap.size) (hsq : s < q) (hpq : p < q) : KpB b q A B :=
  ⟨h.below hs hp hb, fun j h1 h2 => h.old j (by omega) (by omega) (by omega)⟩
theorem ChF.row {s p r n : Nat} {X : Nat → Int} {A B : World} (h : ChF s p A B) (hr : RowAt r n X A) (h1 : r ≠ s) (h2 : r ≠ p) : RowAt r n X B := (h.old r hr.lt h1 h2).trans hr
theorem ChF.arr {s p r : Nat} {X : Nat → Int} {A B : World} (h : ChF s p A B) (hr : ArrAt r X A) (h1 : r ≠ s) (h2 : r ≠ p) : ArrAt r X B := (h.old r hr.lt h1 h2).trans hr
/-- The blocks up to the k-th one are told. -/
def toldF (n k : Nat) (T : Nat → Int) (Y : Nat → Nat → Int) (i : Nat) : Int := if i < n * k then frF n T Y i else 0
/-- A frame on the way: k blocks are told in the row s, the tail stands in p, the result in g, the box of s in x. -/
structure FrI (b0 z s p g x n k : Nat) (T : Nat → Int) (Y : Nat → Nat → Int) (w W : World) : Prop where
  row : RowAt s 64 (toldF n k T Y) W
  tail : ArrAt p (tlF n T Y k) W
  res : ArrAt g (fun _ => 0) W
  box : W.cell? ⟨x, 0, none⟩ = some (.slice (some ⟨s, 0, none⟩) 64 64)
  bel : Below b0 w W
  sz : z ≤ W.heap.size
theorem FrI.tr {b0 z s p g x n k : Nat} {T : Nat → Int} {Y : Nat → Nat → Int} {w W V : World} (h : FrI b0 z s p g x n k T Y w W) (hx : x < z) (hb0 : b0 ≤ z) (hb : Below W.heap.size W V) : FrI b0 z s p g x n k T Y w V :=
  ⟨h.row.below hb, h.tail.below hb, h.res.below hb, (hb.cell (p := ⟨x, 0, none⟩) (show x < W.heap.size by have := h.sz; omega)).trans h.box, h.bel.trans (hb.mono (by have := h.sz; omega)), Nat.le_trans h.sz hb.size⟩
theorem FrI.minds {b0 z s p g x n k : Nat} {T : Nat → Int} {Y : Nat → Nat → Int} {w : World} (hs : s < z) (hp : p < z) (hg : g < z) (hx : x < z) (hb0 : b0 ≤ z) : Minds z (FrI b0 z s p g x n k T Y w) := fun A l o o' h hl ho _ => by
  have e : ∀ j, j < z → (A.putObj l o').heap[j]? = A.heap[j]? := fun j hj => World.putObj_heap_other (by omega)
  exact ⟨(e s hs).trans h.row, (e p hp).trans h.tail, (e g hg).trans h.res, (World.cell?_of_block (a := ⟨x, 0, none⟩) (e x hx)).trans h.box,
    h.bel.grown (grownBy_putObj' A l o') (by have := h.sz; omega) (fun k e => by cases e; omega), by rw [World.putObj_size]; exact h.sz⟩
theorem meet_comm (a b : Int) : wMeetF a b = wMeetF b a := by
  unfold wMeetF
  rw [Int.add_comm a b]
  by_cases h : -70368744177664 ≤ a ∧ a ≤ 70368744177664 ∧ -70368744177664 ≤ b ∧ b ≤ 70368744177664
  · rw [if_pos h, if_pos (by omega)]
  · rw [if_neg h, if_neg (by omega)]
theorem told_next {n k : Nat} (hn : n = 8 ∨ n = 64) (T : Nat → Int) (Y : Nat → Nat → Int) (i : Nat) :
    putF (putF (toldF n k T Y) (fun j => wMeetF (wLeftF (Y k) j) (tlF n T Y k j)) (n * k) 8) (fun j => Y k (4 + j)) (n * k + 8) (n - 8) i = toldF n (k + 1) T Y i := by
  have e1 : n * (k + 1) = n * k + n := Nat.mul_succ n k
  by_cases c1 : n * k + 8 ≤ i ∧ i < n * k + 8 + (n - 8)
  · obtain ⟨d, hd⟩ : ∃ d, i = n * k + (4 + d + 4) := ⟨i - (n * k + 8), by omega⟩
    have h := frF_own (n := n) T Y (b := k) (k := 4 + d) (by omega) (by omega)
    rw [putF, if_pos c1, toldF, if_pos (by omega), hd, h, show n * k + (4 + d + 4) - (n * k + 8) = d by omega]
  · rw [putF, if_neg c1]
    by_cases c2 : n * k ≤ i ∧ i < n * k + 8
    · obtain ⟨j, hj⟩ : ∃ j, i = n * k + j := ⟨i - n * k, by omega⟩
      have h := frF_meet (n := n) (by omega) T Y (b := k) (j := j) (by omega)
      rw [putF, if_pos c2, toldF, if_pos (by omega), hj, h, show n * k + j - n * k = j by omega, meet_comm]
    · rw [putF, if_neg c2, toldF, toldF]
      by_cases c3 : i < n * k
      · rw [if_pos c3, if_pos (by omega)]
      · rw [if_neg c3, if_neg (by omega)]
/-- The row, its box and the iterator's boxes, as they are made. -/
theorem made_frame (w : World) (t : Nat) (a : Option Addr) (cap : Nat) (short : Bool) : let V := ((((w.alloc (.cells (rowA 64 (fun _ => 0)) 3)).alloc (.cells #[.slice (some ⟨w.heap.size, 0, none⟩) 64 64] 23)).alloc (.cells #[.pointer (some ⟨t, 0, none⟩)] 26)).alloc (.cells #[.slice a 64 cap] 23)).alloc (.cells #[.bool short] 4)
    RowAt w.heap.size 64 (fun _ => 0) V ∧ V.cell? ⟨w.heap.size + 1, 0, none⟩ = some (.slice (some ⟨w.heap.size, 0, none⟩) 64 64) ∧ V.cell? ⟨w.heap.size + 1 + 1, 0, none⟩ = some (.pointer (some ⟨t, 0, none⟩)) ∧ V.cell? ⟨w.heap.size + 1 + 1 + 1, 0, none⟩ = some (.slice a 64 cap) ∧
      V.cell? ⟨w.heap.size + 1 + 1 + 1 + 1, 0, none⟩ = some (.bool short) ∧ V.heap.size = w.heap.size + 5 ∧ Below w.heap.size w V := by
  intro V
  have s1 := fun (o : Obj) => al_size w o
  refine ⟨?_, ?_, ?_, ?_, ?_, by simp [V], ?_⟩
  · exact (al_old _ (by simp <;> omega)).trans ((al_old _ (by simp <;> omega)).trans ((al_old _ (by simp <;> omega)).trans ((al_old _ (by simp <;> omega)).trans (al_new w _))))
  · exact (cell_al_old _ (by simp <;> omega)).trans ((cell_al_old _ (by simp <;> omega)).trans ((cell_al_old _ (by simp <;> omega)).trans (cell_al_new _ _ (by simp))))
  · exact (cell_al_old _ (by simp <;> omega)).trans ((cell_al_old _ (by simp <;> omega)).trans (cell_al_new _ _ (by simp)))
  · exact (cell_al_old _ (by simp <;> omega)).trans (cell_al_new _ _ (by simp))
  · exact cell_al_new _ _ (by simp)
  · exact (((((Below.refl _ w).alloc (Nat.le_refl _) _).alloc (by simp) _).alloc (by simp; omega) _).alloc (by simp; omega) _).alloc (by simp; omega) _
section
attribute [local go_sem] Oper.semAt_some
set_option maxRecDepth 100000 in
set_option maxHeartbeats 4000000 in
theorem frame_yes (n kB : Nat) (hn : (n = 8 ∧ kB = 8) ∨ (n = 64 ∧ kB = 1)) (short : Bool) (t : Nat) (a : Option Addr) (cap : Nat) (X T : Nat → Int) (Y : Nat → Nat → Int) (hX : allIn (-33554432) 33554432 X 64 = true) (hT : allIn (-35184372088832) 35184372088832 T 8 = true)
    (hY : ∀ b, b < kB → Fit30 (Y b) n) (w : World) (ht : Tab t w) (hs : STab w) (h : IsInts w a 64 cap X)
    (hG : ∀ (W : World) (q : Nat), Below w.heap.size w W → w.heap.size ≤ W.heap.size → q + 3 ≤ W.heap.size → W.cell? ⟨q, 0, none⟩ = some (.pointer (some ⟨t, 0, none⟩)) → W.cell? ⟨q + 1, 0, none⟩ = some (.slice a 64 cap) → W.cell? ⟨q + 1 + 1, 0, none⟩ = some (.bool short) →
      GivesTo Fence.wide 4 Tryd.prog 44 #[.pointer (some ⟨q + 1 + 1, 0, none⟩), .pointer (some ⟨q, 0, none⟩), .pointer (some ⟨q + 1, 0, none⟩)] (encB n) (GvB W.heap.size n Y) (KpB w.heap.size q) kB W) :
    Calls Tryd.prog 9 #[.pointer (some ⟨t, 0, none⟩), arr8 T, .slice a 64 cap, .bool short] w fun e w' => ∃ r, e = .returned (.tuple #[.slice (some ⟨r, 0, none⟩) 64 64, arr8 (tlF n T Y kB)]) ∧ w.heap.size ≤ r ∧ RowAt r 64 (frF n T Y) w' ∧ Below w.heap.size w w' := by
  obtain ⟨W1, hW1⟩ : ∃ W1, W1 = (w.alloc (.cells (rowA 8 T) 22)).alloc (.cells #[Value.int .i64 0, Value.int .i64 0, Value.int .i64 0, Value.int .i64 0, Value.int .i64 0, Value.int .i64 0, Value.int .i64 0, Value.int .i64 0] 22) := ⟨_, rfl⟩
  have hp := arr_new T w
  have hr := arr_new0 (w.alloc (.cells (rowA 8 T) 22))
  have hp' := arr_old0 hp
  rw [al_size] at hr
  rw [← hW1] at hr hp'
  have hbw : Below w.heap.size w W1 := by rw [hW1]; exact ((Below.refl _ w).alloc (Nat.le_refl _) _).alloc (by rw [al_size]; omega) _
  have hsz1 : W1.heap.size = w.heap.size + 1 + 1 := by rw [hW1, al_size, al_size]
  have hmk : ∀ w, (Instr.makeSlice 23 (.int .i64 64) (.int .i64 64)).run Tryd.prog w = .ok (.slice (some ⟨w.heap.size, 0, none⟩) 64 64) (w.alloc (.cells (rowA 64 (fun _ => 0)) 3)) := make_ints (n := 64) (by omega)
  have K1 : Hid (∀ W, Below w.heap.size w W → Calls Tryd.prog 23 #[.int .i64 (-33554432), .int .i64 33554432, .slice a 64 cap] W fun e w' => e = .returned (.bool true) ∧ w' = W) := fun W hW => by
    have := lwithin_any (-33554432) 33554432 a 64 cap X (by omega) W (h.below hW)
    rwa [hX] at this
  have K2 : Hid (∀ W, Below W1.heap.size W1 W → Calls Tryd.prog 23 #[.int .i64 (-35184372088832), .int .i64 35184372088832, .slice (some ⟨w.heap.size, 0, none⟩) 8 8] W fun e w' => e = .returned (.bool true) ∧ w' = W) := fun W hW => by
    have := lwithin_any (-35184372088832) 35184372088832 (some ⟨w.heap.size, 0, none⟩) 8 8 T (by omega) W (ArrAt.ints (hp'.below hW))
    rwa [hT] at this
  have HW1 := hid hW1
  have HP := hid hp'
  have HR := hid hr
  have HBW := hid hbw
  have HSZ1 := hid hsz1
  have HG := hid hG
  have HY := hid hY
  have HST := hid hs
  have HSTW := hid hs
  have HNK := hid hn
  clear hX hT hY h ht hs hW1 hp hp' hr hbw hsz1 hG hn
  refine (callsIn_wide (n := 5)).1 ?_
  refine callsIn_of_wp_marks Tryd.func9 rfl trivial ?_ rfl
  simp only [Tryd.ntmps9, List.size_toArray, List.length_cons, List.length_nil, Nat.reduceAdd, Nat.reduceSub, Array.replicate_succ, Array.replicate_zero, List.push_toArray, List.append_toArray, List.nil_append, List.cons_append]
  refine wpIn_wide.2 ?_
  go_wp2_with (fail)
  have hW1 := HW1.out
  rw [← hW1]
  clear hW1 HW1
  refine (K1.out _ HBW.out).mono ?_
  rintro e w2 ⟨rfl, rfl⟩
  go_wp2_with (fail)
  refine (K2.out _ (Below.refl _ _)).mono ?_
  rintro e w3 ⟨rfl, rfl⟩
  go_wp2_with (go_at_call 24; refine (blocks_any t a 64 cap short _).mono ?_; rintro e w4 ⟨rfl, rfl⟩)
  have M5 := made_frame w3 t a cap short
  dsimp only at M5
  generalize ((((w3.alloc (.cells (rowA 64 (fun _ => 0)) 3)).alloc (.cells #[.slice (some ⟨w3.heap.size, 0, none⟩) 64 64] 23)).alloc (.cells #[.pointer (some ⟨t, 0, none⟩)] 26)).alloc (.cells #[.slice a 64 cap] 23)).alloc (.cells #[.bool short] 4) = W5 at M5 ⊢
  obtain ⟨p, hp⟩ : ∃ p, p = w.heap.size := ⟨_, rfl⟩
  obtain ⟨g, hg⟩ : ∃ g, g = p + 1 := ⟨_, rfl⟩
  obtain ⟨s, hs⟩ : ∃ s, s = w3.heap.size := ⟨_, rfl⟩
  obtain ⟨x, hx⟩ : ∃ x, x = s + 1 := ⟨_, rfl⟩
  obtain ⟨q, hq⟩ : ∃ q, q = x + 1 := ⟨_, rfl⟩
  obtain ⟨z, hz⟩ : ∃ z, z = W5.heap.size := ⟨_, rfl⟩
  rw [← hs, ← hx, ← hq] at M5
  obtain ⟨m1, m2, m3, m4, m5, m6, m7⟩ := M5
  have HL : Hid (p = w.heap.size ∧ g = p + 1 ∧ s = p + 2 ∧ x = p + 3 ∧ q = p + 4 ∧ z = p + 7 ∧ z = W5.heap.size) := by
    have := HSZ1.out
    show _ ∧ _
    omega
  have HB5 : Hid (Below p w W5) := by
    rw [hp]
    exact HBW.out.trans (m7.mono (by have := HSZ1.out; omega))
  have HI0 : Hid (FrI p z s p g x n 0 T Y w W5) := by
    refine ⟨m1.congr (fun i _ => ?_), ?_, ?_, m2, HB5.out, by rw [hz]; exact Nat.le_refl _⟩
    · rw [toldF, if_neg (by omega)]
    · rw [hp]; exact HP.out.below (by rw [← hs]; exact m7)
    · rw [hg, hp]; exact HR.out.below (by rw [← hs]; exact m7)
  have HGV := hid (HG.out W5 q (by rw [← hp]; exact HB5.out) (by have := HL.out; omega) (by have := HL.out; omega) m3 m4 m5)
  rw [← hp] at HGV
  rw [← hz] at HGV
  rw [← hs, ← hx, ← hq, ← hp, ← hg]
  clear m1 m2 m3 m4 m5 m6 m7 hp hg hs hx hq hz HP HR HBW HSZ1 HG K1 K2 hmk
  refine (wpIn_wide (n := 5)).1 ?_
  refine' range_given (F := Fence.wide) (n := 5) (w := W5) rfl (by omega) (gf := 44) (lb := #[.pointer (some ⟨q + 1 + 1, 0, none⟩), .pointer (some ⟨q, 0, none⟩), .pointer (some ⟨q + 1, 0, none⟩)]) rfl trivial (enters_of Tryd.func44 (by kernel_rfl) rfl)
    HGV.out (fun _ _ _ h k => h.trans k) (fun A => KpB.minds (by have := HL.out; omega) (by have := HL.out; omega) A) (fun A => KpB.refl _ _ A) (fun _ _ => rfl) (fun k W => FrI p z s p g x n k T Y w W)
    (fun k A B h hb => h.tr (by have := HL.out; omega) (by have := HL.out; omega) hb) (fun k A l o o' h hl => FrI.minds (z := z) (by have := HL.out; omega) (by have := HL.out; omega) (by have := HL.out; omega) (by have := HL.out; omega) (by have := HL.out; omega) A l o o' h (by have := HL.out; omega)) (fun k r => GvB.minds _ k r) HI0.out _ ?assign ?body ?done
  case assign =>
    intro l k r W K hK
    dsimp only [encB]
    gi_wp2
    exact hK
  case done =>
    intro D W hD hI hDW
    have HI := hid hI
    have HD := hid hD
    have HDW := hid hDW
    clear hI hD hDW
    have hbx := HI.out.box
    go_wp2
    rename_i Kr hKr
    have HFIN : Hid (∀ Wd, Below W.heap.size W Wd → Kr { tmps := #[.pointer (some ⟨t, 0, none⟩), arr8 T, .slice a 64 cap, .bool short, undef, .pointer (some ⟨p, 0, none⟩), undef, undef, .slice (some ⟨s, 0, none⟩) 64 64, .pointer (some ⟨g, 0, none⟩), .pointer (some ⟨x, 0, none⟩), undef, undef, undef, .pointer (some ⟨t, 0, none⟩), .bool false, .bool false, .slice a 64 cap, .int .i64 64, .bool false, .bool false, .bool false, .slice a 64 cap, .bool true, .bool false, .bool false, .bool false, .slice (some ⟨p, 0, none⟩) 8 8, .bool true, .bool false, .bool false, undef, .slice (some ⟨s, 0, none⟩) 64 64, .pointer (some ⟨t, 0, none⟩), .slice a 64 cap, .bool short, .func (.func 44) #[] #[.pointer (some ⟨q + 1 + 1, 0, none⟩), .pointer (some ⟨q, 0, none⟩), .pointer (some ⟨q + 1, 0, none⟩)], undef, undef, undef, undef, undef, undef, undef, undef, undef, undef, undef, undef, undef, undef, undef, undef, undef, undef, undef, undef, undef, undef, undef, .slice (some ⟨s, 0, none⟩) 64 64, arr8 (tlF n T Y kB)], defers := [{ target := .collected D, args := #[] }] } (Wd.setRow g (rowA 8 (tlF n T Y kB)))) := fun Wd hHeld => by
      have hL := HL.out
      have hd := HD.out
      have hsz := HI.out.sz
      have HROWV := hid ((setRow_other Wd g s (rowA 8 (tlF n T Y kB)) (by omega)).trans (HI.out.row.below hHeld))
      have HRESV := hid ((HI.out.res.below hHeld).laid (tlF n T Y kB))
      have HBELV := hid (below_setRow (HI.out.bel.trans (hHeld.mono (by omega))) (show p ≤ g by omega) (rowA 8 (tlF n T Y kB)))
      have HDV := hid ((setRow_other Wd g D (rowA 8 (tlF n T Y kB)) (by omega)).trans ((hHeld.block D (Array.getElem?_eq_some_iff.1 HDW.out).1).trans HDW.out))
      generalize Wd.setRow g (rowA 8 (tlF n T Y kB)) = V at HROWV HRESV HBELV HDV ⊢
      clear hL hd hsz
      apply hKr
      go_wp2
      have hL := HL.out
      have hd := HD.out
      refine ⟨by simp, .inl ⟨_, _, rfl, run_takeDeferred HDV.out, ?_⟩⟩
      have e : ∀ j, j < D → (V.putObj D (.deferred none)).heap[j]? = V.heap[j]? := fun j hj => World.putObj_heap_other (by omega)
      refine ⟨_, results_two8 (v := .slice (some ⟨s, 0, none⟩) 64 64) rfl _ rfl rfl (show ArrAt g (tlF n T Y kB) _ from (e g (by omega)).trans HRESV.out), s, rfl, by omega, ?_, ?_⟩
      · refine RowAt.congr (show RowAt s 64 (toldF n kB T Y) _ from (e s (by omega)).trans HROWV.out) (fun i hi => ?_)
        rw [toldF, if_pos (by rcases HNK.out with ⟨h1, h2⟩ | ⟨h1, h2⟩ <;> subst h1 <;> subst h2 <;> omega)]
      · rw [← hL.1]
        exact HBELV.out.grown (grownBy_putObj' V D _) (by have := HBELV.out.size; omega) (fun k e => by cases e; omega)
    refine (wpIn_wide (n := 5)).1 ?_
    refine wpIn_region_any (by kernel_rfl) ?_
    have hHeld : Below W.heap.size W { W with drawn := W.drawn + 1 } := (Below.refl _ W).drew
    generalize ({ W with drawn := W.drawn + 1 } : World) = Wd at hHeld ⊢
    refine wpAnyIn_ready (rs := [0, 1]) (by kernel_rfl) (by simp) ?_
    refine AllReadyIn.cons rfl (fun K hK => ?_) ?_
    · have cc := (hHeld.cell (p := ⟨x, 0, none⟩) (block_lt_of_cell hbx)).trans hbx
      simp only [List.getElem_toArray, List.getElem_cons_zero]
      go_simp
      refine hK _ _ ?_
      clear hK K cc
      refine wpAnyIn_ready (rs := [1, 2]) (by kernel_rfl) (by simp) ?_
      refine AllReadyIn.cons rfl (fun K hK => ?_) ?_
      · refine if_want (by rfl) ?_
        refine in_value (fun _ => trivial) rfl (exec_load8 rfl rfl (HI.out.tail.below hHeld)) ?_
        refine hK _ _ ?_
        clear hK K
        simp only [List.getElem_toArray, List.getElem_cons_zero, List.getElem_cons_succ, Act.put, List.setIfInBounds_toArray, List.set_cons_zero, List.set_cons_succ]
        refine wpAnyIn_ready (rs := [2]) (by kernel_rfl) (by simp) ?_
        refine AllReadyIn.cons rfl (fun K hK => ?_) AllReadyIn.nil
        simp only [List.getElem_toArray, List.getElem_cons_zero, List.getElem_cons_succ]
        go_simp
        refine hK _ _ ?_
        clear hK K
        refine wpAnyIn_ready (rs := [3]) (by kernel_rfl) (by simp) ?_
        refine AllReadyIn.cons rfl (fun K hK => ?_) AllReadyIn.nil
        refine if_want (by rfl) ?_
        refine in_skip (fun _ => trivial) rfl (exec_store8 (X := tlF n T Y kB) rfl rfl rfl (HI.out.res.below hHeld)) ?_
        refine hK _ _ ?_
        clear hK K
        refine wpAnyIn_done (by kernel_rfl) ?_ _
        simp only [List.getElem_toArray, List.getElem_cons_zero, List.getElem_cons_succ, Act.put]
        exact HFIN.out Wd hHeld
      refine AllReadyIn.cons rfl (fun K hK => ?_) AllReadyIn.nil
      simp only [List.getElem_toArray, List.getElem_cons_zero, List.getElem_cons_succ]
      go_simp
      refine hK _ _ ?_
      clear hK K
      refine wpAnyIn_ready (rs := [1]) (by kernel_rfl) (by simp) ?_
      refine AllReadyIn.cons rfl (fun K hK => ?_) AllReadyIn.nil
      refine if_want (by rfl) ?_
      refine in_value (fun _ => trivial) rfl (exec_load8 rfl rfl (HI.out.tail.below hHeld)) ?_
      refine hK _ _ ?_
      clear hK K
      simp only [List.getElem_toArray, List.getElem_cons_zero, List.getElem_cons_succ, Act.put, List.setIfInBounds_toArray, List.set_cons_zero, List.set_cons_succ]
      refine wpAnyIn_ready (rs := [3]) (by kernel_rfl) (by simp) ?_
      refine AllReadyIn.cons rfl (fun K hK => ?_) AllReadyIn.nil
      refine if_want (by rfl) ?_
      refine in_skip (fun _ => trivial) rfl (exec_store8 (X := tlF n T Y kB) rfl rfl rfl (HI.out.res.below hHeld)) ?_
      refine hK _ _ ?_
      clear hK K
      refine wpAnyIn_done (by kernel_rfl) ?_ _
      simp only [List.getElem_toArray, List.getElem_cons_zero, List.getElem_cons_succ, Act.put]
      exact HFIN.out Wd hHeld
    refine AllReadyIn.cons rfl (fun K hK => ?_) AllReadyIn.nil
    refine if_want (by rfl) ?_
    refine in_value (fun _ => trivial) rfl (exec_load8 rfl rfl (HI.out.tail.below hHeld)) ?_
    refine hK _ _ ?_
    clear hK K
    simp only [List.getElem_toArray, List.getElem_cons_zero, List.getElem_cons_succ, Act.put, List.setIfInBounds_toArray, List.set_cons_zero, List.set_cons_succ]
    refine wpAnyIn_ready (rs := [0]) (by kernel_rfl) (by simp) ?_
    refine AllReadyIn.cons rfl (fun K hK => ?_) AllReadyIn.nil
    have cc := (hHeld.cell (p := ⟨x, 0, none⟩) (block_lt_of_cell hbx)).trans hbx
    simp only [List.getElem_toArray, List.getElem_cons_zero]
    go_simp
    refine hK _ _ ?_
    clear hK K cc
    refine wpAnyIn_ready (rs := [2]) (by kernel_rfl) (by simp) ?_
    refine AllReadyIn.cons rfl (fun K hK => ?_) AllReadyIn.nil
    simp only [List.getElem_toArray, List.getElem_cons_zero, List.getElem_cons_succ]
    go_simp
    refine hK _ _ ?_
    clear hK K
    refine wpAnyIn_ready (rs := [3]) (by kernel_rfl) (by simp) ?_
    refine AllReadyIn.cons rfl (fun K hK => ?_) AllReadyIn.nil
    refine if_want (by rfl) ?_
    refine in_skip (fun _ => trivial) rfl (exec_store8 (X := tlF n T Y kB) rfl rfl rfl (HI.out.res.below hHeld)) ?_
    refine hK _ _ ?_
    clear hK K
    refine wpAnyIn_done (by kernel_rfl) ?_ _
    simp only [List.getElem_toArray, List.getElem_cons_zero, List.getElem_cons_succ, Act.put]
    exact HFIN.out Wd hHeld
  case body =>
    rintro l k r W hk hI ⟨hr, hrow⟩
    obtain ⟨o, ho⟩ : ∃ o, o = n * k := ⟨_, rfl⟩
    have hoe : (n : Int) * (k : Int) = (o : Int) := by rw [ho, Int.natCast_mul]
    rw [hoe]
    have HO := hid ho
    have HON : Hid (o + n ≤ 64 ∧ (n = 8 ∨ n = 64)) := by
      show _ ∧ _
      rcases HNK.out with ⟨h1, h2⟩ | ⟨h1, h2⟩
      · subst h1; omega
      · subst h1; omega
    have HI := hid hI
    have HROW := hid hrow
    have HRZ := hid hr
    have HKK := hid hk
    have HST : Hid (∀ V, Below W.heap.size W V → STab V) := fun V hV => HST.out.below ((by rw [← HL.out.1]; exact HI.out.bel.trans (hV.mono (by have := HL.out; have := HI.out.sz; omega))))
    have HSTC : Hid (∀ V, ChF s p W V → STab V) := fun V hV => by
      have hw := HSTW.out
      have hl := HL.out
      have h5 := hw.below (by rw [← hl.1]; exact HI.out.bel)
      exact hw.frame (B := p) (HI.out.bel.trans (hV.below (by omega) (Nat.le_refl _) (by have := HI.out.sz; omega))) (by rw [hl.1]; exact hw.lt)
    have KL : Hid (∀ V, Below W.heap.size W V → Calls Tryd.prog 26 #[.slice (some ⟨r, 0, none⟩) n n] V fun e w' => e = .returned (arr8 (wLeftF (Y k))) ∧ Below V.heap.size V w') := fun V hV =>
      left_yes n HON.out.2 _ n (Y k) (HY.out k HKK.out) V (HST.out V hV) ((HROW.out.below hV).ints (by have := HON.out; show n ≤ maxLen; unfold maxLen; omega))
    have HTL : Hid (∀ V, Below W.heap.size W V → ArrAt p (tlF n T Y k) V) := fun V hV => HI.out.tail.below hV
    clear ho hoe hI hrow hr hk
    gi_wp2
    refine wpIn_mono (Q := fun e a' V => e = .normal ∧ ∃ m, W.heap.size ≤ m ∧ Below W.heap.size W V ∧ ArrAt m (fun j => wMeetF (wLeftF (Y k) j) (tlF n T Y k j)) V ∧ a' = { tmps := #[.pointer (some ⟨t, 0, none⟩), arr8 T, .slice a 64 cap, .bool short, undef, .pointer (some ⟨p, 0, none⟩), undef, undef, .slice none 0 0, .pointer (some ⟨g, 0, none⟩), .pointer (some ⟨x, 0, none⟩), .int .i64 (o : Int), .slice (some ⟨r, 0, none⟩) n n, .pointer (some ⟨m, 0, none⟩), .pointer (some ⟨t, 0, none⟩), .bool false, .bool false, .slice a 64 cap, .int .i64 64, .bool false, .bool false, .bool false, .slice a 64 cap, .bool true, .bool false, .bool false, .bool false, .slice (some ⟨p, 0, none⟩) 8 8, .bool true, .bool false, .bool false, undef, .slice (some ⟨s, 0, none⟩) 64 64, .pointer (some ⟨t, 0, none⟩), .slice a 64 cap, .bool short, .func (.func 44) #[] #[.pointer (some ⟨q + 1 + 1, 0, none⟩), .pointer (some ⟨q, 0, none⟩), .pointer (some ⟨q + 1, 0, none⟩)], .int .i64 (o : Int), .slice (some ⟨r, 0, none⟩) n n, .slice (some ⟨r, 0, none⟩) n n, arr8 (wLeftF (Y k)), arr8 (tlF n T Y k), arr8 (fun j => wMeetF (wLeftF (Y k) j) (tlF n T Y k j)), undef, undef, undef, undef, undef, undef, undef, undef, undef, undef, undef, undef, undef, undef, undef, undef, undef, undef, undef], defers := [] }) ?_ ?_
    · refine wpIn_region_any (by kernel_rfl) ?_
      have hHeld : Below W.heap.size W { W with drawn := W.drawn + 1 } := (Below.refl _ W).drew
      generalize ({ W with drawn := W.drawn + 1 } : World) = Wd at hHeld ⊢
      refine wpAnyIn_ready (rs := [0, 2, 4]) (by kernel_rfl) (by simp) ?_
      refine AllReadyIn.cons rfl (fun K hK => ?_) ?_
      · simp only [List.getElem_toArray, List.getElem_cons_zero]
        go_simp
        refine hK _ _ ?_
        clear hK K
        refine wpAnyIn_ready (rs := [1, 2, 4]) (by kernel_rfl) (by simp) ?_
        refine AllReadyIn.cons rfl (fun K hK => ?_) ?_
        · simp only [List.getElem_toArray, List.getElem_cons_zero, List.getElem_cons_succ]
          go_simp
          refine ⟨trivial, (CallsIn.inRound l (callsIn_wide.2 (KL.out _ hHeld))).mono ?_⟩
          rintro e w5 ⟨rfl, b5⟩
          try (replace hq := ArrAt.below hq b5)
          replace hHeld := below_then hHeld b5
          refine hK _ _ ?_
          clear hK K b5
          refine wpAnyIn_ready (rs := [2, 4]) (by kernel_rfl) (by simp) ?_
          refine AllReadyIn.cons rfl (fun K hK => ?_) ?_
          · refine if_want (by rfl) ?_
            refine in_value (fun _ => trivial) rfl (exec_load8 rfl rfl (HTL.out _ hHeld)) ?_
            refine hK _ _ ?_
            clear hK K
            simp only [List.getElem_toArray, List.getElem_cons_zero, List.getElem_cons_succ, Act.put, List.setIfInBounds_toArray, List.set_cons_zero, List.set_cons_succ]
            refine wpAnyIn_ready (rs := [3, 4]) (by kernel_rfl) (by simp) ?_
            refine AllReadyIn.cons rfl (fun K hK => ?_) ?_
            · simp only [List.getElem_toArray, List.getElem_cons_zero, List.getElem_cons_succ]
              go_simp
              refine ⟨trivial, (CallsIn.inRound l (callsIn_wide.2 (meet_any _ _ _))).mono ?_⟩
              rintro e w6 ⟨rfl, b6⟩
              try (replace hq := ArrAt.below hq b6)
              replace hHeld := below_then hHeld b6
              refine hK _ _ ?_
              clear hK K b6
              refine wpAnyIn_ready (rs := [4]) (by kernel_rfl) (by simp) ?_
              refine AllReadyIn.cons rfl (fun K hK => ?_) AllReadyIn.nil
              simp only [List.getElem_toArray, List.getElem_cons_zero, List.getElem_cons_succ]
              go_simp
              have hq2 := alloc_arr hHeld
              have hq := hq2.1
              have hqlo := hHeld.size
              replace hHeld := hq2.2
              refine hK _ _ ?_
              clear hK K hq2
              refine wpAnyIn_ready (rs := [5]) (by kernel_rfl) (by simp) ?_
              refine AllReadyIn.cons rfl (fun K hK => ?_) AllReadyIn.nil
              refine if_want (by rfl) ?_
              refine in_skip (fun _ => trivial) rfl (exec_store8 (X := (fun j => wMeetF (wLeftF (Y k) j) (tlF n T Y k j))) rfl rfl rfl hq) ?_
              have hM := ArrAt.laid hq (fun j => wMeetF (wLeftF (Y k) j) (tlF n T Y k j))
              replace hHeld := below_setRow hHeld hqlo (rowA 8 (fun j => wMeetF (wLeftF (Y k) j) (tlF n T Y k j)))
              refine hK _ _ ?_
              clear hK K hq
              refine wpAnyIn_done (by kernel_rfl) ?_ _
              exact ⟨rfl, _, hqlo, hHeld, hM, rfl⟩
            refine AllReadyIn.cons rfl (fun K hK => ?_) AllReadyIn.nil
            simp only [List.getElem_toArray, List.getElem_cons_zero, List.getElem_cons_succ]
            go_simp
            have hq2 := alloc_arr hHeld
            have hq := hq2.1
            have hqlo := hHeld.size
            replace hHeld := hq2.2
            refine hK _ _ ?_
            clear hK K hq2
            refine wpAnyIn_ready (rs := [3]) (by kernel_rfl) (by simp) ?_
            refine AllReadyIn.cons rfl (fun K hK => ?_) AllReadyIn.nil
            simp only [List.getElem_toArray, List.getElem_cons_zero, List.getElem_cons_succ]
            go_simp
            refine ⟨trivial, (CallsIn.inRound l (callsIn_wide.2 (meet_any _ _ _))).mono ?_⟩
            rintro e w6 ⟨rfl, b6⟩
            try (replace hq := ArrAt.below hq b6)
            replace hHeld := below_then hHeld b6
            refine hK _ _ ?_
            clear hK K b6
            refine wpAnyIn_ready (rs := [5]) (by kernel_rfl) (by simp) ?_
            refine AllReadyIn.cons rfl (fun K hK => ?_) AllReadyIn.nil
            refine if_want (by rfl) ?_
            refine in_skip (fun _ => trivial) rfl (exec_store8 (X := (fun j => wMeetF (wLeftF (Y k) j) (tlF n T Y k j))) rfl rfl rfl hq) ?_
            have hM := ArrAt.laid hq (fun j => wMeetF (wLeftF (Y k) j) (tlF n T Y k j))
            replace hHeld := below_setRow hHeld hqlo (rowA 8 (fun j => wMeetF (wLeftF (Y k) j) (tlF n T Y k j)))
            refine hK _ _ ?_
            clear hK K hq
            refine wpAnyIn_done (by kernel_rfl) ?_ _
            exact ⟨rfl, _, hqlo, hHeld, hM, rfl⟩
          refine AllReadyIn.cons rfl (fun K hK => ?_) AllReadyIn.nil
          simp only [List.getElem_toArray, List.getElem_cons_zero, List.getElem_cons_succ]
          go_simp
          have hq2 := alloc_arr hHeld
          have hq := hq2.1
          have hqlo := hHeld.size
          replace hHeld := hq2.2
          refine hK _ _ ?_
          clear hK K hq2
          refine wpAnyIn_ready (rs := [2]) (by kernel_rfl) (by simp) ?_
          refine AllReadyIn.cons rfl (fun K hK => ?_) AllReadyIn.nil
          refine if_want (by rfl) ?_
          refine in_value (fun _ => trivial) rfl (exec_load8 rfl rfl (HTL.out _ hHeld)) ?_
          refine hK _ _ ?_
          clear hK K
          simp only [List.getElem_toArray, List.getElem_cons_zero, List.getElem_cons_succ, Act.put, List.setIfInBounds_toArray, List.set_cons_zero, List.set_cons_succ]
          refine wpAnyIn_ready (rs := [3]) (by kernel_rfl) (by simp) ?_
          refine AllReadyIn.cons rfl (fun K hK => ?_) AllReadyIn.nil
          simp only [List.getElem_toArray, List.getElem_cons_zero, List.getElem_cons_succ]
          go_simp
          refine ⟨trivial, (CallsIn.inRound l (callsIn_wide.2 (meet_any _ _ _))).mono ?_⟩
          rintro e w6 ⟨rfl, b6⟩
          try (replace hq := ArrAt.below hq b6)
          replace hHeld := below_then hHeld b6
          refine hK _ _ ?_
          clear hK K b6
          refine wpAnyIn_ready (rs := [5]) (by kernel_rfl) (by simp) ?_
          refine AllReadyIn.cons rfl (fun K hK => ?_) AllReadyIn.nil
          refine if_want (by rfl) ?_
          refine in_skip (fun _ => trivial) rfl (exec_store8 (X := (fun j => wMeetF (wLeftF (Y k) j) (tlF n T Y k j))) rfl rfl rfl hq) ?_
          have hM := ArrAt.laid hq (fun j => wMeetF (wLeftF (Y k) j) (tlF n T Y k j))
          replace hHeld := below_setRow hHeld hqlo (rowA 8 (fun j => wMeetF (wLeftF (Y k) j) (tlF n T Y k j)))
          refine hK _ _ ?_
          clear hK K hq
          refine wpAnyIn_done (by kernel_rfl) ?_ _
          exact ⟨rfl, _, hqlo, hHeld, hM, rfl⟩
        refine AllReadyIn.cons rfl (fun K hK => ?_) ?_
        · refine if_want (by rfl) ?_
          refine in_value (fun _ => trivial) rfl (exec_load8 rfl rfl (HTL.out _ hHeld)) ?_
          refine hK _ _ ?_
          clear hK K
          simp only [List.getElem_toArray, List.getElem_cons_zero, List.getElem_cons_succ, Act.put, List.setIfInBounds_toArray, List.set_cons_zero, List.set_cons_succ]
          refine wpAnyIn_ready (rs := [1, 4]) (by kernel_rfl) (by simp) ?_
          refine AllReadyIn.cons rfl (fun K hK => ?_) ?_
          · simp only [List.getElem_toArray, List.getElem_cons_zero, List.getElem_cons_succ]
            go_simp
            refine ⟨trivial, (CallsIn.inRound l (callsIn_wide.2 (KL.out _ hHeld))).mono ?_⟩
            rintro e w5 ⟨rfl, b5⟩
            try (replace hq := ArrAt.below hq b5)
            replace hHeld := below_then hHeld b5
            refine hK _ _ ?_
            clear hK K b5
            refine wpAnyIn_ready (rs := [3, 4]) (by kernel_rfl) (by simp) ?_
            refine AllReadyIn.cons rfl (fun K hK => ?_) ?_
            · simp only [List.getElem_toArray, List.getElem_cons_zero, List.getElem_cons_succ]
              go_simp
              refine ⟨trivial, (CallsIn.inRound l (callsIn_wide.2 (meet_any _ _ _))).mono ?_⟩
              rintro e w6 ⟨rfl, b6⟩
              try (replace hq := ArrAt.below hq b6)
              replace hHeld := below_then hHeld b6
              refine hK _ _ ?_
              clear hK K b6
              refine wpAnyIn_ready (rs := [4]) (by kernel_rfl) (by simp) ?_
              refine AllReadyIn.cons rfl (fun K hK => ?_) AllReadyIn.nil
              simp only [List.getElem_toArray, List.getElem_cons_zero, List.getElem_cons_succ]
              go_simp
              have hq2 := alloc_arr hHeld
              have hq := hq2.1
              have hqlo := hHeld.size
              replace hHeld := hq2.2
              refine hK _ _ ?_
              clear hK K hq2
              refine wpAnyIn_ready (rs := [5]) (by kernel_rfl) (by simp) ?_
              refine AllReadyIn.cons rfl (fun K hK => ?_) AllReadyIn.nil
              refine if_want (by rfl) ?_
              refine in_skip (fun _ => trivial) rfl (exec_store8 (X := (fun j => wMeetF (wLeftF (Y k) j) (tlF n T Y k j))) rfl rfl rfl hq) ?_
              have hM := ArrAt.laid hq (fun j => wMeetF (wLeftF (Y k) j) (tlF n T Y k j))
              replace hHeld := below_setRow hHeld hqlo (rowA 8 (fun j => wMeetF (wLeftF (Y k) j) (tlF n T Y k j)))
              refine hK _ _ ?_
              clear hK K hq
              refine wpAnyIn_done (by kernel_rfl) ?_ _
              exact ⟨rfl, _, hqlo, hHeld, hM, rfl⟩
            refine AllReadyIn.cons rfl (fun K hK => ?_) AllReadyIn.nil
            simp only [List.getElem_toArray, List.getElem_cons_zero, List.getElem_cons_succ]
            go_simp
            have hq2 := alloc_arr hHeld
            have hq := hq2.1
            have hqlo := hHeld.size
            replace hHeld := hq2.2
            refine hK _ _ ?_
            clear hK K hq2
            refine wpAnyIn_ready (rs := [3]) (by kernel_rfl) (by simp) ?_
            refine AllReadyIn.cons rfl (fun K hK => ?_) AllReadyIn.nil
            simp only [List.getElem_toArray, List.getElem_cons_zero, List.getElem_cons_succ]
            go_simp
            refine ⟨trivial, (CallsIn.inRound l (callsIn_wide.2 (meet_any _ _ _))).mono ?_⟩
            rintro e w6 ⟨rfl, b6⟩
            try (replace hq := ArrAt.below hq b6)
            replace hHeld := below_then hHeld b6
            refine hK _ _ ?_
            clear hK K b6
            refine wpAnyIn_ready (rs := [5]) (by kernel_rfl) (by simp) ?_
            refine AllReadyIn.cons rfl (fun K hK => ?_) AllReadyIn.nil
            refine if_want (by rfl) ?_
            refine in_skip (fun _ => trivial) rfl (exec_store8 (X := (fun j => wMeetF (wLeftF (Y k) j) (tlF n T Y k j))) rfl rfl rfl hq) ?_
            have hM := ArrAt.laid hq (fun j => wMeetF (wLeftF (Y k) j) (tlF n T Y k j))
            replace hHeld := below_setRow hHeld hqlo (rowA 8 (fun j => wMeetF (wLeftF (Y k) j) (tlF n T Y k j)))
            refine hK _ _ ?_
            clear hK K hq
            refine wpAnyIn_done (by kernel_rfl) ?_ _
            exact ⟨rfl, _, hqlo, hHeld, hM, rfl⟩
          refine AllReadyIn.cons rfl (fun K hK => ?_) AllReadyIn.nil
          simp only [List.getElem_toArray, List.getElem_cons_zero, List.getElem_cons_succ]
          go_simp
          have hq2 := alloc_arr hHeld
          have hq := hq2.1
          have hqlo := hHeld.size
          replace hHeld := hq2.2
          refine hK _ _ ?_
          clear hK K hq2
          refine wpAnyIn_ready (rs := [1]) (by kernel_rfl) (by simp) ?_
          refine AllReadyIn.cons rfl (fun K hK => ?_) AllReadyIn.nil
          simp only [List.getElem_toArray, List.getElem_cons_zero, List.getElem_cons_succ]
          go_simp
          refine ⟨trivial, (CallsIn.inRound l (callsIn_wide.2 (KL.out _ hHeld))).mono ?_⟩
          rintro e w5 ⟨rfl, b5⟩
          try (replace hq := ArrAt.below hq b5)
          replace hHeld := below_then hHeld b5
          refine hK _ _ ?_
          clear hK K b5
          refine wpAnyIn_ready (rs := [3]) (by kernel_rfl) (by simp) ?_
          refine AllReadyIn.cons rfl (fun K hK => ?_) AllReadyIn.nil
          simp only [List.getElem_toArray, List.getElem_cons_zero, List.getElem_cons_succ]
          go_simp
          refine ⟨trivial, (CallsIn.inRound l (callsIn_wide.2 (meet_any _ _ _))).mono ?_⟩
          rintro e w6 ⟨rfl, b6⟩
          try (replace hq := ArrAt.below hq b6)
          replace hHeld := below_then hHeld b6
          refine hK _ _ ?_
          clear hK K b6
          refine wpAnyIn_ready (rs := [5]) (by kernel_rfl) (by simp) ?_
          refine AllReadyIn.cons rfl (fun K hK => ?_) AllReadyIn.nil
          refine if_want (by rfl) ?_
          refine in_skip (fun _ => trivial) rfl (exec_store8 (X := (fun j => wMeetF (wLeftF (Y k) j) (tlF n T Y k j))) rfl rfl rfl hq) ?_
          have hM := ArrAt.laid hq (fun j => wMeetF (wLeftF (Y k) j) (tlF n T Y k j))
          replace hHeld := below_setRow hHeld hqlo (rowA 8 (fun j => wMeetF (wLeftF (Y k) j) (tlF n T Y k j)))
          refine hK _ _ ?_
          clear hK K hq
          refine wpAnyIn_done (by kernel_rfl) ?_ _
          exact ⟨rfl, _, hqlo, hHeld, hM, rfl⟩
        refine AllReadyIn.cons rfl (fun K hK => ?_) AllReadyIn.nil
        simp only [List.getElem_toArray, List.getElem_cons_zero, List.getElem_cons_succ]
        go_simp
        have hq2 := alloc_arr hHeld
        have hq := hq2.1
        have hqlo := hHeld.size
        replace hHeld := hq2.2
        refine hK _ _ ?_
        clear hK K hq2
        refine wpAnyIn_ready (rs := [1, 2]) (by kernel_rfl) (by simp) ?_
        refine AllReadyIn.cons rfl (fun K hK => ?_) ?_
        · simp only [List.getElem_toArray, List.getElem_cons_zero, List.getElem_cons_succ]
          go_simp
          refine ⟨trivial, (CallsIn.inRound l (callsIn_wide.2 (KL.out _ hHeld))).mono ?_⟩
          rintro e w5 ⟨rfl, b5⟩
          try (replace hq := ArrAt.below hq b5)
          replace hHeld := below_then hHeld b5
          refine hK _ _ ?_
          clear hK K b5
          refine wpAnyIn_ready (rs := [2]) (by kernel_rfl) (by simp) ?_
          refine AllReadyIn.cons rfl (fun K hK => ?_) AllReadyIn.nil
          refine if_want (by rfl) ?_
          refine in_value (fun _ => trivial) rfl (exec_load8 rfl rfl (HTL.out _ hHeld)) ?_
          refine hK _ _ ?_
          clear hK K
          simp only [List.getElem_toArray, List.getElem_cons_zero, List.getElem_cons_succ, Act.put, List.setIfInBounds_toArray, List.set_cons_zero, List.set_cons_succ]
          refine wpAnyIn_ready (rs := [3]) (by kernel_rfl) (by simp) ?_
          refine AllReadyIn.cons rfl (fun K hK => ?_) AllReadyIn.nil
          simp only [List.getElem_toArray, List.getElem_cons_zero, List.getElem_cons_succ]
          go_simp
          refine ⟨trivial, (CallsIn.inRound l (callsIn_wide.2 (meet_any _ _ _))).mono ?_⟩
          rintro e w6 ⟨rfl, b6⟩
          try (replace hq := ArrAt.below hq b6)
          replace hHeld := below_then hHeld b6
          refine hK _ _ ?_
          clear hK K b6
          refine wpAnyIn_ready (rs := [5]) (by kernel_rfl) (by simp) ?_
          refine AllReadyIn.cons rfl (fun K hK => ?_) AllReadyIn.nil
          refine if_want (by rfl) ?_
          refine in_skip (fun _ => trivial) rfl (exec_store8 (X := (fun j => wMeetF (wLeftF (Y k) j) (tlF n T Y k j))) rfl rfl rfl hq) ?_
          have hM := ArrAt.laid hq (fun j => wMeetF (wLeftF (Y k) j) (tlF n T Y k j))
          replace hHeld := below_setRow hHeld hqlo (rowA 8 (fun j => wMeetF (wLeftF (Y k) j) (tlF n T Y k j)))
          refine hK _ _ ?_
          clear hK K hq
          refine wpAnyIn_done (by kernel_rfl) ?_ _
          exact ⟨rfl, _, hqlo, hHeld, hM, rfl⟩
        refine AllReadyIn.cons rfl (fun K hK => ?_) AllReadyIn.nil
        refine if_want (by rfl) ?_
        refine in_value (fun _ => trivial) rfl (exec_load8 rfl rfl (HTL.out _ hHeld)) ?_
        refine hK _ _ ?_
        clear hK K
        simp only [List.getElem_toArray, List.getElem_cons_zero, List.getElem_cons_succ, Act.put, List.setIfInBounds_toArray, List.set_cons_zero, List.set_cons_succ]
        refine wpAnyIn_ready (rs := [1]) (by kernel_rfl) (by simp) ?_
        refine AllReadyIn.cons rfl (fun K hK => ?_) AllReadyIn.nil
        simp only [List.getElem_toArray, List.getElem_cons_zero, List.getElem_cons_succ]
        go_simp
        refine ⟨trivial, (CallsIn.inRound l (callsIn_wide.2 (KL.out _ hHeld))).mono ?_⟩
        rintro e w5 ⟨rfl, b5⟩
        try (replace hq := ArrAt.below hq b5)
        replace hHeld := below_then hHeld b5
        refine hK _ _ ?_
        clear hK K b5
        refine wpAnyIn_ready (rs := [3]) (by kernel_rfl) (by simp) ?_
        refine AllReadyIn.cons rfl (fun K hK => ?_) AllReadyIn.nil
        simp only [List.getElem_toArray, List.getElem_cons_zero, List.getElem_cons_succ]
        go_simp
        refine ⟨trivial, (CallsIn.inRound l (callsIn_wide.2 (meet_any _ _ _))).mono ?_⟩
        rintro e w6 ⟨rfl, b6⟩
        try (replace hq := ArrAt.below hq b6)
        replace hHeld := below_then hHeld b6
        refine hK _ _ ?_
        clear hK K b6
        refine wpAnyIn_ready (rs := [5]) (by kernel_rfl) (by simp) ?_
        refine AllReadyIn.cons rfl (fun K hK => ?_) AllReadyIn.nil
        refine if_want (by rfl) ?_
        refine in_skip (fun _ => trivial) rfl (exec_store8 (X := (fun j => wMeetF (wLeftF (Y k) j) (tlF n T Y k j))) rfl rfl rfl hq) ?_
        have hM := ArrAt.laid hq (fun j => wMeetF (wLeftF (Y k) j) (tlF n T Y k j))
        replace hHeld := below_setRow hHeld hqlo (rowA 8 (fun j => wMeetF (wLeftF (Y k) j) (tlF n T Y k j)))
        refine hK _ _ ?_
        clear hK K hq
        refine wpAnyIn_done (by kernel_rfl) ?_ _
        exact ⟨rfl, _, hqlo, hHeld, hM, rfl⟩
      refine AllReadyIn.cons rfl (fun K hK => ?_) ?_
      · refine if_want (by rfl) ?_
        refine in_value (fun _ => trivial) rfl (exec_load8 rfl rfl (HTL.out _ hHeld)) ?_
        refine hK _ _ ?_
        clear hK K
        simp only [List.getElem_toArray, List.getElem_cons_zero, List.getElem_cons_succ, Act.put, List.setIfInBounds_toArray, List.set_cons_zero, List.set_cons_succ]
        refine wpAnyIn_ready (rs := [0, 4]) (by kernel_rfl) (by simp) ?_
        refine AllReadyIn.cons rfl (fun K hK => ?_) ?_
        · simp only [List.getElem_toArray, List.getElem_cons_zero]
          go_simp
          refine hK _ _ ?_
          clear hK K
          refine wpAnyIn_ready (rs := [1, 4]) (by kernel_rfl) (by simp) ?_
          refine AllReadyIn.cons rfl (fun K hK => ?_) ?_
          · simp only [List.getElem_toArray, List.getElem_cons_zero, List.getElem_cons_succ]
            go_simp
            refine ⟨trivial, (CallsIn.inRound l (callsIn_wide.2 (KL.out _ hHeld))).mono ?_⟩
            rintro e w5 ⟨rfl, b5⟩
            try (replace hq := ArrAt.below hq b5)
            replace hHeld := below_then hHeld b5
            refine hK _ _ ?_
            clear hK K b5
            refine wpAnyIn_ready (rs := [3, 4]) (by kernel_rfl) (by simp) ?_
            refine AllReadyIn.cons rfl (fun K hK => ?_) ?_
            · simp only [List.getElem_toArray, List.getElem_cons_zero, List.getElem_cons_succ]
              go_simp
              refine ⟨trivial, (CallsIn.inRound l (callsIn_wide.2 (meet_any _ _ _))).mono ?_⟩
              rintro e w6 ⟨rfl, b6⟩
              try (replace hq := ArrAt.below hq b6)
              replace hHeld := below_then hHeld b6
              refine hK _ _ ?_
              clear hK K b6
              refine wpAnyIn_ready (rs := [4]) (by kernel_rfl) (by simp) ?_
              refine AllReadyIn.cons rfl (fun K hK => ?_) AllReadyIn.nil
              simp only [List.getElem_toArray, List.getElem_cons_zero, List.getElem_cons_succ]
              go_simp
              have hq2 := alloc_arr hHeld
              have hq := hq2.1
              have hqlo := hHeld.size
              replace hHeld := hq2.2
              refine hK _ _ ?_
              clear hK K hq2
              refine wpAnyIn_ready (rs := [5]) (by kernel_rfl) (by simp) ?_
              refine AllReadyIn.cons rfl (fun K hK => ?_) AllReadyIn.nil
              refine if_want (by rfl) ?_
              refine in_skip (fun _ => trivial) rfl (exec_store8 (X := (fun j => wMeetF (wLeftF (Y k) j) (tlF n T Y k j))) rfl rfl rfl hq) ?_
              have hM := ArrAt.laid hq (fun j => wMeetF (wLeftF (Y k) j) (tlF n T Y k j))
              replace hHeld := below_setRow hHeld hqlo (rowA 8 (fun j => wMeetF (wLeftF (Y k) j) (tlF n T Y k j)))
              refine hK _ _ ?_
              clear hK K hq
              refine wpAnyIn_done (by kernel_rfl) ?_ _
              exact ⟨rfl, _, hqlo, hHeld, hM, rfl⟩
            refine AllReadyIn.cons rfl (fun K hK => ?_) AllReadyIn.nil
            simp only [List.getElem_toArray, List.getElem_cons_zero, List.getElem_cons_succ]
            go_simp
            have hq2 := alloc_arr hHeld
            have hq := hq2.1
            have hqlo := hHeld.size
            replace hHeld := hq2.2
            refine hK _ _ ?_
            clear hK K hq2
            refine wpAnyIn_ready (rs := [3]) (by kernel_rfl) (by simp) ?_
            refine AllReadyIn.cons rfl (fun K hK => ?_) AllReadyIn.nil
            simp only [List.getElem_toArray, List.getElem_cons_zero, List.getElem_cons_succ]
            go_simp
            refine ⟨trivial, (CallsIn.inRound l (callsIn_wide.2 (meet_any _ _ _))).mono ?_⟩
            rintro e w6 ⟨rfl, b6⟩
            try (replace hq := ArrAt.below hq b6)
            replace hHeld := below_then hHeld b6
            refine hK _ _ ?_
            clear hK K b6
            refine wpAnyIn_ready (rs := [5]) (by kernel_rfl) (by simp) ?_
            refine AllReadyIn.cons rfl (fun K hK => ?_) AllReadyIn.nil
            refine if_want (by rfl) ?_
            refine in_skip (fun _ => trivial) rfl (exec_store8 (X := (fun j => wMeetF (wLeftF (Y k) j) (tlF n T Y k j))) rfl rfl rfl hq) ?_
            have hM := ArrAt.laid hq (fun j => wMeetF (wLeftF (Y k) j) (tlF n T Y k j))
            replace hHeld := below_setRow hHeld hqlo (rowA 8 (fun j => wMeetF (wLeftF (Y k) j) (tlF n T Y k j)))
            refine hK _ _ ?_
            clear hK K hq
            refine wpAnyIn_done (by kernel_rfl) ?_ _
            exact ⟨rfl, _, hqlo, hHeld, hM, rfl⟩
          refine AllReadyIn.cons rfl (fun K hK => ?_) AllReadyIn.nil
          simp only [List.getElem_toArray, List.getElem_cons_zero, List.getElem_cons_succ]
          go_simp
          have hq2 := alloc_arr hHeld
          have hq := hq2.1
          have hqlo := hHeld.size
          replace hHeld := hq2.2
          refine hK _ _ ?_
          clear hK K hq2
          refine wpAnyIn_ready (rs := [1]) (by kernel_rfl) (by simp) ?_
          refine AllReadyIn.cons rfl (fun K hK => ?_) AllReadyIn.nil
          simp only [List.getElem_toArray, List.getElem_cons_zero, List.getElem_cons_succ]
          go_simp
          refine ⟨trivial, (CallsIn.inRound l (callsIn_wide.2 (KL.out _ hHeld))).mono ?_⟩
          rintro e w5 ⟨rfl, b5⟩
          try (replace hq := ArrAt.below hq b5)
          replace hHeld := below_then hHeld b5
          refine hK _ _ ?_
          clear hK K b5
          refine wpAnyIn_ready (rs := [3]) (by kernel_rfl) (by simp) ?_
          refine AllReadyIn.cons rfl (fun K hK => ?_) AllReadyIn.nil
          simp only [List.getElem_toArray, List.getElem_cons_zero, List.getElem_cons_succ]
          go_simp
          refine ⟨trivial, (CallsIn.inRound l (callsIn_wide.2 (meet_any _ _ _))).mono ?_⟩
          rintro e w6 ⟨rfl, b6⟩
          try (replace hq := ArrAt.below hq b6)
          replace hHeld := below_then hHeld b6
          refine hK _ _ ?_
          clear hK K b6
          refine wpAnyIn_ready (rs := [5]) (by kernel_rfl) (by simp) ?_
          refine AllReadyIn.cons rfl (fun K hK => ?_) AllReadyIn.nil
          refine if_want (by rfl) ?_
          refine in_skip (fun _ => trivial) rfl (exec_store8 (X := (fun j => wMeetF (wLeftF (Y k) j) (tlF n T Y k j))) rfl rfl rfl hq) ?_
          have hM := ArrAt.laid hq (fun j => wMeetF (wLeftF (Y k) j) (tlF n T Y k j))
          replace hHeld := below_setRow hHeld hqlo (rowA 8 (fun j => wMeetF (wLeftF (Y k) j) (tlF n T Y k j)))
          refine hK _ _ ?_
          clear hK K hq
          refine wpAnyIn_done (by kernel_rfl) ?_ _
          exact ⟨rfl, _, hqlo, hHeld, hM, rfl⟩
        refine AllReadyIn.cons rfl (fun K hK => ?_) AllReadyIn.nil
        simp only [List.getElem_toArray, List.getElem_cons_zero, List.getElem_cons_succ]
        go_simp
        have hq2 := alloc_arr hHeld
        have hq := hq2.1
        have hqlo := hHeld.size
        replace hHeld := hq2.2
        refine hK _ _ ?_
        clear hK K hq2
        refine wpAnyIn_ready (rs := [0]) (by kernel_rfl) (by simp) ?_
        refine AllReadyIn.cons rfl (fun K hK => ?_) AllReadyIn.nil
        simp only [List.getElem_toArray, List.getElem_cons_zero]
        go_simp
        refine hK _ _ ?_
        clear hK K
        refine wpAnyIn_ready (rs := [1]) (by kernel_rfl) (by simp) ?_
        refine AllReadyIn.cons rfl (fun K hK => ?_) AllReadyIn.nil
        simp only [List.getElem_toArray, List.getElem_cons_zero, List.getElem_cons_succ]
        go_simp
        refine ⟨trivial, (CallsIn.inRound l (callsIn_wide.2 (KL.out _ hHeld))).mono ?_⟩
        rintro e w5 ⟨rfl, b5⟩
        try (replace hq := ArrAt.below hq b5)
        replace hHeld := below_then hHeld b5
        refine hK _ _ ?_
        clear hK K b5
        refine wpAnyIn_ready (rs := [3]) (by kernel_rfl) (by simp) ?_
        refine AllReadyIn.cons rfl (fun K hK => ?_) AllReadyIn.nil
        simp only [List.getElem_toArray, List.getElem_cons_zero, List.getElem_cons_succ]
        go_simp
        refine ⟨trivial, (CallsIn.inRound l (callsIn_wide.2 (meet_any _ _ _))).mono ?_⟩
        rintro e w6 ⟨rfl, b6⟩
        try (replace hq := ArrAt.below hq b6)
        replace hHeld := below_then hHeld b6
        refine hK _ _ ?_
        clear hK K b6
        refine wpAnyIn_ready (rs := [5]) (by kernel_rfl) (by simp) ?_
        refine AllReadyIn.cons rfl (fun K hK => ?_) AllReadyIn.nil
        refine if_want (by rfl) ?_
        refine in_skip (fun _ => trivial) rfl (exec_store8 (X := (fun j => wMeetF (wLeftF (Y k) j) (tlF n T Y k j))) rfl rfl rfl hq) ?_
        have hM := ArrAt.laid hq (fun j => wMeetF (wLeftF (Y k) j) (tlF n T Y k j))
        replace hHeld := below_setRow hHeld hqlo (rowA 8 (fun j => wMeetF (wLeftF (Y k) j) (tlF n T Y k j)))
        refine hK _ _ ?_
        clear hK K hq
        refine wpAnyIn_done (by kernel_rfl) ?_ _
        exact ⟨rfl, _, hqlo, hHeld, hM, rfl⟩
      refine AllReadyIn.cons rfl (fun K hK => ?_) AllReadyIn.nil
      simp only [List.getElem_toArray, List.getElem_cons_zero, List.getElem_cons_succ]
      go_simp
      have hq2 := alloc_arr hHeld
      have hq := hq2.1
      have hqlo := hHeld.size
      replace hHeld := hq2.2
      refine hK _ _ ?_
      clear hK K hq2
      refine wpAnyIn_ready (rs := [0, 2]) (by kernel_rfl) (by simp) ?_
      refine AllReadyIn.cons rfl (fun K hK => ?_) ?_
      · simp only [List.getElem_toArray, List.getElem_cons_zero]
        go_simp
        refine hK _ _ ?_
        clear hK K
        refine wpAnyIn_ready (rs := [1, 2]) (by kernel_rfl) (by simp) ?_
        refine AllReadyIn.cons rfl (fun K hK => ?_) ?_
        · simp only [List.getElem_toArray, List.getElem_cons_zero, List.getElem_cons_succ]
          go_simp
          refine ⟨trivial, (CallsIn.inRound l (callsIn_wide.2 (KL.out _ hHeld))).mono ?_⟩
          rintro e w5 ⟨rfl, b5⟩
          try (replace hq := ArrAt.below hq b5)
          replace hHeld := below_then hHeld b5
          refine hK _ _ ?_
          clear hK K b5
          refine wpAnyIn_ready (rs := [2]) (by kernel_rfl) (by simp) ?_
          refine AllReadyIn.cons rfl (fun K hK => ?_) AllReadyIn.nil
          refine if_want (by rfl) ?_
          refine in_value (fun _ => trivial) rfl (exec_load8 rfl rfl (HTL.out _ hHeld)) ?_
          refine hK _ _ ?_
          clear hK K
          simp only [List.getElem_toArray, List.getElem_cons_zero, List.getElem_cons_succ, Act.put, List.setIfInBounds_toArray, List.set_cons_zero, List.set_cons_succ]
          refine wpAnyIn_ready (rs := [3]) (by kernel_rfl) (by simp) ?_
          refine AllReadyIn.cons rfl (fun K hK => ?_) AllReadyIn.nil
          simp only [List.getElem_toArray, List.getElem_cons_zero, List.getElem_cons_succ]
          go_simp
          refine ⟨trivial, (CallsIn.inRound l (callsIn_wide.2 (meet_any _ _ _))).mono ?_⟩
          rintro e w6 ⟨rfl, b6⟩
          try (replace hq := ArrAt.below hq b6)
          replace hHeld := below_then hHeld b6
          refine hK _ _ ?_
          clear hK K b6
          refine wpAnyIn_ready (rs := [5]) (by kernel_rfl) (by simp) ?_
          refine AllReadyIn.cons rfl (fun K hK => ?_) AllReadyIn.nil
          refine if_want (by rfl) ?_
          refine in_skip (fun _ => trivial) rfl (exec_store8 (X := (fun j => wMeetF (wLeftF (Y k) j) (tlF n T Y k j))) rfl rfl rfl hq) ?_
          have hM := ArrAt.laid hq (fun j => wMeetF (wLeftF (Y k) j) (tlF n T Y k j))
          replace hHeld := below_setRow hHeld hqlo (rowA 8 (fun j => wMeetF (wLeftF (Y k) j) (tlF n T Y k j)))
          refine hK _ _ ?_
          clear hK K hq
          refine wpAnyIn_done (by kernel_rfl) ?_ _
          exact ⟨rfl, _, hqlo, hHeld, hM, rfl⟩
        refine AllReadyIn.cons rfl (fun K hK => ?_) AllReadyIn.nil
        refine if_want (by rfl) ?_
        refine in_value (fun _ => trivial) rfl (exec_load8 rfl rfl (HTL.out _ hHeld)) ?_
        refine hK _ _ ?_
        clear hK K
        simp only [List.getElem_toArray, List.getElem_cons_zero, List.getElem_cons_succ, Act.put, List.setIfInBounds_toArray, List.set_cons_zero, List.set_cons_succ]
        refine wpAnyIn_ready (rs := [1]) (by kernel_rfl) (by simp) ?_
        refine AllReadyIn.cons rfl (fun K hK => ?_) AllReadyIn.nil
        simp only [List.getElem_toArray, List.getElem_cons_zero, List.getElem_cons_succ]
        go_simp
        refine ⟨trivial, (CallsIn.inRound l (callsIn_wide.2 (KL.out _ hHeld))).mono ?_⟩
        rintro e w5 ⟨rfl, b5⟩
        try (replace hq := ArrAt.below hq b5)
        replace hHeld := below_then hHeld b5
        refine hK _ _ ?_
        clear hK K b5
        refine wpAnyIn_ready (rs := [3]) (by kernel_rfl) (by simp) ?_
        refine AllReadyIn.cons rfl (fun K hK => ?_) AllReadyIn.nil
        simp only [List.getElem_toArray, List.getElem_cons_zero, List.getElem_cons_succ]
        go_simp
        refine ⟨trivial, (CallsIn.inRound l (callsIn_wide.2 (meet_any _ _ _))).mono ?_⟩
        rintro e w6 ⟨rfl, b6⟩
        try (replace hq := ArrAt.below hq b6)
        replace hHeld := below_then hHeld b6
        refine hK _ _ ?_
        clear hK K b6
        refine wpAnyIn_ready (rs := [5]) (by kernel_rfl) (by simp) ?_
        refine AllReadyIn.cons rfl (fun K hK => ?_) AllReadyIn.nil
        refine if_want (by rfl) ?_
        refine in_skip (fun _ => trivial) rfl (exec_store8 (X := (fun j => wMeetF (wLeftF (Y k) j) (tlF n T Y k j))) rfl rfl rfl hq) ?_
        have hM := ArrAt.laid hq (fun j => wMeetF (wLeftF (Y k) j) (tlF n T Y k j))
        replace hHeld := below_setRow hHeld hqlo (rowA 8 (fun j => wMeetF (wLeftF (Y k) j) (tlF n T Y k j)))
        refine hK _ _ ?_
        clear hK K hq
        refine wpAnyIn_done (by kernel_rfl) ?_ _
        exact ⟨rfl, _, hqlo, hHeld, hM, rfl⟩
      refine AllReadyIn.cons rfl (fun K hK => ?_) AllReadyIn.nil
      refine if_want (by rfl) ?_
      refine in_value (fun _ => trivial) rfl (exec_load8 rfl rfl (HTL.out _ hHeld)) ?_
      refine hK _ _ ?_
      clear hK K
      simp only [List.getElem_toArray, List.getElem_cons_zero, List.getElem_cons_succ, Act.put, List.setIfInBounds_toArray, List.set_cons_zero, List.set_cons_succ]
      refine wpAnyIn_ready (rs := [0]) (by kernel_rfl) (by simp) ?_
      refine AllReadyIn.cons rfl (fun K hK => ?_) AllReadyIn.nil
      simp only [List.getElem_toArray, List.getElem_cons_zero]
      go_simp
      refine hK _ _ ?_
      clear hK K
      refine wpAnyIn_ready (rs := [1]) (by kernel_rfl) (by simp) ?_
      refine AllReadyIn.cons rfl (fun K hK => ?_) AllReadyIn.nil
      simp only [List.getElem_toArray, List.getElem_cons_zero, List.getElem_cons_succ]
      go_simp
      refine ⟨trivial, (CallsIn.inRound l (callsIn_wide.2 (KL.out _ hHeld))).mono ?_⟩
      rintro e w5 ⟨rfl, b5⟩
      try (replace hq := ArrAt.below hq b5)
      replace hHeld := below_then hHeld b5
      refine hK _ _ ?_
      clear hK K b5
      refine wpAnyIn_ready (rs := [3]) (by kernel_rfl) (by simp) ?_
      refine AllReadyIn.cons rfl (fun K hK => ?_) AllReadyIn.nil
      simp only [List.getElem_toArray, List.getElem_cons_zero, List.getElem_cons_succ]
      go_simp
      refine ⟨trivial, (CallsIn.inRound l (callsIn_wide.2 (meet_any _ _ _))).mono ?_⟩
      rintro e w6 ⟨rfl, b6⟩
      try (replace hq := ArrAt.below hq b6)
      replace hHeld := below_then hHeld b6
      refine hK _ _ ?_
      clear hK K b6
      refine wpAnyIn_ready (rs := [5]) (by kernel_rfl) (by simp) ?_
      refine AllReadyIn.cons rfl (fun K hK => ?_) AllReadyIn.nil
      refine if_want (by rfl) ?_
      refine in_skip (fun _ => trivial) rfl (exec_store8 (X := (fun j => wMeetF (wLeftF (Y k) j) (tlF n T Y k j))) rfl rfl rfl hq) ?_
      have hM := ArrAt.laid hq (fun j => wMeetF (wLeftF (Y k) j) (tlF n T Y k j))
      replace hHeld := below_setRow hHeld hqlo (rowA 8 (fun j => wMeetF (wLeftF (Y k) j) (tlF n T Y k j)))
      refine hK _ _ ?_
      clear hK K hq
      refine wpAnyIn_done (by kernel_rfl) ?_ _
      exact ⟨rfl, _, hqlo, hHeld, hM, rfl⟩
    rintro e a' V ⟨rfl, m, hm, hV, hMM, rfl⟩
    have HM := hid (And.intro hm (And.intro hV hMM))
    clear hm hV hMM KL HTL
    have HBX : Hid (∀ V', Below V.heap.size V V' → V'.cell? ⟨x, 0, none⟩ = some (.slice (some ⟨s, 0, none⟩) 64 64)) := fun V' h =>
      ((HM.out.2.1.trans (h.mono HM.out.2.1.size)).cell (p := ⟨x, 0, none⟩) (show x < W.heap.size by have := HI.out.sz; have := HL.out; omega)).trans HI.out.box
    have z1 : o ≤ 64 := by have := HON.out; omega
    have z2 : ¬ (64 = o) := by have := HON.out; omega
    have KP := hid (fun V' (hV' : Below V.heap.size V V') => put_any s 64 o (64 - o) (64 - o) (toldF n k T Y) (some ⟨m, 0, none⟩) 8 8 (fun j => wMeetF (wLeftF (Y k) j) (tlF n T Y k j)) (by omega) (by omega) (by have := HON.out; omega) (by have := HON.out; omega) V'
      ((HI.out.row.below HM.out.2.1).below hV') (ArrAt.ints (HM.out.2.2.below hV')) (fun y e => by cases e; have := HM.out.1; have := HI.out.sz; have := HL.out; show m ≠ s; omega))
    gi_wp2
    refine' region_tail (fun _ => trivial) rfl (fun f args w R h => CallsIn.inRound l (callsIn_wide.2 h)) 4 (by kernel_rfl) (by kernel_rfl) (by decide) (by kernel_rfl) (C := Below V.heap.size V) (Below.refl _ _).drew (Qa := fun a' => a' = _) ?_ ?_
    rotate_left
    · dsimp only [idleTail, idleN]
      repeat (go_big_quiet_step (first | (intro hq; rfl) | rfl | (intro hq; rw [HBX.out _ hq]; exact ⟨rfl, rfl⟩)))
      refine wpQuiet_nil ?_
      exact rfl
    rintro a' V1 hV1 rfl
    dsimp only [List.drop]
    gi_wp2_with (refine ⟨trivial, ?_⟩; gi_at_call 27; refine (CallsIn.inRound l (callsIn_wide.2 (KP.out _ hV1))).mono ?_; rintro e V2 ⟨⟨v, rfl⟩, h2, b2⟩)
    have HC2 : Hid (ChF s p W V2) := ((ChF.of_below HM.out.2.1).trans (ChF.of_below hV1)).trans (ChF.of_but b2)
    have HR2 := hid h2
    have HT2 : Hid (ArrAt p (tlF n T Y k) V2) := (b2.other (show p ≠ s by have := HL.out; omega) ((HI.out.tail.below HM.out.2.1).below hV1).lt).trans ((HI.out.tail.below HM.out.2.1).below hV1)
    clear h2 b2 hV1 KP HBX HM z1 z2
    have HBX : Hid (∀ V', Below V2.heap.size V2 V' → V'.cell? ⟨x, 0, none⟩ = some (.slice (some ⟨s, 0, none⟩) 64 64)) := fun V' h => by
      have hxW : x < W.heap.size := by have := HI.out.sz; have := HL.out; omega
      refine (h.cell (p := ⟨x, 0, none⟩) (show x < V2.heap.size from Nat.lt_of_lt_of_le hxW HC2.out.bel.size)).trans ?_
      exact (World.cell?_of_block (a := ⟨x, 0, none⟩) (HC2.out.old x hxW (by have := HL.out; omega) (by have := HL.out; omega))).trans HI.out.box
    have HROW2 : Hid (RowAt r n (Y k) V2) := HC2.out.row HROW.out (by have := HRZ.out; have := HL.out; omega) (by have := HRZ.out; have := HL.out; omega)
    refine wpIn_mono (Q := fun e a' V => e = .normal ∧ RowAt s 64 (putF (putF (toldF n k T Y) (fun j => wMeetF (wLeftF (Y k) j) (tlF n T Y k j)) o 8) (fun j => Y k (4 + j)) (o + 8) (n - 8)) V ∧ ChF s p W V ∧ ArrAt p (tlF n T Y k) V ∧ ∃ u43 u44 u45 u46 u47 u48 u49 u50 u51 u52 u53 u54 u55 u56 u57, a' = { tmps := #[.pointer (some ⟨t, 0, none⟩), arr8 T, .slice a 64 cap, .bool short, undef, .pointer (some ⟨p, 0, none⟩), undef, undef, .slice none 0 0, .pointer (some ⟨g, 0, none⟩), .pointer (some ⟨x, 0, none⟩), .int .i64 (o : Int), .slice (some ⟨r, 0, none⟩) n n, .pointer (some ⟨m, 0, none⟩), .pointer (some ⟨t, 0, none⟩), .bool false, .bool false, .slice a 64 cap, .int .i64 64, .bool false, .bool false, .bool false, .slice a 64 cap, .bool true, .bool false, .bool false, .bool false, .slice (some ⟨p, 0, none⟩) 8 8, .bool true, .bool false, .bool false, undef, .slice (some ⟨s, 0, none⟩) 64 64, .pointer (some ⟨t, 0, none⟩), .slice a 64 cap, .bool short, .func (.func 44) #[] #[.pointer (some ⟨q + 1 + 1, 0, none⟩), .pointer (some ⟨q, 0, none⟩), .pointer (some ⟨q + 1, 0, none⟩)], .int .i64 (o : Int), .slice (some ⟨r, 0, none⟩) n n, .slice (some ⟨r, 0, none⟩) n n, arr8 (wLeftF (Y k)), arr8 (tlF n T Y k), arr8 (fun j => wMeetF (wLeftF (Y k) j) (tlF n T Y k j)), u43, u44, u45, u46, u47, u48, u49, u50, u51, u52, u53, u54, u55, u56, u57, undef, undef, undef, undef], defers := [] }) ?_ ?_
    · rcases (show (n = 8 ∧ o = 56) ∨ (n = 8 ∧ o < 56) ∨ (n = 64 ∧ o = 0) by have := HON.out; have h1 := HO.out; have := HKK.out; rcases HNK.out with ⟨e1, e2⟩ | ⟨e1, e2⟩ <;> subst e1 <;> omega) with ⟨rfl, rfl⟩ | ⟨rfl, hlo⟩ | ⟨rfl, rfl⟩
      · skip
        refine' region_tail (fun _ => trivial) rfl (fun f args w R h => CallsIn.inRound l (callsIn_wide.2 h)) 9 (by kernel_rfl) (by kernel_rfl) (by decide) (by kernel_rfl) (C := Below V2.heap.size V2) (Below.refl _ _).drew (Qa := fun a' => a' = _) ?_ ?_
        rotate_left
        · dsimp only [idleTail, idleN]
          repeat (go_big_quiet_step (first | (intro hq; rfl) | rfl | (intro hq; rw [HBX.out _ hq]; exact ⟨rfl, rfl⟩)))
          refine wpQuiet_nil ?_
          exact rfl
        rintro a' V1 hV1 rfl
        dsimp only [List.drop]
        gi_wp2_with (refine ⟨trivial, ?_⟩; gi_at_call 27; refine (CallsIn.inRound l (callsIn_wide.2 (put_none _ _ _ _))).mono ?_; rintro e V3 ⟨⟨v, rfl⟩, rfl⟩)
        exact ⟨(HR2.out.below hV1).congr (fun i _ => putF_zero _ _ _ i), HC2.out.trans (ChF.of_below hV1), HT2.out.below hV1⟩
      · obtain ⟨y, hy⟩ : ∃ y, y = o + 8 := ⟨_, rfl⟩
        have z1 : (o : Int) + 8 = (y : Int) := by omega
        have z2 : y ≤ 64 := by omega
        have z3 : ¬ (64 = y) := by omega
        clear hy
        refine' region_tail (fun _ => trivial) rfl (fun f args w R h => CallsIn.inRound l (callsIn_wide.2 h)) 9 (by kernel_rfl) (by kernel_rfl) (by decide) (by kernel_rfl) (C := Below V2.heap.size V2) (Below.refl _ _).drew (Qa := fun a' => a' = _) ?_ ?_
        rotate_left
        · dsimp only [idleTail, idleN]
          repeat (go_big_quiet_step (first | (intro hq; rfl) | rfl | (intro hq; rw [HBX.out _ hq]; exact ⟨rfl, rfl⟩)))
          refine wpQuiet_nil ?_
          exact rfl
        rintro a' V1 hV1 rfl
        dsimp only [List.drop]
        gi_wp2_with (refine ⟨trivial, ?_⟩; gi_at_call 27; refine (CallsIn.inRound l (callsIn_wide.2 (put_none _ _ _ _))).mono ?_; rintro e V3 ⟨⟨v, rfl⟩, rfl⟩)
        exact ⟨(HR2.out.below hV1).congr (fun i _ => putF_zero _ _ _ i), HC2.out.trans (ChF.of_below hV1), HT2.out.below hV1⟩
      · skip
        refine' region_tail (fun _ => trivial) rfl (fun f args w R h => CallsIn.inRound l (callsIn_wide.2 h)) 9 (by kernel_rfl) (by kernel_rfl) (by decide) (by kernel_rfl) (C := Below V2.heap.size V2) (Below.refl _ _).drew (Qa := fun a' => a' = _) ?_ ?_
        rotate_left
        · dsimp only [idleTail, idleN]
          repeat (go_big_quiet_step (first | (intro hq; rfl) | rfl | (intro hq; rw [HBX.out _ hq]; exact ⟨rfl, rfl⟩)))
          refine wpQuiet_nil ?_
          exact rfl
        rintro a' V1 hV1 rfl
        dsimp only [List.drop]
        have KP := hid (put_any s 64 8 56 56 (putF (toldF 64 k T Y) (fun j => wMeetF (wLeftF (Y k) j) (tlF 64 T Y k j)) 0 8) (some ⟨r, 4, none⟩) 56 60 (fun j => Y k (4 + j)) (by omega) (by omega) (by omega) (by omega) V1 (HR2.out.below hV1)
          (.inr ⟨r, 4, rfl, (HROW2.out.below hV1).lt, by omega, by decide, fun i hi => (HROW2.out.below hV1).get (j := 4 + i) (by omega)⟩) (fun y e => by cases e; have := HRZ.out; have := HL.out; show r ≠ s; omega))
        gi_wp2_with (refine ⟨trivial, ?_⟩; gi_at_call 27; refine (CallsIn.inRound l (callsIn_wide.2 KP.out)).mono ?_; rintro e V3 ⟨⟨v, rfl⟩, h3, b3⟩)
        exact ⟨h3, (HC2.out.trans (ChF.of_below hV1)).trans (ChF.of_but b3), (b3.other (show p ≠ s by have := HL.out; omega) (HT2.out.below hV1).lt).trans (HT2.out.below hV1)⟩

    rintro e a' V3 ⟨rfl, h3, c3, t3, u43, u44, u45, u46, u47, u48, u49, u50, u51, u52, u53, u54, u55, u56, u57, rfl⟩
    have HR3 := hid h3
    have HC3 := hid c3
    have HT3 := hid t3
    have HROW3 : Hid (RowAt r n (Y k) V3) := HC3.out.row HROW.out (by have := HRZ.out; have := HL.out; omega) (by have := HRZ.out; have := HL.out; omega)
    have KR := hid (right_yes n HON.out.2 (some ⟨r, 0, none⟩) n (Y k) (HY.out k HKK.out) V3 (HSTC.out _ HC3.out) (HROW3.out.ints (by have := HON.out; show n ≤ maxLen; unfold maxLen; omega)))
    clear h3 c3 t3 HR2 HC2 HT2 HBX HROW2
    gi_wp2_with (first
      | (refine ⟨trivial, ?_⟩; gi_at_call 28; refine (CallsIn.inRound l (callsIn_wide.2 KR.out)).mono ?_; rintro e V4 ⟨rfl, b4⟩; have HB4 := hid b4; have HT4 := hid (HT3.out.below b4); clear b4)
      | (refine listIn_skip (fun _ => trivial) rfl rfl (exec_store8 (X := wRightF n (Y k)) rfl rfl rfl HT4.out) ?_))
    have HC4 : Hid (ChF s p W (V4.setRow p (rowA 8 (wRightF n (Y k))))) := (HC3.out.trans (ChF.of_below HB4.out)).trans (ChF.of_row V4 _)
    have hL := HL.out
    have hsz := HI.out.sz
    have hps : s ≠ p := by omega
    refine ⟨HC4.out.keeps HI.out.row HI.out.tail, HC4.out.kpB (by omega) (Nat.le_refl _) (by omega) (by omega) (by omega) (by omega), ⟨?_, ?_, ?_, ?_, ?_, ?_⟩⟩
    · refine RowAt.congr ((setRow_other V4 p s _ hps).trans (HR3.out.below HB4.out)) (fun i hi => ?_)
      rw [HO.out]
      exact told_next HON.out.2 T Y i
    · rw [show tlF n T Y (k + 1) = wRightF n (Y k) by rw [tlF, if_neg (by omega), show k + 1 - 1 = k by omega]]
      exact HT4.out.laid _
    · exact HC4.out.arr HI.out.res (by omega) (by omega)
    · exact (World.cell?_of_block (a := ⟨x, 0, none⟩) (HC4.out.old x (by omega) (by omega) (by omega))).trans HI.out.box
    · exact HI.out.bel.trans (HC4.out.below (by omega) (Nat.le_refl _) (by omega))
    · exact Nat.le_trans hsz HC4.out.bel.size
end
end Go.Proofs.YtfhcfdepjhdhfaaDoor
