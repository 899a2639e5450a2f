/-
  Proved: for any two blocks of as many numbers (8 or 64, from -2^17 to 2^17), the spectrum of the sum is the sum of the spectra but for 2, and that of the opposite the opposite but for 1 (other lists: the law answers by the chapter's example alone). Conditions: none beside the row's own.
-/
import Derived.Test.YtgkjjkdjalbfaaaRows
import Derived.Test.YtgkjjkdjalbfaaaXH
import Derived.WalkKit
import Derived.ProofKit
import Derived.OpenShut
import Derived.ShutString
import Derived.ChangeOld
import Derived.Below
namespace Go.Proofs.Ytgkjjkdjalbfaaa.dctSums
open Go.ChangeShapes Go.WideShapes Go.ChangeAt Go.RowKit
open Go.ChangeMaps (open_string shut_string)
set_option linter.unusedVariables false

theorem own : ownKnob Try.prog.godebug = none := by kernel_rfl
theorem laidOut : laidOutB Try.prog = true := by kernel_rfl

theorem walkNo (w : World) (a c : Option Addr) (la ca lb cb : Nat) (X Y : Nat → Int) (ha : la ≤ maxLen) (hb : lb ≤ maxLen) (h : IsInts w a la ca X) (h' : IsInts w c lb cb Y)
    (hr : rightF X la 131072 = false ∨ (rightF X la 131072 = true ∧ rightF Y lb 131072 = false) ∨ (rightF X la 131072 = true ∧ rightF Y lb 131072 = true ∧ la ≠ lb)) :
    Calls Try.prog 4 #[.slice a la ca, .slice c lb cb] w fun e w' => e = .returned (.bool true) ∧ Below w.heap.size w w' := by
  have k0 := xawake_to w
  have b0 := Below.refl w.heap.size w
  have R1 : Hid (Calls Try.prog 5 #[.slice a la ca, .int .i64 131072] w fun e w' => e = .returned (.bool (rightF X la 131072)) ∧ w' = w) := xright_any 131072 (by omega) (by omega) a la ca X ha w h
  have R2 : Hid (Calls Try.prog 5 #[.slice c lb cb, .int .i64 131072] w fun e w' => e = .returned (.bool (rightF Y lb 131072)) ∧ w' = w) := xright_any 131072 (by omega) (by omega) c lb cb Y hb w h'
  have ha' : la ≤ 9223372036854775807 := Nat.le_trans ha (by decide)
  have hb' : lb ≤ 9223372036854775807 := Nat.le_trans hb (by decide)
  clear h h' ha hb
  generalize rightF X la 131072 = p at *
  generalize rightF Y lb 131072 = q at *
  rcases hr with rfl | ⟨rfl, rfl⟩ | ⟨rfl, rfl, hne⟩
  · clear R2
    go_enter Try.func4, Try.ntmps4
    go_wp2_with (first
      | (go_at_call 5; (with_reducible refine R1.out.mono ?_); rintro e w1 ⟨rfl, rfl⟩)
      | (go_at_call 6; (with_reducible refine (k0.out _ b0).mono ?_); rintro e w2 ⟨rfl, b0⟩))
    go_ret
    exact ⟨rfl, b0⟩
  · go_enter Try.func4, Try.ntmps4
    go_wp2_with (first
      | (go_at_call 5; (with_reducible refine R1.out.mono ?_); rintro e w1 ⟨rfl, rfl⟩)
      | (go_at_call 5; (with_reducible refine R2.out.mono ?_); rintro e w1 ⟨rfl, rfl⟩)
      | (go_at_call 6; (with_reducible refine (k0.out _ b0).mono ?_); rintro e w2 ⟨rfl, b0⟩))
    go_ret
    exact ⟨rfl, b0⟩
  · have hn : ((la : Int) != (lb : Int)) = true := by simp; omega
    clear hne
    go_enter Try.func4, Try.ntmps4
    go_wp2_with (first
      | (go_at_call 5; (with_reducible refine R1.out.mono ?_); rintro e w1 ⟨rfl, rfl⟩)
      | (go_at_call 5; (with_reducible refine R2.out.mono ?_); rintro e w1 ⟨rfl, rfl⟩)
      | (go_at_call 6; (with_reducible refine (k0.out _ b0).mono ?_); rintro e w2 ⟨rfl, b0⟩))
    go_ret
    exact ⟨rfl, b0⟩
/-- Two rows of the call's own: ka numbers of X, kb of Y. -/
structure TwoOwn (B : Nat) (u v : Value) (ka kb : Nat) (X Y : Nat → Int) (w0 w : World) : Prop where
  a : w.ownsRow B 3 1 u ka (intL ka X)
  b : w.ownsRow B 3 1 v kb (intL kb Y)
  ne : u.ownBlock = none ∨ u.ownBlock ≠ v.ownBlock
  bel : Below B w0 w
  sz : B ≤ w.heap.size
theorem grown_undrew {W w3 : World} {row : Option Nat} (h : W.drew.grownBy w3 row) : W.grownBy w3 row := ⟨h.os, h.tape, h.output, h.size, h.block⟩
theorem two_a {B : Nat} {u v : Value} {ka kb : Nat} {X Y : Nat → Int} {w0 w w3 : World} {g cap : Nat} {o : Obj} {c : Int} (h : TwoOwn B u v ka kb X Y w0 w) (hc : c = X ka)
    (hown : w3.ownsRow B 3 1 (.slice (some ⟨g, 0, none⟩) (ka + 1) cap) (ka + 1) (intL ka X ++ [.int .i64 c])) (hg : (w.alloc o).grownBy w3 u.ownBlock)
    (hor : u.ownBlock = some g ∨ g = w.heap.size + 1) : TwoOwn B (.slice (some ⟨g, 0, none⟩) (ka + 1) cap) v (ka + 1) kb X Y w0 w3 := by
  subst hc
  have hs : (w.alloc o).heap.size = w.heap.size + 1 := al_size _ _
  refine ⟨by rw [intL_snoc]; exact hown, (h.b.alloc _).kept hg ?_, .inr ?_, Below.grown (h.bel.alloc h.sz _) hg (by have := h.sz; omega) (fun j hj => (h.a.lt j hj).1), by have := hg.size; have := h.sz; omega⟩
  · rcases h.ne with e | e
    · rw [e]; cases hv : v.ownBlock with
      | none => exact .inl rfl
      | some x => exact .inr (by simp)
    · exact .inr (fun e' => e e'.symm)
  · intro e
    have e : some g = v.ownBlock := e
    rcases hor with e2 | e2
    · rcases h.ne with e3 | e3
      · rw [e2] at e3; cases e3
      · exact e3 (e2.trans e)
    · have := (h.b.lt g e.symm).2
      omega
theorem two_b {B : Nat} {u v : Value} {ka kb : Nat} {X Y : Nat → Int} {w0 w w3 : World} {g cap : Nat} {o : Obj} {c : Int} (h : TwoOwn B u v ka kb X Y w0 w) (hc : c = Y kb)
    (hown : w3.ownsRow B 3 1 (.slice (some ⟨g, 0, none⟩) (kb + 1) cap) (kb + 1) (intL kb Y ++ [.int .i64 c])) (hg : (w.alloc o).grownBy w3 v.ownBlock)
    (hor : v.ownBlock = some g ∨ g = w.heap.size + 1) : TwoOwn B u (.slice (some ⟨g, 0, none⟩) (kb + 1) cap) ka (kb + 1) X Y w0 w3 := by
  subst hc
  have hs : (w.alloc o).heap.size = w.heap.size + 1 := al_size _ _
  refine ⟨(h.a.alloc _).kept hg h.ne, by rw [intL_snoc]; exact hown, ?_, Below.grown (h.bel.alloc h.sz _) hg (by have := h.sz; omega) (fun j hj => (h.b.lt j hj).1), by have := hg.size; have := h.sz; omega⟩
  rcases h.ne with e | e
  · exact .inl e
  · refine .inr (fun e1 => ?_)
    have e1 : u.ownBlock = some g := e1
    rcases hor with e2 | e2
    · exact e (e1.trans e2.symm)
    · have := (h.a.lt g e1).2
      omega
set_option maxRecDepth 100000 in
set_option maxHeartbeats 1000000 in
theorem walkYes (w : World) {n : Nat} (hN : IsN n) (a c : Option Addr) (ca cb : Nat) (X Y : Nat → Int) (hX : ∀ i, i < n → -131072 ≤ X i ∧ X i ≤ 131072) (hY : ∀ i, i < n → -131072 ≤ Y i ∧ Y i ≤ 131072) (h : IsInts w a n ca X) (h' : IsInts w c n cb Y) :
    Calls Try.prog 4 #[.slice a n ca, .slice c n cb] w fun e w' => e = .returned (.bool true) ∧ Below w.heap.size w w' := by
  have hle := hN.le
  obtain ⟨i0, hi, hz0, hz1, hz2⟩ := infoI
  have HI : Hid (Try.prog.info? 3 = some i0) := hi
  have R1 : Hid (Calls Try.prog 5 #[.slice a n ca, .int .i64 131072] w fun e w' => e = .returned (.bool true) ∧ w' = w) := by
    have := xright_any 131072 (by omega) (by omega) a n ca X (Nat.le_trans hle (by decide)) w h
    rwa [rightF_of hN hX] at this
  have R2 : Hid (Calls Try.prog 5 #[.slice c n cb, .int .i64 131072] w fun e w' => e = .returned (.bool true) ∧ w' = w) := by
    have := xright_any 131072 (by omega) (by omega) c n cb Y (Nat.le_trans hle (by decide)) w h'
    rwa [rightF_of hN hY] at this
  have K : Hid (∀ (Z : Nat → Int), (∀ i, i < n → -262144 ≤ Z i ∧ Z i ≤ 262144) → ∀ W t z zc, Tab t W → IsInts W z n zc Z → Calls Try.prog 8 #[.pointer (some ⟨t, 0, none⟩), .slice z n zc] W (SPost n (fourF n Z) W)) := fun Z hZ W t z zc ht hz =>
    four_yes hN t z zc Z (fun i hi => by have := hZ i hi; omega) W ht hz
  have HF : Hid (∀ i, i < n → ∃ p q r s : Int, fourF n X i = p ∧ fourF n Y i = q ∧ fourF n (fun i => X i + Y i) i = r ∧ fourF n (fun i => - X i) i = s ∧ -1 ≤ r - p - q ∧ r - p - q ≤ 1 ∧ -1 ≤ s + p ∧ s + p ≤ 1 ∧ -8388608 ≤ p ∧ p ≤ 8388608 ∧ -8388608 ≤ q ∧ q ≤ 8388608) := fun i hi => by
    have h1 := four_add n X Y i
    have h2 := four_neg n X i
    have h3 := four_bd hN hX i
    have h4 := four_bd hN hY i
    exact ⟨_, _, _, _, rfl, rfl, rfl, rfl, h1.1, h1.2, h2.1, h2.2, by omega, by omega, by omega, by omega⟩
  have HX : Hid (∀ i, i < n → -131072 ≤ X i ∧ X i ≤ 131072) := hX
  have HY : Hid (∀ i, i < n → -131072 ≤ Y i ∧ Y i ≤ 131072) := hY
  have IX : Hid (∀ W, Below w.heap.size w W → IsInts W a n ca X) := fun W hW => h.below hW
  have IY : Hid (∀ W, Below w.heap.size w W → IsInts W c n cb Y) := fun W hW => h'.below hW
  obtain ⟨xb, xo, rfl, CX⟩ := h.cells (by have := hN.ge; omega)
  replace CX : Hid (∀ W, Below w.heap.size w W → ∀ i, i < n → W.cell? ⟨xb, xo + i, none⟩ = some (.int .i64 (X i))) := CX
  obtain ⟨yb, yo, rfl, CY⟩ := h'.cells (by have := hN.ge; omega)
  replace CY : Hid (∀ W, Below w.heap.size w W → ∀ i, i < n → W.cell? ⟨yb, yo + i, none⟩ = some (.int .i64 (Y i))) := CY
  clear h h' hX hY hi hN
  go_enter Try.func4, Try.ntmps4
  go_wp2_with (first
    | (go_at_call 5; (with_reducible refine R1.out.mono ?_); rintro e w0 ⟨rfl, rfl⟩)
    | (go_at_call 5; (with_reducible refine R2.out.mono ?_); rintro e w0 ⟨rfl, rfl⟩))
  obtain ⟨S, hS⟩ : ∃ S : Nat → Int, S = fun i => X i + Y i := ⟨_, rfl⟩
  obtain ⟨M, hM⟩ : ∃ M : Nat → Int, M = fun i => - X i := ⟨_, rfl⟩
  have HSM : Hid (S = (fun i => X i + Y i) ∧ M = fun i => - X i) := ⟨hS, hM⟩
  clear hS hM R1 R2
  go_loopw [5, 6, 7] (fun u v i wr => ∃ k : Nat, k ≤ n ∧ i = .int .i64 k ∧ Hid (TwoOwn w0.heap.size u v k k S M w0 wr)) (fun _ _ i _ => n - (intOf i).toNat)
  case atStart => exact ⟨0, Nat.zero_le _, rfl, ⟨World.ownsRow_nil _ _ _ _, World.ownsRow_nil _ _ _ _, .inl rfl, Below.refl _ _, Nat.le_refl _⟩⟩
  case round =>
    obtain ⟨k, hk, rfl, HP⟩ := hrel
    by_cases hlt : k < n
    · have hx := HX.out k hlt
      have hy := HY.out k hlt
      obtain ⟨x, hxk⟩ : ∃ x, X k = x := ⟨_, rfl⟩
      obtain ⟨y, hyk⟩ : ∃ y, Y k = y := ⟨_, rfl⟩
      rw [hxk] at hx
      rw [hyk] at hy
      have e1 : Hid (x + y = S k) := by show _ = _; rw [HSM.out.1, ← hxk, ← hyk]
      have e2 : Hid (-x = M k) := by show _ = _; rw [HSM.out.2, ← hxk]
      have cx := CX.out wr HP.out.bel k hlt
      have cy := CY.out wr HP.out.bel k hlt
      rw [hxk] at cx
      rw [hyk] at cy
      have CX3 : Hid (∀ W, Below w0.heap.size w0 W → W.cell? ⟨xb, xo + k, none⟩ = some (.int .i64 x)) := fun W hW => by rw [← hxk]; exact CX.out W hW k hlt
      have HAO : Hid (((wr.alloc (.cells #[.int .i64 (x + y)] 3)).drew).ownsRow w0.heap.size 3 1 u5 k (intL k S)) := (HP.out.a.alloc _).drew
      have HNEW : Hid (∀ (j : Nat) (u : Value), [Value.int .i64 (x + y)][j]? = some u → ((wr.alloc (.cells #[.int .i64 (x + y)] 3)).drew).cell? ((⟨wr.heap.size, 0, none⟩ : Addr).add j) = some u) := World.news_of_block (heap_alloc_new wr _)
      have HBW : Hid (w0.heap.size ≤ ((wr.alloc (.cells #[.int .i64 (x + y)] 3)).drew).heap.size) := by
        show w0.heap.size ≤ (wr.heap.push _).size
        have := HP.out.sz
        simp
        omega
      have hwq : IntKind.i64.wrap (x + y) = x + y := by
        simp [IntKind.wrap, IntKind.signed, IntKind.bits]
        omega
      clear hxk hyk
      go_wp2
      go_region_law ((refine step_append_lies _ (by rfl) _ _ _ (by rfl) w0.heap.size 3 i0 (.int .i64 0) 1 8 Try.underlying22 HI.out hz0 hz1 hz2 rfl (by omega) u5 k (intL k S) (by rfl) HAO.out ⟨wr.heap.size, 0, none⟩ 1 1 [.int .i64 (x + y)] (by rfl) (by rfl) HNEW.out (by intro u hu; simp at hu; subst hu; rfl) (by omega) (by unfold maxLen; omega) (by omega) HBW.out (wr.heap.size + 1) (by simp) ?_; intro g cap w1 hown1 hgrow hat hlt1))
      all_goals (
        have T1 : Hid (TwoOwn w0.heap.size (.slice (some ⟨g, 0, none⟩) (k + 1) cap) u6 (k + 1) k S M w0 w1) := two_a HP.out e1.out hown1 (grown_undrew hgrow) hat
        have cx1 := CX3.out w1 T1.out.bel
        have HA : Hid ((w1.alloc (.cells #[.int .i64 (-x)] 3)).ownsRow w0.heap.size 3 1 u6 k (intL k M)) := T1.out.b.alloc _
        have HZ : Hid (w0.heap.size ≤ (w1.alloc (.cells #[.int .i64 (-x)] 3)).heap.size) := Nat.le_trans T1.out.sz (by simp)
        clear hown1 hgrow hat hlt1 HAO HNEW HBW hwq cx cy HP
        go_wp2_with (at_builtin; refine wpList_append_lies _ rfl _ _ _ rfl w0.heap.size 3 i0 (.int .i64 0) 1 8 Try.underlying22 HI.out hz0 hz1 hz2 rfl (by omega) _ _ _ rfl HA.out ⟨w1.heap.size, 0, none⟩ 1 1 [.int .i64 (-x)] rfl rfl (World.news_of_block (cs := #[.int .i64 (-x)]) (heap_alloc_new w1 _)) (by intro u hu; simp at hu; subst hu; rfl) (by omega) (by unfold maxLen; omega) (by omega) HZ.out (w1.heap.size + 1) (by simp) ?_)
        intro g2 cap2 w3 hown hgr hor _
        have T2 : Hid (TwoOwn w0.heap.size (.slice (some ⟨g, 0, none⟩) (k + 1) cap) (.slice (some ⟨g2, 0, none⟩) (k + 1) cap2) (k + 1) (k + 1) S M w0 w3) := two_b T1.out e2.out hown hgr hor
        clear hown hgr hor HA HZ cx1 T1
        go_wp2
        refine ⟨⟨k + 1, by omega, by go_num, T2⟩, by simp [intOf]; omega⟩)
    · obtain rfl : k = n := by omega
      obtain ⟨a1, c1, rfl, i1⟩ := own_ints HP.out.a
      obtain ⟨a2, c2, rfl, i2⟩ := own_ints HP.out.b
      have B1 : Hid (Below w0.heap.size w0 wr) := HP.out.bel
      have I1 : Hid (∀ W, Below wr.heap.size wr W → IsInts W a1 k c1 S) := fun W hW => i1.below hW
      have I2 : Hid (∀ W, Below wr.heap.size wr W → IsInts W a2 k c2 M) := fun W hW => i2.below hW
      clear i1 i2 HP
      go_wp2_with (go_at_call 7; refine (make_any _).mono ?_; rintro e w1 ⟨rfl, ht, hb⟩)
      have HT : Hid (∀ W, Below w1.heap.size w1 W → Tab _ W) := fun W hW => ht.below ht.1 hW
      have B2 : Hid (Below wr.heap.size wr w1) := hb
      refine (K.out X (fun i hi => by have := HX.out i hi; omega) w1 _ _ _ ht (IX.out _ (below_then B1.out hb))).mono ?_
      clear ht hb
      rintro e w2 ⟨ra, rfl, _, ga, ba⟩
      have B3 : Hid (Below w1.heap.size w1 w2) := ba
      have CA : Hid (∀ W, Below w2.heap.size w2 W → ∀ i, i < k → W.cell? ⟨ra, i, none⟩ = some (.int .i64 (fourF k X i))) := fun W hW i hi => (ga.below hW).get hi
      clear ga ba
      go_wp2_with (fail)
      refine (K.out Y (fun i hi => by have := HY.out i hi; omega) w2 _ _ _ (HT.out _ B3.out) (IY.out _ (below_then B1.out (below_then B2.out B3.out)))).mono ?_
      rintro e w3 ⟨rb, rfl, _, gb, bb⟩
      have B4 : Hid (Below w2.heap.size w2 w3) := bb
      have CB : Hid (∀ W, Below w3.heap.size w3 W → ∀ i, i < k → W.cell? ⟨rb, i, none⟩ = some (.int .i64 (fourF k Y i))) := fun W hW i hi => (gb.below hW).get hi
      clear gb bb
      go_wp2_with (fail)
      refine (K.out S (fun i hi => by rw [HSM.out.1]; have := HX.out i hi; have := HY.out i hi; show -262144 ≤ X i + Y i ∧ X i + Y i ≤ 262144; omega) w3 _ _ _ (HT.out _ (below_then B3.out B4.out)) (I1.out _ (below_then B2.out (below_then B3.out B4.out)))).mono ?_
      rintro e w4 ⟨rc, rfl, _, gc, bc⟩
      have B5 : Hid (Below w3.heap.size w3 w4) := bc
      have CC : Hid (∀ W, Below w4.heap.size w4 W → ∀ i, i < k → W.cell? ⟨rc, i, none⟩ = some (.int .i64 (fourF k S i))) := fun W hW i hi => (gc.below hW).get hi
      clear gc bc
      go_wp2_with (fail)
      refine (K.out M (fun i hi => by rw [HSM.out.2]; have := HX.out i hi; show -262144 ≤ - X i ∧ - X i ≤ 262144; omega) w4 _ _ _ (HT.out _ (below_then B3.out (below_then B4.out B5.out))) (I2.out _ (below_then B2.out (below_then B3.out (below_then B4.out B5.out))))).mono ?_
      rintro e w5 ⟨rd, rfl, _, gd, bd⟩
      have B6 : Hid (Below w4.heap.size w4 w5) := bd
      have CD : Hid (∀ W, Below w5.heap.size w5 W → ∀ i, i < k → W.cell? ⟨rd, i, none⟩ = some (.int .i64 (fourF k M i))) := fun W hW i hi => (gd.below hW).get hi
      have KA := xawake_to w5
      clear gd bd K HT I1 I2 CX CY IX IY HX HY
      go_wp2
      go_loopw [13] (fun i wr => ∃ j : Nat, j ≤ k ∧ i = .int .i64 j ∧ Hid (Below w5.heap.size w5 wr)) (fun i _ => k - (intOf i).toNat)
      case atStart => exact ⟨0, Nat.zero_le _, rfl, Below.refl _ _⟩
      case round =>
        obtain ⟨j, hj, rfl, HW⟩ := hrel
        by_cases hlt2 : j < k
        · obtain ⟨p, q, r, s, e1, e2, e3, e4, f1, f2, f3, f4, f5, f6, f7, f8⟩ := HF.out j hlt2
          rw [← HSM.out.1] at e3
          rw [← HSM.out.2] at e4
          have ca : ∀ W, Below wr.heap.size wr W → W.cell? ⟨ra, j, none⟩ = some (.int .i64 p) := fun W hq => by rw [← e1]; exact CA.out W (below_then B4.out (below_then B5.out (below_then B6.out (below_then HW.out hq)))) j hlt2
          have cb : ∀ W, Below wr.heap.size wr W → W.cell? ⟨rb, j, none⟩ = some (.int .i64 q) := fun W hq => by rw [← e2]; exact CB.out W (below_then B5.out (below_then B6.out (below_then HW.out hq))) j hlt2
          have cc : ∀ W, Below wr.heap.size wr W → W.cell? ⟨rc, j, none⟩ = some (.int .i64 r) := fun W hq => by rw [← e3]; exact CC.out W (below_then B6.out (below_then HW.out hq)) j hlt2
          have cd : ∀ W, Below wr.heap.size wr W → W.cell? ⟨rd, j, none⟩ = some (.int .i64 s) := fun W hq => by rw [← e4]; exact CD.out W (below_then HW.out hq) j hlt2
          clear e1 e2 e3 e4
          go_wp2
          refine region_below (by kernel_rfl) (by kernel_rfl) ?_
          repeat (go_big_quiet_step (first
            | (intro hq; rfl)
            | (intro hq; rw [ca _ hq]; exact ⟨rfl, rfl⟩)
            | (intro hq; rw [cb _ hq]; exact ⟨rfl, rfl⟩)
            | (intro hq; rw [cc _ hq]; exact ⟨rfl, rfl⟩)
            | (intro hq; rw [cd _ hq]; exact ⟨rfl, rfl⟩)))
          refine wpQuiet_nil ?_
          intro w7 hq
          have HW7 : Hid (Below w5.heap.size w5 w7) := below_then HW.out hq
          clear hq ca cb cc cd HW
          have g1 : ¬ 2 < r - p - q := by omega
          have g2 : ¬ r - p - q < -2 := by omega
          have g3 : ¬ 1 < s + p := by omega
          have g4 : ¬ s + p < -1 := by omega
          go_wp2
          refine ⟨⟨j + 1, by omega, by go_num, HW7⟩, by simp [intOf]; omega⟩
        · obtain rfl : j = k := by omega
          go_wp2_with (go_at_call 6; (with_reducible refine (KA.out _ HW.out).mono ?_); rintro e w8 ⟨rfl, b8⟩)
          go_ret
          exact ⟨rfl, below_then B1.out (below_then B2.out (below_then B3.out (below_then B4.out (below_then B5.out (below_then B6.out b8)))))⟩
theorem walk (w : World) (a : Option Addr) (la ca : Nat) (X : Nat → Int) (h : la ≤ maxLen ∧ IsInts w a la ca X) (c : Option Addr) (lb cb : Nat) (Y : Nat → Int) (h' : lb ≤ maxLen ∧ IsInts w c lb cb Y) :
    Calls Try.prog 4 #[.slice a la ca, .slice c lb cb] w fun e w' => e = .returned (.bool true) ∧ Below w.heap.size w w' := by
  cases hr : rightF X la 131072 with
  | false => exact walkNo w a c la ca lb cb X Y h.1 h'.1 h.2 h'.2 (.inl hr)
  | true =>
    cases hr' : rightF Y lb 131072 with
    | false => exact walkNo w a c la ca lb cb X Y h.1 h'.1 h.2 h'.2 (.inr (.inl ⟨hr, hr'⟩))
    | true =>
      by_cases e : la = lb
      · subst e
        obtain ⟨hN, hX⟩ := rightF_yes hr
        obtain ⟨_, hY⟩ := rightF_yes hr'
        exact walkYes w hN a c ca cb X Y hX hY h.2 h'.2
      · exact walkNo w a c la ca lb cb X Y h.1 h'.1 h.2 h'.2 (.inr (.inr ⟨hr, hr', e⟩))

set_option maxRecDepth 100000 in
theorem lifted (os : Os) (started : os.Started) (H : Type) (enc : TypeId × Value → H) :
    ReturnsInHanded {} Try.checked os 4 .any (Rows.dctSumsSpec.pre6 enc Try.prog Try.f4 Rows.dctSumsRow.domain false) (Rows.dctSumsSpec.post enc Try.prog Try.f4 false true false false) := by
  refine returnsInHanded_of_change (C := Try.checked) own started (by kernel_rfl) Try.func4
    (ChangeSpec.witness6 (enc := enc) (C := Try.checked) false ⟨#[], #[.slice none 0 0, .slice none 0 0], []⟩ 8 (by kernel_rfl) (by kernel_rfl) (by kernel_rfl) (by kernel_rfl)) ?_
  intro W base args ds gs before hval0 hW hcnd _
  have hval : ∀ (j : Nat) t v, Try.f4.params[j]? = some t → args[j]? = some v → Value.okWide Try.prog W .any base t v := hval0
  have hW' := hW
  obtain ⟨p, q, hA0, hV, rfl, hfz, hnd⟩ := hW
  have hA : DataW.TrodAll enc Try.prog W 0 (fun _ => true) true Try.f4.params.toList args.toList ds p := hA0
  rw [Try.params4] at hA hval
  obtain ⟨v0, vs0, d0, ds0, p0, q0, hargs, rfl, rfl, h0, r0⟩ := trodAll_cons hA
  obtain ⟨v1, vs1, d1, ds1, p1, q1, rfl, rfl, rfl, h1, r1⟩ := trodAll_cons r0
  obtain ⟨rfl, rfl, rfl⟩ := trodAll_nil r1
  obtain rfl : args = #[v0, v1] := by cases args; simp_all
  obtain ⟨rfl, rfl⟩ := trodVars_none hV
  obtain ⟨a0, len0, cap0, rfl⟩ := okWide_slice Try.underlying22 (hval 0 22 v0 rfl rfl)
  have k0 := h0
  have lt0 : ∀ x ∈ p0, x.block < W.heap.size := by obtain ⟨m, hm⟩ := k0; exact DataW.trod_lt m _ _ _ hm
  obtain ⟨x0, w0⟩ : ∃ X : Nat → Int, len0 ≤ maxLen ∧ IsInts W a0 len0 cap0 X := by
    obtain ⟨fuel, hf⟩ := h0
    exact open_isints Try.underlying22 Try.underlying3 (by kernel_rfl) hf
  obtain ⟨a1, len1, cap1, rfl⟩ := okWide_slice Try.underlying22 (hval 1 22 v1 rfl rfl)
  have k1 := h1
  have lt1 : ∀ x ∈ p1, x.block < W.heap.size := by obtain ⟨m, hm⟩ := k1; exact DataW.trod_lt m _ _ _ hm
  obtain ⟨x1, w1⟩ : ∃ X : Nat → Int, len1 ≤ maxLen ∧ IsInts W a1 len1 cap1 X := by
    obtain ⟨fuel, hf⟩ := h1
    exact open_isints Try.underlying22 Try.underlying3 (by kernel_rfl) hf
  clear hA0 hval0
  refine (walk W a0 len0 cap0 x0 w0 a1 len1 cap1 x1 w1).mono fun e W' ⟨he, bel⟩ => ?_
  subst he
  exact ⟨_, rfl, _, _, _, [], _, [], hW', trodAll_mk1 (shut_bool Try.underlying4 _), (trodAll_cons_mk (Below.trod laidOut (by kernel_rfl) (of_decide_eq_true (by kernel_rfl)) k0 bel lt0) (trodAll_cons_mk (Below.trod laidOut (by kernel_rfl) (of_decide_eq_true (by kernel_rfl)) k1 bel lt1) trodAll_mk0)), rfl, bel.frame _, fun h => by cases h⟩

theorem over : Rows.dctSumsRow.holds Try.pinned (OpenSpec.ofChange Rows.dctSumsSpec) :=
  OpenClaim.holds_of_wide 4 Try.f4 rfl rfl rfl rfl rfl rfl rfl ⟨rfl, rfl, rfl, rfl, rfl⟩ rfl rfl rfl rfl rfl (by kernel_rfl) Try.func4 (by kernel_rfl)
    (of_decide_eq_true (by kernel_rfl)) (by unfold Func.isWrapper; first | (rw [if_pos (by decide +kernel)]; kernel_rfl) | (rw [if_neg (by decide +kernel)]; exact ⟨rfl, rfl⟩))
    (fun os started H enc _ => lifted os started H enc)

/-- The statement. -/
theorem proved : Rows.DctSumsSaid := over
#print axioms proved
end Go.Proofs.Ytgkjjkdjalbfaaa.dctSums
