/-
  Proved: for any two rows of 13 numbers from 0 to 23, a row comes back from its differences, beside the other and alone; no difference is greater than 23; who stands alone asks nothing of the row ahead. Conditions: none beside the row's own.
-/
import Derived.Test.YtfpbmgejjnifmaaRows
import Derived.Test.YtfpbmgejjnifmaaENL
import Derived.Test.YtfpbmgejjnifmaaOA
import Derived.Test.YtfpbmgejjnifmaaTO
import Derived.WalkKit
import Derived.ProofKit
import Derived.OpenShut
import Derived.ShutString
import Derived.ChangeOld
import Derived.Below
namespace Go.Proofs.Ytfpbmgejjnifmaa.energyBack
open Go.ChangeShapes Go.WideShapes Go.ChangeAt Go.RowKit
open Go.ChangeMaps (open_string shut_string)
set_option linter.unusedVariables false

theorem own : ownKnob Try.prog.godebug = none := by kernel_rfl
theorem laidOut : laidOutB Try.prog = true := by kernel_rfl

/-- The numbers of a row, of any octets. -/
def m24 (X : Nat → Int) (k : Nat) : Int := X k % 24
theorem m24_bd (X : Nat → Int) (k : Nat) : 0 ≤ m24 X k ∧ m24 X k ≤ 23 := by unfold m24; omega
theorem m24_right (X : Nat → Int) : eRightB 13 (m24 X) = true := by
  simp [eRightB]
  exact (allIn_iff _ _ _ _).2 fun i _ => m24_bd X i
/-- Differences of rows. -/
theorem delta_at (i : Bool) (a : Option Addr) (len cap : Nat) (P : Nat → Int) (ml : len ≤ maxLen) (hs : eSideB i len P = true) (a' : Option Addr) (cap' : Nat) (C : Nat → Int) (hC : eRightB 13 C = true) (w : World) (h : IsInts w a len cap P) (h' : IsInts w a' 13 cap' C) :
    Calls Try.prog 11 #[.bool i, .slice a len cap, .slice a' 13 cap'] w (EPost 13 (dltF i P C) w) :=
  (deltas_yes i a len cap P ml hs a' cap' C hC w h h').mono fun e w' ⟨x, c, he, hi, hb, _⟩ => ⟨x, c, he, hi, hb⟩
/-- The row of them. -/
theorem row_at (i : Bool) (a : Option Addr) (len cap : Nat) (P : Nat → Int) (ml : len ≤ maxLen) (hs : eSideB i len P = true) (a' : Option Addr) (cap' : Nat) (C : Nat → Int) (hC : ∀ b, b < 13 → 0 ≤ C b ∧ C b ≤ 23) (w : World) (h : IsInts w a len cap P) (h' : IsInts w a' 13 cap' (dltF i P C)) :
    Calls Try.prog 6 #[.bool i, .slice a len cap, .slice a' 13 cap'] w (BPost 13 C true w) := by
  have hd := fun b (hb : b < 13) => dlt_bd (aside_of hs).2 hC hb
  have hr : ∀ b, b < 13 → 0 ≤ eRowF i P (dltF i P C) b ∧ eRowF i P (dltF i P C) b ≤ 23 := fun b hb => by rw [row_same]; exact hC b hb
  refine (row_any true 13 i a len cap P ml hs a' cap' (dltF i P C) (fun b hb => by have := hd b hb; omega) hr rfl w h h').mono fun e w' hx => ?_
  rw [if_pos rfl] at hx
  obtain ⟨x, c, he, hi, hb, _⟩ := hx
  exact ⟨x, c, he, hi.congr (fun b _ => row_same i P C b), hb⟩
set_option maxRecDepth 100000 in
theorem walk (w : World) (i : Bool) (X : Nat → Int) (wX : ∀ i, i < 13 → (Lit.int .u8 (X i)).wf = true) (Y : Nat → Int) (wY : ∀ i, i < 13 → (Lit.int .u8 (Y i)).wf = true) :
    Calls Try.prog 4 #[.bool i, .agg (Array.ofFn (n := 13) fun i => Value.int .u8 (X i)), .agg (Array.ofFn (n := 13) fun i => Value.int .u8 (Y i))] w fun e w' => e = .returned (.bool true) ∧ Below w.heap.size w w' := by
  obtain ⟨i0, hi, hz0, hz1, hz2⟩ := infoI
  have HI : Hid (Try.prog.info? 3 = some i0) := hi
  obtain ⟨cs, hcs⟩ : ∃ cs, cs = Array.ofFn (n := 13) fun i => Value.int .u8 (X i) := ⟨_, rfl⟩
  obtain ⟨ds, hds⟩ : ∃ ds, ds = Array.ofFn (n := 13) fun i => Value.int .u8 (Y i) := ⟨_, rfl⟩
  obtain ⟨W0, hW0⟩ : ∃ W0, W0 = (w.alloc (.cells cs 30)).alloc (.cells ds 30) := ⟨_, rfl⟩
  have s1 := al_size w (.cells cs 30)
  have s2 := al_size (w.alloc (.cells cs 30)) (.cells ds 30)
  have c1 : W0.heap[w.heap.size]? = some (.cells cs 30 (0, 0)) := by
    rw [hW0]; exact (al_old _ (by rw [s1]; omega)).trans (al_new w _)
  have c2 : W0.heap[w.heap.size + 1]? = some (.cells ds 30 (0, 0)) := by
    have := al_new (w.alloc (.cells cs 30)) (.cells ds 30)
    rw [s1] at this
    rw [hW0]; exact this
  have HC : Hid (∀ W, Below W0.heap.size W0 W → ∀ i, i < 13 → W.cell? ⟨w.heap.size, i, none⟩ = some (.int .u8 (X i))) := fun W hW i hi => by
    rw [hW.cell (p := ⟨w.heap.size, i, none⟩) (show w.heap.size < _ by rw [hW0, s2, s1]; omega), IsAt.cell c1, hcs]
    simp [hi]
  have HD : Hid (∀ W, Below W0.heap.size W0 W → ∀ i, i < 13 → W.cell? ⟨w.heap.size + 1, i, none⟩ = some (.int .u8 (Y i))) := fun W hW i hi => by
    rw [hW.cell (p := ⟨w.heap.size + 1, i, none⟩) (show w.heap.size + 1 < _ by rw [hW0, s2, s1]; omega), IsAt.cell c2, hds]
    simp [hi]
  have HBW : Hid (Below w.heap.size w W0) := by rw [hW0]; exact ((Below.refl _ w).alloc (Nat.le_refl _) _).alloc (by rw [s1]; omega) _
  have HX : Hid (∀ k, k < 13 → 0 ≤ X k ∧ X k ≤ 255) := fun k hk => by simpa [Lit.wf, IntKind.min, IntKind.max, IntKind.signed, IntKind.bits] using wX k hk
  have HY : Hid (∀ k, k < 13 → 0 ≤ Y k ∧ Y k ≤ 255) := fun k hk => by simpa [Lit.wf, IntKind.min, IntKind.max, IntKind.signed, IntKind.bits] using wY k hk
  have HW0 := hid hW0
  rw [← hcs, ← hds]
  clear hcs hds s1 s2 c1 c2 hi wX wY hW0
  go_enter Try.func4, Try.ntmps4
  go_wp2
  rw [← HW0.out]
  clear HW0
  obtain ⟨B, hB⟩ : ∃ B, B = W0.heap.size := ⟨_, rfl⟩
  rw [← hB] at HC HD
  have HB := hid hB
  clear hB
  obtain ⟨s0, hs0⟩ : ∃ s0, s0 = w.heap.size := ⟨_, rfl⟩
  rw [← hs0] at HBW
  have HS0 := hid hs0
  clear hs0
  generalize w.heap.size + 1 = q at HD ⊢
  generalize w.heap.size = p at HC ⊢
  go_loopw [7, 8, 10] (fun u v i wr => ∃ k : Nat, k ≤ 13 ∧ i = .int .i64 k ∧ Hid (TwoOwn B u v k k (m24 X) (m24 Y) W0 wr)) (fun _ _ i _ => 13 - (intOf i).toNat)
  case atStart => exact ⟨0, by omega, rfl, World.ownsRow_nil _ _ _ _, World.ownsRow_nil _ _ _ _, .inl rfl, by rw [HB.out]; exact Below.refl _ _, by rw [HB.out]; exact Nat.le_refl _⟩
  case round =>
    obtain ⟨k, hk, rfl, HT⟩ := hrel
    by_cases hlt : k < 13
    · have hck := HC.out _ HT.out.bel k hlt
      have hbx := HX.out k hlt
      have hby := HY.out k hlt
      have hm := hid (show X k % 24 = m24 X k from rfl)
      have hn := hid (show Y k % 24 = m24 Y k from rfl)
      have hdk := hid (fun W hW => HD.out W hW k hlt)
      generalize X k = x at hck hbx hm
      generalize Y k = y at hdk hby hn
      have hwr : IntKind.i64.wrap x = x := by
        simp [IntKind.wrap, IntKind.signed, IntKind.bits]
        omega
      have hwy : IntKind.i64.wrap y = y := by
        simp [IntKind.wrap, IntKind.signed, IntKind.bits]
        omega
      obtain ⟨c, hc⟩ : ∃ c, x % 24 = c := ⟨_, rfl⟩
      obtain ⟨d, hd⟩ : ∃ d, y % 24 = d := ⟨_, rfl⟩
      rw [hc] at hm
      rw [hd] at hn
      have HA : Hid ((wr.alloc (.cells #[.int .i64 c] 3)).ownsRow B 3 1 u7 k (intL k (m24 X))) := HT.out.a.alloc _
      have HS : Hid (B ≤ (wr.alloc (.cells #[.int .i64 c] 3)).heap.size) := Nat.le_trans HT.out.sz (by simp)
      go_wp2_with (at_builtin; refine wpList_append_lies _ rfl _ _ _ rfl B 3 i0 (.int .i64 0) 1 8 Try.underlying22 HI.out hz0 hz1 hz2 rfl (by omega) _ _ _ rfl HA.out ⟨wr.heap.size, 0, none⟩ 1 1 [.int .i64 c] rfl rfl (World.news_of_block (cs := #[.int .i64 c]) (heap_alloc_new wr _)) (by intro u hu; simp at hu; subst hu; rfl) (by omega) (by unfold maxLen; omega) (by omega) HS.out _ rfl ?_)
      intro gg cap1 w4 hown hgr hor _
      have T2 := hid (two_a HT.out hm.out hown hgr hor)
      have hdk2 := hdk.out w4 T2.out.bel
      clear hown hgr hor HA HS HT hck
      have HA : Hid ((w4.alloc (.cells #[.int .i64 d] 3)).ownsRow B 3 1 u8 k (intL k (m24 Y))) := T2.out.b.alloc _
      have HS : Hid (B ≤ (w4.alloc (.cells #[.int .i64 d] 3)).heap.size) := Nat.le_trans T2.out.sz (by simp)
      go_wp2_with (at_builtin; refine wpList_append_lies _ rfl _ _ _ rfl B 3 i0 (.int .i64 0) 1 8 Try.underlying22 HI.out hz0 hz1 hz2 rfl (by omega) _ _ _ rfl HA.out ⟨w4.heap.size, 0, none⟩ 1 1 [.int .i64 d] rfl rfl (World.news_of_block (cs := #[.int .i64 d]) (heap_alloc_new w4 _)) (by intro u hu; simp at hu; subst hu; rfl) (by omega) (by unfold maxLen; omega) (by omega) HS.out _ rfl ?_)
      intro gg2 cap2 w5 hown hgr hor _
      have T3 := hid (two_b T2.out hn.out hown hgr hor)
      clear hown hgr hor HA HS T2 hdk2
      go_wp2
      exact ⟨⟨k + 1, by omega, by go_num, T3⟩, by simp [intOf]; omega⟩
    · obtain rfl : k = 13 := by omega
      obtain ⟨a1, c1, rfl, i1⟩ := own_ints HT.out.a
      obtain ⟨a2, c2, rfl, i2⟩ := own_ints HT.out.b
      have HB1 : Hid (Below w.heap.size w wr) := by
        have h1 : Below W0.heap.size W0 wr := by rw [← HB.out]; exact HT.out.bel
        have h2 : Below w.heap.size w W0 := by rw [← HS0.out]; exact HBW.out
        exact below_then h2 h1
      have I1 := hid i1
      have I2 := hid i2
      clear i1 i2 HT HC HD HX HY HBW HS0 HB
      have hr := m24_right X
      have hs : eSideB i 13 (m24 X) = true := by simp [eSideB, hr]
      have hs1 : eSideB true 13 (m24 X) = true := rfl
      have hy := m24_right Y
      have hb := fun b (_ : b < 13) => m24_bd Y b
      have k0 := enawake_to w
      have D1 : Hid (∀ W, Below wr.heap.size wr W → Calls Try.prog 11 #[.bool i, .slice a1 13 c1, .slice a2 13 c2] W (EPost 13 (dltF i (m24 X) (m24 Y)) W)) := fun W hW => delta_at i a1 13 c1 (m24 X) (by decide) hs a2 c2 (m24 Y) hy W (I1.out.below hW) (I2.out.below hW)
      have R1 : Hid (∀ W a c, Below wr.heap.size wr W → IsInts W a 13 c (dltF i (m24 X) (m24 Y)) → Calls Try.prog 6 #[.bool i, .slice a1 13 c1, .slice a 13 c] W (BPost 13 (m24 Y) true W)) := fun W a c hW h => row_at i a1 13 c1 (m24 X) (by decide) hs a c (m24 Y) hb W (I1.out.below hW) h
      have D2 : Hid (∀ W, Below wr.heap.size wr W → Calls Try.prog 11 #[.bool true, .slice none 0 0, .slice a2 13 c2] W (EPost 13 (dltF true (m24 X) (m24 Y)) W)) := fun W hW =>
        (delta_at true none 0 0 (fun _ => 0) (by decide) rfl a2 c2 (m24 Y) hy W (.inl rfl) (I2.out.below hW)).mono fun e w' ⟨x, c, he, hi, hb⟩ => ⟨x, c, he, hi.congr (fun b _ => dlt_alone _ _ _ b), hb⟩
      have R2 : Hid (∀ W a c, Below wr.heap.size wr W → IsInts W a 13 c (dltF true (m24 X) (m24 Y)) → Calls Try.prog 6 #[.bool true, .slice none 0 0, .slice a 13 c] W (BPost 13 (m24 Y) true W)) := fun W a c hW h => row_at true none 0 0 (fun _ => 0) (by decide) rfl a c (m24 Y) hb W (.inl rfl) (h.congr (fun b _ => dlt_alone _ _ _ b))
      have D3 : Hid (∀ W, Below wr.heap.size wr W → Calls Try.prog 11 #[.bool true, .slice a1 13 c1, .slice a2 13 c2] W (EPost 13 (dltF true (m24 X) (m24 Y)) W)) := fun W hW => delta_at true a1 13 c1 (m24 X) (by decide) rfl a2 c2 (m24 Y) hy W (I1.out.below hW) (I2.out.below hW)
      have hw : allIn (-23) 23 (dltF i (m24 X) (m24 Y)) 13 = true := (allIn_iff _ _ _ _).2 fun b hb' => dlt_bd (aside_of hs).2 hb hb'
      have KW : Hid (∀ W a c, IsInts W a 13 c (dltF i (m24 X) (m24 Y)) → Calls Try.prog 13 #[.slice a 13 c, .int .i64 (-23), .int .i64 23] W fun e w' => e = .returned (.bool true) ∧ w' = W) := fun W a c h => by
        have := rwithin_g (-23) 23 a 13 c _ (by decide) W h
        rwa [hw] at this
      have KS : Hid (∀ G W a c a' c', IsInts W a 13 c G → IsInts W a' 13 c' G → Calls Try.prog 10 #[.slice a 13 c, .slice a' 13 c'] W fun e w' => e = .returned (.bool true) ∧ Below W.heap.size W w') := fun G W a c a' c' h h' => same_yes a a' 13 c c' G (by decide) W h h'
      have HY2 := hid (fun W (hW : Below wr.heap.size wr W) => I2.out.below hW)
      have HB0 := hid (Below.refl wr.heap.size wr)
      clear hr hs hs1 hy hb hw I1 I2
      generalize dltF i (m24 X) (m24 Y) = F at D1 R1 KW
      generalize dltF true (m24 X) (m24 Y) = H at D2 R2 D3
      generalize m24 Y = C at R1 R2 HY2
      go_wp2_with (fail)
      refine Calls.mono (D1.out _ HB0.out) ?_
      rintro e v1 ⟨a3, c3, rfl, i3, b3⟩
      have B1 := hid b3
      have J1 := hid i3
      clear b3 i3 D1 HB0
      go_wp2_with (fail)
      refine Calls.mono (R1.out _ _ _ B1.out J1.out) ?_
      rintro e v2 ⟨a4, c4, rfl, i4, b4⟩
      have B2 := hid (below_then B1.out b4)
      have J2 := hid (J1.out.below b4)
      have L2 := hid i4
      clear b4 i4 R1 B1 J1
      go_wp2_with (fail)
      refine Calls.mono (D2.out _ B2.out) ?_
      rintro e v3 ⟨a5, c5, rfl, i5, b5⟩
      have B3 := hid (below_then B2.out b5)
      have J3 := hid (J2.out.below b5)
      have L3 := hid (L2.out.below b5)
      have M3 := hid i5
      clear b5 i5 B2 J2 L2
      go_wp2_with (fail)
      refine Calls.mono (R2.out _ _ _ B3.out M3.out) ?_
      rintro e v4 ⟨a6, c6, rfl, i6, b6⟩
      have B4 := hid (below_then B3.out b6)
      have J4 := hid (J3.out.below b6)
      have L4 := hid (L3.out.below b6)
      have N4 := hid i6
      clear b6 i6 B3 J3 L3 M3 R2
      go_wp2_with (fail)
      refine Calls.mono (KW.out _ _ _ J4.out) ?_
      rintro e v5 ⟨rfl, rfl⟩
      clear J4 KW
      go_wp2_with (fail)
      refine Calls.mono (KS.out C _ _ _ _ _ L4.out (HY2.out _ B4.out)) ?_
      rintro e v6 ⟨rfl, b6⟩
      have B6 := hid (below_then B4.out b6)
      have N6 := hid (N4.out.below b6)
      clear b6 B4 N4 L4
      go_wp2_with (fail)
      refine Calls.mono (KS.out C _ _ _ _ _ N6.out (HY2.out _ B6.out)) ?_
      rintro e v7 ⟨rfl, b7⟩
      have B7 := hid (below_then B6.out b7)
      clear b7 B6 N6
      go_wp2_with (fail)
      refine Calls.mono (D3.out _ B7.out) ?_
      rintro e v8 ⟨a8, c8, rfl, i8, b8⟩
      have B8 := hid (below_then B7.out b8)
      have L8 := hid i8
      clear b8 i8 B7
      go_wp2_with (fail)
      refine Calls.mono (D2.out _ B8.out) ?_
      rintro e v9 ⟨a9, c9, rfl, i9, b9⟩
      have B9 := hid (below_then B8.out b9)
      have S9 := hid (KS.out H _ _ _ _ _ (L8.out.below b9) i9)
      clear b9 i9 B8 L8
      go_wp2_with (fail)
      refine Calls.mono S9.out ?_
      rintro e x1 ⟨rfl, d1⟩
      have X1 := hid (below_then HB1.out (below_then B9.out d1))
      clear d1 B9 S9
      go_wp2_with (fail)
      refine Calls.mono (k0.out _ X1.out) ?_
      rintro e x2 ⟨rfl, d2⟩
      go_wp2
      go_ret
      exact ⟨rfl, d2⟩

set_option maxRecDepth 100000 in
theorem lifted (os : Os) (started : os.Started) (H : Type) (enc : TypeId × Value → H) :
    ReturnsInHanded {} Try.checked os 4 .any (Rows.energyBackSpec.pre6 enc Try.prog Try.f4 Rows.energyBackRow.domain false) (Rows.energyBackSpec.post enc Try.prog Try.f4 false true false false) := by
  refine returnsInHanded_of_change (C := Try.checked) own started (by kernel_rfl) Try.func4
    (ChangeSpec.witness6 (enc := enc) (C := Try.checked) false ⟨#[], #[.bool false, .agg #[.int .u8 0, .int .u8 0, .int .u8 0, .int .u8 0, .int .u8 0, .int .u8 0, .int .u8 0, .int .u8 0, .int .u8 0, .int .u8 0, .int .u8 0, .int .u8 0, .int .u8 0], .agg #[.int .u8 0, .int .u8 0, .int .u8 0, .int .u8 0, .int .u8 0, .int .u8 0, .int .u8 0, .int .u8 0, .int .u8 0, .int .u8 0, .int .u8 0, .int .u8 0, .int .u8 0]], []⟩ 8 (by kernel_rfl) (by kernel_rfl) (by kernel_rfl) (by kernel_rfl)) ?_
  intro W base args ds gs before hval0 hW hcnd _
  have hval : ∀ (j : Nat) t v, Try.f4.params[j]? = some t → args[j]? = some v → Value.okWide Try.prog W .any base t v := hval0
  have hW' := hW
  obtain ⟨p, q, hA0, hV, rfl, hfz, hnd⟩ := hW
  have hA : DataW.TrodAll enc Try.prog W 0 (fun _ => true) true Try.f4.params.toList args.toList ds p := hA0
  rw [Try.params4] at hA hval
  obtain ⟨v0, vs0, d0, ds0, p0, q0, hargs, rfl, rfl, h0, r0⟩ := trodAll_cons hA
  obtain ⟨v1, vs1, d1, ds1, p1, q1, rfl, rfl, rfl, h1, r1⟩ := trodAll_cons r0
  obtain ⟨v2, vs2, d2, ds2, p2, q2, rfl, rfl, rfl, h2, r2⟩ := trodAll_cons r1
  obtain ⟨rfl, rfl, rfl⟩ := trodAll_nil r2
  obtain rfl : args = #[v0, v1, v2] := by cases args; simp_all
  obtain ⟨rfl, rfl⟩ := trodVars_none hV
  obtain ⟨a0, rfl, rfl, rfl⟩ := open_bool Try.underlying4 (hval 0 4 v0 rfl rfl) h0
  have k1 := h1
  have lt1 : ∀ x ∈ p1, x.block < W.heap.size := by obtain ⟨m, hm⟩ := k1; exact DataW.trod_lt m _ _ _ hm
  obtain ⟨x1, rfl, wf1⟩ : ∃ X : Nat → Int, v1 = .agg (Array.ofFn (n := 13) fun i => Value.int .u8 (X i)) ∧ ∀ i, i < 13 → (Lit.int .u8 (X i)).wf = true := open_arr Try.underlying30 Try.underlying5 (by kernel_rfl) (by kernel_rfl) (hval 1 30 v1 rfl rfl) h1
  have k2 := h2
  have lt2 : ∀ x ∈ p2, x.block < W.heap.size := by obtain ⟨m, hm⟩ := k2; exact DataW.trod_lt m _ _ _ hm
  obtain ⟨x2, rfl, wf2⟩ : ∃ X : Nat → Int, v2 = .agg (Array.ofFn (n := 13) fun i => Value.int .u8 (X i)) ∧ ∀ i, i < 13 → (Lit.int .u8 (X i)).wf = true := open_arr Try.underlying30 Try.underlying5 (by kernel_rfl) (by kernel_rfl) (hval 2 30 v2 rfl rfl) h2
  clear hA0 hval0
  refine (walk W a0 x1 wf1 x2 wf2).mono fun e W' ⟨he, bel⟩ => ?_
  subst he
  exact ⟨_, rfl, _, _, _, [], _, [], hW', trodAll_mk1 (shut_bool Try.underlying4 _), (trodAll_cons_mk (shut_bool Try.underlying4 a0) (trodAll_cons_mk (Below.trod laidOut (by kernel_rfl) (of_decide_eq_true (by kernel_rfl)) k1 bel lt1) (trodAll_cons_mk (Below.trod laidOut (by kernel_rfl) (of_decide_eq_true (by kernel_rfl)) k2 bel lt2) trodAll_mk0))), rfl, bel.frame _, fun h => by cases h⟩

theorem over : Rows.energyBackRow.holds Try.pinned (OpenSpec.ofChange Rows.energyBackSpec) :=
  OpenClaim.holds_of_wide 4 Try.f4 rfl rfl rfl rfl rfl rfl rfl ⟨rfl, rfl, rfl, rfl, rfl⟩ rfl rfl rfl rfl rfl (by kernel_rfl) Try.func4 (by kernel_rfl)
    (of_decide_eq_true (by kernel_rfl)) (by unfold Func.isWrapper; first | (rw [if_pos (by decide +kernel)]; kernel_rfl) | (rw [if_neg (by decide +kernel)]; exact ⟨rfl, rfl⟩))
    (fun os started H enc _ => lifted os started H enc)

/-- The statement. -/
theorem proved : Rows.EnergyBackSaid := over
#print axioms proved
end Go.Proofs.Ytfpbmgejjnifmaa.energyBack
