/-
  The program's falling: places sorted by a closure (the library's insertion sort, by a walk of its own).
-/
import Derived.Test.YtabgbchogmbofaaSEG
namespace Go.Proofs.Ytabgbchogmbofaa
open Go.ChangeShapes Go.WideShapes Go.ChangeAt Go.RowKit
set_option linter.unusedVariables false

def cmpF (x y : Int) : Int := if x < y then -1 else if y < x then 1 else 0
theorem nan_any (x : Int) (w : World) : Calls Try.prog 29 #[.int .i64 x] w fun e w' => e = .returned (.bool false) ∧ w' = w := by
  have hx : (x != x) = false := by simp
  go_enter Try.func29, Try.ntmps29
  go_wp2
  go_ret
  exact ⟨rfl, rfl⟩
theorem cmp_any (x y : Int) (w : World) : Calls Try.prog 25 #[.int .i64 x, .int .i64 y] w fun e w' => e = .returned (.int .i64 (cmpF x y)) ∧ w' = w := by
  have KX := hid (fun W => nan_any x W)
  have KY := hid (fun W => nan_any y W)
  by_cases h1 : x < y
  · have e : cmpF x y = -1 := if_pos h1
    rw [e]
    clear e
    go_enter Try.func25, Try.ntmps25
    go_wp2_with (fail)
    refine Calls.mono (KX.out _) ?_
    rintro e w1 ⟨rfl, rfl⟩
    go_wp2_with (fail)
    refine Calls.mono (KY.out _) ?_
    rintro e w2 ⟨rfl, rfl⟩
    go_wp2
    go_ret
    exact ⟨rfl, rfl⟩
  · by_cases h2 : y < x
    · have e : cmpF x y = 1 := by rw [cmpF, if_neg h1, if_pos h2]
      rw [e]
      clear e
      go_enter Try.func25, Try.ntmps25
      go_wp2_with (fail)
      refine Calls.mono (KX.out _) ?_
      rintro e w1 ⟨rfl, rfl⟩
      go_wp2_with (fail)
      refine Calls.mono (KY.out _) ?_
      rintro e w2 ⟨rfl, rfl⟩
      go_wp2
      go_ret
      exact ⟨rfl, rfl⟩
    · have e : cmpF x y = 0 := by rw [cmpF, if_neg h1, if_neg h2]
      rw [e]
      clear e
      go_enter Try.func25, Try.ntmps25
      go_wp2_with (fail)
      refine Calls.mono (KX.out _) ?_
      rintro e w1 ⟨rfl, rfl⟩
      go_wp2_with (fail)
      refine Calls.mono (KY.out _) ?_
      rintro e w2 ⟨rfl, rfl⟩
      go_wp2
      go_ret
      exact ⟨rfl, rfl⟩
/-- Block g holds the list of the rests. -/
structure SoBox (g : Nat) (a : Option Addr) (n cap : Nat) (R : Nat → Nat) (w : World) : Prop where
  box : w.cell? ⟨g, 0, none⟩ = some (.slice a n cap)
  ints : IsInts w a n cap (fun i => ((R i : Nat) : Int))
theorem SoBox.below {g : Nat} {a : Option Addr} {n cap : Nat} {R : Nat → Nat} {w W : World} (h : SoBox g a n cap R w) (hb : Below w.heap.size w W) : SoBox g a n cap R W :=
  ⟨by rw [hb.cell (p := ⟨g, 0, none⟩) (block_lt_of_cell h.box)]; exact h.box, h.ints.below hb⟩
theorem fall_any (g : Nat) (a : Option Addr) (n cap : Nat) (R : Nat → Nat) (i j : Nat) (hi : i < n) (hj : j < n) (w : World) (h : SoBox g a n cap R w) :
    Calls Try.prog 24 #[.int .i64 (i : Int), .int .i64 (j : Int), .pointer (some ⟨g, 0, none⟩)] w fun e w' => e = .returned (.int .i64 (cmpF ((R j : Nat) : Int) ((R i : Nat) : Int))) ∧ ∃ q, w' = w.drewN q := by
  obtain ⟨b, off, rfl, hc⟩ := h.ints.cells (by omega)
  have c0 := hid (fun W (hW : Below w.heap.size w W) => (h.below hW).box)
  have c1 := hid (fun W (hW : Below w.heap.size w W) => hc W hW i hi)
  have c2 := hid (fun W (hW : Below w.heap.size w W) => hc W hW j hj)
  have d0 := c0.out w (Below.refl _ _)
  have d1 := c1.out w (Below.refl _ _)
  have d2 := c2.out w (Below.refl _ _)
  have K := hid (fun W => cmp_any ((R j : Nat) : Int) ((R i : Nat) : Int) W)
  clear h hc
  generalize ((R j : Nat) : Int) = y at *
  generalize ((R i : Nat) : Int) = x at *
  go_enter Try.func24, Try.ntmps24
  go_wp2
  go_quiet ((go_at_call 25; exact Calls.quiet_of_same (K.out _)))
  go_wp2
  go_ret
  exact ⟨rfl, _, rfl⟩
abbrev fallV (g : Nat) : Value := .func (.func 24) #[] #[.pointer (some ⟨g, 0, none⟩)]
def natI (O : Nat → Nat) : Nat → Int := fun p => ((O p : Nat) : Int)
/-- The row of places, behind what was there in w1. -/
structure SoRow (n r : Nat) (O : Nat → Nat) (w1 w : World) : Prop where
  row : RowAt r n (natI O) w
  r0 : w1.heap.size ≤ r
  bel : Below w1.heap.size w1 w
theorem SoRow.to {n r : Nat} {O : Nat → Nat} {w1 w W : World} (h : SoRow n r O w1 w) (hb : Below w.heap.size w W) : SoRow n r O w1 W := ⟨h.row.below hb, h.r0, below_then h.bel hb⟩
theorem SoRow.get {n r : Nat} {O : Nat → Nat} {w1 w : World} (h : SoRow n r O w1 w) {j : Nat} (hj : j < n) : w.cell? ⟨r, j, none⟩ = some (.int .i64 ((O j : Nat) : Int)) := h.row.get hj
theorem SoRow.swap {n r : Nat} {O : Nat → Nat} {w1 w : World} (h : SoRow n r O w1 w) {j : Nat} (h0 : 0 < j) (hj : j < n) :
    SoRow n r (soSwap O j) w1 ((w.setCell ⟨r, j, none⟩ (.int .i64 ((O (j - 1) : Nat) : Int))).setCell ⟨r, j - 1, none⟩ (.int .i64 ((O j : Nat) : Int))) := by
  refine ⟨((h.row.set hj ((O (j - 1) : Nat) : Int)).set (j := j - 1) (by omega) ((O j : Nat) : Int)).congr fun p hp => ?_, h.r0, (h.bel.setCell h.r0 _).setCell h.r0 _⟩
  unfold upd natI soSwap
  by_cases e1 : p = j - 1
  · rw [if_pos e1, if_pos e1]
  · rw [if_neg e1, if_neg e1]
    by_cases e2 : p = j
    · rw [if_pos e2, if_pos e2]
    · rw [if_neg e2, if_neg e2]
theorem cmp_neg {x y : Nat} : decide (cmpF (x : Int) (y : Int) < 0) = decide (x < y) := by
  unfold cmpF
  by_cases h : x < y
  · rw [if_pos (by omega)]; simp [h]
  · rw [if_neg (by omega)]; split <;> simp [h]
set_option maxRecDepth 100000 in
theorem insert_any (g : Nat) (a : Option Addr) (n cap r : Nat) (R : Nat → Nat) (h1 : 1 ≤ n) (h8 : n ≤ 8) (w1 w : World) (hg : SoBox g a n cap R w1) (hr : SoRow n r (fun p => p) w1 w) :
    Calls Try.prog 30 #[.slice (some ⟨r, 0, none⟩) n n, .int .i64 0, .int .i64 (n : Int), fallV g] w fun e w' => e = .returned (.tuple #[]) ∧ ∃ O, SoO R n O ∧ SoRow n r O w1 w' := by
  have KF := hid (fun W (hW : Below w1.heap.size w1 W) (i j : Nat) (hi : i < n) (hj : j < n) => fall_any g a n cap R i j hi hj W (hg.below hW))
  have H0 := hid (SoO.start R)
  have HR0 := hid hr
  clear hg hr
  go_enter Try.func30, Try.ntmps30
  go_wp2
  go_loopw [8] (fun i wr => ∃ (m : Nat) (O : Nat → Nat), m ≤ n ∧ i = .int .i64 (m : Int) ∧ Hid (SoO R m O) ∧ Hid (SoRow n r O w1 wr)) (fun i _ => n - (intOf i).toNat)
  case atStart => exact ⟨1, _, h1, rfl, H0.out, HR0.out⟩
  case round =>
    clear H0 HR0
    obtain ⟨m, O, hm, rfl, HO, HR⟩ := hrel
    obtain ⟨w5, e5⟩ : ∃ w5, w5 = wr := ⟨_, rfl⟩
    subst e5
    by_cases hlt : m < n
    · have HI := hid HO.out.inn
      clear HO
      go_wp2
      go_loopw [9] (fun jj wr => ∃ (j : Nat) (O : Nat → Nat), j ≤ m ∧ jj = .int .i64 (j : Int) ∧ Hid (SoI R m j O) ∧ Hid (SoRow n r O w1 wr)) (fun jj _ => (intOf jj).toNat)
      case atStart => exact ⟨m, _, Nat.le_refl _, rfl, HI.out, HR.out⟩
      case round =>
        clear HI HR
        obtain ⟨j, O, hj, rfl, HI, HR⟩ := hrel
        obtain ⟨w6, e6⟩ : ∃ w6, w6 = wr := ⟨_, rfl⟩
        subst e6
        by_cases h0 : 0 < j
        · have c1 := HR.out.get (j := j) (by omega)
          have c2 := HR.out.get (j := j - 1) (by omega)
          have hO1 : O j < n := by have := HI.out.here; omega
          have hO2 : O (j - 1) < n := by have := HI.out.lt (j - 1) (by omega) (by omega); omega
          have K := hid (fun q => KF.out (w6.drewN q) (below_drewN HR.out.bel q) (O j) (O (j - 1)) hO1 hO2)
          have hjj : ((j : Int) - 1) = (((j - 1 : Nat)) : Int) := by omega
          by_cases hlt2 : R (O (j - 1)) < R (O j)
          · have hb : decide (cmpF ((R (O (j - 1)) : Nat) : Int) ((R (O j) : Nat) : Int) < 0) = true := by rw [cmp_neg]; exact decide_eq_true hlt2
            have HI2 := hid (HI.out.step h0 hlt2)
            have HS := hid (fun W (h : SoRow n r O w1 W) => h.swap h0 (show j < n by omega))
            have HG := hid (fun q => HR.out.to (below_drewN (Below.refl w6.heap.size w6) q))
            clear hlt2 HI HR
            generalize cmpF ((R (O (j - 1)) : Nat) : Int) ((R (O j) : Nat) : Int) = z at *
            go_wp2
            go_quiet ((go_at_call 24; exact Calls.quiet_of (K.out _)))
            have HG2 := hid (HG.out nq)
            clear HG K c1 c2
            obtain ⟨w7, e7⟩ : ∃ w7, w7 = w6.drewN nq := ⟨_, rfl⟩
            rw [← e7] at HG2 ⊢
            clear e7
            have c1 := HG2.out.get (j := j) (by omega)
            have c2 := HG2.out.get (j := j - 1) (by omega)
            have f1 := IsAt.frozen HG2.out.row j
            have f2 := IsAt.frozen HG2.out.row (j - 1)
            go_wp2
            go_region
            go_wp2
            exact ⟨⟨j - 1, _, by omega, rfl, HI2.out, (HS.out _ HG2.out).to (Below.refl _ _).drew⟩, by simp [intOf]; omega⟩
          · have hb : decide (cmpF ((R (O (j - 1)) : Nat) : Int) ((R (O j) : Nat) : Int) < 0) = false := by rw [cmp_neg]; exact decide_eq_false hlt2
            have HD := hid (HI.out.done (.inr (by omega)))
            have HG := hid (fun q => HR.out.to (below_drewN (Below.refl w6.heap.size w6) q))
            clear hlt2 HI HR
            generalize cmpF ((R (O (j - 1)) : Nat) : Int) ((R (O j) : Nat) : Int) = z at *
            go_wp2
            go_quiet ((go_at_call 24; exact Calls.quiet_of (K.out _)))
            go_wp2
            exact ⟨⟨m + 1, O, by omega, by go_num, HD.out, HG.out _⟩, by simp [intOf]; omega⟩
        · have e0 : j = 0 := by omega
          subst e0
          have HD := hid (HI.out.done (.inl rfl))
          have HG := hid (fun q => HR.out.to (below_drewN (Below.refl w6.heap.size w6) q))
          clear HI HR
          go_wp2
          go_quiet (fail)
          go_wp2
          exact ⟨⟨m + 1, O, by omega, by go_num, HD.out, HG.out _⟩, by simp [intOf]; omega⟩
    · obtain rfl : m = n := by omega
      go_wp2
      go_end0
      exact ⟨rfl, O, HO.out, HR.out⟩
theorem stable_any (g : Nat) (a : Option Addr) (n cap r : Nat) (R : Nat → Nat) (h1 : 1 ≤ n) (h8 : n ≤ 8) (w1 w : World) (hg : SoBox g a n cap R w1) (hr : SoRow n r (fun p => p) w1 w) :
    Calls Try.prog 28 #[.slice (some ⟨r, 0, none⟩) n n, .int .i64 (n : Int), fallV g] w fun e w' => e = .returned (.tuple #[]) ∧ ∃ O, SoO R n O ∧ SoRow n r O w1 w' := by
  have K := hid (insert_any g a n cap r R h1 h8 w1 w hg hr)
  clear hg hr
  go_enter Try.func28, Try.ntmps28
  go_wp2
  go_loopw [7, 8] (fun x y wr => x = .int .i64 0 ∧ y = .int .i64 20 ∧ Hid (wr = w)) (fun _ _ _ => 0)
  case atStart => exact ⟨rfl, rfl, rfl⟩
  case round =>
    obtain ⟨rfl, rfl, hw⟩ := hrel
    have hw := hw.out
    subst hw
    go_wp2_with (fail)
    refine Calls.mono K.out ?_
    rintro e w5 ⟨rfl, O, hO, hR⟩
    have HO := hid hO
    have HR := hid hR
    clear hO hR K
    go_wp2
    go_loopw [6] (fun x wr => x = .int .i64 20 ∧ Hid (SoRow n r O w1 wr)) (fun _ _ => 0)
    case atStart => exact ⟨rfl, HR.out⟩
    case round =>
      clear HR
      obtain ⟨rfl, HR⟩ := hrel
      go_wp2
      go_end0
      exact ⟨rfl, O, HO.out, HR.out⟩
theorem sort_any (g : Nat) (a : Option Addr) (n cap r : Nat) (R : Nat → Nat) (h1 : 1 ≤ n) (h8 : n ≤ 8) (w1 w : World) (hg : SoBox g a n cap R w1) (hr : SoRow n r (fun p => p) w1 w) :
    Calls Try.prog 23 #[.slice (some ⟨r, 0, none⟩) n n, fallV g] w fun e w' => e = .returned (.tuple #[]) ∧ ∃ O, SoO R n O ∧ SoRow n r O w1 w' := by
  have K := hid (stable_any g a n cap r R h1 h8 w1 w hg hr)
  clear hg hr
  go_enter Try.func23, Try.ntmps23
  go_wp2_with (fail)
  refine Calls.mono K.out ?_
  rintro e w5 ⟨rfl, O, hO, hR⟩
  have HE := hid (show ∃ O, SoO R n O ∧ SoRow n r O w1 w5 from ⟨O, hO, hR⟩)
  clear hO hR K
  go_wp2
  go_end0
  exact ⟨rfl, HE.out⟩
theorem MRow.places {n r : Nat} {w1 w : World} (h : MRow n r (natI fun p => p) n w1 w) : SoRow n r (fun p => p) w1 w := by
  obtain ⟨Y, h2, h3, h4, h5⟩ := h
  exact ⟨h2.congr h3, h4, h5⟩
set_option maxRecDepth 100000 in
/-- The places, sorted. -/
theorem falling_any (a : Option Addr) (n cap : Nat) (R : Nat → Nat) (h1 : 1 ≤ n) (h8 : n ≤ 8) (w : World) (h : IsInts w a n cap (natI R)) :
    Calls Try.prog 14 #[.slice a n cap] w fun e w' => ∃ r O, e = .returned (.slice (some ⟨r, 0, none⟩) n n) ∧ SoO R n O ∧ SoRow n r O w w' := by
  have ba : ∀ (W : World) (o : Obj), Below W.heap.size W (W.alloc o) := fun W o => (Below.refl _ W).alloc (Nat.le_refl _) _
  have hbox : SoBox w.heap.size a n cap R (w.alloc (.cells #[.slice a n cap] 22)) := by
    refine ⟨?_, h.below (ba _ _)⟩
    have h2 : IsAt w.heap.size 22 #[.slice a n cap] (w.alloc (.cells #[.slice a n cap] 22)) := al_new w _
    exact h2.cell 0
  have HB := hid (ba w (.cells #[.slice a n cap] 22))
  have K := hid (fun r W (hr : SoRow n r (fun p => p) (w.alloc (.cells #[.slice a n cap] 22)) W) => sort_any w.heap.size a n cap r R h1 h8 _ W hbox hr)
  have hcell := hbox.box
  have hmk := make_ints (n := n) (by omega)
  have HM := hid (MRow.start (n := n) (F := natI fun p => p) (w0 := w.alloc (.cells #[.slice a n cap] 22)) (Below.refl _ _))
  rw [al_size] at HM
  clear h ba hbox
  go_enter Try.func14, Try.ntmps14
  go_wp2
  clear hmk hcell
  generalize w.alloc (.cells #[.slice a n cap] 22) = w1 at *
  obtain ⟨r, hr⟩ : ∃ r, r = w.heap.size + 1 := ⟨_, rfl⟩
  rw [← hr] at HM ⊢
  clear hr
  go_loopw [10] (fun i wr => ∃ p : Nat, p ≤ n ∧ i = .int .i64 (p : Int) ∧ Hid (MRow n r (natI fun p => p) p w1 wr)) (fun i _ => n - (intOf i).toNat)
  case atStart => exact ⟨0, Nat.zero_le _, rfl, HM.out⟩
  case round =>
    clear HM
    obtain ⟨p, hp, rfl, HM⟩ := hrel
    obtain ⟨w5, e5⟩ : ∃ w5, w5 = wr := ⟨_, rfl⟩
    subst e5
    by_cases hlt : p < n
    · obtain ⟨⟨v, c1⟩, f1⟩ := HM.out.cell hlt
      have HN := hid (HM.out.set hlt (v := (p : Int)) rfl)
      clear HM
      go_wp2
      exact ⟨⟨p + 1, by omega, by go_num, HN.out⟩, by simp [intOf]; omega⟩
    · obtain rfl : p = n := by omega
      have HS := hid (K.out r w5 HM.out.places)
      clear HM K
      go_wp2_with (fail)
      refine Calls.mono HS.out ?_
      rintro e w6 ⟨rfl, O, hO, hR⟩
      have HO := hid hO
      have HR := hid (show SoRow p r O w w6 from ⟨hR.row, Nat.le_trans HB.out.size hR.r0, below_then HB.out hR.bel⟩)
      clear hO hR HS
      go_wp2
      go_ret
      exact ⟨r, O, rfl, HO.out, HR.out⟩
end Go.Proofs.Ytabgbchogmbofaa
