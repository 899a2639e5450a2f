/-
  The contract of window.Meet.
-/
import Derived.Test.YtjeglfhdgabdoaaDoorWC
import Derived.Test.YtjeglfhdgabdoaaDoorRL
import Derived.Test.YtjeglfhdgabdoaaDoorNShr
namespace Go.Proofs.YtjeglfhdgabdoaaDoor
open Go.ChangeShapes Go.WideShapes Go.ChangeAt Go.RowKit
set_option linter.unusedVariables false

/-- Do both lie from -2^46 to 2^46? -/
def in46 (a b : Int) : Bool := in1 (-70368744177664) 70368744177664 a && in1 (-70368744177664) 70368744177664 b
theorem in46_iff {a b : Int} : in46 a b = true ↔ -70368744177664 ≤ a ∧ a ≤ 70368744177664 ∧ -70368744177664 ≤ b ∧ b ≤ 70368744177664 := by
  simp [in46, in1]; omega
theorem wwithin2 (x y : Int) (w : World) (b : Nat) (hc : w.cell? ⟨b, 0, none⟩ = some (.int .i64 x)) (hd : w.cell? ⟨b, 1, none⟩ = some (.int .i64 y)) :
    Calls Tryd.prog 19 #[.int .i64 70368744177664, .slice (some ⟨b, 0, none⟩) 2 2] w fun e w' => e = .returned (.bool (in46 x y)) ∧ w' = w := by
  have h := wwithin_any 70368744177664 (by omega) (some ⟨b, 0, none⟩) 2 2 (fun i => if i = 0 then x else y) (by omega) w (.inr ⟨b, 0, rfl, block_lt_of_cell hc, by omega, by decide, by
    intro i hi
    rw [Nat.zero_add]
    by_cases e : i = 0
    · subst e; simpa using hc
    · obtain rfl : i = 1 := by omega
      simpa using hd⟩)
  simpa [allIn, in1, in46, Bool.and_assoc] using h
/-- The arrays that are handed in, in variables of their own, and two more. -/
structure Quad (B a b r q : Nat) (L R Z X : Nat → Int) (w0 w : World) : Prop where
  lc : ∀ W, Below B w0 W → ∀ j, j < 8 → W.cell? ⟨a, j, none⟩ = some (.int .i64 (L j))
  rc : ∀ W, Below B w0 W → ∀ j, j < 8 → W.cell? ⟨b, j, none⟩ = some (.int .i64 (R j))
  t : Twin B r q Z X w0 w
theorem Quad.tr {B a b r q : Nat} {L R Z X : Nat → Int} {w0 w w' : World} (h : Quad B a b r q L R Z X w0 w) (hb : Below w.heap.size w w') : Quad B a b r q L R Z X w0 w' := ⟨h.lc, h.rc, h.t.tr hb⟩
theorem Quad.set {B a b r q : Nat} {L R Z X Y : Nat → Int} {w0 w : World} (h : Quad B a b r q L R Z X w0 w) {j : Nat} (hj : j < 8) (v : Int) (e : ∀ i, upd X j v i = Y i) : Quad B a b r q L R Z Y w0 (w.setCell ⟨q, j, none⟩ (.int .i64 v)) :=
  ⟨h.lc, h.rc, (h.t.set hj v).congr fun i _ => e i⟩
theorem meetF_in {a b : Int} (h : in46 a b = true) : meetF a b = sh15 (a + b) := by rw [meetF, if_pos (in46_iff.1 h)]
theorem meetF_out {a b : Int} (h : ¬ in46 a b = true) : meetF a b = 0 := by rw [meetF, if_neg (fun k => h (in46_iff.2 k))]
theorem made_quad (L R : Nat → Int) (w w2 : World) (hw : w2 = (w.alloc (.cells (rowA 8 L) 24)).alloc (.cells (rowA 8 R) 24)) :
    Quad (w.heap.size + 1 + 1) w.heap.size (w.heap.size + 1) (w.heap.size + 1 + 1) (w.heap.size + 1 + 1 + 1) L R (fun _ => 0) (fun _ => 0) w2 ((w2.alloc (.cells #[Value.int .i64 0, Value.int .i64 0, Value.int .i64 0, Value.int .i64 0, Value.int .i64 0, Value.int .i64 0, Value.int .i64 0, Value.int .i64 0] 24)).alloc (.cells #[Value.int .i64 0, Value.int .i64 0, Value.int .i64 0, Value.int .i64 0, Value.int .i64 0, Value.int .i64 0, Value.int .i64 0, Value.int .i64 0] 24)) ∧
    ∀ W, Below (w.heap.size + 1 + 1) w2 W → Below w.heap.size w W := by
  have h1 := arr_new L w
  have h2 := arr_new R (w.alloc (.cells (rowA 8 L) 24))
  rw [al_size] at h2
  have h3 := arr_old h1 (.cells (rowA 8 R) 24)
  rw [← hw] at h2 h3
  have hs : w2.heap.size = w.heap.size + 1 + 1 := by rw [hw, al_size, al_size]
  have hb : Below w.heap.size w w2 := by rw [hw]; exact ((Below.refl _ w).alloc (Nat.le_refl _) _).alloc (by rw [al_size]; omega) _
  have ht := made_twin w2
  rw [hs] at ht
  refine ⟨⟨fun W hW j hj => ?_, fun W hW j hj => ?_, ht⟩, fun W hW => hb.trans (hW.mono (by omega))⟩
  · rw [← hs] at hW; exact (h3.below hW).get hj
  · rw [← hs] at hW; exact (h2.below hW).get hj
theorem meet_any (L R : Nat → Int) (w : World) :
    Calls Tryd.prog 16 #[arr8 L, arr8 R] w fun e w' => e = .returned (arr8 fun j => meetF (L j) (R j)) ∧ Below w.heap.size w w' := by
  obtain ⟨w2, hw⟩ : ∃ w2, w2 = (w.alloc (.cells (rowA 8 L) 24)).alloc (.cells (rowA 8 R) 24) := ⟨_, rfl⟩
  have hq := made_quad L R w w2 hw
  have HQ := hid hq.1
  have HE := hid hq.2
  have hw' := hid hw
  clear hq hw
  go_enter Tryd.func16, Tryd.ntmps16
  go_wp2
  have hw := hw'.out
  clear hw'
  rw [← hw]
  clear hw
  obtain ⟨B, hB⟩ : ∃ B, B = w.heap.size + 1 + 1 := ⟨_, rfl⟩
  generalize (w2.alloc (.cells #[Value.int .i64 0, Value.int .i64 0, Value.int .i64 0, Value.int .i64 0, Value.int .i64 0, Value.int .i64 0, Value.int .i64 0, Value.int .i64 0] 24)).alloc (.cells #[Value.int .i64 0, Value.int .i64 0, Value.int .i64 0, Value.int .i64 0, Value.int .i64 0, Value.int .i64 0, Value.int .i64 0, Value.int .i64 0] 24) = W at HQ ⊢
  generalize w.heap.size + 1 + 1 + 1 = q at HQ ⊢
  rw [← hB] at HE
  have HQ' : Hid (Quad B w.heap.size (w.heap.size + 1) (w.heap.size + 1 + 1) q L R (fun _ => 0) (fun _ => 0) w2 W) := by rw [hB]; exact HQ
  clear HQ hB
  have HQ := HQ'
  clear HQ'
  generalize w.heap.size + 1 + 1 = r at HQ ⊢
  generalize w.heap.size + 1 = lb at HQ ⊢
  generalize hla : w.heap.size = la at HQ ⊢
  have HLA := hid hla
  clear hla
  go_loopw [7] (fun i wr => ∃ k : Nat, k ≤ 8 ∧ i = .int .i64 k ∧ Hid (Quad B la lb r q L R (fun _ => 0) (upto k fun j => meetF (L j) (R j)) w2 wr)) (fun i _ => 8 - (intOf i).toNat)
  case atStart => exact ⟨0, Nat.zero_le _, rfl, HQ⟩
  case round =>
    clear HQ
    obtain ⟨k, hk, rfl, HQ⟩ := hrel
    by_cases hlt : k < 8
    · have hcl := HQ.out.lc _ HQ.out.t.bel k hlt
      have hcr := HQ.out.rc _ HQ.out.t.bel k hlt
      have HY : Hid (∀ i, upd (upto k fun j => meetF (L j) (R j)) k (meetF (L k) (R k)) i = upto (k + 1) (fun j => meetF (L j) (R j)) i) := fun i => upto_next (fun j => meetF (L j) (R j)) i
      obtain ⟨x, hx⟩ : ∃ x, L k = x := ⟨_, rfl⟩
      obtain ⟨y, hy⟩ : ∃ y, R k = y := ⟨_, rfl⟩
      rw [hx] at hcl HY
      rw [hy] at hcr HY
      have HX1 := hid hx
      have HX2 := hid hy
      clear hx hy
      by_cases hin : in46 x y = true
      · go_wp2
        have HM : Hid (meetF x y = shrF (x + y) 15) := by
          obtain ⟨u1, u2, u3, u4⟩ := in46_iff.1 hin
          show meetF x y = _
          rw [meetF_in hin, shr_sh15 (by omega) (by omega)]
        have m1 : wrap64 (x + y) = x + y := wwr_in (by obtain ⟨u1, u2, u3, u4⟩ := in46_iff.1 hin; omega)
        have HIN := hid hin
        clear hin
        go_region_with (go_at_call 19; refine (wwithin2 x y _ _ (by go_simp) (by go_simp)).mono ?_; rintro e w1 ⟨rfl, rfl⟩; rw [HIN.out])
        all_goals
          have HQ1 := hid (HQ.out.tr (((Below.refl _ wr).alloc (Nat.le_refl _) (.cells #[.int .i64 x, .int .i64 y] 3)).drew))
          generalize (wr.alloc (.cells #[.int .i64 x, .int .i64 y] 3)).drew = W1 at HQ1 ⊢
          generalize wr.heap.size = sz
          clear HQ hcl hcr
          have d4 : ∀ W', Below W1.heap.size W1 W' → W'.cell? ⟨la, k, none⟩ = some (.int .i64 x) := fun W' hq => by rw [← HX1.out]; exact (HQ1.out.tr hq).lc _ (HQ1.out.tr hq).t.bel k hlt
          have d5 : ∀ W', Below W1.heap.size W1 W' → W'.cell? ⟨lb, k, none⟩ = some (.int .i64 y) := fun W' hq => by rw [← HX2.out]; exact (HQ1.out.tr hq).rc _ (HQ1.out.tr hq).t.bel k hlt
          have K1 : Hid (∀ W, Below W1.heap.size W1 W → Calls Tryd.prog 22 #[.int .i64 (x + y), .int .i64 15] W fun e w' => e = .returned (.int .i64 (meetF x y)) ∧ Below W1.heap.size W1 w') := fun W hW => by
            have h := shr_any (x + y) 15 W
            rw [← HM.out] at h
            exact h.mono fun e w' ⟨he, hb⟩ => ⟨he, below_then hW hb⟩
          have hg1 : decide (k < 8) = true := decide_eq_true hlt
          clear HIN HX1 HX2 HM
          go_wp2
          refine' region_last_plain (C := Below W1.heap.size W1) (m := 10) (by kernel_rfl) (by kernel_rfl) (by kernel_rfl) rfl rfl rfl rfl (Below.refl _ _).drew
            (Qa := fun a' => a' = _) ?_ ?_
          rotate_left
          · dsimp only [idleLast, idle]
            repeat (go_big_quiet_step (first
              | (intro hq; rfl)
              | (intro hq; rw [d4 _ hq]; exact ⟨rfl, rfl⟩)
              | (intro hq; rw [d5 _ hq]; exact ⟨rfl, rfl⟩)
              | (intro hq; go_at_call 22; (with_reducible exact K1.out _ hq))))
            refine wpQuiet_nil ?_
            exact rfl
          · rintro a' W' hq rfl
            have HQ2 := HQ1.out.tr hq
            refine exec_store (fun _ => trivial) Tryd.sizeOf3 rfl rfl rfl rfl (HQ2.t.b.get hlt) (HQ2.t.b.frozen k) ?_
            have HQ3 := hid (HQ2.set hlt (meetF x y) HY.out)
            generalize W'.setCell ⟨q, k, none⟩ (.int .i64 (meetF x y)) = W3 at HQ3 ⊢
            clear hq HQ2 d4 d5 K1
            go_wp2
            exact ⟨⟨k + 1, by omega, by go_num, HQ3⟩, by simp [intOf]; omega⟩
      · have HM : Hid (∀ i, upto k (fun j => meetF (L j) (R j)) i = upto (k + 1) (fun j => meetF (L j) (R j)) i) := fun i => by
          rw [← HY.out i, meetF_out hin]
          unfold upd upto
          by_cases e : i = k
          · subst e; rw [if_pos rfl, if_neg (by omega)]
          · rw [if_neg e]
        have HIN : Hid (in46 x y = false) := by
          show in46 x y = false
          simpa using hin
        clear hin
        go_wp2
        go_region_with (go_at_call 19; refine (wwithin2 x y _ _ (by go_simp) (by go_simp)).mono ?_; rintro e w1 ⟨rfl, rfl⟩; rw [HIN.out])
        all_goals
          have HQ1 := hid (HQ.out.tr (((Below.refl _ wr).alloc (Nat.le_refl _) (.cells #[.int .i64 x, .int .i64 y] 3)).drew))
          generalize (wr.alloc (.cells #[.int .i64 x, .int .i64 y] 3)).drew = W1 at HQ1 ⊢
          generalize wr.heap.size = sz
          clear HQ hcl hcr HIN HX1 HX2
          have HQ2 : Hid (Quad B la lb r q L R (fun _ => 0) (upto (k + 1) fun j => meetF (L j) (R j)) w2 W1) := ⟨HQ1.out.lc, HQ1.out.rc, HQ1.out.t.congr fun i _ => HM.out i⟩
          clear HQ1 HM
          go_wp2
          exact ⟨⟨k + 1, by omega, by go_num, HQ2⟩, by simp [intOf]; omega⟩
    · obtain rfl : k = 8 := by omega
      have HL := HQ.out.t.last
      go_wp2_with (first | (refine wp_load8 rfl rfl rfl HQ.out.t.b ?_) | (refine wp_store8 rfl rfl rfl rfl HQ.out.t.a ?_))
      refine bodyPost_ret (ret8 rfl _ rfl HL.1) rfl ⟨by rw [arr8_congr (upto_all fun j => meetF (L j) (R j))], ?_⟩
      exact HE.out _ HL.2
end Go.Proofs.YtjeglfhdgabdoaaDoor
