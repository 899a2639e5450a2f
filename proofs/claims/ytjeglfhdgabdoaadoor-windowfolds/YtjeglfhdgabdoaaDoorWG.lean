/-
  The document's Meet.
-/
import Derived.Test.YtjeglfhdgabdoaaDoorWD
import Derived.Test.YtjeglfhdgabdoaaDoorNShrR
namespace Go.Proofs.YtjeglfhdgabdoaaDoor
open Go.ChangeShapes Go.WideShapes Go.ChangeAt Go.RowKit
set_option linter.unusedVariables false

theorem rmeet_any (L R : Nat → Int) (w : World) :
    Calls Tryd.prog 17 #[arr8 L, arr8 R] w fun e w' => e = .returned (arr8 fun j => meetF (L j) (R j)) ∧ Below w.heap.size w w' := by
  obtain ⟨w2, hw⟩ : ∃ w2, w2 = (w.alloc (.cells (rowA 8 L) 24)).alloc (.cells (rowA 8 R) 24) := ⟨_, rfl⟩
  have hq := made_quad L R w w2 hw
  have HQ := hid hq.1
  have HE := hid hq.2
  have hw' := hid hw
  clear hq hw
  go_enter Tryd.func17, Tryd.ntmps17
  go_wp2
  have hw := hw'.out
  clear hw'
  rw [← hw]
  clear hw
  obtain ⟨B, hB⟩ : ∃ B, B = w.heap.size + 1 + 1 := ⟨_, rfl⟩
  generalize (w2.alloc (.cells #[Value.int .i64 0, Value.int .i64 0, Value.int .i64 0, Value.int .i64 0, Value.int .i64 0, Value.int .i64 0, Value.int .i64 0, Value.int .i64 0] 24)).alloc (.cells #[Value.int .i64 0, Value.int .i64 0, Value.int .i64 0, Value.int .i64 0, Value.int .i64 0, Value.int .i64 0, Value.int .i64 0, Value.int .i64 0] 24) = W at HQ ⊢
  generalize w.heap.size + 1 + 1 + 1 = q at HQ ⊢
  rw [← hB] at HE
  have HQ' : Hid (Quad B w.heap.size (w.heap.size + 1) (w.heap.size + 1 + 1) q L R (fun _ => 0) (fun _ => 0) w2 W) := by rw [hB]; exact HQ
  clear HQ hB
  have HQ := HQ'
  clear HQ'
  generalize w.heap.size + 1 + 1 = r at HQ ⊢
  generalize w.heap.size + 1 = lb at HQ ⊢
  generalize hla : w.heap.size = la at HQ ⊢
  have HLA := hid hla
  clear hla
  go_loopw [6] (fun i wr => ∃ k : Nat, k ≤ 8 ∧ i = .int .i64 k ∧ Hid (Quad B la lb r q L R (fun _ => 0) (upto k fun j => meetF (L j) (R j)) w2 wr)) (fun i _ => 8 - (intOf i).toNat)
  case atStart => exact ⟨0, Nat.zero_le _, rfl, HQ⟩
  case round =>
    clear HQ
    obtain ⟨k, hk, rfl, HQ⟩ := hrel
    by_cases hlt : k < 8
    · have hcl := HQ.out.lc _ HQ.out.t.bel k hlt
      have hcr := HQ.out.rc _ HQ.out.t.bel k hlt
      have HY : Hid (∀ i, upd (upto k fun j => meetF (L j) (R j)) k (meetF (L k) (R k)) i = upto (k + 1) (fun j => meetF (L j) (R j)) i) := fun i => upto_next (fun j => meetF (L j) (R j)) i
      obtain ⟨x, hx⟩ : ∃ x, L k = x := ⟨_, rfl⟩
      obtain ⟨y, hy⟩ : ∃ y, R k = y := ⟨_, rfl⟩
      rw [hx] at hcl HY
      rw [hy] at hcr HY
      have HX1 := hid hx
      have HX2 := hid hy
      clear hx hy
      by_cases hin : in46 x y = true
      · have HM : Hid (meetF x y = shrF (x + y) 15) := by
          obtain ⟨u1, u2, u3, u4⟩ := in46_iff.1 hin
          show meetF x y = _
          rw [meetF_in hin, shr_sh15 (by omega) (by omega)]
        obtain ⟨u1, u2, u3, u4⟩ := in46_iff.1 hin
        have m1 : wrap64 (x + y) = x + y := wwr_in (by omega)
        clear hin
        go_wp2
        have HQ1 := HQ
        clear HQ hcl hcr
        have d4 : ∀ W', Below wr.heap.size wr W' → W'.cell? ⟨la, k, none⟩ = some (.int .i64 x) := fun W' hq => by rw [← HX1.out]; exact (HQ1.out.tr hq).lc _ (HQ1.out.tr hq).t.bel k hlt
        have d5 : ∀ W', Below wr.heap.size wr W' → W'.cell? ⟨lb, k, none⟩ = some (.int .i64 y) := fun W' hq => by rw [← HX2.out]; exact (HQ1.out.tr hq).rc _ (HQ1.out.tr hq).t.bel k hlt
        have K1 : Hid (∀ W, Below wr.heap.size wr W → Calls Tryd.prog 24 #[.int .i64 (x + y), .int .i64 15] W fun e w' => e = .returned (.int .i64 (meetF x y)) ∧ Below wr.heap.size wr w') := fun W hW => by
          have h := shrR_any (x + y) 15 W
          rw [← HM.out] at h
          exact h.mono fun e w' ⟨he, hb⟩ => ⟨he, below_then hW hb⟩
        have hg1 : decide (k < 8) = true := decide_eq_true hlt
        clear HX1 HX2 HM u1 u2 u3 u4
        refine' region_last_plain (C := Below wr.heap.size wr) (m := 10) (by kernel_rfl) (by kernel_rfl) (by kernel_rfl) rfl rfl rfl rfl (Below.refl _ _).drew
          (Qa := fun a' => a' = _) ?_ ?_
        rotate_left
        · dsimp only [idleLast, idle]
          repeat (go_big_quiet_step (first
            | (intro hq; rfl)
            | (intro hq; rw [d4 _ hq]; exact ⟨rfl, rfl⟩)
            | (intro hq; rw [d5 _ hq]; exact ⟨rfl, rfl⟩)
            | (intro hq; go_at_call 24; (with_reducible exact K1.out _ hq))))
          refine wpQuiet_nil ?_
          exact rfl
        · rintro a' W' hq rfl
          have HQ2 := HQ1.out.tr hq
          refine exec_store (fun _ => trivial) Tryd.sizeOf3 rfl rfl rfl rfl (HQ2.t.b.get hlt) (HQ2.t.b.frozen k) ?_
          have HQ3 := hid (HQ2.set hlt (meetF x y) HY.out)
          generalize W'.setCell ⟨q, k, none⟩ (.int .i64 (meetF x y)) = W3 at HQ3 ⊢
          clear hq HQ2 d4 d5 K1
          go_wp2
          exact ⟨⟨k + 1, by omega, by go_num, HQ3⟩, by simp [intOf]; omega⟩
      · have HM : Hid (∀ i, upto k (fun j => meetF (L j) (R j)) i = upto (k + 1) (fun j => meetF (L j) (R j)) i) := fun i => by
          rw [← HY.out i, meetF_out hin]
          unfold upd upto
          by_cases e : i = k
          · subst e; rw [if_pos rfl, if_neg (by omega)]
          · rw [if_neg e]
        have hno := fun h => hin (in46_iff.2 h)
        have HNO : Hid (¬ (-70368744177664 ≤ x ∧ x ≤ 70368744177664 ∧ -70368744177664 ≤ y ∧ y ≤ 70368744177664)) := hno
        clear hin hno HX1 HX2
        by_cases u1 : -70368744177664 ≤ x
        · by_cases u2 : x ≤ 70368744177664
          · by_cases u3 : -70368744177664 ≤ y
            · have u4 : ¬ y ≤ 70368744177664 := fun u4 => HNO.out ⟨u1, u2, u3, u4⟩
              clear HNO
              have HQ2 : Hid (Quad B la lb r q L R (fun _ => 0) (upto (k + 1) fun j => meetF (L j) (R j)) w2 wr) := ⟨HQ.out.lc, HQ.out.rc, HQ.out.t.congr fun i _ => HM.out i⟩
              clear HQ HM
              go_wp2
              exact ⟨⟨k + 1, by omega, by go_num, HQ2⟩, by simp [intOf]; omega⟩
            · clear HNO
              have HQ2 : Hid (Quad B la lb r q L R (fun _ => 0) (upto (k + 1) fun j => meetF (L j) (R j)) w2 wr) := ⟨HQ.out.lc, HQ.out.rc, HQ.out.t.congr fun i _ => HM.out i⟩
              clear HQ HM
              go_wp2
              exact ⟨⟨k + 1, by omega, by go_num, HQ2⟩, by simp [intOf]; omega⟩
          · clear HNO
            have HQ2 : Hid (Quad B la lb r q L R (fun _ => 0) (upto (k + 1) fun j => meetF (L j) (R j)) w2 wr) := ⟨HQ.out.lc, HQ.out.rc, HQ.out.t.congr fun i _ => HM.out i⟩
            clear HQ HM
            go_wp2
            exact ⟨⟨k + 1, by omega, by go_num, HQ2⟩, by simp [intOf]; omega⟩
        · clear HNO
          have HQ2 : Hid (Quad B la lb r q L R (fun _ => 0) (upto (k + 1) fun j => meetF (L j) (R j)) w2 wr) := ⟨HQ.out.lc, HQ.out.rc, HQ.out.t.congr fun i _ => HM.out i⟩
          clear HQ HM
          go_wp2
          exact ⟨⟨k + 1, by omega, by go_num, HQ2⟩, by simp [intOf]; omega⟩
    · obtain rfl : k = 8 := by omega
      have HL := HQ.out.t.last
      go_wp2_with (first | (refine wp_load8 rfl rfl rfl HQ.out.t.b ?_) | (refine wp_store8 rfl rfl rfl rfl HQ.out.t.a ?_))
      refine bodyPost_ret (ret8 rfl _ rfl HL.1) rfl ⟨by rw [arr8_congr (upto_all fun j => meetF (L j) (R j))], ?_⟩
      exact HE.out _ HL.2
end Go.Proofs.YtjeglfhdgabdoaaDoor
