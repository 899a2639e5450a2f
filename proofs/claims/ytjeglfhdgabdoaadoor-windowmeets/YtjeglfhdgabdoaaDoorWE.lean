/-
  The document's slope, Block, Left and Right.
-/
import Derived.Test.YtjeglfhdgabdoaaDoorWC
import Derived.Test.YtjeglfhdgabdoaaDoorNShrR
namespace Go.Proofs.YtjeglfhdgabdoaaDoor
open Go.ChangeShapes Go.WideShapes Go.ChangeAt Go.RowKit
set_option linter.unusedVariables false

/-- The document's slope: a new row. -/
theorem rW_any (w : World) : Calls Tryd.prog 11 #[] w fun e w' => e = .returned (.slice (some ⟨w.heap.size, 0, none⟩) 8 8) ∧ w' = w.alloc (.cells (rowA 8 wF) 3) := by
  go_enter Tryd.func11, Tryd.ntmps11
  go_wp2
  go_ret
  exact ⟨rfl, rfl⟩
theorem rblock_any (a : Option Addr) (n cap : Nat) (X : Nat → Int) (hl : n ≤ 1000) (w : World) (h : IsInts w a n cap X) :
    Calls Tryd.prog 25 #[.slice a n cap] w fun e w' => e = .returned (.bool (blk30 X n)) ∧ w' = w := by
  have K2 := hid (rwithin_g (-1073741824) 1073741824 a n cap X hl w h)
  clear h
  by_cases h8 : n = 8
  · subst h8
    go_enter Tryd.func25, Tryd.ntmps25
    go_wp2_with (go_at_call 23; (with_reducible refine K2.out.mono ?_); rintro e w1 ⟨rfl, rfl⟩)
    go_ret
    exact ⟨ret_bool (by simp [blk30]), rfl⟩
  · have h8' : (((n : Nat) : Int) == 8) = false := by simp; omega
    by_cases h64 : n = 64
    · subst h64
      go_enter Tryd.func25, Tryd.ntmps25
      go_wp2_with (go_at_call 23; (with_reducible refine K2.out.mono ?_); rintro e w1 ⟨rfl, rfl⟩)
      go_ret
      exact ⟨ret_bool (by simp [blk30]), rfl⟩
    · have h64' : (((n : Nat) : Int) == 64) = false := by simp; omega
      have hb : blk30 X n = false := by simp [blk30, h8, h64]
      rw [hb]
      go_enter Tryd.func25, Tryd.ntmps25
      go_wp2
      go_ret
      exact ⟨rfl, rfl⟩
/-- Two arrays of one's own beside the document's slope. -/
structure TwinW (B r q v : Nat) (Z X : Nat → Int) (w0 w : World) : Prop where
  t : Twin B r q Z X w0 w
  ne : v ≠ q
  s : RowAt v 8 wF w
theorem TwinW.set {B r q v : Nat} {Z X Y : Nat → Int} {w0 w : World} (h : TwinW B r q v Z X w0 w) {j : Nat} (hj : j < 8) (x : Int) (e : ∀ i, upd X j x i = Y i) : TwinW B r q v Z Y w0 (w.setCell ⟨q, j, none⟩ (.int .i64 x)) :=
  ⟨(h.t.set hj x).congr fun i _ => e i, h.ne, IsAt.other h.s h.ne _⟩
theorem TwinW.drew {B r q v : Nat} {Z X : Nat → Int} {w0 w : World} (h : TwinW B r q v Z X w0 w) : TwinW B r q v Z X w0 w.drew := ⟨h.t.drew, h.ne, h.s⟩
theorem TwinW.tr {B r q v : Nat} {Z X : Nat → Int} {w0 w w' : World} (h : TwinW B r q v Z X w0 w) (hb : Below w.heap.size w w') : TwinW B r q v Z X w0 w' := ⟨h.t.tr hb, h.ne, h.s.below hb⟩
theorem Twin.slope {B r q : Nat} {Z X : Nat → Int} {w0 w : World} (h : Twin B r q Z X w0 w) : TwinW B r q w.heap.size Z X w0 (w.alloc (.cells (rowA 8 wF) 3)) :=
  ⟨h.tr ((Below.refl _ w).alloc (Nat.le_refl _) _), Nat.ne_of_gt h.b.lt, al_new w _⟩
theorem rleft_yes (n : Nat) (hn : n = 8 ∨ n = 64) (a : Option Addr) (cap : Nat) (X : Nat → Int) (hX : Fit30 X n) (w : World) (h : IsInts w a n cap X) :
    Calls Tryd.prog 13 #[.slice a n cap] w fun e w' => e = .returned (arr8 (leftF X)) ∧ Below w.heap.size w w' := by
  have K1 : Hid (∀ W, Below w.heap.size w W → Calls Tryd.prog 25 #[.slice a n cap] W fun e w' => e = .returned (.bool true) ∧ w' = W) := fun W hW => by
    have := rblock_any a n cap X (by omega) W (h.below hW)
    rwa [blk30_iff.2 ⟨hn, hX⟩] at this
  obtain ⟨b, off, rfl, hc⟩ := h.cells (by omega)
  obtain ⟨B, hB, HT⟩ : ∃ B, B = w.heap.size ∧ Hid (Twin B w.heap.size (w.heap.size + 1) (fun _ => 0) (fun _ => 0) w ((w.alloc (.cells #[Value.int .i64 0, Value.int .i64 0, Value.int .i64 0, Value.int .i64 0, Value.int .i64 0, Value.int .i64 0, Value.int .i64 0, Value.int .i64 0] 24)).alloc (.cells #[Value.int .i64 0, Value.int .i64 0, Value.int .i64 0, Value.int .i64 0, Value.int .i64 0, Value.int .i64 0, Value.int .i64 0, Value.int .i64 0] 24))) := ⟨_, rfl, made_twin w⟩
  rw [← hB] at hc K1
  have HB := hid hB
  have HC := hid hc
  have HX := hid hX
  clear hc h hB hX
  go_enter Tryd.func13, Tryd.ntmps13
  go_wp2_with (go_at_call 25; (with_reducible refine (K1.out _ HT.out.bel).mono ?_); rintro e w1 ⟨rfl, rfl⟩)
  refine (rW_any _).mono ?_
  rintro e w1 ⟨rfl, rfl⟩
  generalize ((w.alloc (.cells #[Value.int .i64 0, Value.int .i64 0, Value.int .i64 0, Value.int .i64 0, Value.int .i64 0, Value.int .i64 0, Value.int .i64 0, Value.int .i64 0] 24)).alloc (.cells #[Value.int .i64 0, Value.int .i64 0, Value.int .i64 0, Value.int .i64 0, Value.int .i64 0, Value.int .i64 0, Value.int .i64 0, Value.int .i64 0] 24)) = W0 at HT ⊢
  have HT := hid HT.out.slope
  generalize W0.alloc (.cells (rowA 8 wF) 3) = W at HT ⊢
  generalize W0.heap.size = v at HT ⊢
  generalize w.heap.size + 1 = q at HT ⊢
  generalize w.heap.size = r at HT ⊢
  go_wp2
  go_loopw [5] (fun i wr => ∃ k : Nat, k ≤ 8 ∧ i = .int .i64 k ∧ Hid (TwinW B r q v (fun _ => 0) (upto k (leftF X)) w wr)) (fun i _ => 8 - (intOf i).toNat)
  case atStart => exact ⟨0, Nat.zero_le _, rfl, HT⟩
  case round =>
    clear HT
    obtain ⟨k, hk, rfl, HT⟩ := hrel
    by_cases hlt : k < 8
    · have HN := hid (HT.out.set hlt (leftF X k) (upto_next (leftF X)))
      have hs := HT.out.s.get hlt
      have hcq := HT.out.t.b.get hlt
      have hfq := HT.out.t.b.frozen k
      by_cases h4 : k < 4
      · have hcx := HC.out _ HT.out.t.bel (3 - k) (by omega)
        have m1 : wrap64 (wF k * X (3 - k)) = wF k * X (3 - k) := wwr_in (by have bx := HX.out (3 - k) (by omega); have bv := wF_bd k; have := mul_bd' bv.1 bv.2 bx.1 bx.2; omega)
        have HN' : Hid (TwinW B r q v (fun _ => 0) (upto (k + 1) (leftF X)) w (wr.setCell ⟨q, k, none⟩ (.int .i64 (wF k * X (3 - k))))) := by
          have := HN.out
          rw [show leftF X k = wF k * X (3 - k) by rw [leftF, if_pos h4]] at this
          exact this
        have hij : (3 : Int) - (k : Int) = ((3 - k : Nat) : Int) := by omega
        have hz : 3 - k < n := by omega
        clear HN
        generalize 3 - k = z at *
        generalize X z = x at *
        generalize wF k = s at *
        go_wp2
        go_region
        have HZ := hid HN'.out.drew
        generalize (wr.setCell ⟨q, k, none⟩ (.int .i64 (s * x))).drew = W2 at HZ ⊢
        go_wp2
        exact ⟨⟨k + 1, by omega, by go_num, HZ⟩, by simp [intOf]; omega⟩
      · have hcx := HC.out _ HT.out.t.bel (k - 4) (by omega)
        have m1 : wrap64 (wF k * X (k - 4)) = wF k * X (k - 4) := wwr_in (by have bx := HX.out (k - 4) (by omega); have bv := wF_bd k; have := mul_bd' bv.1 bv.2 bx.1 bx.2; omega)
        have HN' : Hid (TwinW B r q v (fun _ => 0) (upto (k + 1) (leftF X)) w (wr.setCell ⟨q, k, none⟩ (.int .i64 (wF k * X (k - 4))))) := by
          have := HN.out
          rw [show leftF X k = wF k * X (k - 4) by rw [leftF, if_neg h4]] at this
          exact this
        have hij : (k : Int) - 4 = ((k - 4 : Nat) : Int) := by omega
        have hz : k - 4 < n := by omega
        clear HN
        generalize k - 4 = z at *
        generalize X z = x at *
        generalize wF k = s at *
        go_wp2
        go_region
        have HZ := hid HN'.out.drew
        generalize (wr.setCell ⟨q, k, none⟩ (.int .i64 (s * x))).drew = W2 at HZ ⊢
        go_wp2
        exact ⟨⟨k + 1, by omega, by go_num, HZ⟩, by simp [intOf]; omega⟩
    · obtain rfl : k = 8 := by omega
      have HL := HT.out.t.last
      go_wp2_with (first | (refine wp_load8 rfl rfl rfl HT.out.t.b ?_) | (refine wp_store8 rfl rfl rfl rfl HT.out.t.a ?_))
      refine bodyPost_ret (ret8 rfl _ rfl HL.1) rfl ⟨by rw [arr8_congr (upto_all (leftF X))], ?_⟩
      rw [← HB.out]; exact HL.2
theorem rleft_no (n : Nat) (a : Option Addr) (cap : Nat) (X : Nat → Int) (hl : n ≤ 1000) (hX : blk30 X n = false) (w : World) (h : IsInts w a n cap X) :
    Calls Tryd.prog 13 #[.slice a n cap] w fun e w' => e = .returned (arr8 fun _ => 0) ∧ Below w.heap.size w w' := by
  have K1 : Hid (∀ W, Below w.heap.size w W → Calls Tryd.prog 25 #[.slice a n cap] W fun e w' => e = .returned (.bool false) ∧ w' = W) := fun W hW => by
    have := rblock_any a n cap X hl W (h.below hW)
    rwa [hX] at this
  obtain ⟨B, hB, HT⟩ : ∃ B, B = w.heap.size ∧ Hid (Twin B w.heap.size (w.heap.size + 1) (fun _ => 0) (fun _ => 0) w ((w.alloc (.cells #[Value.int .i64 0, Value.int .i64 0, Value.int .i64 0, Value.int .i64 0, Value.int .i64 0, Value.int .i64 0, Value.int .i64 0, Value.int .i64 0] 24)).alloc (.cells #[Value.int .i64 0, Value.int .i64 0, Value.int .i64 0, Value.int .i64 0, Value.int .i64 0, Value.int .i64 0, Value.int .i64 0, Value.int .i64 0] 24))) := ⟨_, rfl, made_twin w⟩
  rw [← hB] at K1
  have HB := hid hB
  have HL := HT.out.last
  clear h hB hX
  go_enter Tryd.func13, Tryd.ntmps13
  go_wp2_with (first
    | (go_at_call 25; (with_reducible refine (K1.out _ HT.out.bel).mono ?_); rintro e w1 ⟨rfl, rfl⟩)
    | (refine wp_load8 rfl rfl rfl HT.out.b ?_) | (refine wp_store8 rfl rfl rfl rfl HT.out.a ?_))
  refine bodyPost_ret (ret8 rfl _ rfl HL.1) rfl ⟨rfl, ?_⟩
  have e := HL.2; rw [HB.out] at e; exact e
end Go.Proofs.YtjeglfhdgabdoaaDoor
