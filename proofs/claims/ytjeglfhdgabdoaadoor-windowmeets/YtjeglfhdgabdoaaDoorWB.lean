/-
  Two arrays of one's own; the contracts of window.shared, Left and Right.
-/
import Derived.Test.YtjeglfhdgabdoaaDoorWA
namespace Go.Proofs.YtjeglfhdgabdoaaDoor
open Go.ChangeShapes Go.WideShapes Go.ChangeAt Go.RowKit
set_option linter.unusedVariables false

/-- Two arrays of one's own: r is handed back in the end, q is filled. -/
structure Twin (B r q : Nat) (Z X : Nat → Int) (w0 w : World) : Prop where
  rB : B ≤ r
  qB : B ≤ q
  ne : r ≠ q
  a : ArrAt r Z w
  b : ArrAt q X w
  bel : Below B w0 w
theorem Twin.set {B r q : Nat} {Z X : Nat → Int} {w0 w : World} (h : Twin B r q Z X w0 w) {j : Nat} (hj : j < 8) (v : Int) : Twin B r q Z (upd X j v) w0 (w.setCell ⟨q, j, none⟩ (.int .i64 v)) :=
  ⟨h.rB, h.qB, h.ne, h.a.other h.ne _, h.b.set hj v, h.bel.setCell (show B ≤ (Addr.mk q j none).block from h.qB) _⟩
theorem Twin.congr {B r q : Nat} {Z X Y : Nat → Int} {w0 w : World} (h : Twin B r q Z X w0 w) (e : ∀ i, i < 8 → X i = Y i) : Twin B r q Z Y w0 w :=
  ⟨h.rB, h.qB, h.ne, h.a, h.b.congr e, h.bel⟩
theorem Twin.drewN {B r q : Nat} {Z X : Nat → Int} {w0 w : World} (h : Twin B r q Z X w0 w) (n : Nat) : Twin B r q Z X w0 (w.drewN n) := by
  refine ⟨h.rB, h.qB, h.ne, ?_, ?_, below_drewN h.bel n⟩
  · have : (w.drewN n).heap = w.heap := by simp
    show (w.drewN n).heap[r]? = _
    rw [this]; exact h.a
  · have : (w.drewN n).heap = w.heap := by simp
    show (w.drewN n).heap[q]? = _
    rw [this]; exact h.b
theorem Twin.drew {B r q : Nat} {Z X : Nat → Int} {w0 w : World} (h : Twin B r q Z X w0 w) : Twin B r q Z X w0 w.drew := h.drewN 1
theorem Twin.tr {B r q : Nat} {Z X : Nat → Int} {w0 w w' : World} (h : Twin B r q Z X w0 w) (hb : Below w.heap.size w w') : Twin B r q Z X w0 w' :=
  ⟨h.rB, h.qB, h.ne, h.a.below hb, h.b.below hb, h.bel.trans (hb.mono (Nat.le_trans h.qB (Nat.le_of_lt h.b.lt)))⟩
theorem Twin.last {B r q : Nat} {Z X : Nat → Int} {w0 w : World} (h : Twin B r q Z X w0 w) : ArrAt r X (w.setRow r (rowA 8 X)) ∧ Below B w0 (w.setRow r (rowA 8 X)) :=
  ⟨h.a.laid X, below_setRow h.bel h.rB _⟩
theorem made_twin (w : World) : Twin w.heap.size w.heap.size (w.heap.size + 1) (fun _ => 0) (fun _ => 0) w ((w.alloc (.cells #[Value.int .i64 0, Value.int .i64 0, Value.int .i64 0, Value.int .i64 0, Value.int .i64 0, Value.int .i64 0, Value.int .i64 0, Value.int .i64 0] 24)).alloc (.cells #[Value.int .i64 0, Value.int .i64 0, Value.int .i64 0, Value.int .i64 0, Value.int .i64 0, Value.int .i64 0, Value.int .i64 0, Value.int .i64 0] 24)) := by
  have h1 := arr_new0 w
  have h2 := arr_new0 (w.alloc (.cells #[Value.int .i64 0, Value.int .i64 0, Value.int .i64 0, Value.int .i64 0, Value.int .i64 0, Value.int .i64 0, Value.int .i64 0, Value.int .i64 0] 24))
  rw [al_size] at h2
  exact ⟨Nat.le_refl _, by omega, by omega, arr_old0 h1, h2, ((Below.refl _ w).alloc (Nat.le_refl _) _).alloc (by rw [al_size]; omega) _⟩
/-- The first k places are told. -/
def upto (k : Nat) (Y : Nat → Int) : Nat → Int := fun j => if j < k then Y j else 0
theorem upto_next {k : Nat} (Y : Nat → Int) (i : Nat) : upd (upto k Y) k (Y k) i = upto (k + 1) Y i := by
  unfold upd upto
  by_cases e : i = k
  · subst e; rw [if_pos rfl, if_pos (by omega)]
  · rw [if_neg e]
    by_cases h : i < k
    · rw [if_pos h, if_pos (by omega)]
    · rw [if_neg h, if_neg (by omega)]
theorem upto_all (Y : Nat → Int) (i : Nat) (h : i < 8) : upto 8 Y i = Y i := by rw [upto, if_pos h]

theorem shared_any (f : Nat) (a : Option Addr) (len cap : Nat) (X : Nat → Int) (hl : len ≤ 1000) (hf : f + 8 ≤ len) (w : World) (h : IsInts w a len cap X) :
    Calls Tryd.prog 20 #[.slice a len cap, .int .i64 (f : Int)] w fun e w' => e = .returned (arr8 fun k => X (f + k)) ∧ Below w.heap.size w w' := by
  obtain ⟨b, off, rfl, hc⟩ := h.cells (by omega)
  obtain ⟨B, hB, HT⟩ : ∃ B, B = w.heap.size ∧ Hid (Twin B w.heap.size (w.heap.size + 1) (fun _ => 0) (fun _ => 0) w ((w.alloc (.cells #[Value.int .i64 0, Value.int .i64 0, Value.int .i64 0, Value.int .i64 0, Value.int .i64 0, Value.int .i64 0, Value.int .i64 0, Value.int .i64 0] 24)).alloc (.cells #[Value.int .i64 0, Value.int .i64 0, Value.int .i64 0, Value.int .i64 0, Value.int .i64 0, Value.int .i64 0, Value.int .i64 0, Value.int .i64 0] 24))) := ⟨_, rfl, made_twin w⟩
  rw [← hB] at hc
  have HB := hid hB
  have HC := hid hc
  clear hc h hB
  go_enter Tryd.func20, Tryd.ntmps20
  go_wp2
  generalize ((w.alloc (.cells #[Value.int .i64 0, Value.int .i64 0, Value.int .i64 0, Value.int .i64 0, Value.int .i64 0, Value.int .i64 0, Value.int .i64 0, Value.int .i64 0] 24)).alloc (.cells #[Value.int .i64 0, Value.int .i64 0, Value.int .i64 0, Value.int .i64 0, Value.int .i64 0, Value.int .i64 0, Value.int .i64 0, Value.int .i64 0] 24)) = W at HT ⊢
  generalize w.heap.size + 1 = q at HT ⊢
  generalize w.heap.size = r at HT ⊢
  go_loopw [7] (fun i wr => ∃ k : Nat, k ≤ 8 ∧ i = .int .i64 k ∧ Hid (Twin B r q (fun _ => 0) (upto k fun k => X (f + k)) w wr)) (fun i _ => 8 - (intOf i).toNat)
  case atStart => exact ⟨0, Nat.zero_le _, rfl, HT⟩
  case round =>
    clear HT
    obtain ⟨k, hk, rfl, HT⟩ := hrel
    by_cases hlt : k < 8
    · have hcx := HC.out _ HT.out.bel (f + k) (by omega)
      have hcq := HT.out.b.get hlt
      have hfq := HT.out.b.frozen k
      have HN := hid ((HT.out.set hlt (X (f + k))).congr (fun i _ => upto_next (fun k => X (f + k)) i))
      generalize X (f + k) = x at *
      go_wp2
      exact ⟨⟨k + 1, by omega, by go_num, HN⟩, by simp [intOf]; omega⟩
    · obtain rfl : k = 8 := by omega
      have HL := HT.out.last
      go_wp2_with (first | (refine wp_load8 rfl rfl rfl HT.out.b ?_) | (refine wp_store8 rfl rfl rfl rfl HT.out.a ?_))
      refine bodyPost_ret (ret8 rfl _ rfl HL.1) rfl ⟨by rw [arr8_congr (upto_all fun k => X (f + k))], ?_⟩
      rw [← HB.out]; exact HL.2
/-- The places next to the middle are told, k on each side. -/
def mid (k : Nat) (Y : Nat → Int) : Nat → Int := fun j => if 4 ≤ j + k ∧ j < 4 + k then Y j else 0
theorem mid_next {k : Nat} (hk : k < 4) (Y : Nat → Int) (i : Nat) : upd (upd (mid k Y) (4 + k) (Y (4 + k))) (3 - k) (Y (3 - k)) i = mid (k + 1) Y i := by
  unfold upd mid
  by_cases e : i = 3 - k
  · subst e; rw [if_pos rfl, if_pos (by omega)]
  · rw [if_neg e]
    by_cases e2 : i = 4 + k
    · subst e2; rw [if_pos rfl, if_pos (by omega)]
    · rw [if_neg e2]
      by_cases h : 4 ≤ i + k ∧ i < 4 + k
      · rw [if_pos h, if_pos (by omega)]
      · rw [if_neg h, if_neg (by omega)]
theorem mid_next' {k : Nat} (hk : k < 4) (Y : Nat → Int) (i : Nat) : upd (upd (mid k Y) (3 - k) (Y (3 - k))) (4 + k) (Y (4 + k)) i = mid (k + 1) Y i := by
  rw [← mid_next hk Y i]
  unfold upd
  by_cases e : i = 3 - k
  · rw [if_neg (by omega), if_pos e, if_pos e]
  · by_cases e2 : i = 4 + k
    · rw [if_pos e2, if_neg e, if_pos e2]
    · rw [if_neg e2, if_neg e, if_neg e, if_neg e2]
theorem mid_all (Y : Nat → Int) (i : Nat) (h : i < 8) : mid 4 Y i = Y i := by rw [mid, if_pos (by omega)]
theorem mid_zero (Y : Nat → Int) (i : Nat) : (0 : Int) = mid 0 Y i := by rw [mid, if_neg (by omega)]
theorem left_up {X : Nat → Int} {k : Nat} (hk : k < 4) : leftF X (4 + k) = wF (4 + k) * X k := by
  rw [leftF, if_neg (by omega), show 4 + k - 4 = k by omega]
theorem left_dn {X : Nat → Int} {k : Nat} (hk : k < 4) : leftF X (3 - k) = wF (3 - k) * X k := by
  rw [leftF, if_pos (by omega), show 3 - (3 - k) = k by omega]
theorem wwr_in {x : Int} (h : -9223372036854775808 ≤ x ∧ x ≤ 9223372036854775807) : wrap64 x = x := by unfold wrap64; omega
/-- Numbers of a block lie from -2^30 to 2^30. -/
abbrev Fit30 (X : Nat → Int) (n : Nat) : Prop := ∀ i, i < n → -1073741824 ≤ X i ∧ X i ≤ 1073741824

/-- Is it a block, of numbers that are not too great? -/
def blk30 (X : Nat → Int) (n : Nat) : Bool := (n == 8 || n == 64) && allIn (-1073741824) 1073741824 X n
theorem blk30_iff {X : Nat → Int} {n : Nat} : blk30 X n = true ↔ (n = 8 ∨ n = 64) ∧ Fit30 X n := by
  simp [blk30, allIn_iff]
theorem isBlock_nat (n : Nat) (w : World) : Calls Tryd.prog 18 #[.int .i64 (n : Int)] w fun e w' => e = .returned (.bool (n == 8 || n == 64)) ∧ w' = w := by
  have h := isBlock_any (n : Int) w
  have e : (((n : Int) == 8 || (n : Int) == 64)) = (n == 8 || n == 64) := by
    by_cases h8 : n = 8
    · subst h8; rfl
    · by_cases h64 : n = 64
      · subst h64; rfl
      · have a1 : ((n : Int) == 8) = false := by simp; omega
        have a2 : ((n : Int) == 64) = false := by simp; omega
        have a3 : (n == 8) = false := by simpa using h8
        have a4 : (n == 64) = false := by simpa using h64
        rw [a1, a2, a3, a4]
  rwa [e] at h
theorem left_yes (n : Nat) (hn : n = 8 ∨ n = 64) (a : Option Addr) (cap : Nat) (X : Nat → Int) (hX : Fit30 X n) (w : World) (ht : STab w) (h : IsInts w a n cap X) :
    Calls Tryd.prog 12 #[.slice a n cap] w fun e w' => e = .returned (arr8 (leftF X)) ∧ Below w.heap.size w w' := by
  have K1 : Hid (∀ W, Calls Tryd.prog 18 #[.int .i64 (n : Int)] W fun e w' => e = .returned (.bool true) ∧ w' = W) := fun W => by
    have := isBlock_any (n : Int) W
    rwa [show (((n : Int) == 8 || (n : Int) == 64) = true) by rcases hn with rfl | rfl <;> rfl] at this
  have K2 : Hid (∀ W, Below w.heap.size w W → Calls Tryd.prog 19 #[.int .i64 1073741824, .slice a n cap] W fun e w' => e = .returned (.bool true) ∧ w' = W) := fun W hW => by
    have := wwithin_any 1073741824 (by omega) a n cap X (by omega) W (h.below hW)
    rwa [(allIn_iff (-1073741824) 1073741824 X n).2 hX] at this
  have K3 := hid facing_any
  obtain ⟨b, off, rfl, hc⟩ := h.cells (by omega)
  obtain ⟨B, hB, HT⟩ : ∃ B, B = w.heap.size ∧ Hid (Twin B w.heap.size (w.heap.size + 1) (fun _ => 0) (fun _ => 0) w ((w.alloc (.cells #[Value.int .i64 0, Value.int .i64 0, Value.int .i64 0, Value.int .i64 0, Value.int .i64 0, Value.int .i64 0, Value.int .i64 0, Value.int .i64 0] 24)).alloc (.cells #[Value.int .i64 0, Value.int .i64 0, Value.int .i64 0, Value.int .i64 0, Value.int .i64 0, Value.int .i64 0, Value.int .i64 0, Value.int .i64 0] 24))) := ⟨_, rfl, made_twin w⟩
  rw [← hB] at hc K2
  have HS := hid (fun W (hW : Below B w W) => ht.frame hW (by rw [hB]; exact ht.lt))
  have HB := hid hB
  have HC := hid hc
  have HX := hid hX
  clear hc h hB ht hX
  go_enter Tryd.func12, Tryd.ntmps12
  go_wp2_with (first
    | (go_at_call 18; (with_reducible refine (K1.out _).mono ?_); rintro e w1 ⟨rfl, rfl⟩)
    | (go_at_call 19; (with_reducible refine (K2.out _ HT.out.bel).mono ?_); rintro e w1 ⟨rfl, rfl⟩))
  generalize ((w.alloc (.cells #[Value.int .i64 0, Value.int .i64 0, Value.int .i64 0, Value.int .i64 0, Value.int .i64 0, Value.int .i64 0, Value.int .i64 0, Value.int .i64 0] 24)).alloc (.cells #[Value.int .i64 0, Value.int .i64 0, Value.int .i64 0, Value.int .i64 0, Value.int .i64 0, Value.int .i64 0, Value.int .i64 0, Value.int .i64 0] 24)) = W at HT ⊢
  generalize w.heap.size + 1 = q at HT ⊢
  generalize w.heap.size = r at HT ⊢
  go_loopw [17] (fun i wr => ∃ k : Nat, k ≤ 4 ∧ i = .int .i64 k ∧ Hid (Twin B r q (fun _ => 0) (mid k (leftF X)) w wr)) (fun i _ => 4 - (intOf i).toNat)
  case atStart => exact ⟨0, Nat.zero_le _, rfl, HT.out.congr fun i _ => mid_zero _ i⟩
  case round =>
    clear HT
    obtain ⟨k, hk, rfl, HT⟩ := hrel
    by_cases hlt : k < 4
    · have hcx := HC.out _ HT.out.bel k (by omega)
      have hsu := (HS.out _ HT.out.bel).cell (j := 4 + k) (by omega)
      have hsv := (HS.out _ HT.out.bel).cell (j := 3 - k) (by omega)
      have hcu := HT.out.b.get (j := 4 + k) (by omega)
      have hfu := HT.out.b.frozen (4 + k)
      have HF := hid (K3.out k hlt wr)
      have bx := HX.out k (by omega)
      have bu := wF_bd (4 + k)
      have bv := wF_bd (3 - k)
      have m1 := wwr_in (x := wF (4 + k) * X k) (by have := mul_bd' bu.1 bu.2 bx.1 bx.2; omega)
      have m2 := wwr_in (x := wF (3 - k) * X k) (by have := mul_bd' bv.1 bv.2 bx.1 bx.2; omega)
      have HN : Hid (∀ W1, Twin B r q (fun _ => 0) (upd (mid k (leftF X)) (4 + k) (wF (4 + k) * X k)) w W1 → Twin B r q (fun _ => 0) (mid (k + 1) (leftF X)) w (W1.setCell ⟨q, 3 - k, none⟩ (.int .i64 (wF (3 - k) * X k)))) := fun W1 h1 =>
        (h1.set (j := 3 - k) (by omega) _).congr (fun i _ => by rw [← left_up hlt, ← left_dn hlt]; exact mid_next hlt (leftF X) i)
      have hu8 : 4 + k < 8 := by omega
      have hv8 : 3 - k < 8 := by omega
      clear bx bu bv
      have ⟨x, hx⟩ : ∃ x, x = X k := ⟨_, rfl⟩
      have ⟨sv, hsv'⟩ : ∃ s, s = wF (3 - k) := ⟨_, rfl⟩
      rw [← hx] at m1 m2 hcx HN
      rw [← hsv'] at m2 HN
      clear hsv
      have HXE := hid hx
      generalize hvv : 3 - k = v at *
      have HV := hid hsv'
      clear hx hsv' hvv
      generalize wF (4 + k) = su at *
      generalize 4 + k = u at *
      go_wp2_with (go_at_call 21; (with_reducible refine HF.out.mono ?_); rintro e w1 ⟨rfl, rfl⟩)
      go_region
      have HW := hid ((HT.out.set hu8 (su * x)).drew)
      generalize (w1.setCell ⟨q, u, none⟩ (.int .i64 (su * x))).drew = W1 at HW ⊢
      have hcx := HC.out _ HW.out.bel k (by omega)
      have hsv := (HS.out _ HW.out.bel).cell hv8
      rw [← HV.out] at hsv
      have hcv := HW.out.b.get hv8
      have hfv := HW.out.b.frozen v
      rw [← HXE.out] at hcx
      clear hsu hcu hfu HT
      go_wp2
      go_region
      have HZ := hid (HN.out _ HW.out).drew
      generalize (W1.setCell ⟨q, v, none⟩ (.int .i64 (sv * x))).drew = W2 at HZ ⊢
      go_wp2
      exact ⟨⟨k + 1, by omega, by go_num, HZ⟩, by simp [intOf]; omega⟩
    · obtain rfl : k = 4 := by omega
      have HL := HT.out.last
      go_wp2_with (first | (refine wp_load8 rfl rfl rfl HT.out.b ?_) | (refine wp_store8 rfl rfl rfl rfl HT.out.a ?_))
      refine bodyPost_ret (ret8 rfl _ rfl HL.1) rfl ⟨by rw [arr8_congr (mid_all (leftF X))], ?_⟩
      rw [← HB.out]; exact HL.2
theorem left_no (n : Nat) (a : Option Addr) (cap : Nat) (X : Nat → Int) (hl : n ≤ 1000) (hX : blk30 X n = false) (w : World) (h : IsInts w a n cap X) :
    Calls Tryd.prog 12 #[.slice a n cap] w fun e w' => e = .returned (arr8 fun _ => 0) ∧ Below w.heap.size w w' := by
  have K1 := hid (isBlock_nat n)
  have K2 : Hid (∀ W, Below w.heap.size w W → Calls Tryd.prog 19 #[.int .i64 1073741824, .slice a n cap] W fun e w' => e = .returned (.bool (allIn (-1073741824) 1073741824 X n)) ∧ w' = W) := fun W hW =>
    wwithin_any 1073741824 (by omega) a n cap X hl W (h.below hW)
  obtain ⟨B, hB, HT⟩ : ∃ B, B = w.heap.size ∧ Hid (Twin B w.heap.size (w.heap.size + 1) (fun _ => 0) (fun _ => 0) w ((w.alloc (.cells #[Value.int .i64 0, Value.int .i64 0, Value.int .i64 0, Value.int .i64 0, Value.int .i64 0, Value.int .i64 0, Value.int .i64 0, Value.int .i64 0] 24)).alloc (.cells #[Value.int .i64 0, Value.int .i64 0, Value.int .i64 0, Value.int .i64 0, Value.int .i64 0, Value.int .i64 0, Value.int .i64 0, Value.int .i64 0] 24))) := ⟨_, rfl, made_twin w⟩
  rw [← hB] at K2
  have HB := hid hB
  have HL := HT.out.last
  clear h hB
  unfold blk30 at hX
  by_cases hn : (n == 8 || n == 64) = true
  · rw [hn, Bool.true_and] at hX
    rw [hX] at K2
    rw [hn] at K1
    clear hn hX
    go_enter Tryd.func12, Tryd.ntmps12
    go_wp2_with (first
      | (go_at_call 18; (with_reducible refine (K1.out _).mono ?_); rintro e w1 ⟨rfl, rfl⟩)
      | (go_at_call 19; (with_reducible refine (K2.out _ HT.out.bel).mono ?_); rintro e w1 ⟨rfl, rfl⟩)
      | (refine wp_load8 rfl rfl rfl HT.out.b ?_) | (refine wp_store8 rfl rfl rfl rfl HT.out.a ?_))
    refine bodyPost_ret (ret8 rfl _ rfl HL.1) rfl ⟨rfl, ?_⟩
    have e := HL.2; rw [HB.out] at e; exact e
  · have hn' : (n == 8 || n == 64) = false := by simpa using hn
    rw [hn'] at K1
    clear hn hn' hX
    go_enter Tryd.func12, Tryd.ntmps12
    go_wp2_with (first
      | (go_at_call 18; (with_reducible refine (K1.out _).mono ?_); rintro e w1 ⟨rfl, rfl⟩)
      | (refine wp_load8 rfl rfl rfl HT.out.b ?_) | (refine wp_store8 rfl rfl rfl rfl HT.out.a ?_))
    refine bodyPost_ret (ret8 rfl _ rfl HL.1) rfl ⟨rfl, ?_⟩
    have e := HL.2; rw [HB.out] at e; exact e
end Go.Proofs.YtjeglfhdgabdoaaDoor
