/-
  The contract of window.Fold.
-/
import Derived.Test.YtfhcfdepjhdhfaaDoorZL
import Derived.Test.YtfhcfdepjhdhfaaDoorZD
import Derived.Test.YtfhcfdepjhdhfaaDoorZA
namespace Go.Proofs.YtfhcfdepjhdhfaaDoor
open Go.ChangeShapes Go.WideShapes Go.ChangeAt Go.RowKit
set_option linter.unusedVariables false

/-- A copy out of a longer slice. -/
theorem copy_row2 {n m : Nat} {X Z : Nat → Int} {r b off ca : Nat} {w : World} (hm : n ≤ m) (hr : RowAt r n Z w) (hc : ∀ i, i < n → w.cell? ⟨b, off + i, none⟩ = some (.int .i64 (X i))) (ty : TypeId) :
    (Builtin.copy_ #[23, 23] ty #[.slice (some ⟨r, 0, none⟩) n n, .slice (some ⟨b, off, none⟩) m ca]).run Tryd.prog w = .ok (goInt n) (w.setRow r (rowA n X)) := by
  have hl : (rowA n X).toList.length = n := by simp [rowA]
  have := run_copy_row (P := Tryd.prog) w 23 23 ty 3 r 0 n n ⟨b, off, none⟩ m ca (rowA n Z) 3 (rowA n X).toList Tryd.underlying23 (by kernel_rfl) hr (by rw [hl]; exact (Nat.min_eq_right hm).symm)
    (fun j v hv => by
      have hj : j < n := by
        have := (List.getElem?_eq_some_iff.1 hv).1
        rw [hl] at this; exact this
      have e := rowA_get (X := X) hj
      rw [Array.getElem?_toList] at hv
      rw [e] at hv
      rw [← hv]
      rw [addr_add]; exact hc j hj) (by rw [hl]; simp [rowA]) (fun v hv => by
      obtain ⟨j, hj⟩ := List.mem_iff_getElem?.1 hv
      have hj' : j < n := by
        have := (List.getElem?_eq_some_iff.1 hj).1
        rw [hl] at this; exact this
      rw [Array.getElem?_toList, rowA_get hj'] at hj
      rw [← Option.some.inj hj]; rfl)
  rw [hl] at this
  rw [this]
  have hz : (rowA n Z).toList.drop (0 + n) = [] := List.drop_eq_nil_of_le (by simp [rowA])
  rw [hz]
  congr 2
  simp
/-- Numbers that are folded lie from -2^24 to 2^24. -/
abbrev Fit24 (X : Nat → Int) (n : Nat) : Prop := ∀ i, i < n → -16777216 ≤ X i ∧ X i ≤ 16777216
def fold24 (X : Nat → Int) (len : Nat) : Bool := (len == 16 || len == 72) && allIn (-16777216) 16777216 X len
theorem fold24_iff {X : Nat → Int} {n : Nat} : fold24 X n = true ↔ (n = 16 ∨ n = 72) ∧ Fit24 X n := by
  simp [fold24, allIn_iff]
/-- A new row of n numbers. -/
def FoPost (n : Nat) (G : Nat → Int) (w : World) (e : Ending) (w' : World) : Prop := ∃ r, e = .returned (.slice (some ⟨r, 0, none⟩) n n) ∧ RowAt r n G w' ∧ Below w.heap.size w w' ∧ w.heap.size ≤ r
/-- What is folded, on the way: the row r, the samples that are shared in p and s. -/
structure FoldS (B r p s n : Nat) (F G U : Nat → Int) (w0 w : World) : Prop where
  rB : B ≤ r
  pr : p ≠ r
  sr : s ≠ r
  a : RowAt r n U w
  f : ArrAt p F w
  g : ArrAt s G w
  bel : Below B w0 w
theorem FoldS.tr {B r p s n : Nat} {F G U : Nat → Int} {w0 w w' : World} (h : FoldS B r p s n F G U w0 w) (hb : Below w.heap.size w w') : FoldS B r p s n F G U w0 w' :=
  ⟨h.rB, h.pr, h.sr, h.a.below hb, h.f.below hb, h.g.below hb, h.bel.trans (hb.mono (Nat.le_trans h.rB (Nat.le_of_lt h.a.lt)))⟩
theorem FoldS.set {B r p s n : Nat} {F G U V : Nat → Int} {w0 w : World} (h : FoldS B r p s n F G U w0 w) {j : Nat} (hj : j < n) (x : Int) (e : ∀ i, upd U j x i = V i) : FoldS B r p s n F G V w0 (w.setCell ⟨r, j, none⟩ (.int .i64 x)) :=
  ⟨h.rB, h.pr, h.sr, (h.a.set hj x).congr fun i _ => e i, h.f.other h.pr _, h.g.other h.sr _, h.bel.setCell (show B ≤ (Addr.mk r j none).block from h.rB) _⟩
theorem made_folds {B r n : Nat} {U : Nat → Int} {w0 w3 : World} (F G : Nat → Int) (rB : B ≤ r) (ha : RowAt r n U w3) (hb : Below B w0 w3) :
    FoldS B r w3.heap.size (w3.heap.size + 1) n F G U w0 ((((w3.alloc (.cells #[Value.int .i64 0, Value.int .i64 0, Value.int .i64 0, Value.int .i64 0, Value.int .i64 0, Value.int .i64 0, Value.int .i64 0, Value.int .i64 0] 22)).alloc (.cells #[Value.int .i64 0, Value.int .i64 0, Value.int .i64 0, Value.int .i64 0, Value.int .i64 0, Value.int .i64 0, Value.int .i64 0, Value.int .i64 0] 22)).setRow w3.heap.size (rowA 8 F)).setRow (w3.heap.size + 1) (rowA 8 G)) := by
  have ht := made_twin w3
  have hB : B ≤ w3.heap.size := Nat.le_trans rB (Nat.le_of_lt ha.lt)
  have hl := ha.lt
  have h1 : RowAt r n U ((w3.alloc (.cells #[Value.int .i64 0, Value.int .i64 0, Value.int .i64 0, Value.int .i64 0, Value.int .i64 0, Value.int .i64 0, Value.int .i64 0, Value.int .i64 0] 22)).alloc (.cells #[Value.int .i64 0, Value.int .i64 0, Value.int .i64 0, Value.int .i64 0, Value.int .i64 0, Value.int .i64 0, Value.int .i64 0, Value.int .i64 0] 22)) := ha.below ht.bel
  refine ⟨rB, by omega, by omega, ?_, ?_, ?_, ?_⟩
  · exact (setRow_other _ _ r _ (by omega)).trans ((setRow_other _ _ r _ (by omega)).trans h1)
  · exact (ht.a.laid F).kept ht.ne _
  · exact (ht.b.kept (Ne.symm ht.ne) _).laid G
  · exact below_setRow (below_setRow (hb.trans (ht.bel.mono hB)) hB _) (by omega) _
/-- Folded at the first k places and the last k. -/
def midU (n : Nat) (X : Nat → Int) (k : Nat) : Nat → Int := fun j => if j < k ∨ n ≤ j + k then wFoldF n X j else X (4 + j)
theorem midU_next {n k : Nat} (X : Nat → Int) (hk : k < 4) (hn : 8 ≤ n) (i : Nat) (hi : i < n) : upd (upd (midU n X k) k (wFoldF n X k)) (n - 1 - k) (wFoldF n X (n - 1 - k)) i = midU n X (k + 1) i := by
  unfold upd midU
  by_cases e : i = n - 1 - k
  · subst e; rw [if_pos rfl, if_pos (by omega)]
  · rw [if_neg e]
    by_cases e2 : i = k
    · subst e2; rw [if_pos rfl, if_pos (by omega)]
    · rw [if_neg e2]
      by_cases h : i < k ∨ n ≤ i + k
      · rw [if_pos h, if_pos (by omega)]
      · rw [if_neg h, if_neg (by omega)]
theorem midU_zero {n : Nat} (X : Nat → Int) (i : Nat) (hi : i < n) : X (4 + i) = midU n X 0 i := by rw [midU, if_neg (by omega)]
theorem midU_all {n : Nat} (X : Nat → Int) (hn : 8 ≤ n) (i : Nat) (hi : i < n) : midU n X 4 i = wFoldF n X i := by
  rw [midU]
  by_cases h : i < 4 ∨ n ≤ i + 4
  · rw [if_pos h]
  · rw [if_neg h, wFoldF, if_neg (by omega), if_neg (by omega)]
theorem fold_head {n k : Nat} (X : Nat → Int) (hk : k < 4) : wFoldF n X k = sh15 (wF (4 + k) * X (4 + k) + wF (3 - k) * X (3 - k)) := by rw [wFoldF, if_pos hk]; rfl
theorem fold_tail {n k : Nat} (X : Nat → Int) (hk : k < 4) (hn : 8 ≤ n) : wFoldF n X (n - 1 - k) = sh15 (wF (4 + k) * X (n + (3 - k)) - wF (3 - k) * X (n + (4 + k))) := by
  rw [wFoldF, if_neg (by omega), if_pos (by omega), tailI, show n - 1 - (n - 1 - k) = k by omega, show n + 3 - k = n + (3 - k) by omega, show n + 4 + k = n + (4 + k) by omega]
theorem fold_no (len : Nat) (a : Option Addr) (cap : Nat) (X : Nat → Int) (hl : len ≤ 1000) (hX : fold24 X len = false) (w : World) (h : IsInts w a len cap X) :
    Calls Tryd.prog 41 #[.slice a len cap] w fun e w' => e = .returned (.slice none 0 0) ∧ w' = w := by
  have K2 := hid (wwithin_any 16777216 (by omega) a len cap X hl w h)
  clear h
  unfold fold24 at hX
  by_cases hn : (len == 16 || len == 72) = true
  · rw [hn, Bool.true_and] at hX
    have K3 := K2.out
    rw [hX] at K3
    have K3 := hid K3
    have hn' : len = 16 ∨ len = 72 := by simpa using hn
    have K1 : Hid (Calls Tryd.prog 48 #[.int .i64 ((len : Int) - 8)] w fun e w' => e = .returned (.bool true) ∧ w' = w) := by
      have := isBlock_any ((len : Int) - 8) w
      rcases hn' with rfl | rfl <;> exact this
    clear hn hX K2
    have hlen : 16 ≤ len := by omega
    go_enter Tryd.func41, Tryd.ntmps41
    go_wp2_with (first
      | (go_at_call 48; (with_reducible refine K1.out.mono ?_); rintro e w1 ⟨rfl, rfl⟩)
      | (go_at_call 46; (with_reducible refine K3.out.mono ?_); rintro e w1 ⟨rfl, rfl⟩))
    go_ret
    exact ⟨rfl, rfl⟩
  · have hn' : ¬ (len = 16 ∨ len = 72) := by simpa using hn
    have K1 : Hid (Calls Tryd.prog 48 #[.int .i64 ((len : Int) - 8)] w fun e w' => e = .returned (.bool false) ∧ w' = w) := by
      have := isBlock_any ((len : Int) - 8) w
      have e1 : (((len : Int) - 8) == 8) = false := by simp; omega
      have e2 : (((len : Int) - 8) == 64) = false := by simp; omega
      rwa [e1, e2] at this
    clear hn hX K2
    go_enter Tryd.func41, Tryd.ntmps41
    go_wp2_with (go_at_call 48; (with_reducible refine K1.out.mono ?_); rintro e w1 ⟨rfl, rfl⟩)
    go_ret
    exact ⟨rfl, rfl⟩
theorem fold_yes (n len : Nat) (hn : n = 8 ∨ n = 64) (hlen : len = n + 8) (a : Option Addr) (cap : Nat) (X : Nat → Int) (hX : Fit24 X len) (w : World) (ht : STab w) (h : IsInts w a len cap X) :
    Calls Tryd.prog 41 #[.slice a len cap] w (FoPost n (wFoldF n X) w) := by
  have K1 : Hid (Calls Tryd.prog 48 #[.int .i64 (n : Int)] w fun e w' => e = .returned (.bool true) ∧ w' = w) := by
    have := isBlock_any (n : Int) w
    rcases hn with rfl | rfl <;> exact this
  have K2 : Hid (Calls Tryd.prog 46 #[.int .i64 16777216, .slice a len cap] w fun e w' => e = .returned (.bool true) ∧ w' = w) := by
    have := wwithin_any 16777216 (by omega) a len cap X (by omega) w h
    rwa [(allIn_iff (-16777216) 16777216 X len).2 hX] at this
  have hle : (len : Int) - 8 = (n : Int) := by omega
  have hmk := make_ints (n := n) (by omega)
  obtain ⟨b, off, rfl, hc⟩ := h.cells (by omega)
  have HI := hid h
  have HLn := hid hlen
  have HX := hid hX
  have HS := hid ht
  have h16 : 16 ≤ len := by omega
  have h72 : len ≤ 72 := by omega
  have hcap : len ≤ cap := by
    rcases h with h | ⟨_, _, _, _, h, _, _⟩
    · omega
    · exact h
  have h64 : n ≤ 64 := by omega
  have h8 : 8 ≤ n := by omega
  have hr := al_new w (.cells (rowA n (fun _ => 0)) 3)
  have cp := fun ty => copy_row2 (n := n) (m := len - 4) (X := fun i => X (4 + i)) (Z := fun _ => 0) (ca := cap - 4) (off := off + 4) (b := b) (r := w.heap.size) (by omega) hr (fun i hi => by rw [Nat.add_assoc]; exact hc _ ((Below.refl _ w).alloc (Nat.le_refl _) _) (4 + i) (by omega)) ty
  have HB0 : Hid (RowAt w.heap.size n (fun i => X (4 + i)) ((w.alloc (.cells (rowA n (fun _ => 0)) 3)).setRow w.heap.size (rowA n fun i => X (4 + i))) ∧ Below w.heap.size w ((w.alloc (.cells (rowA n (fun _ => 0)) 3)).setRow w.heap.size (rowA n fun i => X (4 + i)))) :=
    ⟨setRow_heap _ _ _ _ _ _ hr, below_setRow ((Below.refl _ w).alloc (Nat.le_refl _) _) (Nat.le_refl _) _⟩
  clear hlen hc hX ht h hn hr
  go_enter Tryd.func41, Tryd.ntmps41
  go_wp2_with (first
    | (go_at_call 48; (with_reducible refine K1.out.mono ?_); rintro e w1 ⟨rfl, rfl⟩)
    | (go_at_call 46; (with_reducible refine K2.out.mono ?_); rintro e w1 ⟨rfl, rfl⟩))
  generalize (w1.alloc (.cells (rowA n (fun _ => 0)) 3)).setRow w1.heap.size (rowA n fun i => X (4 + i)) = W0 at HB0 ⊢
  obtain ⟨B, hB⟩ : ∃ B, B = w1.heap.size := ⟨_, rfl⟩
  have HB1 : Hid (RowAt w1.heap.size n (fun i => X (4 + i)) W0 ∧ Below B w1 W0) := by rw [hB]; exact HB0
  clear HB0 cp hmk K1 K2
  have HB := hid hB
  clear hB
  generalize hrr : w1.heap.size = r at HB1 ⊢
  have HR := hid hrr
  clear hrr
  have K3 := shared_any 0 (some ⟨b, off, none⟩) len cap X (by omega) (by omega) W0 (HI.out.below (by rw [← HB.out]; exact HB1.out.2))
  obtain ⟨F, hF⟩ : ∃ F : Nat → Int, F = fun k => X (0 + k) := ⟨_, rfl⟩
  rw [← hF] at K3
  have HF : Hid (∀ k, F k = X k) := fun k => by rw [hF]; show X (0 + k) = X k; rw [Nat.zero_add]
  clear hF
  refine K3.mono ?_
  rintro e w2 ⟨rfl, b2⟩
  have HB2 : Hid (RowAt r n (fun i => X (4 + i)) w2 ∧ Below B w1 w2) := ⟨HB1.out.1.below b2, HB1.out.2.trans (b2.mono (by have := HB1.out.2.size; rw [HB.out]; exact this))⟩
  clear HB1 b2 K3
  go_wp2_with (fail)
  have K4 := shared_any n (some ⟨b, off, none⟩) len cap X (by omega) (by have := HLn.out; omega) w2 (HI.out.below (by rw [← HB.out]; exact HB2.out.2))
  obtain ⟨G, hG⟩ : ∃ G : Nat → Int, G = fun k => X (n + k) := ⟨_, rfl⟩
  rw [← hG] at K4
  have HG : Hid (∀ k, G k = X (n + k)) := fun k => by rw [hG]
  clear hG
  refine K4.mono ?_
  rintro e w3 ⟨rfl, b3⟩
  have HB3 : Hid (RowAt r n (fun i => X (4 + i)) w3 ∧ Below B w1 w3) := ⟨HB2.out.1.below b3, HB2.out.2.trans (b3.mono (by have := HB2.out.2.size; rw [HB.out]; exact this))⟩
  clear HB2 b3 K4
  have HT := hid (made_twin w3)
  have HT2 := hid (HT.out.b.kept (q := w3.heap.size) (Ne.symm HT.out.ne) (rowA 8 F))
  go_wp2_with (first | (refine wp_store8 rfl rfl rfl rfl HT.out.a ?_) | (refine wp_store8 rfl rfl rfl rfl HT2.out ?_))
  have HZ := hid (made_folds F G (by rw [HB.out, HR.out]; exact Nat.le_refl _) HB3.out.1 HB3.out.2)
  generalize ((((w3.alloc (.cells #[Value.int .i64 0, Value.int .i64 0, Value.int .i64 0, Value.int .i64 0, Value.int .i64 0, Value.int .i64 0, Value.int .i64 0, Value.int .i64 0] 22)).alloc (.cells #[Value.int .i64 0, Value.int .i64 0, Value.int .i64 0, Value.int .i64 0, Value.int .i64 0, Value.int .i64 0, Value.int .i64 0, Value.int .i64 0] 22)).setRow w3.heap.size (rowA 8 F)).setRow (w3.heap.size + 1) (rowA 8 G)) = W4 at HZ ⊢
  generalize w3.heap.size + 1 = s at HZ ⊢
  generalize w3.heap.size = p at HZ ⊢
  clear HT HT2 HB3
  have HS1 : Hid (∀ W, Below B w1 W → STab W) := fun W hW => HS.out.frame hW (by rw [HB.out]; exact HS.out.lt)
  clear HS HI HR
  go_loopw [32] (fun i wr => ∃ k : Nat, k ≤ 4 ∧ i = .int .i64 k ∧ Hid (FoldS B r p s n F G (midU n X k) w1 wr)) (fun i _ => 4 - (intOf i).toNat)
  case atStart => exact ⟨0, Nat.zero_le _, rfl, ⟨HZ.out.rB, HZ.out.pr, HZ.out.sr, HZ.out.a.congr (midU_zero X), HZ.out.f, HZ.out.g, HZ.out.bel⟩⟩
  case round =>
    clear HZ
    obtain ⟨k, hk, rfl, HZ⟩ := hrel
    by_cases hlt : k < 4
    · have HF4 := hid (facing_any k hlt wr)
      have hu8 : 4 + k < 8 := by omega
      have hv8 : 3 - k < 8 := by omega
      have hzn : n - 1 - k < n := by omega
      have hix : ((n : Int) - 1 - (k : Int)) = ((n - 1 - k : Nat) : Int) := by omega
      have hkn : k < n := by omega
      have E1 := HF.out (4 + k)
      have E2 := HF.out (3 - k)
      have E3 := HG.out (4 + k)
      have E4 := HG.out (3 - k)
      have b1 := HX.out (4 + k) (by have := HLn.out; omega)
      have b2 := HX.out (3 - k) (by have := HLn.out; omega)
      have b3 := HX.out (n + (4 + k)) (by have := HLn.out; omega)
      have b4 := HX.out (n + (3 - k)) (by have := HLn.out; omega)
      have bu := wF_bd (4 + k)
      have bv := wF_bd (3 - k)
      have M1 := mul_bd' bu.1 bu.2 b1.1 b1.2
      have M2 := mul_bd' bv.1 bv.2 b2.1 b2.2
      have M3 := mul_bd' bu.1 bu.2 b4.1 b4.2
      have M4 := mul_bd' bv.1 bv.2 b3.1 b3.2
      rw [← E1] at M1
      rw [← E2] at M2
      rw [← E4] at M3
      rw [← E3] at M4
      have H1 : wFoldF n X k = shrF (wF (4 + k) * F (4 + k) + wF (3 - k) * F (3 - k)) 15 := by
        rw [fold_head X hlt, shr_sh15 (by omega) (by omega), E1, E2]
      have H2 : wFoldF n X (n - 1 - k) = shrF (wF (4 + k) * G (3 - k) - wF (3 - k) * G (4 + k)) 15 := by
        rw [fold_tail X hlt h8, shr_sh15 (by omega) (by omega), E3, E4]
      have HN := hid (midU_next (n := n) X hlt h8)
      rw [H1, H2] at HN
      have S1 : Hid (∀ W, Below B w1 W → W.cell? ⟨0, 4 + k, none⟩ = some (.int .i64 (wF (4 + k)))) := fun W hW => (HS1.out W hW).cell hu8
      have S2 : Hid (∀ W, Below B w1 W → W.cell? ⟨0, 3 - k, none⟩ = some (.int .i64 (wF (3 - k)))) := fun W hW => (HS1.out W hW).cell hv8
      clear H1 H2 E1 E2 E3 E4 b1 b2 b3 b4 bu bv
      generalize n - 1 - k = z at *
      generalize wF (4 + k) = su at *
      generalize wF (3 - k) = sv at *
      generalize 4 + k = u at *
      generalize 3 - k = v at *
      have m1 : wrap64 (su * F u) = su * F u := wwr_in (by omega)
      have m2 : wrap64 (sv * F v) = sv * F v := wwr_in (by omega)
      have m3 : wrap64 (su * F u + sv * F v) = su * F u + sv * F v := wwr_in (by omega)
      have m4 : wrap64 (su * G v) = su * G v := wwr_in (by omega)
      have m5 : wrap64 (sv * G u) = sv * G u := wwr_in (by omega)
      have m6 : wrap64 (su * G v - sv * G u) = su * G v - sv * G u := wwr_in (by omega)
      clear M1 M2 M3 M4
      have D : Hid (∀ W', Below wr.heap.size wr W' → W'.cell? ⟨p, u, none⟩ = some (.int .i64 (F u)) ∧ W'.cell? ⟨p, v, none⟩ = some (.int .i64 (F v)) ∧ W'.cell? ⟨0, u, none⟩ = some (.int .i64 su) ∧ W'.cell? ⟨0, v, none⟩ = some (.int .i64 sv)) := fun W' hq =>
        ⟨(HZ.out.tr hq).f.get hu8, (HZ.out.tr hq).f.get hv8, S1.out _ (HZ.out.tr hq).bel, S2.out _ (HZ.out.tr hq).bel⟩
      have K1 : Hid (∀ W, Below wr.heap.size wr W → Calls Tryd.prog 47 #[.int .i64 (su * F u + sv * F v), .int .i64 15] W fun e w' => e = .returned (.int .i64 (shrF (su * F u + sv * F v) 15)) ∧ Below wr.heap.size wr w') := fun W hW =>
        (shr_any _ 15 W).mono fun e w' ⟨he, hb⟩ => ⟨he, below_then hW hb⟩
      have HY : Hid (∀ W, FoldS B r p s n F G (upd (midU n X k) k (shrF (su * F u + sv * F v) 15)) w1 W → FoldS B r p s n F G (midU n X (k + 1)) w1 (W.setCell ⟨r, z, none⟩ (.int .i64 (shrF (su * G v - sv * G u) 15)))) := fun W hW =>
        have h := hW.set hzn (shrF (su * G v - sv * G u) 15) (fun i => rfl)
        ⟨h.rB, h.pr, h.sr, h.a.congr (fun i hi => HN.out i hi), h.f, h.g, h.bel⟩
      clear HN
      have K2 : Hid (∀ W, Calls Tryd.prog 47 #[.int .i64 (su * G v - sv * G u), .int .i64 15] W fun e w' => e = .returned (.int .i64 (shrF (su * G v - sv * G u) 15)) ∧ Below W.heap.size W w') := fun W => shr_any _ 15 W
      generalize shrF (su * G v - sv * G u) 15 = R2 at *
      generalize shrF (su * F u + sv * F v) 15 = R1 at *
      have hg1 : decide (u < 8) = true := decide_eq_true hu8
      have hg2 : decide (v < 8) = true := decide_eq_true hv8
      have hg3 : decide (k < n) = true := decide_eq_true hkn
      have hg4 : decide (z < n) = true := decide_eq_true hzn
      go_wp2_with (go_at_call 49; (with_reducible refine HF4.out.mono ?_); rintro e w5 ⟨rfl, rfl⟩)
      have HZ1 := HZ
      have d1 := fun W' hq => (D.out W' hq).1
      have d2 := fun W' hq => (D.out W' hq).2.1
      have d3 := fun W' hq => (D.out W' hq).2.2.1
      have d4 := fun W' hq => (D.out W' hq).2.2.2
      clear HZ D
      refine' region_last_plain (C := Below w5.heap.size w5) (m := 19) (by kernel_rfl) (by kernel_rfl) (by kernel_rfl) rfl rfl rfl rfl (Below.refl _ _).drew
        (Qa := fun a' => a' = _) ?_ ?_
      rotate_left
      · dsimp only [idleLast, idle]
        repeat (go_big_quiet_step (first
          | (intro hq; rfl)
          | (intro hq; rw [d1 _ hq]; exact ⟨rfl, rfl⟩)
          | (intro hq; rw [d2 _ hq]; exact ⟨rfl, rfl⟩)
          | (intro hq; rw [d3 _ hq]; exact ⟨rfl, rfl⟩)
          | (intro hq; rw [d4 _ hq]; exact ⟨rfl, rfl⟩)
          | (intro hq; go_at_call 47; (with_reducible exact K1.out _ hq))))
        refine wpQuiet_nil ?_
        exact rfl
      · rintro a' W' hq rfl
        have HZ2 := HZ1.out.tr hq
        refine exec_store (fun _ => trivial) Tryd.sizeOf3 rfl rfl rfl rfl (HZ2.a.get hkn) (IsAt.frozen HZ2.a k) ?_
        have HZ3 := hid (HZ2.set hkn R1 (fun i => rfl))
        generalize W'.setCell ⟨r, k, none⟩ (.int .i64 R1) = W3 at HZ3 ⊢
        clear hq HZ2 d1 d2 d3 d4 K1 HZ1
        have d1 : ∀ W', Below W3.heap.size W3 W' → W'.cell? ⟨s, u, none⟩ = some (.int .i64 (G u)) := fun W' hq => (HZ3.out.tr hq).g.get hu8
        have d2 : ∀ W', Below W3.heap.size W3 W' → W'.cell? ⟨s, v, none⟩ = some (.int .i64 (G v)) := fun W' hq => (HZ3.out.tr hq).g.get hv8
        have d3 : ∀ W', Below W3.heap.size W3 W' → W'.cell? ⟨0, u, none⟩ = some (.int .i64 su) := fun W' hq => S1.out _ (HZ3.out.tr hq).bel
        have d4 : ∀ W', Below W3.heap.size W3 W' → W'.cell? ⟨0, v, none⟩ = some (.int .i64 sv) := fun W' hq => S2.out _ (HZ3.out.tr hq).bel
        have K3 : Hid (∀ W, Below W3.heap.size W3 W → Calls Tryd.prog 47 #[.int .i64 (su * G v - sv * G u), .int .i64 15] W fun e w' => e = .returned (.int .i64 R2) ∧ Below W3.heap.size W3 w') := fun W hW =>
          (K2.out W).mono fun e w' ⟨he, hb⟩ => ⟨he, below_then hW hb⟩
        have hi1 : wrap64 ((n : Int) - 1) = (n : Int) - 1 := wwr_in (by omega)
        have hi2 : wrap64 ((n : Int) - 1 - (k : Int)) = (z : Int) := by rw [hix]; exact wwr_in (by omega)
        clear K2 S1 S2 m1 m2 m3
        go_wp2
        refine' region_last_plain (C := Below W3.heap.size W3) (m := 22) (by kernel_rfl) (by kernel_rfl) (by kernel_rfl) rfl rfl rfl rfl (Below.refl _ _).drew
          (Qa := fun a' => a' = _) ?_ ?_
        rotate_left
        · dsimp only [idleLast, idle]
          repeat (go_big_quiet_step (first
            | (intro hq; rfl)
            | (intro hq; rw [d1 _ hq]; exact ⟨rfl, rfl⟩)
            | (intro hq; rw [d2 _ hq]; exact ⟨rfl, rfl⟩)
            | (intro hq; rw [d3 _ hq]; exact ⟨rfl, rfl⟩)
            | (intro hq; rw [d4 _ hq]; exact ⟨rfl, rfl⟩)
            | (intro hq; go_at_call 47; (with_reducible exact K3.out _ hq))))
          refine wpQuiet_nil ?_
          exact rfl
        · rintro a' W' hq rfl
          have HZ4 := HZ3.out.tr hq
          refine exec_store (fun _ => trivial) Tryd.sizeOf3 rfl rfl rfl rfl (HZ4.a.get hzn) (IsAt.frozen HZ4.a z) ?_
          have HZ5 := hid (HY.out _ HZ4)
          generalize W'.setCell ⟨r, z, none⟩ (.int .i64 R2) = W6 at HZ5 ⊢
          clear hq HZ4 HZ3 HY d1 d2 d3 d4 K3
          go_wp2
          exact ⟨⟨k + 1, by omega, by go_num, HZ5⟩, by simp [intOf]; omega⟩
    · obtain rfl : k = 4 := by omega
      go_wp2
      go_ret
      refine ⟨r, rfl, HZ.out.a.congr (midU_all X h8), ?_⟩
      rw [← HB.out]; exact ⟨HZ.out.bel, HZ.out.rB⟩
end Go.Proofs.YtfhcfdepjhdhfaaDoor
