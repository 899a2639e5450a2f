/-
  lap.Frame where there is none; lap.Take.
-/
import Derived.Test.YtfhcfdepjhdhfaaDoorYE
import Derived.Test.YtfhcfdepjhdhfaaDoorYF
import Derived.Test.YtfhcfdepjhdhfaaDoorYR
import Derived.Test.YtfhcfdepjhdhfaaDoorZR
namespace Go.Proofs.YtfhcfdepjhdhfaaDoor
open Go.ChangeShapes Go.WideShapes Go.ChangeAt Go.RowKit
set_option linter.unusedVariables false

theorem frame_nil (short : Bool) (a : Option Addr) (len cap : Nat) (T : Nat → Int) (w : World) :
    Calls Tryd.prog 9 #[.pointer none, arr8 T, .slice a len cap, .bool short] w fun e w' => e = .returned (.tuple #[.slice none 0 0, arr8 fun _ => 0]) ∧ Below w.heap.size w w' := by
  have hr := arr_new0 (w.alloc (.cells (rowA 8 T) 22))
  rw [al_size] at hr
  have hbw := ((Below.refl _ w).alloc (Nat.le_refl _) (.cells (rowA 8 T) 22)).alloc (by rw [al_size]; omega) (.cells #[Value.int .i64 0, Value.int .i64 0, Value.int .i64 0, Value.int .i64 0, Value.int .i64 0, Value.int .i64 0, Value.int .i64 0, Value.int .i64 0] 22)
  have HR := hid hr
  have HRS := hid (hr.laid (fun _ => 0))
  have HBS := hid (below_setRow hbw (show w.heap.size ≤ w.heap.size + 1 by omega) (rowA 8 (fun _ => 0)))
  clear hr hbw
  go_enter Tryd.func9, Tryd.ntmps9
  go_wp2_with (refine wp_store8 (X := fun _ => 0) rfl rfl rfl rfl HR.out ?_)
  refine bodyPost_ret (results_two8 rfl _ rfl rfl HRS.out) rfl ⟨rfl, HBS.out⟩
theorem frame_no (short : Bool) (t : Nat) (a : Option Addr) (len cap : Nat) (X T : Nat → Int) (hl : len ≤ maxLen) (hX : ¬ (len = 64 ∧ allIn (-33554432) 33554432 X 64 = true ∧ allIn (-35184372088832) 35184372088832 T 8 = true)) (w : World) (h : IsInts w a len cap X) :
    Calls Tryd.prog 9 #[.pointer (some ⟨t, 0, none⟩), arr8 T, .slice a len cap, .bool short] w fun e w' => e = .returned (.tuple #[.slice none 0 0, arr8 fun _ => 0]) ∧ Below w.heap.size w w' := by
  obtain ⟨W1, hW1⟩ : ∃ W1, W1 = (w.alloc (.cells (rowA 8 T) 22)).alloc (.cells #[Value.int .i64 0, Value.int .i64 0, Value.int .i64 0, Value.int .i64 0, Value.int .i64 0, Value.int .i64 0, Value.int .i64 0, Value.int .i64 0] 22) := ⟨_, rfl⟩
  have hp := arr_new T w
  have hr := arr_new0 (w.alloc (.cells (rowA 8 T) 22))
  have hp' := arr_old0 hp
  rw [al_size] at hr
  rw [← hW1] at hr hp'
  have hbw : Below w.heap.size w W1 := by rw [hW1]; exact ((Below.refl _ w).alloc (Nat.le_refl _) _).alloc (by rw [al_size]; omega) _
  have HR := hid hr
  have HBW := hid hbw
  have HRS := hid (hr.laid (fun _ => 0))
  have HBS := hid (below_setRow hbw (show w.heap.size ≤ w.heap.size + 1 by omega) (rowA 8 (fun _ => 0)))
  have HP := hid hp'
  have HW1 := hid hW1
  clear hW1 hp hp' hr hbw
  by_cases h64 : len = 64
  · subst h64
    have K1 : Hid (∀ W, Below w.heap.size w W → Calls Tryd.prog 23 #[.int .i64 (-33554432), .int .i64 33554432, .slice a 64 cap] W fun e w' => e = .returned (.bool (allIn (-33554432) 33554432 X 64)) ∧ w' = W) := fun W hW =>
      lwithin_any (-33554432) 33554432 a 64 cap X (by omega) W (h.below hW)
    have K2 : Hid (∀ W, Below W1.heap.size W1 W → Calls Tryd.prog 23 #[.int .i64 (-35184372088832), .int .i64 35184372088832, .slice (some ⟨w.heap.size, 0, none⟩) 8 8] W fun e w' => e = .returned (.bool (allIn (-35184372088832) 35184372088832 T 8)) ∧ w' = W) := fun W hW =>
      lwithin_any (-35184372088832) 35184372088832 (some ⟨w.heap.size, 0, none⟩) 8 8 T (by omega) W (ArrAt.ints (HP.out.below hW))
    clear h
    cases hr : allIn (-33554432) 33554432 X 64 with
    | false =>
      rw [hr] at K1
      clear hX hr K2
      go_enter Tryd.func9, Tryd.ntmps9
      go_wp2_with (fail)
      have hW1 := HW1.out
      rw [← hW1]
      clear hW1 HW1
      refine (K1.out _ HBW.out).mono ?_
      rintro e w2 ⟨rfl, rfl⟩
      go_wp2_with (refine wp_store8 (X := fun _ => 0) rfl rfl rfl rfl HR.out ?_)
      refine bodyPost_ret (results_two8 rfl _ rfl rfl HRS.out) rfl ⟨rfl, HBS.out⟩
    | true =>
      have hno : allIn (-35184372088832) 35184372088832 T 8 = false := by
        cases e : allIn (-35184372088832) 35184372088832 T 8 with
        | false => rfl
        | true => exact (hX ⟨rfl, hr, e⟩).elim
      rw [hr] at K1
      rw [hno] at K2
      clear hX hr hno
      go_enter Tryd.func9, Tryd.ntmps9
      go_wp2_with (fail)
      have hW1 := HW1.out
      rw [← hW1]
      clear hW1 HW1
      refine (K1.out _ HBW.out).mono ?_
      rintro e w2 ⟨rfl, rfl⟩
      go_wp2_with (fail)
      refine (K2.out _ (Below.refl _ _)).mono ?_
      rintro e w3 ⟨rfl, rfl⟩
      go_wp2_with (refine wp_store8 (X := fun _ => 0) rfl rfl rfl rfl HR.out ?_)
      refine bodyPost_ret (results_two8 rfl _ rfl rfl HRS.out) rfl ⟨rfl, HBS.out⟩
  · have h1 : ((len : Int) != 64) = true := by
      have : ((len : Int) == 64) = false := by simp; omega
      rw [bne, this]; rfl
    unfold maxLen at hl
    clear hX h HBW HP
    have hW1 := HW1.out
    subst hW1
    clear HW1
    go_enter Tryd.func9, Tryd.ntmps9
    go_wp2_with (refine wp_store8 (X := fun _ => 0) rfl rfl rfl rfl HR.out ?_)
    refine bodyPost_ret (results_two8 rfl _ rfl rfl HRS.out) rfl ⟨rfl, HBS.out⟩
theorem take_long (t : Nat) (a : Option Addr) (cap : Nat) (X : Nat → Int) (hX : Fit15 X 72) (w : World) (ht : Tab t w) (hd : DTab w) (hs : STab w) (h : IsInts w a 72 cap X) :
    Calls Tryd.prog 20 #[.pointer (some ⟨t, 0, none⟩), .slice a 72 cap, .bool false] w (SPost 64 (takeF false X) w) := by
  have K0 : Hid (Calls Tryd.prog 23 #[.int .i64 (-32768), .int .i64 32767, .slice a 72 cap] w fun e w' => e = .returned (.bool true) ∧ w' = w) := by
    have := lwithin_any (-32768) 32767 a 72 cap X (by omega) w h
    rwa [(allIn_iff (-32768) 32767 X 72).2 hX] at this
  have K1 := hid (fold_yes 64 72 (.inr rfl) rfl a cap X (fun i hi => by have := hX i hi; omega) w hs h)
  have HF := hid (fold_fit (n := 64) (.inr rfl) hX)
  have HT := hid ht
  have HD := hid hd
  clear h hX ht hd hs
  go_enter Tryd.func20, Tryd.ntmps20
  go_wp2_with (go_at_call 23; (with_reducible refine K0.out.mono ?_); rintro e w1 ⟨rfl, rfl⟩)
  refine Calls.mono K1.out ?_
  rintro e w2 ⟨r2, rfl, h2, b2, _⟩
  have K2 := hid (fast_yes blk64 t _ 64 (wFoldF 64 X) (fun i hi => by have := HF.out i hi; omega) w2 (HT.out.below HT.out.1 b2) (HD.out.below b2) (h2.ints (by decide)))
  have B2 := hid b2
  clear h2 b2 K0 K1
  go_wp2_with (fail)
  refine Calls.mono K2.out ?_
  rintro e w3 ⟨r, rfl, hr, h3, b3⟩
  have H3 := hid (And.intro hr (And.intro h3 b3))
  clear hr h3 b3 K2
  go_wp2
  go_ret
  exact ⟨r, rfl, Nat.le_trans B2.out.size H3.out.1, H3.out.2.1, below_then B2.out H3.out.2.2⟩
/-- Lists that are laid one by one into a row. -/
def listA (n : Nat) (V : Nat → Value) : Array Value := Array.ofFn (n := n) fun i => V i
theorem listA_get {n : Nat} {V : Nat → Value} {i : Nat} (h : i < n) : (listA n V)[i]? = some (V i) := by simp [listA, h]
theorem listA_set {n : Nat} (V : Nat → Value) {j : Nat} (v : Value) (h : j < n) : (listA n V).setIfInBounds j v = listA n (fun i => if i = j then v else V i) := by
  refine Array.ext (by simp [listA]) (fun i h1 h2 => ?_)
  have hi : i < n := by simpa [listA] using h2
  have e1 : ((listA n V).setIfInBounds j v)[i]? = some (if i = j then v else V i) := by
    rw [Array.getElem?_setIfInBounds]
    by_cases e : j = i
    · subst e
      rw [if_pos rfl, if_pos (by simpa [listA] using hi), if_pos rfl]
    · rw [if_neg e, listA_get hi, if_neg (fun h => e h.symm)]
  have e2 := listA_get (V := fun i => if i = j then v else V i) hi
  rw [Array.getElem?_eq_getElem h1] at e1
  rw [Array.getElem?_eq_getElem h2] at e2
  exact Option.some.inj (e1.trans e2.symm)
theorem make_lists {n : Nat} (hn : n ≤ 64) (w : World) : (Instr.makeSlice 24 (.int .i64 (n : Int)) (.int .i64 (n : Int))).run Tryd.prog w = .ok (.slice (some ⟨w.heap.size, 0, none⟩) n n) (w.alloc (.cells (listA n (fun _ => .slice none 0 0)) 23)) := by
  have e : madeCells #[Value.slice none 0 0] n = listA n (fun _ => .slice none 0 0) := by
    refine Array.ext (by simp [listA, madeCells]) (fun i h1 h2 => ?_)
    simp [listA, madeCells, Nat.mod_one]
  rw [← e]
  exact run_make_row' (P := Tryd.prog) 24 23 (.slice none 0 0) 24 Tryd.underlying24 (by kernel_rfl) rfl .i64 .i64 n (by omega) (by omega) w
structure LRow (r k : Nat) (Y : Nat → Nat → Int) (w W : World) : Prop where
  row : ∃ V : Nat → Value, IsAt r 23 (listA 8 V) W ∧ ∀ i, i < k → ∃ rr, V i = .slice (some ⟨rr, 0, none⟩) 8 8 ∧ RowAt rr 8 (Y i) W ∧ r < rr
  bel : Below w.heap.size w W
  le : w.heap.size ≤ r
theorem LRow.lt {r k : Nat} {Y : Nat → Nat → Int} {w W : World} (h : LRow r k Y w W) : r < W.heap.size := by
  obtain ⟨V, h1, _⟩ := h.row
  have h' : W.heap[r]? = some _ := h1
  exact (Array.getElem?_eq_some_iff.1 h').1
theorem LRow.below {r k : Nat} {Y : Nat → Nat → Int} {w W V : World} (h : LRow r k Y w W) (hb : Below W.heap.size W V) : LRow r k Y w V := by
  obtain ⟨U, h1, h2⟩ := h.row
  refine ⟨⟨U, (hb.block r h.lt).trans h1, fun i hi => ?_⟩, below_then h.bel hb, h.le⟩
  obtain ⟨rr, e, h3, h4⟩ := h2 i hi
  exact ⟨rr, e, h3.below hb, h4⟩
theorem LRow.next {r k rr : Nat} {Y : Nat → Nat → Int} {w W : World} (h : LRow r k Y w W) (hk : k < 8) (h3 : RowAt rr 8 (Y k) W) (h4 : r < rr) : LRow r (k + 1) Y w (W.setCell ⟨r, k, none⟩ (.slice (some ⟨rr, 0, none⟩) 8 8)) := by
  obtain ⟨U, h1, h2⟩ := h.row
  refine ⟨⟨fun i => if i = k then .slice (some ⟨rr, 0, none⟩) 8 8 else U i, ?_, fun i hi => ?_⟩, h.bel.setCell (p := ⟨r, k, none⟩) h.le _, h.le⟩
  · rw [← listA_set U _ hk]; exact IsAt.set h1 k _
  · by_cases e : i = k
    · subst e
      exact ⟨rr, if_pos rfl, IsAt.other h3 (a := ⟨r, i, none⟩) (show rr ≠ r by omega) _, h4⟩
    · obtain ⟨rr', e', h3', h4'⟩ := h2 i (by omega)
      exact ⟨rr', by rw [← e']; exact if_neg e, IsAt.other h3' (a := ⟨r, k, none⟩) (show rr' ≠ r by omega) _, h4'⟩
theorem LRow.cell {r k : Nat} {Y : Nat → Nat → Int} {w W : World} (h : LRow r k Y w W) {j : Nat} (hj : j < 8) : ∃ v, W.cell? ⟨r, j, none⟩ = some v ∧ W.frozen? ⟨r, j, none⟩ = false := by
  obtain ⟨U, h1, _⟩ := h.row
  exact ⟨U j, by rw [IsAt.cell h1, listA_get hj], IsAt.frozen h1 j⟩
theorem LRow.lists {r : Nat} {Y : Nat → Nat → Int} {w W : World} (h : LRow r 8 Y w W) : IsLists W (some ⟨r, 0, none⟩) 8 8 8 Y := by
  have hl := h.lt
  obtain ⟨U, h1, h2⟩ := h.row
  refine .inr ⟨r, 0, rfl, hl, Nat.le_refl _, by decide, fun i hi => ?_⟩
  obtain ⟨rr, e, h3, _⟩ := h2 i hi
  exact ⟨some ⟨rr, 0, none⟩, 8, by rw [Nat.zero_add, IsAt.cell h1, listA_get hi, e], h3.ints (by decide)⟩
theorem take_short (t : Nat) (a : Option Addr) (cap : Nat) (X : Nat → Int) (hX : Fit15 X 72) (w : World) (ht : Tab t w) (hd : DTab w) (hs : STab w) (h : IsInts w a 72 cap X) :
    Calls Tryd.prog 20 #[.pointer (some ⟨t, 0, none⟩), .slice a 72 cap, .bool true] w (SPost 64 (takeF true X) w) := by
  have hmk : ∀ w, (Instr.makeSlice 24 (.int .i64 8) (.int .i64 8)).run Tryd.prog w = .ok (.slice (some ⟨w.heap.size, 0, none⟩) 8 8) (w.alloc (.cells (listA 8 (fun _ => .slice none 0 0)) 23)) := make_lists (n := 8) (by omega)
  have K0 : Hid (Calls Tryd.prog 23 #[.int .i64 (-32768), .int .i64 32767, .slice a 72 cap] w fun e w' => e = .returned (.bool true) ∧ w' = w) := by
    have := lwithin_any (-32768) 32767 a 72 cap X (by omega) w h
    rwa [(allIn_iff (-32768) 32767 X 72).2 hX] at this
  obtain ⟨b0, off, rfl, hb0, hcap, hcap2, hc⟩ : ∃ b off, a = some ⟨b, off, none⟩ ∧ b < w.heap.size ∧ 72 ≤ cap ∧ cap ≤ maxLen ∧ ∀ i, i < 72 → w.cell? ⟨b, off + i, none⟩ = some (.int .i64 (X i)) := by
    rcases h with h | h
    · omega
    · exact h
  have HS16 : Hid (∀ W, Below w.heap.size w W → ∀ b, b < 8 → IsInts W (some ⟨b0, off + 8 * b, none⟩) 16 (cap - 8 * b) (shortX X b)) := fun W hW b hb => .inr ⟨b0, off + 8 * b, rfl, Nat.lt_of_lt_of_le hb0 hW.size, by omega, by omega, fun i hi => by
    rw [hW.cell (p := ⟨b0, off + 8 * b + i, none⟩) hb0, Nat.add_assoc]
    exact hc (8 * b + i) (by omega)⟩
  have HX := hid hX
  have HT : Hid (∀ W, Below w.heap.size w W → Tab t W ∧ DTab W ∧ STab W) := fun W hW => ⟨ht.below ht.1 hW, hd.below hW, hs.below hW⟩
  have HL0 : Hid (LRow w.heap.size 0 (fun b => fastF 8 2 (wFoldF 8 (shortX X b))) w (w.alloc (.cells (listA 8 (fun _ => .slice none 0 0)) 23))) :=
    ⟨⟨fun _ => .slice none 0 0, al_new w _, fun i hi => by omega⟩, (Below.refl _ w).alloc (Nat.le_refl _) _, Nat.le_refl _⟩
  clear h hc hX hb0 ht hd hs
  go_enter Tryd.func20, Tryd.ntmps20
  go_wp2_with (go_at_call 23; (with_reducible refine K0.out.mono ?_); rintro e w1 ⟨rfl, rfl⟩)
  clear K0
  generalize w1.alloc (.cells (listA 8 (fun _ => .slice none 0 0)) 23) = W0 at HL0 ⊢
  generalize hr : w1.heap.size = r at HL0 ⊢
  clear hr
  go_loopw [30] (fun i wr => ∃ k : Nat, k ≤ 8 ∧ i = .int .i64 k ∧ Hid (LRow r k (fun b => fastF 8 2 (wFoldF 8 (shortX X b))) w1 wr)) (fun i _ => 8 - (intOf i).toNat)
  case atStart => exact ⟨0, by omega, rfl, HL0⟩
  case round =>
    clear HL0
    obtain ⟨k, hk, rfl, HO⟩ := hrel
    by_cases hlt : k < 8
    · have I16 := HS16.out wr HO.out.bel k hlt
      have F16 : Fit15 (shortX X k) 16 := fun i hi => HX.out _ (by omega)
      have K1 := hid (fold_yes 8 16 (.inl rfl) rfl _ _ (shortX X k) (fun i hi => by have := F16 i hi; omega) wr (HT.out _ HO.out.bel).2.2 I16)
      have HF := hid (fold_fit (n := 8) (.inl rfl) F16)
      obtain ⟨z, hz⟩ : ∃ z, z = 8 * k := ⟨_, rfl⟩
      obtain ⟨y, hy⟩ : ∃ y, y = 8 * k + 16 := ⟨_, rfl⟩
      have x2 : (z : Int) + 16 = (y : Int) := by omega
      have x1 : 8 * (k : Int) = (z : Int) := by omega
      have z1 : z ≤ y := by omega
      have z2 : y ≤ cap := by omega
      have z3 : ¬ (cap = z) := by omega
      have z4 : y - z = 16 := by omega
      rw [← hz] at K1
      clear hz hy I16 F16
      go_wp2_with (fail)
      refine Calls.mono K1.out ?_
      rintro e w2 ⟨r2, rfl, h2, b2, _⟩
      have HO2 := hid (HO.out.below b2)
      have K2 := hid (fast_yes blk8 t _ 8 (wFoldF 8 (shortX X k)) (fun i hi => by have := HF.out i hi; omega) w2 (HT.out _ HO2.out.bel).1 (HT.out _ HO2.out.bel).2.1 (h2.ints (by decide)))
      clear h2 b2 K1 HF
      go_wp2_with (fail)
      refine Calls.mono K2.out ?_
      rintro e w3 ⟨r3, rfl, hr3, h3, b3⟩
      have HO3 := hid (HO2.out.below b3)
      have HN := hid (LRow.next HO3.out hlt h3 (Nat.lt_of_lt_of_le HO2.out.lt hr3))
      obtain ⟨v, hcv, hfv⟩ := LRow.cell HO3.out hlt
      clear hr3 h3 b3 K2 HO2 HO
      go_wp2
      exact ⟨⟨k + 1, by omega, by go_num, HN⟩, by simp [intOf]; omega⟩
    · obtain rfl : k = 8 := by omega
      have K1 := hid (lay_yes _ 8 _ wr HO.out.lists)
      go_wp2_with (fail)
      refine Calls.mono K1.out ?_
      rintro e w3 ⟨q, rfl, hr, h3, b3⟩
      have H3 := hid (And.intro hr (And.intro h3 b3))
      clear hr h3 b3 K1
      go_wp2
      go_ret
      exact ⟨q, rfl, Nat.le_trans HO.out.bel.size H3.out.1, H3.out.2.1, below_then HO.out.bel H3.out.2.2⟩
theorem take_no (short : Bool) (t : Nat) (a : Option Addr) (len cap : Nat) (X : Nat → Int) (hl : len ≤ maxLen) (hX : ¬ (len = 72 ∧ Fit15 X 72)) (w : World) (h : IsInts w a len cap X) :
    Calls Tryd.prog 20 #[.pointer (some ⟨t, 0, none⟩), .slice a len cap, .bool short] w fun e w' => e = .returned (.slice none 0 0) ∧ w' = w := by
  by_cases h72 : len = 72
  · subst h72
    have hno : allIn (-32768) 32767 X 72 = false := by
      cases e : allIn (-32768) 32767 X 72 with
      | false => rfl
      | true => exact (hX ⟨rfl, (allIn_iff (-32768) 32767 X 72).1 e⟩).elim
    have k := lwithin_any (-32768) 32767 a 72 cap X (by omega) w h
    rw [hno] at k
    have K := hid k
    clear k h hX hno
    go_enter Tryd.func20, Tryd.ntmps20
    go_wp2_with (go_at_call 23; (with_reducible refine K.out.mono ?_); rintro e w1 ⟨rfl, rfl⟩)
    go_ret
    exact ⟨rfl, rfl⟩
  · have h1 : ((len : Int) != 72) = true := by
      have : ((len : Int) == 72) = false := by simp; omega
      rw [bne, this]; rfl
    unfold maxLen at hl
    clear h hX
    go_enter Tryd.func20, Tryd.ntmps20
    go_wp2
    go_ret
    exact ⟨rfl, rfl⟩
theorem take_nil (short : Bool) (a : Option Addr) (len cap : Nat) (w : World) :
    Calls Tryd.prog 20 #[.pointer none, .slice a len cap, .bool short] w fun e w' => e = .returned (.slice none 0 0) ∧ w' = w := by
  go_enter Tryd.func20, Tryd.ntmps20
  go_wp2
  go_ret
  exact ⟨rfl, rfl⟩
end Go.Proofs.YtfhcfdepjhdhfaaDoor
