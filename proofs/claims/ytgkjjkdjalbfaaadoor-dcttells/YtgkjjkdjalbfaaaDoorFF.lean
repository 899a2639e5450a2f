/-
  The contract of fft.Waves.
-/
import Derived.Test.YtgkjjkdjalbfaaaDoorFD
import Derived.Laws.CopyOwn
import Derived.Laws.MakeOwn
import Derived.Deep.OwnRows
namespace Go.Proofs.YtgkjjkdjalbfaaaDoor
open Go.ChangeShapes Go.WideShapes Go.ChangeAt Go.RowKit
set_option linter.unusedVariables false

theorem okL_yes {X : Nat → Int} (h : ∀ i, -1048576 ≤ X i ∧ X i ≤ 1048576) : ∀ len, okL X len = true
  | 0 => rfl
  | len + 1 => by
    have := okL_yes h len
    have := h len
    simp [okL, allIn] at *
    simp [*]
theorem Two.re {B r q n : Nat} {X Y : Nat → Int} {w0 w : World} (h : Two B r q n X Y w0 w) : Two B r q n X Y w w := ⟨h.rB, h.qB, h.ne, h.a, h.b, Below.refl _ _⟩
theorem Two.tr {B r q n : Nat} {X Y X' Y' : Nat → Int} {w0 w w' : World} (h : Two B r q n X Y w0 w) (h' : Two B r q n X' Y' w w') : Two B r q n X' Y' w0 w' := ⟨h.rB, h.qB, h.ne, h'.a, h'.b, h.bel.trans h'.bel⟩
theorem Two.copyA {B r q n : Nat} {X Y : Nat → Int} {w0 w : World} (h : Two B r q n X Y w0 w) (X' : Nat → Int) : Two B r q n X' Y w0 (w.setRow r (rowA n X')) :=
  ⟨h.rB, h.qB, h.ne, setRow_heap w r _ _ _ _ h.a, (setRow_other w r q _ (fun e => h.ne e.symm)).trans h.b, below_setRow h.bel h.rB _⟩
theorem Two.copyB {B r q n : Nat} {X Y : Nat → Int} {w0 w : World} (h : Two B r q n X Y w0 w) (Y' : Nat → Int) : Two B r q n X Y' w0 (w.setRow q (rowA n Y')) :=
  ⟨h.rB, h.qB, h.ne, (setRow_other w q r _ h.ne).trans h.a, setRow_heap w q _ _ _ _ h.b, below_setRow h.bel h.qB _⟩
theorem made_rows (n : Nat) (w : World) : RowAt w.heap.size n (fun _ => 0) ((w.alloc (.cells (rowA n (fun _ => 0)) 3)).alloc (.cells (rowA n (fun _ => 0)) 3)).drew ∧
    RowAt (w.heap.size + 1) n (fun _ => 0) ((w.alloc (.cells (rowA n (fun _ => 0)) 3)).alloc (.cells (rowA n (fun _ => 0)) 3)).drew ∧
    Below w.heap.size w ((w.alloc (.cells (rowA n (fun _ => 0)) 3)).alloc (.cells (rowA n (fun _ => 0)) 3)).drew := by
  refine ⟨?_, ?_, ?_⟩
  · have h1 := al_new w (.cells (rowA n (fun _ => 0)) 3)
    exact (al_old (w := w.alloc (.cells (rowA n (fun _ => 0)) 3)) _ (by rw [al_size]; omega)).trans h1
  · have h1 := al_new (w.alloc (.cells (rowA n (fun _ => 0)) 3)) (.cells (rowA n (fun _ => 0)) 3)
    rw [al_size] at h1
    exact h1
  · exact (((Below.refl _ w).alloc (Nat.le_refl _) _).alloc (by rw [al_size]; omega) _).drew
theorem made_two (n : Nat) (w : World) : Two w.heap.size w.heap.size (w.heap.size + 1) n (fun _ => 0) (fun _ => 0) w ((w.alloc (.cells (rowA n (fun _ => 0)) 3)).alloc (.cells (rowA n (fun _ => 0)) 3)).drew :=
  ⟨Nat.le_refl _, by omega, by omega, (made_rows n w).1, (made_rows n w).2.1, (made_rows n w).2.2⟩
theorem made_owt (n : Nat) (w : World) : Two w.heap.size (w.heap.size + 1) w.heap.size n (fun _ => 0) (fun _ => 0) w ((w.alloc (.cells (rowA n (fun _ => 0)) 3)).alloc (.cells (rowA n (fun _ => 0)) 3)).drew :=
  ⟨by omega, Nat.le_refl _, by omega, (made_rows n w).2.1, (made_rows n w).1, (made_rows n w).2.2⟩
/-- What fft.Waves gives: two new lists. -/
def WPost (m n : Nat) (G : Nat → P2) (w : World) (e : Ending) (w' : World) : Prop := ∃ r q, e = .returned (.tuple #[.slice (some ⟨r, 0, none⟩) n n, .slice (some ⟨q, 0, none⟩) n n]) ∧ Two w.heap.size r q n (fst G) (snd G) w w'
set_option maxRecDepth 100000 in
theorem waves_yes {m : Nat} (hm : m ≤ 6) (n : Nat) (hn : n = 2 ^ m) (t : Nat) (a c : Option Addr) (ca cb : Nat) (F : Nat → P2) (bd : ∀ x, Bd 1048576 (F x)) (w : World) (ht : Tab t w) (hd : DTab w)
    (h : IsInts w a n ca (fst F)) (h' : IsInts w c n cb (snd F)) :
    Calls Tryd.prog 23 #[.pointer (some ⟨t, 0, none⟩), .slice a n ca, .slice c n cb] w (WPost m n (wav m F) w) := by
  have H64 : n ≤ 64 := by rw [hn]; exact Nat.pow_le_pow_right (by omega) (show m ≤ 6 from hm)
  have H1 : 1 ≤ n := by rw [hn]; exact Nat.two_pow_pos m
  have HF : Hid (Calls Tryd.prog 36 #[.int .i64 n] w fun e w' => e = .returned (.bool true) ∧ w' = w) := by
    have := fits_any (n : Int) w
    rw [show fitsF (n : Int) = true by rw [hn]; exact fits_pow m (by omega)] at this
    exact this
  have HA : Hid (Calls Tryd.prog 37 #[.slice a n ca] w fun e w' => e = .returned (.bool true) ∧ w' = w) := by
    have := fwithin_any a n ca (fst F) H64 w h
    rw [okL_yes (fun i => (bd i).1) n] at this
    exact this
  have HB : Hid (Calls Tryd.prog 37 #[.slice c n cb] w fun e w' => e = .returned (.bool true) ∧ w' = w) := by
    have := fwithin_any c n cb (snd F) H64 w h'
    rw [okL_yes (fun i => (bd i).2) n] at this
    exact this
  have HT : Hid (Tab t w) := ht
  have HD : Hid (DTab w) := hd
  have HN : Hid (n = 2 ^ m) := hn
  rcases h with h | ⟨b, off, rfl, hb, _, _, hc⟩
  · omega
  rcases h' with h' | ⟨b', off', rfl, hb', _, _, hc'⟩
  · omega
  have HC : Hid (∀ W, Below w.heap.size w W → (∀ i, i < n → W.cell? ⟨b, off + i, none⟩ = some (.int .i64 (fst F i))) ∧ (∀ i, i < n → W.cell? ⟨b', off' + i, none⟩ = some (.int .i64 (snd F i)))) := fun W h =>
    ⟨fun i hi => by rw [h.cell (p := ⟨b, off + i, none⟩) hb]; exact hc i hi, fun i hi => by rw [h.cell (p := ⟨b', off' + i, none⟩) hb']; exact hc' i hi⟩
  have HM : Hid (∀ s, s ≤ 6 → ∀ x, Bd 764411904 (stg m F s x)) := fun s hs x => by
    have h1 := stg_bd (m := m) bd s x
    have h2 := bnd_le hs
    obtain ⟨⟨u1, u2⟩, ⟨u3, u4⟩⟩ := h1
    exact ⟨⟨by omega, by omega⟩, ⟨by omega, by omega⟩⟩
  have hmk := make_ints H64
  clear hc hc' hb hb' ht hd hn bd
  go_enter Tryd.func23, Tryd.ntmps23
  go_wp2_with (first
    | (go_at_call 36; refine HF.out.mono ?_; rintro e w1 ⟨rfl, rfl⟩)
    | (go_at_call 37; (with_reducible refine HA.out.mono ?_); rintro e w1 ⟨rfl, rfl⟩)
    | (go_at_call 37; (with_reducible refine HB.out.mono ?_); rintro e w1 ⟨rfl, rfl⟩))
  go_region
  · obtain ⟨B, hB, HW⟩ : ∃ B, B = w1.heap.size ∧ Two B w1.heap.size (w1.heap.size + 1) n (fun _ => 0) (fun _ => 0) w1 _ := ⟨_, rfl, made_two n w1⟩
    rw [← hB] at HC
    generalize ((w1.alloc (.cells (rowA n (fun _ => 0)) 3)).alloc (.cells (rowA n (fun _ => 0)) 3)).drew = W at HW ⊢
    generalize w1.heap.size + 1 = q at HW ⊢
    generalize w1.heap.size = r at HW ⊢
    have HBE : Hid (B = w1.heap.size) := hB
    have htB : Hid (t < B) := by show _ < _; rw [hB]; exact HT.out.1
    have hvB : Hid (1 < B) := by show _ < _; rw [hB]; exact HD.out.lt
    have cp1 := fun ty => copy_row (ca := ca) HW.a (HC.out W HW.bel).1 ty
    have HW1 := HW.copyA (fst F)
    have cp2 := fun ty => copy_row (ca := cb) HW1.b (HC.out _ HW1.bel).2 ty
    have HW2 : Hid _ := HW1.copyB (snd F)
    generalize W.setRow r (rowA n (fst F)) = W1 at cp1 cp2 HW2
    generalize W1.setRow q (rowA n (snd F)) = W2 at cp2 HW2
    have HP : Hid (Calls Tryd.prog 38 #[.slice (some ⟨r, 0, none⟩) n n, .slice (some ⟨q, 0, none⟩) n n] W2 fun e w' => e = .returned (.tuple #[]) ∧ Two B r q n (fst (stg m F 0)) (snd (stg m F 0)) w1 w') := by
      refine (turnPlaces_any hm B r q n HN.out _ _ W2 (HD.out.frame HW2.out.bel hvB.out) hvB.out HW2.out.re).mono ?_
      rintro e w2 ⟨he, h2⟩
      exact ⟨he, HW2.out.tr h2⟩
    have HL : Hid (∀ W', Below B w1 W' → Calls Tryd.prog 39 #[.int .i64 (n : Int)] W' fun e w' => e = .returned (.int .i64 (m : Int)) ∧ w' = W') := fun W' hb => by
      rw [HN.out]; exact places_any hm W' (HD.out.frame hb hvB.out)
    have HG : Hid (∀ s, s < m → ∀ W', Two B r q n (fst (stg m F s)) (snd (stg m F s)) w1 W' →
        Calls Tryd.prog 40 #[.pointer (some ⟨t, 0, none⟩), .slice (some ⟨r, 0, none⟩) n n, .slice (some ⟨q, 0, none⟩) n n, .int .i64 ((2 ^ s : Nat) : Int)] W' fun e w' => e = .returned (.tuple #[]) ∧ Two B r q n (fst (stg m F (s + 1))) (snd (stg m F (s + 1))) w1 w') := fun s hs W' h2 => by
      refine (merge_any hm hs B r q t n (2 ^ s) HN.out rfl (stg m F s) (HM.out s (by omega)) W' (HT.out.below htB.out h2.bel) htB.out h2.re).mono ?_
      rintro e w2 ⟨he, h3⟩
      exact ⟨he, h2.tr h3⟩
    have HE : Hid (∀ W', Two B r q n (fst (stg m F m)) (snd (stg m F m)) w1 W' → Two w1.heap.size r q n (fst (wav m F)) (snd (wav m F)) w1 W') := fun W' h2 => by
      rw [← HBE.out]
      exact h2.congr (fun i hi => by show (stg m F m i).1 = _; rw [stg_all m F (by rw [← HN.out]; exact hi)]) (fun i hi => by show (stg m F m i).2 = _; rw [stg_all m F (by rw [← HN.out]; exact hi)])
    clear HW HW1 HW2 hB hmk HF HA HB HC HT HD HM htB hvB
    go_wp2_with (first
      | (go_at_call 38; refine HP.out.mono ?_; rintro e w3 ⟨rfl, H3⟩; replace H3 : Hid _ := H3)
      | (go_at_call 39; refine (HL.out _ H3.out.bel).mono ?_; rintro e w4 ⟨rfl, rfl⟩))
    go_loopw [54] (fun i wr => ∃ s : Nat, s ≤ m ∧ i = .int .i64 s ∧ Hid (Two B r q n (fst (stg m F s)) (snd (stg m F s)) w1 wr)) (fun i _ => m - (intOf i).toNat)
    case atStart => exact ⟨0, Nat.zero_le _, rfl, H3⟩
    case round =>
      clear H3
      obtain ⟨s, hs, rfl, H3⟩ := hrel
      by_cases hlt : s < m
      · have HGs : Hid (Calls Tryd.prog 40 #[.pointer (some ⟨t, 0, none⟩), .slice (some ⟨r, 0, none⟩) n n, .slice (some ⟨q, 0, none⟩) n n, .int .i64 ((2 ^ s : Nat) : Int)] wr fun e w' => e = .returned (.tuple #[]) ∧ Two B r q n (fst (stg m F (s + 1))) (snd (stg m F (s + 1))) w1 w') := HG.out s hlt wr H3.out
        have hp : 2 ^ s ≤ 32 := Nat.pow_le_pow_right (n := 2) (by omega) (show s ≤ 5 by omega)
        have hp' : wrap64 (((2 ^ s : Nat) : Int)) = ((2 ^ s : Nat) : Int) := by generalize 2 ^ s = z at *; unfold wrap64; omega
        have hp2 : wrap64 ((2 : Int) ^ s) = ((2 ^ s : Nat) : Int) := by rw [← hp']; congr 1
        go_wp2_with (go_at_call 40; refine HGs.out.mono ?_; rintro e w5 ⟨rfl, H5⟩; replace H5 : Hid _ := H5)
        refine ⟨⟨s + 1, by omega, by go_num, H5⟩, by simp [intOf]; omega⟩
      · obtain rfl : s = m := by omega
        go_wp2
        go_ret2
        exact ⟨_, _, rfl, HE.out _ H3.out⟩
  · obtain ⟨B, hB, HW⟩ : ∃ B, B = w1.heap.size ∧ Two B (w1.heap.size + 1) w1.heap.size n (fun _ => 0) (fun _ => 0) w1 _ := ⟨_, rfl, made_owt n w1⟩
    rw [← hB] at HC
    generalize ((w1.alloc (.cells (rowA n (fun _ => 0)) 3)).alloc (.cells (rowA n (fun _ => 0)) 3)).drew = W at HW ⊢
    generalize w1.heap.size + 1 = r at HW ⊢
    generalize w1.heap.size = q at HW ⊢
    have HBE : Hid (B = w1.heap.size) := hB
    have htB : Hid (t < B) := by show _ < _; rw [hB]; exact HT.out.1
    have hvB : Hid (1 < B) := by show _ < _; rw [hB]; exact HD.out.lt
    have cp1 := fun ty => copy_row (ca := ca) HW.a (HC.out W HW.bel).1 ty
    have HW1 := HW.copyA (fst F)
    have cp2 := fun ty => copy_row (ca := cb) HW1.b (HC.out _ HW1.bel).2 ty
    have HW2 : Hid _ := HW1.copyB (snd F)
    generalize W.setRow r (rowA n (fst F)) = W1 at cp1 cp2 HW2
    generalize W1.setRow q (rowA n (snd F)) = W2 at cp2 HW2
    have HP : Hid (Calls Tryd.prog 38 #[.slice (some ⟨r, 0, none⟩) n n, .slice (some ⟨q, 0, none⟩) n n] W2 fun e w' => e = .returned (.tuple #[]) ∧ Two B r q n (fst (stg m F 0)) (snd (stg m F 0)) w1 w') := by
      refine (turnPlaces_any hm B r q n HN.out _ _ W2 (HD.out.frame HW2.out.bel hvB.out) hvB.out HW2.out.re).mono ?_
      rintro e w2 ⟨he, h2⟩
      exact ⟨he, HW2.out.tr h2⟩
    have HL : Hid (∀ W', Below B w1 W' → Calls Tryd.prog 39 #[.int .i64 (n : Int)] W' fun e w' => e = .returned (.int .i64 (m : Int)) ∧ w' = W') := fun W' hb => by
      rw [HN.out]; exact places_any hm W' (HD.out.frame hb hvB.out)
    have HG : Hid (∀ s, s < m → ∀ W', Two B r q n (fst (stg m F s)) (snd (stg m F s)) w1 W' →
        Calls Tryd.prog 40 #[.pointer (some ⟨t, 0, none⟩), .slice (some ⟨r, 0, none⟩) n n, .slice (some ⟨q, 0, none⟩) n n, .int .i64 ((2 ^ s : Nat) : Int)] W' fun e w' => e = .returned (.tuple #[]) ∧ Two B r q n (fst (stg m F (s + 1))) (snd (stg m F (s + 1))) w1 w') := fun s hs W' h2 => by
      refine (merge_any hm hs B r q t n (2 ^ s) HN.out rfl (stg m F s) (HM.out s (by omega)) W' (HT.out.below htB.out h2.bel) htB.out h2.re).mono ?_
      rintro e w2 ⟨he, h3⟩
      exact ⟨he, h2.tr h3⟩
    have HE : Hid (∀ W', Two B r q n (fst (stg m F m)) (snd (stg m F m)) w1 W' → Two w1.heap.size r q n (fst (wav m F)) (snd (wav m F)) w1 W') := fun W' h2 => by
      rw [← HBE.out]
      exact h2.congr (fun i hi => by show (stg m F m i).1 = _; rw [stg_all m F (by rw [← HN.out]; exact hi)]) (fun i hi => by show (stg m F m i).2 = _; rw [stg_all m F (by rw [← HN.out]; exact hi)])
    clear HW HW1 HW2 hB hmk HF HA HB HC HT HD HM htB hvB
    go_wp2_with (first
      | (go_at_call 38; refine HP.out.mono ?_; rintro e w3 ⟨rfl, H3⟩; replace H3 : Hid _ := H3)
      | (go_at_call 39; refine (HL.out _ H3.out.bel).mono ?_; rintro e w4 ⟨rfl, rfl⟩))
    go_loopw [54] (fun i wr => ∃ s : Nat, s ≤ m ∧ i = .int .i64 s ∧ Hid (Two B r q n (fst (stg m F s)) (snd (stg m F s)) w1 wr)) (fun i _ => m - (intOf i).toNat)
    case atStart => exact ⟨0, Nat.zero_le _, rfl, H3⟩
    case round =>
      clear H3
      obtain ⟨s, hs, rfl, H3⟩ := hrel
      by_cases hlt : s < m
      · have HGs : Hid (Calls Tryd.prog 40 #[.pointer (some ⟨t, 0, none⟩), .slice (some ⟨r, 0, none⟩) n n, .slice (some ⟨q, 0, none⟩) n n, .int .i64 ((2 ^ s : Nat) : Int)] wr fun e w' => e = .returned (.tuple #[]) ∧ Two B r q n (fst (stg m F (s + 1))) (snd (stg m F (s + 1))) w1 w') := HG.out s hlt wr H3.out
        have hp : 2 ^ s ≤ 32 := Nat.pow_le_pow_right (n := 2) (by omega) (show s ≤ 5 by omega)
        have hp' : wrap64 (((2 ^ s : Nat) : Int)) = ((2 ^ s : Nat) : Int) := by generalize 2 ^ s = z at *; unfold wrap64; omega
        have hp2 : wrap64 ((2 : Int) ^ s) = ((2 ^ s : Nat) : Int) := by rw [← hp']; congr 1
        go_wp2_with (go_at_call 40; refine HGs.out.mono ?_; rintro e w5 ⟨rfl, H5⟩; replace H5 : Hid _ := H5)
        refine ⟨⟨s + 1, by omega, by go_num, H5⟩, by simp [intOf]; omega⟩
      · obtain rfl : s = m := by omega
        go_wp2
        go_ret2
        exact ⟨_, _, rfl, HE.out _ H3.out⟩
end Go.Proofs.YtgkjjkdjalbfaaaDoor
