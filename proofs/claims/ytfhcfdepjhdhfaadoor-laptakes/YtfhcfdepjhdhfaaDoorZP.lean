/-
  The contract of the document's waves.
-/
import Derived.Test.YtfhcfdepjhdhfaaDoorZF
import Derived.Test.YtfhcfdepjhdhfaaDoorZB
namespace Go.Proofs.YtfhcfdepjhdhfaaDoor
open Go.ChangeShapes Go.WideShapes Go.ChangeAt Go.RowKit
set_option linter.unusedVariables false

/-- k of the first half and k of the second one are done. -/
def hlf (h k : Nat) (G : Nat → P2) (x : Nat) : P2 := if x < k ∨ (h ≤ x ∧ x < h + k) then G x else (0, 0)
theorem hlf_zero (h : Nat) (G : Nat → P2) (x : Nat) : hlf h 0 G x = (0, 0) := if_neg (by omega)
theorem hlf_all {h : Nat} (G : Nat → P2) {x : Nat} (hx : x < 2 * h) : hlf h h G x = G x := if_pos (by omega)
theorem hlf_step {h k : Nat} (hk : k < h) (G : Nat → P2) (x : Nat) : hlf h (k + 1) G x = if x = h + k then G (h + k) else if x = k then G k else hlf h k G x := by
  unfold hlf
  by_cases e1 : x = h + k
  · rw [if_pos e1, if_pos (by omega), e1]
  · rw [if_neg e1]
    by_cases e2 : x = k
    · rw [if_pos e2, if_pos (by omega), e2]
    · rw [if_neg e2]
      by_cases c : x < k ∨ (h ≤ x ∧ x < h + k)
      · rw [if_pos c, if_pos (by omega)]
      · rw [if_neg c, if_neg (by omega)]
theorem made_seq (n : Nat) (w : World) : Two w.heap.size w.heap.size (w.heap.size + 1) n (fun _ => 0) (fun _ => 0) w ((w.alloc (.cells (rowA n (fun _ => 0)) 3)).alloc (.cells (rowA n (fun _ => 0)) 3)) := by
  refine ⟨Nat.le_refl _, by omega, by omega, ?_, ?_, ?_⟩
  · have h1 := al_new w (.cells (rowA n (fun _ => 0)) 3)
    exact (al_old (w := w.alloc (.cells (rowA n (fun _ => 0)) 3)) _ (by rw [al_size]; omega)).trans h1
  · have h1 := al_new (w.alloc (.cells (rowA n (fun _ => 0)) 3)) (.cells (rowA n (fun _ => 0)) 3)
    rw [al_size] at h1
    exact h1
  · exact (((Below.refl _ w).alloc (Nat.le_refl _) _).alloc (by rw [al_size]; omega) _)
theorem rturn_bd {p : P2} (hp : Bd 764411904 p) {th : Int} (h0 : 0 ≤ th) (h1 : th ≤ 256) (w : World) :
    Calls Tryd.prog 60 #[.int .i64 p.1, .int .i64 p.2, .int .i64 th] w fun e w' => e = .returned (.tuple #[.int .i64 (twd p th).1, .int .i64 (twd p th).2]) ∧ Below w.heap.size w w' := by
  have := rturn_any p.1 p.2 th w
  obtain ⟨⟨u1, u2⟩, ⟨u3, u4⟩⟩ := hp
  have hok : okTurn p.1 p.2 th := by unfold okTurn; omega
  rw [turnReF, turnImF, if_pos hok, if_pos hok] at this
  exact this
theorem tdivn : ∀ m : Nat, m < 6 → ∀ k : Nat, k < 32 → k < 2 ^ m → (512 * (k : Int)).tdiv ((2 ^ (m + 1) : Nat) : Int) = ang m k := by decide +kernel
/-- What the document's waves gives. -/
def RPost (m n : Nat) (F : Nat → P2) (w : World) (e : Ending) (w' : World) : Prop := ∃ a1 c1 a2 c2, e = .returned (.tuple #[.slice a1 n c1, .slice a2 n c2]) ∧ IsInts w' a1 n c1 (fst (wav m F)) ∧ IsInts w' a2 n c2 (snd (wav m F)) ∧ Below w.heap.size w w'
set_option maxRecDepth 100000 in
set_option maxHeartbeats 1000000 in
theorem rwaves_any : ∀ (m : Nat) (hm : m ≤ 6) (n : Nat) (hn : n = 2 ^ m) (a c : Option Addr) (ca cb : Nat) (F : Nat → P2) (bd : ∀ x, Bd 1048576 (F x)) (w : World) (h : IsInts w a n ca (fst F)) (h' : IsInts w c n cb (snd F)),
    Calls Tryd.prog 76 #[.slice a n ca, .slice c n cb] w (RPost m n F w)
  | 0, hm, n, hn, a, c, ca, cb, F, bd, w, h, h' => by
    obtain rfl : n = 1 := hn
    have HE : Hid (RPost 0 1 F w (.returned (.tuple #[.slice a 1 ca, .slice c 1 cb])) w) :=
      ⟨a, ca, c, cb, rfl, h.congr (fun i hi => by have e := Nat.lt_one_iff.1 hi; subst e; rfl), h'.congr (fun i hi => by have e := Nat.lt_one_iff.1 hi; subst e; rfl), Below.refl _ _⟩
    clear h h'
    go_enter Tryd.func76, Tryd.ntmps76
    go_wp2
    go_ret2
    exact HE.out
  | m + 1, hm, n, hn, a, c, ca, cb, F, bd, w, h, h' => by
    obtain ⟨p, hp⟩ : ∃ p, p = 2 ^ m := ⟨_, rfl⟩
    have hn2 : n = 2 * p := by rw [hn, hp, Nat.pow_succ]; omega
    have hp1 : 1 ≤ p := by rw [hp]; exact Nat.two_pow_pos m
    have hp32 : p ≤ 32 := by rw [hp]; exact Nat.pow_le_pow_right (n := 2) (by omega) (show m ≤ 5 by omega)
    have HP1 : Hid (Calls Tryd.prog 85 #[.slice a n ca] w (PPost p (fst F) w)) := rparts_any a n p ca hn2 (by omega) (by omega) _ w h
    have HP2 : Hid (∀ W, Below w.heap.size w W → Calls Tryd.prog 85 #[.slice c n cb] W (PPost p (snd F) W)) := fun W hb => rparts_any c n p cb hn2 (by omega) (by omega) _ W (h'.below hb)
    have IH : Hid (∀ (a c : Option Addr) (ca cb : Nat) (F : Nat → P2) (bd : ∀ x, Bd 1048576 (F x)) (w : World) (h : IsInts w a p ca (fst F)) (h' : IsInts w c p cb (snd F)),
        Calls Tryd.prog 76 #[.slice a p ca, .slice c p cb] w (RPost m p F w)) := fun a c ca cb F bd w h h' => rwaves_any m (by omega) p hp a c ca cb F bd w h h'
    have HNP : Hid (n = 2 * p) := hn2
    have hmk := make_ints (show n ≤ 64 by omega)
    have hne1 : ((n : Int) == 1) = false := by simp; omega
    have htd : (n : Int).tdiv 2 = (p : Int) := by rw [Int.tdiv_eq_ediv_of_nonneg (by omega)]; omega
    have hnz : ((n : Int) == 0) = false := by simp; omega
    have HTH : Hid (∀ k : Nat, k < p → (512 * (k : Int)).tdiv (n : Int) = ang m k) := fun k hk => by rw [hn]; exact tdivn m (by omega) k (by omega) (by omega)
    have HTB : Hid (∀ k : Nat, k < p → 0 ≤ ang m k ∧ ang m k ≤ 256) := fun k hk => by
      have := (ang_le (s := m) (by omega) (show k < 2 ^ m by omega)).2
      unfold ang; omega
    have HEV : Hid (∀ x, Bd 1048576 (F (2 * x))) := fun x => bd _
    have HOD : Hid (∀ x, Bd 1048576 (F (2 * x + 1))) := fun x => bd _
    have HBD : Hid (∀ f : Nat → P2, (∀ x, Bd 1048576 (f x)) → ∀ k, Bd 764411904 (wav m f k)) := fun f hf k => by
      have h1 := wav_bd m f hf k
      have h2 := bnd_le (s := m) (by omega)
      obtain ⟨⟨u1, u2⟩, ⟨u3, u4⟩⟩ := h1
      exact ⟨⟨by omega, by omega⟩, ⟨by omega, by omega⟩⟩
    have HG1 : Hid (∀ k, k < p → wav (m + 1) F k = addP (wav m (fun i => F (2 * i)) k) (twd (wav m (fun i => F (2 * i + 1)) k) (ang m k))) := fun k hk => by
      show _ = _; rw [wav, if_pos (by omega)]
    have HG2 : Hid (∀ k, k < p → wav (m + 1) F (p + k) = subP (wav m (fun i => F (2 * i)) k) (twd (wav m (fun i => F (2 * i + 1)) k) (ang m k))) := fun k hk => by
      show _ = _; rw [wav, if_neg (by omega), ← hp, Nat.add_sub_cancel_left]
    have hn64 : n ≤ 64 := by omega
    have HKN : Hid (∀ k, k < p → k < n ∧ p + k < n) := fun k hk => ⟨by omega, by omega⟩
    clear hn hn2 hp bd h h'
    go_enter Tryd.func76, Tryd.ntmps76
    go_wp2_with (go_at_call 85; (with_reducible refine HP1.out.mono ?_); rintro e w1 ⟨a1, c1, a2, c2, rfl, i1, i2, b1⟩)
    replace i1 : Hid (IsInts w1 a1 p c1 (fun i => fst F (2 * i))) := i1
    replace i2 : Hid (IsInts w1 a2 p c2 (fun i => fst F (2 * i + 1))) := i2
    replace b1 : Hid _ := b1
    go_wp2_with (go_at_call 85; (with_reducible refine (HP2.out _ b1.out).mono ?_); rintro e w2 ⟨d1, e1, d2, e2, rfl, j1, j2, b2⟩)
    replace j1 : Hid (IsInts w2 d1 p e1 (fun i => snd F (2 * i))) := j1
    replace j2 : Hid (IsInts w2 d2 p e2 (fun i => snd F (2 * i + 1))) := j2
    replace b2 : Hid _ := b2
    have q1 : Hid (IsInts w2 a1 p c1 (fst (fun i => F (2 * i)))) := i1.out.below b2.out
    have q2 : Hid (IsInts w2 d1 p e1 (snd (fun i => F (2 * i)))) := j1.out
    have IH1 : Hid (Calls Tryd.prog 76 #[.slice a1 p c1, .slice d1 p e1] w2 (RPost m p (fun i => F (2 * i)) w2)) := IH.out _ _ _ _ _ HEV.out _ q1.out q2.out
    go_wp2_with (go_at_call 76; (with_reducible refine IH1.out.mono ?_); rintro e w3 ⟨x1, y1, x2, y2, rfl, k1, k2, b3⟩)
    replace k1 : Hid (IsInts w3 x1 p y1 (fst (wav m fun i => F (2 * i)))) := k1
    replace k2 : Hid (IsInts w3 x2 p y2 (snd (wav m fun i => F (2 * i)))) := k2
    replace b3 : Hid _ := b3
    have q3 : Hid (IsInts w3 a2 p c2 (fst (fun i => F (2 * i + 1)))) := (i2.out.below b2.out).below b3.out
    have q4 : Hid (IsInts w3 d2 p e2 (snd (fun i => F (2 * i + 1)))) := j2.out.below b3.out
    have IH2 : Hid (Calls Tryd.prog 76 #[.slice a2 p c2, .slice d2 p e2] w3 (RPost m p (fun i => F (2 * i + 1)) w3)) := IH.out _ _ _ _ _ HOD.out _ q3.out q4.out
    have HWV : Hid (∀ f, RPost m p f w3 = RPost m p f w3) := fun _ => rfl
    go_wp2_with (go_at_call 76; (with_reducible refine IH2.out.mono ?_); rintro e w4 ⟨f1, g1, f2, g2, rfl, l1, l2, b4⟩)
    replace l1 : IsInts w4 f1 p g1 (fst (wav m fun i => F (2 * i + 1))) := l1
    replace l2 : IsInts w4 f2 p g2 (snd (wav m fun i => F (2 * i + 1))) := l2
    have bel : Hid (Below w.heap.size w w4) := ((b1.out.trans (b2.out.mono b1.out.size)).trans (b3.out.mono (Nat.le_trans b1.out.size b2.out.size))).trans (b4.mono (Nat.le_trans (Nat.le_trans b1.out.size b2.out.size) b3.out.size))
    obtain ⟨E, hE⟩ : ∃ E, E = wav m (fun i => F (2 * i)) := ⟨_, rfl⟩
    obtain ⟨O, hO⟩ : ∃ O, O = wav m (fun i => F (2 * i + 1)) := ⟨_, rfl⟩
    have BE : Hid (∀ k, Bd 764411904 (E k)) := fun k => by rw [hE]; exact HBD.out _ HEV.out k
    have BO : Hid (∀ k, Bd 764411904 (O k)) := fun k => by rw [hO]; exact HBD.out _ HOD.out k
    have k1' := k1.out.below b4
    have k2' := k2.out.below b4
    rw [← hE] at k1' k2' HG1 HG2
    rw [← hO] at l1 l2 HG1 HG2
    obtain ⟨eb, eo, rfl, CE1⟩ := k1'.cells hp1
    obtain ⟨fb, fo, rfl, CE2⟩ := k2'.cells hp1
    obtain ⟨gb, go, rfl, CO1⟩ := l1.cells hp1
    obtain ⟨ib, io, rfl, CO2⟩ := l2.cells hp1
    replace CE1 : Hid _ := CE1
    replace CE2 : Hid _ := CE2
    replace CO1 : Hid _ := CO1
    replace CO2 : Hid _ := CO2
    have H0 := made_seq n w4
    clear k1 k2 k1' k2' l1 l2 i1 i2 j1 j2 q1 q2 q3 q4 b1 b2 b3 b4 IH IH1 IH2 HP1 HP2 HBD hE hO HEV HOD HWV
    obtain ⟨G, hG⟩ : ∃ G, G = wav (m + 1) F := ⟨_, rfl⟩
    rw [← hG] at HG1 HG2
    have HE : Hid (∀ B r q W, B = w4.heap.size → Two B r q n (fst (hlf p p G)) (snd (hlf p p G)) w4 W → RPost (m + 1) n F w (.returned (.tuple #[.slice (some ⟨r, 0, none⟩) n n, .slice (some ⟨q, 0, none⟩) n n])) W) := fun B r q W hB h2 => by
      subst hB
      have hnp := HNP.out
      have h3 : Two w4.heap.size r q n (fst (wav (m + 1) F)) (snd (wav (m + 1) F)) w4 W := by
        rw [← hG]; exact h2.congr (fun i hi => by show (hlf p p G i).1 = (G i).1; rw [hlf_all G (by omega)]) (fun i hi => by show (hlf p p G i).2 = (G i).2; rw [hlf_all G (by omega)])
      exact ⟨_, _, _, _, rfl, h3.a.ints (by unfold maxLen; omega), h3.b.ints (by unfold maxLen; omega), bel.out.trans (h3.bel.mono bel.out.size)⟩
    clear hG bel
    obtain ⟨B, hB, HW⟩ : ∃ B, B = w4.heap.size ∧ Two B w4.heap.size (w4.heap.size + 1) n (fst (hlf p 0 G)) (snd (hlf p 0 G)) w4 _ := ⟨_, rfl, H0.congr (fun i _ => by show _ = (hlf p 0 G i).1; rw [hlf_zero]) (fun i _ => by show _ = (hlf p 0 G i).2; rw [hlf_zero])⟩
    rw [← hB] at CE1 CE2 CO1 CO2
    have HB : Hid (B = w4.heap.size) := hB
    replace HW : Hid _ := HW
    clear H0 hB
    go_wp2
    generalize (w4.alloc (.cells (rowA n (fun _ => 0)) 3)).alloc (.cells (rowA n (fun _ => 0)) 3) = W0 at HW ⊢
    generalize w4.heap.size + 1 = q at HW ⊢
    generalize w4.heap.size = r at HW ⊢
    clear hmk
    go_loopw [17] (fun i wr => ∃ k : Nat, k ≤ p ∧ i = .int .i64 k ∧ Hid (Two B r q n (fst (hlf p k G)) (snd (hlf p k G)) w4 wr)) (fun i _ => p - (intOf i).toNat)
    case atStart => exact ⟨0, Nat.zero_le _, rfl, HW⟩
    case round =>
      clear HW
      obtain ⟨k, hk, rfl, HW⟩ := hrel
      by_cases hlt : k < p
      · obtain ⟨th, hth⟩ : ∃ th, th = ang m k := ⟨_, rfl⟩
        have hdv : (512 * (k : Int)).tdiv (n : Int) = th := by rw [hth]; exact HTH.out k hlt
        obtain ⟨th0, th1⟩ : 0 ≤ th ∧ th ≤ 256 := by rw [hth]; exact HTB.out k hlt
        have htw : wrap64 th = th := by unfold wrap64; omega
        obtain ⟨o, ho⟩ : ∃ o, o = p + k := ⟨_, rfl⟩
        have ho1 : (k : Int) + (p : Int) = (o : Int) := by omega
        have ho2 : wrap64 (o : Int) = (o : Int) := by unfold wrap64; omega
        have hon : o < n := by rw [ho]; exact (HKN.out k hlt).2
        have hkn : k < n := (HKN.out k hlt).1
        have HOE : Hid (o = p + k) := ho
        have g1 := HG1.out k hlt
        have g2 := HG2.out k hlt
        rw [← hth] at g1 g2
        rw [← ho] at g2
        have b1 := BE.out k
        have b2 := BO.out k
        have b3 := b2.twd th
        have ca1 : ∀ W, Below wr.heap.size wr W → W.cell? ⟨gb, go + k, none⟩ = some (.int .i64 (O k).1) := fun W hq => CO1.out W ((HW.out.below hq).bel) k hlt
        have cb1 : ∀ W, Below wr.heap.size wr W → W.cell? ⟨ib, io + k, none⟩ = some (.int .i64 (O k).2) := fun W hq => CO2.out W ((HW.out.below hq).bel) k hlt
        have HC : Hid (∀ W, Below wr.heap.size wr W → Calls Tryd.prog 60 #[.int .i64 (O k).1, .int .i64 (O k).2, .int .i64 th] W fun e w' => e = .returned (.tuple #[.int .i64 (twd (O k) th).1, .int .i64 (twd (O k) th).2]) ∧ Below wr.heap.size wr w') := fun W hq => by
          refine (rturn_bd b2 th0 th1 W).mono ?_
          rintro e w2 ⟨he, hb⟩
          exact ⟨he, below_then hq hb⟩
        generalize twd (O k) th = xy at *
        have HGk : Hid (G k = addP (E k) xy) := g1
        have HGo : Hid (G o = subP (E k) xy) := g2
        have HPK : Hid (p + k = o) := ho.symm
        clear g1 g2 hth ho
        obtain ⟨⟨x1, x2⟩, ⟨x3, x4⟩⟩ := b1
        obtain ⟨⟨y1', y2'⟩, ⟨y3, y4⟩⟩ := b3
        clear b2
        go_wp2
        refine region_below (by kernel_rfl) (by kernel_rfl) ?_
        repeat (go_big_quiet_step (first
          | (intro hq; rfl)
          | (intro hq; rw [ca1 _ hq]; exact ⟨rfl, rfl⟩)
          | (intro hq; rw [cb1 _ hq]; exact ⟨rfl, rfl⟩)
          | (intro hq; go_at_call 60; exact HC.out _ hq)))
        refine wpQuiet_nil ?_
        intro w1 hq
        have HW1 := HW.out.below hq
        have c1 : w1.cell? ⟨eb, eo + k, none⟩ = some (.int .i64 (E k).1) := CE1.out _ HW1.bel k hlt
        obtain ⟨v1, c2⟩ : ∃ v, w1.cell? ⟨r, k, none⟩ = some v := ⟨_, HW1.a.get hkn⟩
        have f1 := IsAt.frozen HW1.a k
        have HW2 := HW1.setA hkn ((E k).1 + xy.1)
        generalize s2 : w1.setCell ⟨r, k, none⟩ (.int .i64 ((E k).1 + xy.1)) = W2 at HW2
        have c3 : W2.cell? ⟨fb, fo + k, none⟩ = some (.int .i64 (E k).2) := CE2.out _ HW2.bel k hlt
        obtain ⟨v2, c4⟩ : ∃ v, W2.cell? ⟨q, k, none⟩ = some v := ⟨_, HW2.b.get hkn⟩
        have f2 := IsAt.frozen HW2.b k
        have HW3 := HW2.setB hkn ((E k).2 + xy.2)
        generalize s3 : W2.setCell ⟨q, k, none⟩ (.int .i64 ((E k).2 + xy.2)) = W3 at HW3
        have c5 : W3.cell? ⟨eb, eo + k, none⟩ = some (.int .i64 (E k).1) := CE1.out _ HW3.bel k hlt
        obtain ⟨v3, c6⟩ : ∃ v, W3.cell? ⟨r, o, none⟩ = some v := ⟨_, HW3.a.get hon⟩
        have f3 := IsAt.frozen HW3.a o
        have HW4 := HW3.setA hon ((E k).1 - xy.1)
        generalize s4 : W3.setCell ⟨r, o, none⟩ (.int .i64 ((E k).1 - xy.1)) = W4 at HW4
        have c7 : W4.cell? ⟨fb, fo + k, none⟩ = some (.int .i64 (E k).2) := CE2.out _ HW4.bel k hlt
        obtain ⟨v4, c8⟩ : ∃ v, W4.cell? ⟨q, o, none⟩ = some v := ⟨_, HW4.b.get hon⟩
        have f4 := IsAt.frozen HW4.b o
        have HW5 := HW4.setB hon ((E k).2 - xy.2)
        generalize s5 : W4.setCell ⟨q, o, none⟩ (.int .i64 ((E k).2 - xy.2)) = W5 at HW5
        have HW6 : Hid (Two B r q n (fst (hlf p (k + 1) G)) (snd (hlf p (k + 1) G)) w4 W5) := HW5.congr
          (fun i hi => show upd (upd (fst (hlf p k G)) k ((E k).1 + xy.1)) o ((E k).1 - xy.1) i = (hlf p (k + 1) G i).1 by
            rw [hlf_step hlt, HPK.out, HGk.out, HGo.out]; unfold upd; by_cases u1 : i = o
            · rw [if_pos u1, if_pos u1]; rfl
            · rw [if_neg u1, if_neg u1]; by_cases u2 : i = k
              · rw [if_pos u2, if_pos u2]; rfl
              · rw [if_neg u2, if_neg u2])
          (fun i hi => show upd (upd (snd (hlf p k G)) k ((E k).2 + xy.2)) o ((E k).2 - xy.2) i = (hlf p (k + 1) G i).2 by
            rw [hlf_step hlt, HPK.out, HGk.out, HGo.out]; unfold upd; by_cases u1 : i = o
            · rw [if_pos u1, if_pos u1]; rfl
            · rw [if_neg u1, if_neg u1]; by_cases u2 : i = k
              · rw [if_pos u2, if_pos u2]; rfl
              · rw [if_neg u2, if_neg u2])
        clear HW HW1 HW2 HW3 HW4 HW5 HC ca1 cb1 hq
        go_wp2
        refine ⟨⟨k + 1, by omega, by go_num, HW6⟩, by simp [intOf]; omega⟩
      · obtain rfl : k = p := by omega
        go_wp2
        go_ret2
        exact HE.out _ _ _ _ HB.out HW.out
end Go.Proofs.YtfhcfdepjhdhfaaDoor
