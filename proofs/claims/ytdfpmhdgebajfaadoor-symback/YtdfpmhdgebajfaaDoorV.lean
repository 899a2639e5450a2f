/-
  The contract of the document's Coder.Code.
-/
import Derived.Test.YtdfpmhdgebajfaaDoorU
import Derived.Test.YtdfpmhdgebajfaaDoorH
import Derived.Deep.RegionLaw
namespace Go.Proofs.YtdfpmhdgebajfaaDoor
open Go.ChangeShapes Go.WideShapes Go.ChangeAt Go.RowKit
set_option linter.unusedVariables false
set_option maxRecDepth 100000

/-- Block r (one from B on) is the document's coder in the state s. -/
def DoAt (B r : Nat) (s : Co) (w : World) : Prop :=
  B ≤ r ∧ ∃ v, IsAt r 37 #[v, .int .i64 (s.low : Int), lacks s.rng] w ∧ w.ownsRow B 3 1 v s.T.length (nums s.T)
theorem owns_keep {B : Nat} {v : Value} {n : Nat} {xs : List Value} {w w' : World} (h : w.ownsRow B 3 1 v n xs)
    (hk : ∀ (k : Nat) (c : Array Value) (f : Nat × Nat), w.heap[k]? = some (Obj.cells c 3 f) → w'.heap[k]? = w.heap[k]?) : w'.ownsRow B 3 1 v n xs := by
  refine ⟨h.1, ?_⟩
  rcases h.2 with hn | ⟨g, cap, cur, hv, hb, hg, rest⟩
  · exact .inl hn
  · exact .inr ⟨g, cap, cur, hv, hb, (hk _ _ _ hg).trans hg, rest⟩
theorem DoAt.keep {B r : Nat} {s : Co} {w w' : World} (h : DoAt B r s w)
    (hk : ∀ (k : Nat) (c : Array Value) (t : TypeId) (f : Nat × Nat), w.heap[k]? = some (Obj.cells c t f) → t = 37 ∨ t = 3 → w'.heap[k]? = w.heap[k]?) : DoAt B r s w' := by
  obtain ⟨hB, v, h1, h2⟩ := h
  exact ⟨hB, v, (hk _ _ _ _ h1 (.inl rfl)).trans h1, owns_keep h2 fun k c f e => hk k c 3 f e (.inr rfl)⟩
theorem DoAt.below {B r : Nat} {s : Co} {w w' : World} (h : DoAt B r s w) (hb : Below w.heap.size w w') : DoAt B r s w' :=
  h.keep fun k c t f e _ => hb.block k (Array.getElem?_eq_some_iff.1 e).1
theorem owns_set38 {B r : Nat} {v : Value} {n : Nat} {xs : List Value} {cs : Array Value} {w : World} (h : w.ownsRow B 3 1 v n xs) (hr : IsAt r 37 cs w) (o : Nat) (u : Value) : (w.setCell ⟨r, o, none⟩ u).ownsRow B 3 1 v n xs := by
  refine owns_keep h fun k c f e => Below.heap_setCell _ _ _ _ ?_
  intro hkr
  have hkr' : k = r := hkr
  subst hkr'
  have e2 : w.heap[k]? = some (Obj.cells cs 37 (0, 0)) := hr
  rw [e2] at e
  simp at e
theorem do_new (w : World) (B : Nat) (hB : B ≤ w.heap.size) : DoAt B w.heap.size zeroC (w.alloc (.cells #[.slice none 0 0, .int .i64 0, .int .i64 0] 37)) :=
  ⟨hB, .slice none 0 0, heap_alloc_new w _, World.ownsRow_nil _ _ _ _⟩
theorem rcode_not (r : Nat) (lo hi t : Int) (w : World) (hp : isP lo hi t = false) : Calls Tryd.prog 44 #[.pointer (some ⟨r, 0, none⟩), .int .i64 lo, .int .i64 hi, .int .i64 t] w fun e w' => e = .returned (.tuple #[]) ∧ w' = w := by
  go_enter Tryd.func44, Tryd.ntmps44
  go_wp2_with (go_at_call 51; refine (right_any lo hi t _).mono ?_; rintro e w' ⟨rfl, rfl⟩; rw [hp])
  (try simp only [Exit.inBlock, Exit.then])
  refine bodyPost_ret (results_none rfl _ _ _) rfl ?_
  exact ⟨rfl, rfl⟩
theorem top_int (n : Nat) (h : n < 4294967296) : ((UInt8.ofNat (n / 16777216)).toNat : Int) = (n : Int) / 16777216 := by
  rw [ofNat_toNat]
  omega
theorem nums_wid (q : Co) (h : q.low < 4294967296) : nums (wid1 q).T = nums q.T ++ [.int .i64 ((q.low : Int) / 16777216)] := by
  have e : nums [UInt8.ofNat (q.low / 16777216)] = [.int .i64 ((q.low : Int) / 16777216)] := by
    simp only [nums, List.map_cons, List.map_nil, top_int q.low h]
  rw [← e, ← nums_append]
  rfl
theorem owns_mono {w : World} {B B' : Nat} {v : Value} {n : Nat} {xs : List Value} (h : w.ownsRow B 3 1 v n xs) (hb : B' ≤ B) : w.ownsRow B' 3 1 v n xs := by
  refine ⟨h.1, ?_⟩
  rcases h.2 with hn | ⟨g, cap, cur, hv, hbg, rest⟩
  · exact .inl hn
  · exact .inr ⟨g, cap, cur, hv, Nat.le_trans hb hbg, rest⟩
/-- The document's coder amid Code: what is in its third cell is old. -/
def MidAt (B r : Nat) (x : Value) (q : Co) (w : World) : Prop := ∃ v, IsAt r 37 #[v, .int .i64 (q.low : Int), x] w ∧ w.ownsRow B 3 1 v q.T.length (nums q.T)
theorem Hid.mk' {p : Prop} (h : p) : Hid p := h
set_option maxHeartbeats 4000000 in
theorem rcode_at (B r : Nat) (s : Co) (lo hi t : Nat) (w : World) (h : DoAt B r s w) (ok : s.Ok) (p : IsPart lo hi t) (hB : B ≤ w.heap.size) (hl : s.T.length ≤ 2000) (hT : s.low + s.rng / t * lo ≥ 4294967296 → 0 < s.T.length) :
    Calls Tryd.prog 44 #[.pointer (some ⟨r, 0, none⟩), .int .i64 (lo : Int), .int .i64 (hi : Int), .int .i64 (t : Int)] w fun e w' => e = .returned (.tuple #[]) ∧ DoAt B r (codeC s lo hi t) w' ∧ Gr B w w' := by
  have hp := part_isP p
  obtain ⟨hBr, v, h1, hown⟩ := h
  have c0 : w.cell? ⟨r, 0, none⟩ = some v := h1.cell 0
  have c1 : w.cell? ⟨r, 1, none⟩ = some (.int .i64 (s.low : Int)) := h1.cell 1
  have c2 : w.cell? ⟨r, 2, none⟩ = some (.int .i64 (4294967295 - (s.rng : Int))) := h1.cell 2
  have f0 := h1.frozen 0
  have f1 := h1.frozen 1
  have f2 := h1.frozen 2
  have hlow := ok.low
  have hrng := ok.hi
  have pf := part_facts hrng p
  have pn := narrow_ge ok.lo p
  have hq := quo_bd s.rng t hrng
  have HN : Hid (∀ W : World, Calls Tryd.prog 52 #[.int .i64 (s.rng : Int), .int .i64 (lo : Int), .int .i64 (hi : Int), .int .i64 (t : Int)] W fun e w' => e = .returned (.int .i64 ((narrowN s.rng lo hi t : Nat) : Int)) ∧ w' = W) := fun W => rnarrow_any s.rng lo hi t W hrng p
  have H1 : Hid (IsAt r 37 #[v, .int .i64 (s.low : Int), lacks s.rng] w) := h1
  have HO : Hid (w.ownsRow B 3 1 v s.T.length (nums s.T)) := hown
  have OK : Hid s.Ok := ok
  have PP : Hid (IsPart lo hi t) := p
  have e0 := quo_nat s.rng t
  have e1 : (s.rng : Int) / (t : Int) * (lo : Int) = ((s.rng / t * lo : Nat) : Int) := by rw [e0]; exact cast_mul _ _
  have t1 := p.1
  have t2 := p.2.1
  have e9 : (4294967295 : Int) - (4294967295 - (s.rng : Int)) = (s.rng : Int) := by omega
  have hpart : partC s lo hi t = if s.low + s.rng / t * lo < 4294967296 then ⟨s.T, s.low + s.rng / t * lo, narrowN s.rng lo hi t⟩ else ⟨car s.T, s.low + s.rng / t * lo - 4294967296, narrowN s.rng lo hi t⟩ := rfl
  generalize hA : s.rng / t * lo = A at *
  generalize hN : narrowN s.rng lo hi t = N at *
  have q1 : (s.rng : Int) / (t : Int) < 4294967296 := by omega
  have q2 : 0 ≤ (s.rng : Int) / (t : Int) := Int.ediv_nonneg (by omega) (by omega)
  have q3 : (s.rng : Int) / (t : Int) * (lo : Int) ≤ 4294967295 := by omega
  have q4 : 0 ≤ (s.rng : Int) / (t : Int) * (lo : Int) := by omega
  have E1 : Hid ((s.rng : Int) / (t : Int) * (lo : Int) = (A : Int)) := e1
  have hNi : (N : Int) ≤ 4294967295 := by omega
  have hNi2 : (256 : Int) ≤ (N : Int) := by omega
  have hci : (s.low : Int) ≤ 4294967295 := by omega
  have hri : (s.rng : Int) ≤ 4294967295 := by omega
  have hA4 : A ≤ 4294967295 := by omega
  have HH : Hid (partC s lo hi t).Half := part_half OK.out PP.out
  have HPC : Hid (partC s lo hi t = if s.low + A < 4294967296 then ⟨s.T, s.low + A, N⟩ else ⟨car s.T, s.low + A - 4294967296, N⟩) := hpart
  clear h1 ok p pf e0 e1 hq hpart hown
  by_cases hcase : s.low + A < 4294967296
  · have hd : decide ((s.low : Int) + (A : Int) ≥ 4294967296) = false := decide_eq_false (by omega)
    have hpc : partC s lo hi t = ⟨s.T, s.low + A, N⟩ := by rw [HPC.out, if_pos hcase]
    have HQ : Hid (MidAt B r (lacks s.rng) (partC s lo hi t) ((w.setCell ⟨r, 1, none⟩ (.int .i64 ((s.low : Int) + (A : Int)))).drew)) := by
      show MidAt _ _ _ _ _
      rw [hpc]
      exact ⟨v, (H1.out.set 1 _).drewN 1, (owns_set38 HO.out H1.out _ _).drew⟩
    have FQ : Hid (Gr B w ((w.setCell ⟨r, 1, none⟩ (.int .i64 ((s.low : Int) + (A : Int)))).drew)) := ((Gr.refl B w).setCell H1.out (.inl rfl) hBr _ _).drew
    go_enter Tryd.func44, Tryd.ntmps44
    go_wp2_with (go_at_call 51; refine (right_any lo hi t _).mono ?_; rintro e w' ⟨rfl, he⟩; rw [hp, he]; clear he w')
    go_region
    rw [E1.out]
    go_wp2_with (go_at_call 52; refine (HN.out _).mono ?_; rintro e w' ⟨rfl, rfl⟩)
    go_loopg [8] 16777216 (fun k x wr => ∃ q : Co, q.Half ∧ x = .int .i64 (q.rng : Int) ∧ MidAt B r (lacks s.rng) q wr ∧ Gr B w wr ∧ widC 3 q = codeC s lo hi t ∧ 16777216 - q.rng ≤ k)
    case atStart => exact ⟨partC s lo hi t, HH.out, by rw [hpc], HQ.out, FQ.out, rfl, by omega⟩
    case round =>
      obtain ⟨q, hq, rfl, hmid, hgr, hwid, hk⟩ := hrel
      have HW : Hid (widC 3 q = codeC s lo hi t) := hwid
      have HG : Hid (Gr B w wr) := hgr
      have HHq : Hid q.Half := hq
      obtain ⟨v', m1, m2⟩ := hmid
      have HM1 : Hid (IsAt r 37 #[v', .int .i64 (q.low : Int), lacks s.rng] wr) := m1
      have HM2 : Hid (wr.ownsRow B 3 1 v' q.T.length (nums q.T)) := m2
      have k0 : wr.cell? ⟨r, 0, none⟩ = some v' := m1.cell 0
      have k1 : wr.cell? ⟨r, 1, none⟩ = some (.int .i64 (q.low : Int)) := m1.cell 1
      have k2 : wr.cell? ⟨r, 2, none⟩ = some (lacks s.rng) := m1.cell 2
      have g2 := m1.frozen 2
      have hqr := hq.hi
      have hql := hq.low
      have hqi : (q.low : Int) ≤ 4294967295 := by omega
      have hqri : (q.rng : Int) ≤ 4294967295 := by omega
      have hqT : q.T.length ≤ 2002 := by
        have e1 := wid_len_ge hq
        have e2 := code_len OK.out PP.out
        rw [hwid] at e1
        omega
      have hBw : B ≤ wr.heap.size := Nat.le_trans hB hgr.below.size
      clear hwid hgr hq HQ FQ HH c0 c1 c2 f0 f1 f2
      by_cases hr : 16777216 ≤ q.rng
      · have hdr : decide ((q.rng : Int) < 16777216) = false := decide_eq_false (by omega)
        clear m1 m2
        go_wp2
        go_end0
        refine ⟨rfl, ?_, HG.out.setCell HM1.out (.inl rfl) hBr _ _⟩
        rw [← HW.out, widC_no hr]
        exact ⟨hBr, v', HM1.out.set 2 _, owns_set38 HM2.out HM1.out _ _⟩
      · have hr' : q.rng < 16777216 := by omega
        have hdr : decide ((q.rng : Int) < 16777216) = true := decide_eq_true (by omega)
        have hri2 : (q.rng : Int) < 16777216 := by omega
        obtain ⟨i0, hi3, hz0, hz1, hz2⟩ := info3
        have HI3 : Hid (Tryd.prog.info? 3 = some i0) := hi3
        have HAO : Hid (((wr.alloc (.cells #[.int .i64 ((q.low : Int) / 16777216)] 3)).drew).ownsRow B 3 1 v' q.T.length (nums q.T)) := (m2.alloc _).drew
        have HNEW : Hid (∀ (j : Nat) (u : Value), [Value.int .i64 ((q.low : Int) / 16777216)][j]? = some u → ((wr.alloc (.cells #[.int .i64 ((q.low : Int) / 16777216)] 3)).drew).cell? ((⟨wr.heap.size, 0, none⟩ : Addr).add j) = some u) := World.news_of_block (heap_alloc_new wr _)
        have HBW : Hid (B ≤ ((wr.alloc (.cells #[.int .i64 ((q.low : Int) / 16777216)] 3)).drew).heap.size) := by
          show B ≤ (wr.heap.push _).size
          simp
          omega
        have HK0 : Hid (∀ w1, ((wr.alloc (.cells #[.int .i64 ((q.low : Int) / 16777216)] 3)).drew).grownBy w1 v'.ownBlock → IsAt r 37 #[v', .int .i64 (q.low : Int), lacks s.rng] w1) := by
          intro w1 hg
          have hr1 : IsAt r 37 #[v', .int .i64 (q.low : Int), lacks s.rng] ((wr.alloc (.cells #[.int .i64 ((q.low : Int) / 16777216)] 3)).drew) := (Below.heap_alloc wr _ r m1.lt).trans m1
          refine (hg.block r hr1.lt (fun hk => ?_)).trans hr1
          obtain ⟨_, c, f, e⟩ := owns_kind HAO.out r hk.symm
          have hr2 : ((wr.alloc (.cells #[.int .i64 ((q.low : Int) / 16777216)] 3)).drew).heap[r]? = some (.cells #[v', .int .i64 (q.low : Int), lacks s.rng] 37 (0, 0)) := hr1
          rw [hr2] at e
          simp at e
        have HGW : Hid (∀ w1, ((wr.alloc (.cells #[.int .i64 ((q.low : Int) / 16777216)] 3)).drew).grownBy w1 v'.ownBlock → Gr B w w1) := by
          intro w1 hg
          exact ((HG.out.alloc hBw _).drew).grown hg HBW.out (owns_kind HAO.out)
        have hwq : IntKind.i64.wrap ((q.low : Int) / 16777216) = (q.low : Int) / 16777216 := by
          simp [IntKind.wrap, IntKind.signed, IntKind.bits]
          omega
        have ka0 : (wr.alloc (.cells #[.int .i64 ((q.low : Int) / 16777216)] 3)).cell? ⟨r, 0, none⟩ = some v' := (World.cell?_alloc_some _ _ _ (by rw [k0]; rfl)).trans k0
        have ka1 : (wr.alloc (.cells #[.int .i64 ((q.low : Int) / 16777216)] 3)).cell? ⟨r, 1, none⟩ = some (.int .i64 (q.low : Int)) := (World.cell?_alloc_some _ _ _ (by rw [k1]; rfl)).trans k1
        clear m1 m2 hi3
        go_wp2
        go_region_law ((refine step_append_lies _ (by rfl) _ _ _ (by rfl) B 3 i0 (.int .i64 0) 1 8 Tryd.underlying35 HI3.out hz0 hz1 hz2 rfl (by omega) v' q.T.length (nums q.T) (by rfl) HAO.out ⟨wr.heap.size, 0, none⟩ 1 1 [.int .i64 ((q.low : Int) / 16777216)] (by rfl) (by rfl) HNEW.out (by intro u hu; simp at hu; subst hu; rfl) (by omega) (by unfold maxLen; omega) (by omega) HBW.out _ rfl ?_; intro g cap w1 hown1 hgrow hat hlt; have hr1 := HK0.out w1 hgrow; have j0 : w1.cell? ⟨r, 0, none⟩ = some v' := hr1.cell 0; have j1 : w1.cell? ⟨r, 1, none⟩ = some (.int .i64 (q.low : Int)) := hr1.cell 1; have l0 := hr1.frozen 0; have l1 := hr1.frozen 1))
        all_goals (
          have HOW : Hid (w1.ownsRow B 3 1 (.slice (some ⟨g, 0, none⟩) (q.T.length + 1) cap) (q.T.length + 1) (nums q.T ++ [.int .i64 ((q.low : Int) / 16777216)])) := hown1
          have HGR : Hid (Gr B w w1) := HGW.out w1 hgrow
          have HR1 : Hid (IsAt r 37 #[v', .int .i64 (q.low : Int), lacks s.rng] w1) := hr1
          clear hown1 hgrow hat hlt hr1 HAO HNEW HBW HK0 HGW ka0 ka1
          go_wp2
          go_roundg (16777216 - q.rng * 256)
          case measure => have := HHq.out.lo; omega
          case rel =>
            obtain ⟨ws1, ws2⟩ := wid_step HHq.out hr'
            refine ⟨wid1 q, ws2, ?_, ⟨.slice (some ⟨g, 0, none⟩) (q.T.length + 1) cap, ?_, ?_⟩, ?_, by rw [← ws1]; exact HW.out, Nat.le_refl _⟩
            · show _ = Value.int .i64 ((q.rng * 256 : Nat) : Int)
              rw [show ((q.rng * 256 : Nat) : Int) = (q.rng : Int) * 256 by omega]
            · show IsAt r 37 #[_, Value.int .i64 ((q.low % 16777216 * 256 : Nat) : Int), _] _
              rw [show ((q.low % 16777216 * 256 : Nat) : Int) = (q.low : Int) % 16777216 * 256 by omega]
              exact (HR1.out.set 0 _).set 1 _
            · have e1 : nums (wid1 q).T = nums q.T ++ [.int .i64 ((q.low : Int) / 16777216)] := by
                exact nums_wid q HHq.out.low
              rw [wid1_len, e1]
              exact owns_set38 (owns_set38 HOW.out HR1.out _ _) (HR1.out.set 0 _) _ _
            · exact (HGR.out.setCell HR1.out (.inl rfl) hBr _ _).setCell (HR1.out.set 0 _) (.inl rfl) hBr _ _)
  · have hd : decide ((s.low : Int) + (A : Int) ≥ 4294967296) = true := decide_eq_true (by omega)
    have hpc : partC s lo hi t = ⟨car s.T, s.low + A - 4294967296, N⟩ := by rw [HPC.out, if_neg hcase]
    have hT0 : 0 < s.T.length := hT (by omega)
    obtain ⟨g0, cap0, rfl, _, _⟩ := HO.out.form hT0
    have hci4 : (4294967296 : Int) ≤ (s.low : Int) + (A : Int) := by omega
    have HW5 : Hid (IsAt r 37 #[.slice (some ⟨g0, 0, none⟩) s.T.length cap0, .int .i64 ((s.low : Int) + (A : Int) - 4294967296), lacks s.rng] (((w.setCell ⟨r, 1, none⟩ (.int .i64 ((s.low : Int) + (A : Int)))).setCell ⟨r, 1, none⟩ (.int .i64 ((s.low : Int) + (A : Int) - 4294967296))).drew)) := ((H1.out.set 1 _).set 1 _).drewN 1
    have HO5 : Hid ((((w.setCell ⟨r, 1, none⟩ (.int .i64 ((s.low : Int) + (A : Int)))).setCell ⟨r, 1, none⟩ (.int .i64 ((s.low : Int) + (A : Int) - 4294967296))).drew).ownsRow B 3 1 (.slice (some ⟨g0, 0, none⟩) s.T.length cap0) s.T.length (nums s.T)) := (owns_set38 (owns_set38 HO.out H1.out _ _) (H1.out.set 1 _) _ _).drew
    have HG5 : Hid (Gr B w (((w.setCell ⟨r, 1, none⟩ (.int .i64 ((s.low : Int) + (A : Int)))).setCell ⟨r, 1, none⟩ (.int .i64 ((s.low : Int) + (A : Int) - 4294967296))).drew)) := ((((Gr.refl B w).setCell H1.out (.inl rfl) hBr _ _).setCell (H1.out.set 1 _) (.inl rfl) hBr _ _)).drew
    go_enter Tryd.func44, Tryd.ntmps44
    go_wp2_with (go_at_call 51; refine (right_any lo hi t _).mono ?_; rintro e w' ⟨rfl, he⟩; rw [hp, he]; clear he w')
    go_region
    rw [E1.out]
    go_wp2_with (first
      | (go_at_call 52; refine (HN.out _).mono ?_; rintro e w' ⟨rfl, rfl⟩)
      | (go_at_call 61; refine (carried_any B g0 cap0 s.T _ HO5.out hT0 (by omega)).mono ?_; rintro e w5 hcp; obtain ⟨g, cap, rfl, hown5, hb5⟩ := hcp; have j5 := HW5.out.below hb5; have j0 : w5.cell? ⟨r, 0, none⟩ = some (.slice (some ⟨g0, 0, none⟩) s.T.length cap0) := j5.cell 0; have l0 := j5.frozen 0; have HJ5 : Hid (IsAt r 37 #[.slice (some ⟨g0, 0, none⟩) s.T.length cap0, .int .i64 ((s.low : Int) + (A : Int) - 4294967296), lacks s.rng] w5) := j5; have HN5 := Hid.mk' hown5; have HB5 := Hid.mk' hb5; clear hown5 hb5 j5))
    have HQ : Hid (MidAt B r (lacks s.rng) (partC s lo hi t) (w5.setCell ⟨r, 0, none⟩ (.slice (some ⟨g, 0, none⟩) s.T.length cap))) := by
      show MidAt _ _ _ _ _
      rw [hpc]
      refine ⟨.slice (some ⟨g, 0, none⟩) s.T.length cap, ?_, ?_⟩
      · show IsAt r 37 #[_, Value.int .i64 ((s.low + A - 4294967296 : Nat) : Int), _] _
        rw [show ((s.low + A - 4294967296 : Nat) : Int) = (s.low : Int) + (A : Int) - 4294967296 by omega]
        exact HJ5.out.set 0 _
      · show World.ownsRow _ B 3 1 _ (car s.T).length (nums (car s.T))
        rw [car_len]
        exact owns_set38 (owns_mono HN5.out (Nat.le_trans hB HG5.out.below.size)) HJ5.out _ _
    have FQ : Hid (Gr B w (w5.setCell ⟨r, 0, none⟩ (.slice (some ⟨g, 0, none⟩) s.T.length cap))) := (HG5.out.trans (Gr.of_below HB5.out (Nat.le_trans hB HG5.out.below.size))).setCell HJ5.out (.inl rfl) hBr _ _
    clear HJ5 HN5 HB5 HO5 HW5 HG5 j0 l0
    go_loopg [8] 16777216 (fun k x wr => ∃ q : Co, q.Half ∧ x = .int .i64 (q.rng : Int) ∧ MidAt B r (lacks s.rng) q wr ∧ Gr B w wr ∧ widC 3 q = codeC s lo hi t ∧ 16777216 - q.rng ≤ k)
    case atStart => exact ⟨partC s lo hi t, HH.out, by rw [hpc], HQ.out, FQ.out, rfl, by omega⟩
    case round =>
      obtain ⟨q, hq, rfl, hmid, hgr, hwid, hk⟩ := hrel
      have HW : Hid (widC 3 q = codeC s lo hi t) := hwid
      have HG : Hid (Gr B w wr) := hgr
      have HHq : Hid q.Half := hq
      obtain ⟨v', m1, m2⟩ := hmid
      have HM1 : Hid (IsAt r 37 #[v', .int .i64 (q.low : Int), lacks s.rng] wr) := m1
      have HM2 : Hid (wr.ownsRow B 3 1 v' q.T.length (nums q.T)) := m2
      have k0 : wr.cell? ⟨r, 0, none⟩ = some v' := m1.cell 0
      have k1 : wr.cell? ⟨r, 1, none⟩ = some (.int .i64 (q.low : Int)) := m1.cell 1
      have k2 : wr.cell? ⟨r, 2, none⟩ = some (lacks s.rng) := m1.cell 2
      have g2 := m1.frozen 2
      have hqr := hq.hi
      have hql := hq.low
      have hqi : (q.low : Int) ≤ 4294967295 := by omega
      have hqri : (q.rng : Int) ≤ 4294967295 := by omega
      have hqT : q.T.length ≤ 2002 := by
        have e1 := wid_len_ge hq
        have e2 := code_len OK.out PP.out
        rw [hwid] at e1
        omega
      have hBw : B ≤ wr.heap.size := Nat.le_trans hB hgr.below.size
      clear hwid hgr hq HQ FQ HH c0 c1 c2 f0 f1 f2
      by_cases hr : 16777216 ≤ q.rng
      · have hdr : decide ((q.rng : Int) < 16777216) = false := decide_eq_false (by omega)
        clear m1 m2
        go_wp2
        go_end0
        refine ⟨rfl, ?_, HG.out.setCell HM1.out (.inl rfl) hBr _ _⟩
        rw [← HW.out, widC_no hr]
        exact ⟨hBr, v', HM1.out.set 2 _, owns_set38 HM2.out HM1.out _ _⟩
      · have hr' : q.rng < 16777216 := by omega
        have hdr : decide ((q.rng : Int) < 16777216) = true := decide_eq_true (by omega)
        have hri2 : (q.rng : Int) < 16777216 := by omega
        obtain ⟨i0, hi3, hz0, hz1, hz2⟩ := info3
        have HI3 : Hid (Tryd.prog.info? 3 = some i0) := hi3
        have HAO : Hid (((wr.alloc (.cells #[.int .i64 ((q.low : Int) / 16777216)] 3)).drew).ownsRow B 3 1 v' q.T.length (nums q.T)) := (m2.alloc _).drew
        have HNEW : Hid (∀ (j : Nat) (u : Value), [Value.int .i64 ((q.low : Int) / 16777216)][j]? = some u → ((wr.alloc (.cells #[.int .i64 ((q.low : Int) / 16777216)] 3)).drew).cell? ((⟨wr.heap.size, 0, none⟩ : Addr).add j) = some u) := World.news_of_block (heap_alloc_new wr _)
        have HBW : Hid (B ≤ ((wr.alloc (.cells #[.int .i64 ((q.low : Int) / 16777216)] 3)).drew).heap.size) := by
          show B ≤ (wr.heap.push _).size
          simp
          omega
        have HK0 : Hid (∀ w1, ((wr.alloc (.cells #[.int .i64 ((q.low : Int) / 16777216)] 3)).drew).grownBy w1 v'.ownBlock → IsAt r 37 #[v', .int .i64 (q.low : Int), lacks s.rng] w1) := by
          intro w1 hg
          have hr1 : IsAt r 37 #[v', .int .i64 (q.low : Int), lacks s.rng] ((wr.alloc (.cells #[.int .i64 ((q.low : Int) / 16777216)] 3)).drew) := (Below.heap_alloc wr _ r m1.lt).trans m1
          refine (hg.block r hr1.lt (fun hk => ?_)).trans hr1
          obtain ⟨_, c, f, e⟩ := owns_kind HAO.out r hk.symm
          have hr2 : ((wr.alloc (.cells #[.int .i64 ((q.low : Int) / 16777216)] 3)).drew).heap[r]? = some (.cells #[v', .int .i64 (q.low : Int), lacks s.rng] 37 (0, 0)) := hr1
          rw [hr2] at e
          simp at e
        have HGW : Hid (∀ w1, ((wr.alloc (.cells #[.int .i64 ((q.low : Int) / 16777216)] 3)).drew).grownBy w1 v'.ownBlock → Gr B w w1) := by
          intro w1 hg
          exact ((HG.out.alloc hBw _).drew).grown hg HBW.out (owns_kind HAO.out)
        have hwq : IntKind.i64.wrap ((q.low : Int) / 16777216) = (q.low : Int) / 16777216 := by
          simp [IntKind.wrap, IntKind.signed, IntKind.bits]
          omega
        have ka0 : (wr.alloc (.cells #[.int .i64 ((q.low : Int) / 16777216)] 3)).cell? ⟨r, 0, none⟩ = some v' := (World.cell?_alloc_some _ _ _ (by rw [k0]; rfl)).trans k0
        have ka1 : (wr.alloc (.cells #[.int .i64 ((q.low : Int) / 16777216)] 3)).cell? ⟨r, 1, none⟩ = some (.int .i64 (q.low : Int)) := (World.cell?_alloc_some _ _ _ (by rw [k1]; rfl)).trans k1
        clear m1 m2 hi3
        go_wp2
        go_region_law ((refine step_append_lies _ (by rfl) _ _ _ (by rfl) B 3 i0 (.int .i64 0) 1 8 Tryd.underlying35 HI3.out hz0 hz1 hz2 rfl (by omega) v' q.T.length (nums q.T) (by rfl) HAO.out ⟨wr.heap.size, 0, none⟩ 1 1 [.int .i64 ((q.low : Int) / 16777216)] (by rfl) (by rfl) HNEW.out (by intro u hu; simp at hu; subst hu; rfl) (by omega) (by unfold maxLen; omega) (by omega) HBW.out _ rfl ?_; intro g cap w1 hown1 hgrow hat hlt; have hr1 := HK0.out w1 hgrow; have j0 : w1.cell? ⟨r, 0, none⟩ = some v' := hr1.cell 0; have j1 : w1.cell? ⟨r, 1, none⟩ = some (.int .i64 (q.low : Int)) := hr1.cell 1; have l0 := hr1.frozen 0; have l1 := hr1.frozen 1))
        all_goals (
          have HOW : Hid (w1.ownsRow B 3 1 (.slice (some ⟨g, 0, none⟩) (q.T.length + 1) cap) (q.T.length + 1) (nums q.T ++ [.int .i64 ((q.low : Int) / 16777216)])) := hown1
          have HGR : Hid (Gr B w w1) := HGW.out w1 hgrow
          have HR1 : Hid (IsAt r 37 #[v', .int .i64 (q.low : Int), lacks s.rng] w1) := hr1
          clear hown1 hgrow hat hlt hr1 HAO HNEW HBW HK0 HGW ka0 ka1
          go_wp2
          go_roundg (16777216 - q.rng * 256)
          case measure => have := HHq.out.lo; omega
          case rel =>
            obtain ⟨ws1, ws2⟩ := wid_step HHq.out hr'
            refine ⟨wid1 q, ws2, ?_, ⟨.slice (some ⟨g, 0, none⟩) (q.T.length + 1) cap, ?_, ?_⟩, ?_, by rw [← ws1]; exact HW.out, Nat.le_refl _⟩
            · show _ = Value.int .i64 ((q.rng * 256 : Nat) : Int)
              rw [show ((q.rng * 256 : Nat) : Int) = (q.rng : Int) * 256 by omega]
            · show IsAt r 37 #[_, Value.int .i64 ((q.low % 16777216 * 256 : Nat) : Int), _] _
              rw [show ((q.low % 16777216 * 256 : Nat) : Int) = (q.low : Int) % 16777216 * 256 by omega]
              exact (HR1.out.set 0 _).set 1 _
            · have e1 : nums (wid1 q).T = nums q.T ++ [.int .i64 ((q.low : Int) / 16777216)] := by
                exact nums_wid q HHq.out.low
              rw [wid1_len, e1]
              exact owns_set38 (owns_set38 HOW.out HR1.out _ _) (HR1.out.set 0 _) _ _
            · exact (HGR.out.setCell HR1.out (.inl rfl) hBr _ _).setCell (HR1.out.set 0 _) (.inl rfl) hBr _ _)
end Go.Proofs.YtdfpmhdgebajfaaDoor
