/-
  The contract of the document's parts: those at even places, and those at odd ones.
-/
import Derived.Test.YtgkjjkdjalbfaaaDoorFC
import Derived.Deep.AppendLies
namespace Go.Proofs.YtgkjjkdjalbfaaaDoor
open Go.ChangeShapes Go.WideShapes Go.ChangeAt Go.RowKit
set_option linter.unusedVariables false

/-- Two rows of the call's own: ca numbers of even places, cb of odd ones. -/
structure Par (B : Nat) (u v : Value) (ca cb : Nat) (X : Nat → Int) (w0 w : World) : Prop where
  a : w.ownsRow B 3 1 u ca (intL ca fun i => X (2 * i))
  b : w.ownsRow B 3 1 v cb (intL cb fun i => X (2 * i + 1))
  ne : u.ownBlock = none ∨ u.ownBlock ≠ v.ownBlock
  bel : Below B w0 w
  sz : B ≤ w.heap.size
theorem par_a {B : Nat} {u v : Value} {ca cb : Nat} {X : Nat → Int} {w0 w w3 : World} {g cap : Nat} {o : Obj} (h : Par B u v ca cb X w0 w)
    (hown : w3.ownsRow B 3 1 (.slice (some ⟨g, 0, none⟩) (ca + 1) cap) (ca + 1) ((intL ca fun i => X (2 * i)) ++ [.int .i64 (X (2 * ca))])) (hg : (w.alloc o).grownBy w3 u.ownBlock)
    (hor : u.ownBlock = some g ∨ g = w.heap.size + 1) : Par B (.slice (some ⟨g, 0, none⟩) (ca + 1) cap) v (ca + 1) cb X w0 w3 := by
  have hs : (w.alloc o).heap.size = w.heap.size + 1 := by show (w.heap.push o).size = _; simp
  refine ⟨?_, (h.b.alloc _).kept hg ?_, .inr ?_, Below.grown (h.bel.alloc h.sz _) hg (by have := h.sz; omega) (fun j hj => (h.a.lt j hj).1), by have := hg.size; have := h.sz; omega⟩
  · rw [intL_snoc]; exact hown
  · rcases h.ne with e | e
    · rw [e]; cases hv : v.ownBlock with
      | none => exact .inl rfl
      | some x => exact .inr (by simp)
    · exact .inr (fun e' => e e'.symm)
  · intro e
    have e : some g = v.ownBlock := e
    rcases hor with e2 | e2
    · rcases h.ne with e3 | e3
      · rw [e2] at e3; cases e3
      · exact e3 (e2.trans e)
    · have := (h.b.lt g e.symm).2
      omega
theorem par_b {B : Nat} {u v : Value} {ca cb : Nat} {X : Nat → Int} {w0 w w3 : World} {g cap : Nat} {o : Obj} (h : Par B u v ca cb X w0 w)
    (hown : w3.ownsRow B 3 1 (.slice (some ⟨g, 0, none⟩) (cb + 1) cap) (cb + 1) ((intL cb fun i => X (2 * i + 1)) ++ [.int .i64 (X (2 * cb + 1))])) (hg : (w.alloc o).grownBy w3 v.ownBlock)
    (hor : v.ownBlock = some g ∨ g = w.heap.size + 1) : Par B u (.slice (some ⟨g, 0, none⟩) (cb + 1) cap) ca (cb + 1) X w0 w3 := by
  have hs : (w.alloc o).heap.size = w.heap.size + 1 := by show (w.heap.push o).size = _; simp
  refine ⟨(h.a.alloc _).kept hg h.ne, ?_, ?_, Below.grown (h.bel.alloc h.sz _) hg (by have := h.sz; omega) (fun j hj => (h.b.lt j hj).1), by have := hg.size; have := h.sz; omega⟩
  · rw [intL_snoc]; exact hown
  · rcases h.ne with e | e
    · exact .inl e
    · refine .inr (fun e1 => ?_)
      have e1 : u.ownBlock = some g := e1
      rcases hor with e2 | e2
      · exact e (e1.trans e2.symm)
      · have := (h.a.lt g e1).2
        omega
/-- What parts gives. -/
def PPost (p : Nat) (X : Nat → Int) (w : World) (e : Ending) (w' : World) : Prop := ∃ a1 c1 a2 c2, e = .returned (.tuple #[.slice a1 p c1, .slice a2 p c2]) ∧ IsInts w' a1 p c1 (fun i => X (2 * i)) ∧ IsInts w' a2 p c2 (fun i => X (2 * i + 1)) ∧ Below w.heap.size w w'
set_option maxRecDepth 100000 in
theorem rparts_any (a : Option Addr) (n p cap : Nat) (hn : n = 2 * p) (h1 : 1 ≤ n) (h64 : n ≤ 64) (X : Nat → Int) (w : World) (h : IsInts w a n cap X) :
    Calls Tryd.prog 51 #[.slice a n cap] w (PPost p X w) := by
  rcases h with h | ⟨b, off, rfl, hb, _, _, hc⟩
  · omega
  obtain ⟨i0, hi, hz0, hz1, hz2⟩ := infoI
  have HI : Hid (Tryd.prog.info? 3 = some i0) := hi
  have HC : Hid (∀ W, Below w.heap.size w W → ∀ i, i < n → W.cell? ⟨b, off + i, none⟩ = some (.int .i64 (X i))) := fun W h i hi => by
    rw [h.cell (p := ⟨b, off + i, none⟩) hb]; exact hc i hi
  have HE : Hid (∀ u v wr, Par w.heap.size u v p p X w wr → PPost p X w (.returned (.tuple #[u, v])) wr) := fun u v wr h => by
    obtain ⟨a1, c1, rfl, i1⟩ := own_ints h.a
    obtain ⟨a2, c2, rfl, i2⟩ := own_ints h.b
    exact ⟨a1, c1, a2, c2, rfl, i1, i2, h.bel⟩
  have H0 : Hid (Par w.heap.size (.slice none 0 0) (.slice none 0 0) 0 0 X w w) := ⟨World.ownsRow_nil _ _ _ _, World.ownsRow_nil _ _ _ _, .inl rfl, Below.refl _ _, Nat.le_refl _⟩
  have HNP : Hid (n = 2 * p) := hn
  clear hi hc hb hn
  obtain ⟨B, hB⟩ : ∃ B, B = w.heap.size := ⟨_, rfl⟩
  rw [← hB] at HC HE H0
  clear hB
  go_enter Tryd.func51, Tryd.ntmps51
  go_wp2
  go_loopw [4, 5, 6] (fun u v i wr => ∃ k ca cb : Nat, k ≤ n ∧ i = .int .i64 k ∧ k = ca + cb ∧ (ca = cb ∨ ca = cb + 1) ∧ Hid (Par B u v ca cb X w wr)) (fun _ _ i _ => n - (intOf i).toNat)
  case atStart => exact ⟨0, 0, 0, by omega, rfl, rfl, .inl rfl, H0⟩
  case round =>
    clear H0
    obtain ⟨k, ca, cb, hk, rfl, hkc, hpar, HP⟩ := hrel
    have HKC : Hid (k = ca + cb ∧ (ca = cb ∨ ca = cb + 1)) := ⟨hkc, hpar⟩
    have hca : ca ≤ 64 := by omega
    have hcb : cb ≤ 64 := by omega
    have hev' : k % 2 = 0 ∨ k % 2 = 1 := by omega
    clear hkc hpar
    by_cases hlt : k < n
    · have hck := HC.out _ HP.out.bel k hlt
      have HZ : Hid (∀ c : Int, B ≤ (wr.alloc (.cells #[.int .i64 c] 3)).heap.size) := fun c => Nat.le_trans HP.out.sz (by simp)
      rcases hev' with hev | hev
      · have t1 : (k : Int).tmod 2 = 0 := by rw [Int.tmod_eq_emod_of_nonneg (by omega)]; omega
        have HK : Hid (X k = X (2 * ca)) := by obtain ⟨z1, z2⟩ := HKC.out; show _ = _; congr 1; omega
        have HN : Hid (∀ g cap w3, Par B (.slice (some ⟨g, 0, none⟩) (ca + 1) cap) u5 (ca + 1) cb X w w3 → ∃ ca' cb' : Nat, k + 1 = ca' + cb' ∧ (ca' = cb' ∨ ca' = cb' + 1) ∧ Par B (.slice (some ⟨g, 0, none⟩) (ca + 1) cap) u5 ca' cb' X w w3) := fun g cap w3 h => by
          obtain ⟨z1, z2⟩ := HKC.out
          exact ⟨ca + 1, cb, by omega, by omega, h⟩
        have HA : Hid (∀ c : Int, (wr.alloc (.cells #[.int .i64 c] 3)).ownsRow B 3 1 u4 ca (intL ca fun i => X (2 * i))) := fun c => HP.out.a.alloc _
        rw [HK.out] at hck
        obtain ⟨xk, hxk⟩ : ∃ x, x = X (2 * ca) := ⟨_, rfl⟩
        rw [← hxk] at hck
        have HX : Hid (xk = X (2 * ca)) := hxk
        clear hxk
        go_wp2_with (at_builtin; refine wpList_append_lies _ rfl _ _ _ rfl B 3 i0 (.int .i64 0) 1 8 Tryd.underlying22 HI.out hz0 hz1 hz2 rfl (by omega) _ _ _ rfl (HA.out _) ⟨wr.heap.size, 0, none⟩ 1 1 [.int .i64 xk] rfl rfl (World.news_of_block (cs := #[.int .i64 xk]) (heap_alloc_new wr _)) (by intro u hu; simp at hu; subst hu; rfl) (by omega) (by unfold maxLen; omega) (by omega) (HZ.out _) _ rfl ?_)
        intro g cap w3 hown hgr hor _
        rw [HX.out] at hown hgr
        obtain ⟨ca', cb', z1, z2, hp3⟩ := HN.out _ _ _ (par_a HP.out hown hgr hor)
        have Z : Hid (k + 1 = ca' + cb' ∧ (ca' = cb' ∨ ca' = cb' + 1)) := ⟨z1, z2⟩
        have P3 : Hid _ := hp3
        clear hown hgr hor HA HN HP hck HC hp3 z1 z2
        go_wp2
        go_round
        case rel => exact ⟨k + 1, ca', cb', by omega, by go_num, Z.out.1, Z.out.2, P3⟩
        case measure => simp [intOf]; omega
      · have t1 : (k : Int).tmod 2 = 1 := by rw [Int.tmod_eq_emod_of_nonneg (by omega)]; omega
        have HK : Hid (X k = X (2 * cb + 1)) := by obtain ⟨z1, z2⟩ := HKC.out; show _ = _; congr 1; omega
        have HN : Hid (∀ g cap w3, Par B u4 (.slice (some ⟨g, 0, none⟩) (cb + 1) cap) ca (cb + 1) X w w3 → ∃ ca' cb' : Nat, k + 1 = ca' + cb' ∧ (ca' = cb' ∨ ca' = cb' + 1) ∧ Par B u4 (.slice (some ⟨g, 0, none⟩) (cb + 1) cap) ca' cb' X w w3) := fun g cap w3 h => by
          obtain ⟨z1, z2⟩ := HKC.out
          exact ⟨ca, cb + 1, by omega, by omega, h⟩
        have HA : Hid (∀ c : Int, (wr.alloc (.cells #[.int .i64 c] 3)).ownsRow B 3 1 u5 cb (intL cb fun i => X (2 * i + 1))) := fun c => HP.out.b.alloc _
        rw [HK.out] at hck
        obtain ⟨xk, hxk⟩ : ∃ x, x = X (2 * cb + 1) := ⟨_, rfl⟩
        rw [← hxk] at hck
        have HX : Hid (xk = X (2 * cb + 1)) := hxk
        clear hxk
        go_wp2_with (at_builtin; refine wpList_append_lies _ rfl _ _ _ rfl B 3 i0 (.int .i64 0) 1 8 Tryd.underlying22 HI.out hz0 hz1 hz2 rfl (by omega) _ _ _ rfl (HA.out _) ⟨wr.heap.size, 0, none⟩ 1 1 [.int .i64 xk] rfl rfl (World.news_of_block (cs := #[.int .i64 xk]) (heap_alloc_new wr _)) (by intro u hu; simp at hu; subst hu; rfl) (by omega) (by unfold maxLen; omega) (by omega) (HZ.out _) _ rfl ?_)
        intro g cap w3 hown hgr hor _
        rw [HX.out] at hown hgr
        obtain ⟨ca', cb', z1, z2, hp3⟩ := HN.out _ _ _ (par_b HP.out hown hgr hor)
        have Z : Hid (k + 1 = ca' + cb' ∧ (ca' = cb' ∨ ca' = cb' + 1)) := ⟨z1, z2⟩
        have P3 : Hid _ := hp3
        clear hown hgr hor HA HN HP hck HC hp3 z1 z2
        go_wp2
        go_round
        case rel => exact ⟨k + 1, ca', cb', by omega, by go_num, Z.out.1, Z.out.2, P3⟩
        case measure => simp [intOf]; omega
    · obtain rfl : k = n := by omega
      have HQ : Hid (ca = p ∧ cb = p) := by obtain ⟨z1, z2⟩ := HKC.out; have := HNP.out; exact ⟨by omega, by omega⟩
      go_wp2
      go_ret2
      obtain ⟨rfl, rfl⟩ := HQ.out
      exact HE.out _ _ _ HP.out
end Go.Proofs.YtgkjjkdjalbfaaaDoor
