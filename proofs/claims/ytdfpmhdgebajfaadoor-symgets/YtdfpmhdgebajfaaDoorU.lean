/-
  The contracts of the document's coder (splicerref04): carried, Code, End.
-/
import Derived.Test.YtdfpmhdgebajfaaDoorE
import Derived.Test.YtdfpmhdgebajfaaDoorJ
import Derived.Deep.AppendLies
import Derived.Deep.LoopGhost
import Derived.Laws.OwnMore
namespace Go.Proofs.YtdfpmhdgebajfaaDoor
open Go.ChangeShapes Go.WideShapes Go.ChangeAt Go.RowKit
set_option linter.unusedVariables false
set_option maxRecDepth 100000

/-- The document's octets, as numbers. -/
def nums (l : List UInt8) : List Value := l.map fun x => .int .i64 (x.toNat : Int)
theorem nums_len (l : List UInt8) : (nums l).length = l.length := by simp [nums]
theorem nums_append (a b : List UInt8) : nums (a ++ b) = nums a ++ nums b := by simp [nums]
theorem nums_get (l : List UInt8) (j : Nat) (h : j < l.length) : (nums l)[j]? = some (.int .i64 (l[j].toNat : Int)) := by simp [nums, h]
/-- Nothing below B has changed, and of what was there no block but the document's coder and a row of numbers. -/
structure Gr (B : Nat) (w w' : World) : Prop where
  below : Below B w w'
  kept : ∀ (k : Nat) (c : Array Value) (t : TypeId) (f : Nat × Nat), w.heap[k]? = some (Obj.cells c t f) → t ≠ 37 → t ≠ 3 → w'.heap[k]? = some (Obj.cells c t f)
theorem Gr.refl (B : Nat) (w : World) : Gr B w w := ⟨Below.refl B w, fun _ _ _ _ h _ _ => h⟩
theorem Gr.trans {B : Nat} {a b c : World} (h : Gr B a b) (k : Gr B b c) : Gr B a c :=
  ⟨h.below.trans k.below, fun i cs t f e h1 h2 => k.kept i cs t f (h.kept i cs t f e h1 h2) h1 h2⟩
theorem Gr.drew {B : Nat} {a w : World} (h : Gr B a w) : Gr B a w.drew := ⟨h.below.drew, h.kept⟩
theorem Gr.drewN {B : Nat} {a w : World} (h : Gr B a w) (n : Nat) : Gr B a (w.drewN n) := by
  induction n generalizing w with
  | zero => exact h
  | succ n ih => exact (ih h).drew
theorem Gr.of_below {B : Nat} {w w' : World} (h : Below w.heap.size w w') (hB : B ≤ w.heap.size) : Gr B w w' :=
  ⟨h.mono hB, fun k c t f e _ _ => (h.block k (Array.getElem?_eq_some_iff.1 e).1).trans e⟩
theorem Gr.alloc {B : Nat} {a w : World} (h : Gr B a w) (hB : B ≤ w.heap.size) (o : Obj) : Gr B a (w.alloc o) :=
  h.trans (Gr.of_below ((Below.refl _ w).alloc (Nat.le_refl _) o) hB)
theorem Gr.setCell {B r t : Nat} {cs : Array Value} {f : Nat × Nat} {a w : World} (h : Gr B a w) (hr : w.heap[r]? = some (.cells cs t f)) (ht : t = 37 ∨ t = 3) (hB : B ≤ r) (o : Nat) (v : Value) : Gr B a (w.setCell ⟨r, o, none⟩ v) :=
  h.trans ⟨Below.setCell (p := ⟨r, o, none⟩) (Below.refl B w) hB v, fun k c t' f' e h1 h2 => (Below.heap_setCell _ _ _ _ (by
    intro hk
    have hk' : k = r := hk
    subst hk'
    rw [hr] at e
    simp at e
    rcases ht with rfl | rfl
    · exact h1 e.2.1.symm
    · exact h2 e.2.1.symm)).trans e⟩
theorem Gr.grown {B : Nat} {row : Option Nat} {a w w' : World} (h : Gr B a w) (hg : w.grownBy w' row) (hB : B ≤ w.heap.size) (hr : ∀ k, row = some k → B ≤ k ∧ ∃ c f, w.heap[k]? = some (.cells c 3 f)) : Gr B a w' := by
  refine h.trans ⟨Below.grown (Below.refl B w) hg hB (fun k hk => (hr k hk).1), fun k c t f e h1 h2 => ?_⟩
  rw [hg.block k (Array.getElem?_eq_some_iff.1 e).1 (fun hk => ?_)]
  · exact e
  · obtain ⟨c', f', e'⟩ := (hr k hk.symm).2
    rw [e'] at e
    simp at e
    exact h2 e.2.1.symm
theorem owns_kind {w : World} {B : Nat} {v : Value} {n : Nat} {xs : List Value} (h : w.ownsRow B 3 1 v n xs) : ∀ k, v.ownBlock = some k → B ≤ k ∧ ∃ c f, w.heap[k]? = some (.cells c 3 f) := by
  intro k hk
  refine ⟨(h.lt k hk).1, ?_⟩
  rcases h.2 with ⟨rfl, _⟩ | ⟨g, cap, cur, rfl, _, hg, _⟩
  · simp [Value.ownBlock] at hk
  · simp [Value.ownBlock] at hk
    subst hk
    exact ⟨_, _, hg⟩
theorem info3 : ∃ i, Tryd.prog.info? 3 = some i ∧ i.zero = some (.int .i64 0) ∧ i.size = 1 ∧ i.bytes = 8 := by
  have h : (Tryd.prog.info? 3).map (fun i => (i.zero, i.size, i.bytes)) = some (some (.int .i64 0), 1, 8) := by kernel_rfl
  obtain ⟨i, hi, e⟩ := Option.map_eq_some_iff.1 h
  simp at e
  exact ⟨i, hi, e⟩
/-- What carried leaves. -/
def CarPost (B : Nat) (l : List UInt8) (w : World) (e : Ending) (w' : World) : Prop :=
  ∃ g cap, e = .returned (.slice (some ⟨g, 0, none⟩) l.length cap) ∧ w'.ownsRow w.heap.size 3 1 (.slice (some ⟨g, 0, none⟩) l.length cap) l.length (nums (car l)) ∧ Below w.heap.size w w'
theorem nums_set (a b : List UInt8) (x y : UInt8) : (nums (a ++ [x] ++ b)).set a.length (.int .i64 (y.toNat : Int)) = nums (a ++ [y] ++ b) := by
  simp [nums]
theorem nums_at (a b : List UInt8) (x : UInt8) : (nums (a ++ [x] ++ b))[a.length]? = some (.int .i64 (x.toNat : Int)) := by
  simp [nums]
theorem below_set {B r : Nat} {a w : World} (h : Below B a w) (hr : B ≤ r) (o : Nat) (v : Value) : Below B a (w.setCell ⟨r, o, none⟩ v) := Below.setCell (p := ⟨r, o, none⟩) h hr v
/-- carried: a row of its own. -/
theorem carried_any (B g0 cap0 : Nat) (l : List UInt8) (w : World) (h : w.ownsRow B 3 1 (.slice (some ⟨g0, 0, none⟩) l.length cap0) l.length (nums l)) (hl0 : 0 < l.length) (hl : l.length ≤ 5000) :
    Calls Tryd.prog 61 #[.slice (some ⟨g0, 0, none⟩) l.length cap0] w fun e w' => CarPost B l w e w' := by
  obtain ⟨i0, hi, hz0, hz1, hz2⟩ := info3
  have hcells : ∀ (j : Nat) (u : Value), (nums l)[j]? = some u → w.cell? ((⟨g0, 0, none⟩ : Addr).add j) = some u := h.cells rfl
  have HI : Hid (Tryd.prog.info? 3 = some i0) := hi
  clear h hi
  go_enter Tryd.func61, Tryd.ntmps61
  go_wp2_with (at_builtin; refine wpList_append_lies _ rfl _ _ _ rfl w.heap.size 3 i0 (.int .i64 0) 1 8 Tryd.underlying35 HI.out hz0 hz1 hz2 rfl (by omega) (.slice none 0 0) 0 [] rfl (World.ownsRow_nil _ _ _ _) ⟨g0, 0, none⟩ l.length cap0 (nums l) rfl (by simp [nums_len]) hcells (by intro u hu; simp [nums] at hu; obtain ⟨x, _, rfl⟩ := hu; rfl) hl0 (by unfold maxLen; omega) (by omega) (Nat.le_refl _) w.heap.size rfl ?_)
  intro g cap w1 hown hgrow hat hlt
  have hown' : w1.ownsRow w.heap.size 3 1 (.slice (some ⟨g, 0, none⟩) l.length cap) l.length (nums l) := by simpa using hown
  have HB : Hid (Below w.heap.size w w1) := Below.grown (Below.refl _ w) hgrow (Nat.le_refl _) (fun k hk => by simp [Value.ownBlock] at hk)
  have hgw : w.heap.size ≤ g := (hown'.lt g rfl).1
  have HO : Hid (w1.ownsRow w.heap.size 3 1 (.slice (some ⟨g, 0, none⟩) l.length cap) l.length (nums l)) := hown'
  clear hown hown' hgrow hat hlt hcells HI hz0 hz1 hz2
  have hli : (l.length : Int) ≤ 5000 := by omega
  go_wp2
  go_loopw [4] (fun i wr => ∃ (a : List UInt8) (j : Nat) (z : Int), l = a ++ List.replicate j 255 ∧ i = .int .i64 z ∧ z + 1 = a.length ∧ wr.ownsRow w.heap.size 3 1 (.slice (some ⟨g, 0, none⟩) l.length cap) l.length (nums (a ++ List.replicate j 0)) ∧ Below w.heap.size w wr) (fun i _ => (intOf i + 1).toNat)
  case atStart => exact ⟨l, 0, _, by simp, rfl, by omega, by simpa using HO.out, HB.out⟩
  case round =>
    obtain ⟨a, j, z, hla, rfl, hz, ho, hb⟩ := hrel
    have HLA : Hid (l = a ++ List.replicate j 255) := hla
    have HO2 : Hid (wr.ownsRow w.heap.size 3 1 (.slice (some ⟨g, 0, none⟩) l.length cap) l.length (nums (a ++ List.replicate j 0))) := ho
    have HB2 : Hid (Below w.heap.size w wr) := hb
    clear HO HB
    rcases List.eq_nil_or_concat a with rfl | ⟨a', x, rfl⟩
    · obtain rfl : z = -1 := by simp at hz; omega
      clear ho hb hla
      go_wp2
      go_ret
      refine ⟨g, cap, rfl, ?_, HB2.out⟩
      have e : car l = [] ++ List.replicate j 0 := by rw [HLA.out, car_ffs]; rfl
      rw [e]
      exact HO2.out
    · obtain rfl : z = (a'.length : Int) := by simp at hz; omega
      have hlt : a'.length < l.length := by rw [hla]; simp
      have hc : wr.cell? ⟨g, a'.length, none⟩ = some (.int .i64 (x.toNat : Int)) := by
        rw [ho.cellAt a'.length (by omega)]
        have := nums_at a' (List.replicate j 0) x
        simpa using this
      have hf := ho.frozenAt a'.length
      have hi2 : (a'.length : Int) < (l.length : Int) := by omega
      have hx8 : (x.toNat : Int) < 256 := by have := x.toNat_lt; omega
      clear ho hb hla hz
      by_cases hx : x = 255
      · subst hx
        have hd : decide (((255 : UInt8).toNat : Int) < 255) = false := by decide
        go_wp2
        refine ⟨⟨a', j + 1, (a'.length : Int) - 1, ?_, rfl, by omega, ?_, below_set HB2.out hgw _ _⟩, by simp [intOf]⟩
        · rw [HLA.out]; simp [List.replicate_succ]
        · have := (HO2.out.stored a'.length (.int .i64 ((0 : UInt8).toNat : Int))).1
          have e2 := nums_set a' (List.replicate j 0) 255 0
          rw [show a'.concat 255 ++ List.replicate j 0 = a' ++ [255] ++ List.replicate j 0 by simp, e2] at this
          rw [show a' ++ List.replicate (j + 1) 0 = a' ++ [0] ++ List.replicate j 0 by simp [List.replicate_succ]]
          exact this
      · have hxn : x.toNat ≠ 255 := fun e => hx (UInt8.toNat_inj.1 (by rw [e]; rfl))
        have hd : decide ((x.toNat : Int) < 255) = true := decide_eq_true (by omega)
        have HS : Hid ((x.toNat : Int) + 1 = ((x + 1).toNat : Int)) := by show _ = _; rw [uint8_succ x hx]; rfl
        go_wp2
        go_ret
        rw [HS.out]
        refine ⟨g, cap, rfl, ?_, below_set HB2.out hgw _ _⟩
        have := (HO2.out.stored a'.length (.int .i64 ((x + 1).toNat : Int))).1
        have e2 := nums_set a' (List.replicate j 0) x (x + 1)
        rw [show a'.concat x ++ List.replicate j 0 = a' ++ [x] ++ List.replicate j 0 by simp, e2] at this
        have e : car l = a' ++ [x + 1] ++ List.replicate j 0 := by
          rw [HLA.out, car_ffs, List.concat_eq_append, car_snoc, if_neg hx]
        rw [e]
        exact this
end Go.Proofs.YtdfpmhdgebajfaaDoor
