/-
  The contracts of rc's builder inside a Coder: text, put; and of told.open.
-/
import Derived.Test.YtdfpmhdgebajfaaDoorD
namespace Go.Proofs.YtdfpmhdgebajfaaDoor
open Go.ChangeShapes Go.WideShapes Go.ChangeAt Go.RowKit
set_option linter.unusedVariables false
set_option maxRecDepth 100000

/-- Nothing below B has changed, and of what was there no block but a Coder, a strings.Builder or a row of octets. -/
structure Fr (B : Nat) (w w' : World) : Prop where
  below : Below B w w'
  kept : ∀ (k : Nat) (c : Array Value) (t : TypeId) (f : Nat × Nat), w.heap[k]? = some (Obj.cells c t f) → t ≠ 33 → t ≠ 104 → t ≠ 5 → w'.heap[k]? = some (Obj.cells c t f)
theorem Fr.refl (B : Nat) (w : World) : Fr B w w := ⟨Below.refl B w, fun _ _ _ _ h _ _ _ => h⟩
theorem Fr.trans {B : Nat} {a b c : World} (h : Fr B a b) (k : Fr B b c) : Fr B a c :=
  ⟨h.below.trans k.below, fun i cs t f e h1 h2 h3 => k.kept i cs t f (h.kept i cs t f e h1 h2 h3) h1 h2 h3⟩
theorem Fr.drew {B : Nat} {a w : World} (h : Fr B a w) : Fr B a w.drew := ⟨h.below.drew, h.kept⟩
theorem Fr.drewN {B : Nat} {a w : World} (h : Fr B a w) (n : Nat) : Fr B a (w.drewN n) := by
  induction n generalizing w with
  | zero => exact h
  | succ n ih => exact (ih h).drew
theorem Fr.of_below {B : Nat} {w w' : World} (h : Below w.heap.size w w') (hB : B ≤ w.heap.size) : Fr B w w' :=
  ⟨h.mono hB, fun k c t f e _ _ _ => (h.block k (Array.getElem?_eq_some_iff.1 e).1).trans e⟩
theorem Fr.alloc {B : Nat} {a w : World} (h : Fr B a w) (hB : B ≤ w.heap.size) (o : Obj) : Fr B a (w.alloc o) :=
  h.trans (Fr.of_below ((Below.refl _ w).alloc (Nat.le_refl _) o) hB)
theorem Fr.setCell {B g : Nat} {cs : Array Value} {a w : World} (h : Fr B a w) (hg : IsAt g 33 cs w) (hB : B ≤ g) (o : Nat) (v : Value) : Fr B a (w.setCell ⟨g, o, none⟩ v) :=
  h.trans ⟨Below.setCell (p := ⟨g, o, none⟩) (Below.refl B w) hB v, fun k c t f e h1 h2 h3 => (Below.heap_setCell _ _ _ _ (by
    intro hk
    have hk' : k = g := hk
    subst hk'
    have e2 : w.heap[k]? = some (Obj.cells cs 33 (0, 0)) := hg
    have e' : w.heap[k]? = some (Obj.cells c t f) := e
    rw [e2] at e'
    simp at e'
    exact h1 e'.2.1.symm)).trans e⟩
theorem builder_block {B b : Nat} {bs : List Value} {w : World} (h : Lib.IsBuilderF 104 5 B b bs w) : ∃ cs, IsAt b 104 cs w := by
  rcases h with ⟨_, v, hb, _⟩ | ⟨_, v, hb, _⟩
  all_goals exact ⟨_, hb⟩
theorem Fr.of_others {B b : Nat} {bs : List Value} {w w' : World} (hb : Lib.IsBuilderF 104 5 B b bs w) (h : Below B w w') (k : Lib.OthersKept 5 (some b) w w') : Fr B w w' := by
  obtain ⟨cs, hc⟩ := builder_block hb
  refine ⟨h, fun i c t f e h1 h2 h3 => k i _ e ?_ (by intro c' fz hc'; simp at hc'; exact h3 hc'.2.1)⟩
  simp only [ne_eq, Option.some.injEq]
  rintro rfl
  have e2 : w.heap[i]? = some (Obj.cells cs 104 (0, 0)) := hc
  rw [e2] at e
  simp at e
  exact h2 e.2.1.symm
theorem builder_keep {B b : Nat} {p : Value} {bs : List Value} {w w' : World} (h : Lib.BuilderAtF 104 5 B b p bs w)
    (hk : ∀ (k : Nat) (c : Array Value) (t : TypeId) (f : Nat × Nat), w.heap[k]? = some (Obj.cells c t f) → t = 104 ∨ t = 5 → w'.heap[k]? = w.heap[k]?) : Lib.BuilderAtF 104 5 B b p bs w' := by
  obtain ⟨hB, v, hb, hown, hne⟩ := h
  refine ⟨hB, v, (hk _ _ _ _ hb (.inl rfl)).trans hb, ⟨hown.1, ?_⟩, hne⟩
  rcases hown.2 with hn | ⟨g, cap, cur, fz, hv, hbg, hg, rest⟩
  · exact .inl hn
  · exact .inr ⟨g, cap, cur, fz, hv, hbg, (hk _ _ _ _ hg (.inr rfl)).trans hg, rest⟩
theorem isBuilder_keep {B b : Nat} {bs : List Value} {w w' : World} (h : Lib.IsBuilderF 104 5 B b bs w)
    (hk : ∀ (k : Nat) (c : Array Value) (t : TypeId) (f : Nat × Nat), w.heap[k]? = some (Obj.cells c t f) → t = 104 ∨ t = 5 → w'.heap[k]? = w.heap[k]?) : Lib.IsBuilderF 104 5 B b bs w' := by
  rcases h with h | h
  · exact .inl (builder_keep h hk)
  · exact .inr (builder_keep h hk)
theorem isBuilder_set {B b g : Nat} {bs : List Value} {cs : Array Value} {w : World} (h : Lib.IsBuilderF 104 5 B b bs w) (hg : IsAt g 33 cs w) (o : Nat) (v : Value) :
    Lib.IsBuilderF 104 5 B b bs (w.setCell ⟨g, o, none⟩ v) := by
  refine isBuilder_keep h fun k c t f e ht => Below.heap_setCell _ _ _ _ ?_
  intro hkg
  have hkg' : k = g := hkg
  subst hkg'
  have e2 : w.heap[k]? = some (Obj.cells cs 33 (0, 0)) := hg
  have e' : w.heap[k]? = some (Obj.cells c t f) := e
  rw [e2] at e'
  simp at e'
  obtain ⟨_, rfl, _⟩ := e'
  revert ht
  decide

theorem cell_freeze (w : World) (p : Addr) (n : Nat) (a : Addr) : (w.freeze p n).cell? a = w.cell? a := by
  unfold World.cell? World.freeze
  by_cases hn : n = 0
  · rw [if_pos hn]
  rw [if_neg hn]
  by_cases h : a.block = p.block
  · cases hw : w.heap[p.block]? with
    | none => simp [Array.getElem?_modify, h, hw]
    | some o => cases o <;> simp [Array.getElem?_modify, h, hw]
  · simp [Array.getElem?_modify, Ne.symm h]
/-- No cell that was there has changed. -/
def Cells (w w' : World) : Prop := ∀ (a : Addr) (v : Value), w.cell? a = some v → w'.cell? a = some v
set_option maxHeartbeats 2000000 in
/-- Builder.String of some octets: no cell changes. -/
theorem bstring_cells (B b : Nat) (l : List UInt8) (w : World) (h : Lib.IsBuilderF 104 5 B b (Lib.byteCells l) w) (h0 : l ≠ []) :
    Calls Tryd.prog 65 #[.pointer (some ⟨b, 0, none⟩)] w fun e w' => e = .returned (.string ⟨l.toArray⟩) ∧ (Lib.IsBuilderF 104 5 B b (Lib.byteCells l) w' ∧ Below B w w' ∧ Lib.OthersKept 5 (some b) w w') ∧ Cells w w' := by
  obtain ⟨p, hp, hB, v, hbk, hown, hne⟩ : ∃ p, (p = .pointer none ∨ p = .pointer (some ⟨b, 0, none⟩)) ∧ Lib.BuilderAtF 104 5 B b p (Lib.byteCells l) w := by
    rcases h with h | h
    · exact ⟨_, .inl rfl, h⟩
    · exact ⟨_, .inr rfl, h⟩
  have hl0 : l.length ≠ 0 := by simpa using h0
  rw [Lib.byteCells_length] at hown
  obtain ⟨g, cap, cur, fz, rfl, hbg, hg, hfz, hnc, hcm, hcs, htake⟩ : ∃ g cap cur fz, v = .slice (some ⟨g, 0, none⟩) l.length cap ∧ B ≤ g ∧ w.heap[g]? = some (.cells cur 5 fz) ∧ fz.2 ≤ l.length * 1 ∧ l.length ≤ cap ∧ cap ≤ maxLen ∧ cur.size = cap * 1 ∧ cur.toList.take (l.length * 1) = Lib.byteCells l := by
    rcases hown.2 with ⟨_, hz⟩ | ⟨g, cap, cur, fz, hv, r⟩
    · exact absurd hz hl0
    · exact ⟨g, cap, cur, fz, hv, r⟩
  have c1 : w.drew.cell? ⟨b, 1, none⟩ = some (.slice (some ⟨g, 0, none⟩) l.length cap) := by
    have : w.drew.heap[b]? = some (.cells #[p, .slice (some ⟨g, 0, none⟩) l.length cap] 104 (0, 0)) := hbk
    rw [Lib.cell_of_heap this]; rfl
  have hSD : (Builtin.unsafeSliceData_ #[62] 102 #[.slice (some ⟨g, 0, none⟩) l.length cap]).run Tryd.prog w.drew = .ok (.pointer (some ⟨g, 0, none⟩)) w.drew :=
    Lib.run_unsafeSliceData_row _ _ _ _ _ _ (by omega)
  have hUS : (Builtin.unsafeString_ #[102, 3] 9 #[.pointer (some ⟨g, 0, none⟩), .int .i64 l.length]).run Tryd.prog w.drew = .ok (.string ⟨l.toArray⟩) (w.drew.freeze ⟨g, 0, none⟩ l.length) := by
    refine Lib.run_unsafeString_row w.drew 102 3 9 5 Tryd.underlying102 (by kernel_rfl) g cur.size (by have hg' : w.drew.heap[g]? = some (.cells cur 5 fz) := hg; simp [World.shape?, hg']) l h0 (by omega) (by unfold maxLen at hcm; omega) ?_
    intro j x hx
    exact hown.cells (g := g) rfl j (.int .u8 x.toNat) (by simp [Lib.byteCells, hx])
  have hkeep : Lib.IsBuilderF 104 5 B b (Lib.byteCells l) (w.drew.freeze ⟨g, 0, none⟩ l.length) := by
    have hA : Lib.BuilderAtF 104 5 B b p (Lib.byteCells l) w.drew := ⟨hB, _, hbk, by rw [Lib.byteCells_length]; exact hown, hne⟩
    have hF := hA.froze (g := g) (cap := cap) (by rw [Lib.byteCells_length]; exact c1)
    rw [Lib.byteCells_length] at hF
    rcases hp with rfl | rfl
    · exact .inl hF
    · exact .inr hF
  have HK : Hid (Lib.IsBuilderF 104 5 B b (Lib.byteCells l) (w.drew.freeze ⟨g, 0, none⟩ l.length)) := hkeep
  clear hkeep h htake
  go_enter Tryd.func65, Tryd.ntmps65
  go_wp2
  go_region
  all_goals (go_wp2; go_ret; exact ⟨rfl, ⟨HK.out, Lib.below_freeze (Below.drew (Below.refl B w)) (p := ⟨g, 0, none⟩) hbg _, ((Lib.OthersKept.refl _ _ w).drew).freeze ⟨g, 0, none⟩ _ ⟨cur, fz, hg⟩⟩, fun a v ha => by rw [cell_freeze]; exact ha⟩)
/-- A Coder's cells: Range, Low, the builder's two, and the open octets' three. -/
def cb (x0 x1 p : Value) (z : Nat) (x4 x5 x6 : Value) : Array Value := #[x0, x1, p, .int .i64 z, x4, x5, x6]
/-- Block g (one from B on) is a Coder whose builder holds l. -/
def BuAt (B g : Nat) (x0 x1 x4 x5 x6 : Value) (l : List UInt8) (w : World) : Prop :=
  B ≤ g ∧ ((l = [] ∧ IsAt g 33 (cb x0 x1 (.pointer none) 0 x4 x5 x6) w) ∨
    ∃ b, IsAt g 33 (cb x0 x1 (.pointer (some ⟨b, 0, none⟩)) l.length x4 x5 x6) w ∧ Lib.IsBuilderF 104 5 B b (Lib.byteCells l) w ∧ l ≠ [])
theorem BuAt.form {B g : Nat} {x0 x1 x4 x5 x6 : Value} {l : List UInt8} {w : World} (h : BuAt B g x0 x1 x4 x5 x6 l w) : ∃ p, IsAt g 33 (cb x0 x1 p l.length x4 x5 x6) w := by
  obtain ⟨hB, ⟨rfl, h1⟩ | ⟨b, h1, h2, hne⟩⟩ := h
  · exact ⟨_, h1⟩
  · exact ⟨_, h1⟩
theorem BuAt.lt {B g : Nat} {x0 x1 x4 x5 x6 : Value} {l : List UInt8} {w : World} (h : BuAt B g x0 x1 x4 x5 x6 l w) : g < w.heap.size := by
  obtain ⟨p, hp⟩ := h.form
  exact hp.lt
theorem BuAt.keep {B g : Nat} {x0 x1 x4 x5 x6 : Value} {l : List UInt8} {w w' : World} (h : BuAt B g x0 x1 x4 x5 x6 l w)
    (hk : ∀ (k : Nat) (c : Array Value) (t : TypeId) (f : Nat × Nat), w.heap[k]? = some (Obj.cells c t f) → t = 33 ∨ t = 104 ∨ t = 5 → w'.heap[k]? = w.heap[k]?) : BuAt B g x0 x1 x4 x5 x6 l w' := by
  obtain ⟨hB, ⟨rfl, h1⟩ | ⟨b, h1, h2, hne⟩⟩ := h
  · exact ⟨hB, .inl ⟨rfl, (hk _ _ _ _ h1 (.inl rfl)).trans h1⟩⟩
  · exact ⟨hB, .inr ⟨b, (hk _ _ _ _ h1 (.inl rfl)).trans h1, isBuilder_keep h2 (fun k c t f e ht => hk k c t f e (.inr ht)), hne⟩⟩
theorem BuAt.below {B g : Nat} {x0 x1 x4 x5 x6 : Value} {l : List UInt8} {w w' : World} (h : BuAt B g x0 x1 x4 x5 x6 l w) (hb : Below w.heap.size w w') : BuAt B g x0 x1 x4 x5 x6 l w' :=
  h.keep fun k c t f e _ => hb.block k (Array.getElem?_eq_some_iff.1 e).1
/-- A store into a cell of the Coder that is none of the builder's. -/
theorem BuAt.set0 {B g : Nat} {x0 x1 x4 x5 x6 : Value} {l : List UInt8} {w : World} (h : BuAt B g x0 x1 x4 x5 x6 l w) (v : Value) : BuAt B g v x1 x4 x5 x6 l (w.setCell ⟨g, 0, none⟩ v) := by
  obtain ⟨hB, ⟨rfl, h1⟩ | ⟨b, h1, h2, hne⟩⟩ := h
  · exact ⟨hB, .inl ⟨rfl, h1.set 0 v⟩⟩
  · exact ⟨hB, .inr ⟨b, h1.set 0 v, isBuilder_set h2 h1 _ _, hne⟩⟩
theorem BuAt.set1 {B g : Nat} {x0 x1 x4 x5 x6 : Value} {l : List UInt8} {w : World} (h : BuAt B g x0 x1 x4 x5 x6 l w) (v : Value) : BuAt B g x0 v x4 x5 x6 l (w.setCell ⟨g, 1, none⟩ v) := by
  obtain ⟨hB, ⟨rfl, h1⟩ | ⟨b, h1, h2, hne⟩⟩ := h
  · exact ⟨hB, .inl ⟨rfl, h1.set 1 v⟩⟩
  · exact ⟨hB, .inr ⟨b, h1.set 1 v, isBuilder_set h2 h1 _ _, hne⟩⟩
theorem BuAt.set4 {B g : Nat} {x0 x1 x4 x5 x6 : Value} {l : List UInt8} {w : World} (h : BuAt B g x0 x1 x4 x5 x6 l w) (v : Value) : BuAt B g x0 x1 v x5 x6 l (w.setCell ⟨g, 4, none⟩ v) := by
  obtain ⟨hB, ⟨rfl, h1⟩ | ⟨b, h1, h2, hne⟩⟩ := h
  · exact ⟨hB, .inl ⟨rfl, h1.set 4 v⟩⟩
  · exact ⟨hB, .inr ⟨b, h1.set 4 v, isBuilder_set h2 h1 _ _, hne⟩⟩
theorem BuAt.set5 {B g : Nat} {x0 x1 x4 x5 x6 : Value} {l : List UInt8} {w : World} (h : BuAt B g x0 x1 x4 x5 x6 l w) (v : Value) : BuAt B g x0 x1 x4 v x6 l (w.setCell ⟨g, 5, none⟩ v) := by
  obtain ⟨hB, ⟨rfl, h1⟩ | ⟨b, h1, h2, hne⟩⟩ := h
  · exact ⟨hB, .inl ⟨rfl, h1.set 5 v⟩⟩
  · exact ⟨hB, .inr ⟨b, h1.set 5 v, isBuilder_set h2 h1 _ _, hne⟩⟩
theorem BuAt.set6 {B g : Nat} {x0 x1 x4 x5 x6 : Value} {l : List UInt8} {w : World} (h : BuAt B g x0 x1 x4 x5 x6 l w) (v : Value) : BuAt B g x0 x1 x4 x5 v l (w.setCell ⟨g, 6, none⟩ v) := by
  obtain ⟨hB, ⟨rfl, h1⟩ | ⟨b, h1, h2, hne⟩⟩ := h
  · exact ⟨hB, .inl ⟨rfl, h1.set 6 v⟩⟩
  · exact ⟨hB, .inr ⟨b, h1.set 6 v, isBuilder_set h2 h1 _ _, hne⟩⟩
theorem BuAt.fr {B g : Nat} {x0 x1 x4 x5 x6 : Value} {l : List UInt8} {a w : World} (h : BuAt B g x0 x1 x4 x5 x6 l w) (k : Fr B a w) (o : Nat) (v : Value) : Fr B a (w.setCell ⟨g, o, none⟩ v) := by
  obtain ⟨p, hp⟩ := h.form
  exact k.setCell hp h.1 o v

theorem btext_none (g : Nat) (x0 x1 x4 x5 x6 : Value) (w : World) (h : IsAt g 33 (cb x0 x1 (.pointer none) 0 x4 x5 x6) w) :
    Calls Tryd.prog 49 #[.pointer (some ⟨g, 2, none⟩)] w fun e w' => e = .returned (.string ⟨#[]⟩) ∧ w' = w := by
  have c0 : w.cell? ⟨g, 2, none⟩ = some (.pointer none) := h.cell 2
  clear h
  go_enter Tryd.func49, Tryd.ntmps49
  go_wp2
  go_ret
  exact ⟨rfl, rfl⟩
/-- What builder.text leaves. -/
def TextPost (B g b : Nat) (x0 x1 x4 x5 x6 : Value) (l : List UInt8) (w w' : World) : Prop :=
  IsAt g 33 (cb x0 x1 (.pointer (some ⟨b, 0, none⟩)) l.length x4 x5 x6) w' ∧ Lib.IsBuilderF 104 5 B b (Lib.byteCells l) w' ∧ Fr B w w' ∧ Cells w w'
theorem bstr2 (B g b : Nat) (x0 x1 x4 x5 x6 : Value) (l : List UInt8) (w : World) (h : IsAt g 33 (cb x0 x1 (.pointer (some ⟨b, 0, none⟩)) l.length x4 x5 x6) w) (hb : Lib.IsBuilderF 104 5 B b (Lib.byteCells l) w) (hne : l ≠ []) :
    Calls Tryd.prog 65 #[.pointer (some ⟨b, 0, none⟩)] w fun e w' => e = .returned (.string ⟨l.toArray⟩) ∧ w'.cell? ⟨g, 2, none⟩ = some (.pointer (some ⟨b, 0, none⟩)) ∧ w'.cell? ⟨g, 3, none⟩ = some (.int .i64 l.length) ∧ TextPost B g b x0 x1 x4 x5 x6 l w w' := by
  refine (bstring_cells B b l w hb hne).mono ?_
  rintro e w' ⟨rfl, ⟨h1, h2, h3⟩, h4⟩
  obtain ⟨cs, hc⟩ := builder_block hb
  have hgb := isAt_ne h hc (by decide)
  have h' : IsAt g 33 (cb x0 x1 (.pointer (some ⟨b, 0, none⟩)) l.length x4 x5 x6) w' := h3 g _ h (by simpa using hgb) (by intro c fz hc; simp at hc)
  exact ⟨rfl, h'.cell 2, h'.cell 3, h', h1, Fr.of_others hb h2 h3, h4⟩
theorem btext_some (B g b : Nat) (x0 x1 x4 x5 x6 : Value) (l : List UInt8) (w : World) (h : IsAt g 33 (cb x0 x1 (.pointer (some ⟨b, 0, none⟩)) l.length x4 x5 x6) w) (hb : Lib.IsBuilderF 104 5 B b (Lib.byteCells l) w) (hne : l ≠ []) (hl : l.length ≤ 10000) :
    Calls Tryd.prog 49 #[.pointer (some ⟨g, 2, none⟩)] w fun e w' => e = .returned (.string ⟨l.toArray⟩) ∧ TextPost B g b x0 x1 x4 x5 x6 l w w' := by
  have c0 : w.cell? ⟨g, 2, none⟩ = some (.pointer (some ⟨b, 0, none⟩)) := h.cell 2
  have c1 : w.cell? ⟨g, 3, none⟩ = some (.int .i64 l.length) := h.cell 3
  have H' : Hid (Calls Tryd.prog 65 #[.pointer (some ⟨b, 0, none⟩)] w.drew fun e w' => e = .returned (.string ⟨l.toArray⟩) ∧ w'.cell? ⟨g, 2, none⟩ = some (.pointer (some ⟨b, 0, none⟩)) ∧ w'.cell? ⟨g, 3, none⟩ = some (.int .i64 l.length) ∧ TextPost B g b x0 x1 x4 x5 x6 l w.drew w') := bstr2 B g b x0 x1 x4 x5 x6 l w.drew h hb hne
  clear h hb
  go_enter Tryd.func49, Tryd.ntmps49
  go_wp2
  go_region_held3 (fun w' => w'.cell? ⟨g, 2, none⟩ = some (.pointer (some ⟨b, 0, none⟩)) ∧ w'.cell? ⟨g, 3, none⟩ = some (.int .i64 l.length)) (go_keep)
    (first | (go_at_call 65; refine H'.out.mono ?_; rintro e w2 ⟨rfl, hc0, hc1, hp⟩))
  all_goals go_wp2
  go_ret
  have e : (⟨l.toArray⟩ : ByteArray).extract 0 l.length = ⟨l.toArray⟩ := by rw [ByteArray.extract_mk]; simp
  exact ⟨ret_str e, hp.1, hp.2.1, ((Fr.refl B w).drew).trans hp.2.2.1, hp.2.2.2⟩
theorem btext_at (B g : Nat) (x0 x1 x4 x5 x6 : Value) (l : List UInt8) (w : World) (h : BuAt B g x0 x1 x4 x5 x6 l w) (hB : B ≤ w.heap.size) (hl : l.length ≤ 10000) :
    Calls Tryd.prog 49 #[.pointer (some ⟨g, 2, none⟩)] w fun e w' => e = .returned (.string ⟨l.toArray⟩) ∧ BuAt B g x0 x1 x4 x5 x6 l w' ∧ Fr B w w' ∧ Cells w w' := by
  obtain ⟨hBg, ⟨rfl, h1⟩ | ⟨b, h1, h2, hne⟩⟩ := h
  · refine (btext_none g x0 x1 x4 x5 x6 w h1).mono ?_
    rintro e w' ⟨rfl, rfl⟩
    exact ⟨rfl, ⟨hBg, .inl ⟨rfl, h1⟩⟩, Fr.refl _ _, fun _ _ h => h⟩
  · refine (btext_some B g b x0 x1 x4 x5 x6 l w h1 h2 hne hl).mono ?_
    rintro e w' ⟨rfl, p1, p2, p3, p4⟩
    exact ⟨rfl, ⟨hBg, .inr ⟨b, p1, p2, hne⟩⟩, p3, p4⟩

/-- What builder.put's calls of WriteString leave. -/
def PutPost (B g b : Nat) (bs : List Value) (cs : Array Value) (w w' : World) : Prop := IsAt g 33 cs w' ∧ Lib.IsBuilderF 104 5 B b bs w' ∧ Fr B w w'
theorem bwrite2 (B g b : Nat) (bs : List Value) (s : ByteArray) (cs : Array Value) (w : World) (hg : IsAt g 33 cs w) (h : Lib.IsBuilderF 104 5 B b bs w) (hlen : bs.length + s.size ≤ 100000) (hBw : B ≤ w.heap.size) :
    Calls Tryd.prog 74 #[.pointer (some ⟨b, 0, none⟩), .string s] w fun e w' => e = .returned (.tuple #[.int .i64 s.size, .nilIface]) ∧
      w'.cell? ⟨g, 2, none⟩ = cs[2]? ∧ w'.cell? ⟨g, 3, none⟩ = cs[3]? ∧ w'.frozen? ⟨g, 2, none⟩ = false ∧ w'.frozen? ⟨g, 3, none⟩ = false ∧ PutPost B g b (bs ++ Lib.strCells s) cs w w' := by
  refine (bwrite B b bs s w h (by omega) hBw).mono ?_
  rintro e w' ⟨rfl, h1, h2, h3⟩
  obtain ⟨cs', hb⟩ := builder_block h
  have hgb := isAt_ne hg hb (by decide)
  have h' : IsAt g 33 cs w' := h3 g _ hg (by simpa using hgb) (by intro c fz hc; simp at hc)
  exact ⟨rfl, h'.cell 2, h'.cell 3, h'.frozen 2, h'.frozen 3, h', h1, Fr.of_others h h2 h3⟩
/-- builder.put. -/
theorem put_at (B g : Nat) (x0 x1 x4 x5 x6 : Value) (l : List UInt8) (s : ByteArray) (w : World) (h : BuAt B g x0 x1 x4 x5 x6 l w) (hs : s.data.toList ≠ []) (hB : B ≤ w.heap.size) (hl : l.length + s.size ≤ 10000) :
    Calls Tryd.prog 67 #[.pointer (some ⟨g, 2, none⟩), .string s] w fun e w' => e = .returned (.tuple #[]) ∧ BuAt B g x0 x1 x4 x5 x6 (l ++ s.data.toList) w' ∧ Fr B w w' := by
  obtain ⟨hBg, ⟨rfl, h1⟩ | ⟨b, h1, h2, hne⟩⟩ := h
  · have c0 : w.cell? ⟨g, 2, none⟩ = some (.pointer none) := h1.cell 2
    have c1 : w.cell? ⟨g, 3, none⟩ = some (.int .i64 0) := h1.cell 3
    have HA : Hid (IsAt g 33 (cb x0 x1 (.pointer none) 0 x4 x5 x6) (w.alloc (.cells #[.pointer none, .slice none 0 0] 104))) := (Below.heap_alloc w _ g h1.lt).trans h1
    have HI : Hid (Lib.IsBuilderF 104 5 B w.heap.size [] (w.alloc (.cells #[.pointer none, .slice none 0 0] 104))) :=
      .inl ⟨hB, .slice none 0 0, heap_alloc_new w _, World.ownsRowF_nil _ _ _ _, by simp [Value.ownBlock]⟩
    clear h1
    go_enter Tryd.func67, Tryd.ntmps67
    go_wp2
    go_quiet (fail)
    go_wp2_with (go_at_call 49; refine (btext_none g x0 x1 x4 x5 x6 _ (by exact HA.out)).mono ?_; rintro e w' ⟨rfl, rfl⟩)
    refine (bwrite2 B g _ [] ⟨#[]⟩ _ _ (by exact HA.out) (by exact HI.out) (by decide) (by simp; omega)).mono ?_
    rintro e w2 ⟨rfl, d0, d1, e0, e1, hp⟩
    have d0' : w2.cell? ⟨g, 2, none⟩ = some (.pointer none) := d0
    have d1' : w2.cell? ⟨g, 3, none⟩ = some (.int .i64 0) := d1
    have HP : Hid (PutPost B g w.heap.size ([] ++ Lib.strCells ⟨#[]⟩) (cb x0 x1 (.pointer none) 0 x4 x5 x6) ((w.alloc (.cells #[.pointer none, .slice none 0 0] 104)).drewN nq) w2) := hp
    clear hp d0 d1
    obtain ⟨p1, p2, p3⟩ := HP.out
    have HQ1 : Hid (IsAt g 33 (cb x0 x1 (.pointer (some ⟨w.heap.size, 0, none⟩)) 0 x4 x5 x6) (w2.setCell ⟨g, 2, none⟩ (.pointer (some ⟨w.heap.size, 0, none⟩)))) := p1.set 2 _
    have HQ2 : Hid (Lib.IsBuilderF 104 5 B w.heap.size [] (w2.setCell ⟨g, 2, none⟩ (.pointer (some ⟨w.heap.size, 0, none⟩)))) := isBuilder_set p2 p1 _ _
    have HQ3 : Hid (Fr B w (w2.setCell ⟨g, 2, none⟩ (.pointer (some ⟨w.heap.size, 0, none⟩)))) := ((((Fr.refl B w).alloc hB _).drewN nq).trans p3).setCell p1 hBg _ _
    have hz : B ≤ w2.heap.size := Nat.le_trans hB ((((Fr.refl B w).alloc hB _).drewN nq).trans p3).below.size
    clear p1 p2 p3 HP HA HI
    go_wp2_with (go_at_call 74; refine (bwrite2 B g w.heap.size [] s _ _ HQ1.out HQ2.out (by simp; omega) (by simpa [World.setCell] using hz)).mono ?_; rintro e w3 ⟨rfl, d0, d1, e0, e1, hp⟩; have d1' : w3.cell? ⟨g, 3, none⟩ = some (.int .i64 0) := d1; clear d1)
    go_end0
    obtain ⟨p1, p2, p3⟩ := hp
    have q1 := p1.set 3 (.int .i64 ((s.data.toList).length : Int))
    refine ⟨rfl, ⟨hBg, .inr ⟨w.heap.size, ?_, ?_, by simpa using hs⟩⟩, ?_⟩
    · simpa [cb] using q1
    · exact isBuilder_set (by simpa [Lib.strCells_eq] using p2) p1 _ _
    · exact (HQ3.out.trans p3).setCell p1 hBg _ _
  · have c0 : w.cell? ⟨g, 2, none⟩ = some (.pointer (some ⟨b, 0, none⟩)) := h1.cell 2
    have c1 : w.cell? ⟨g, 3, none⟩ = some (.int .i64 l.length) := h1.cell 3
    have H1 : Hid (IsAt g 33 (cb x0 x1 (.pointer (some ⟨b, 0, none⟩)) l.length x4 x5 x6) w) := h1
    have H2 : Hid (Lib.IsBuilderF 104 5 B b (Lib.byteCells l) w) := h2
    have hbl := Lib.byteCells_length l
    clear h1 h2
    go_enter Tryd.func67, Tryd.ntmps67
    go_wp2
    go_quiet ((go_at_call 75; exact Calls.quiet_of_same (blen B b _ _ (by exact H2.out))))
    go_wp2_with (go_at_call 74; refine (bwrite2 B g b (Lib.byteCells l) s _ _ (by exact H1.out) (by exact H2.out) (by omega) (by exact hB)).mono ?_; rintro e w3 ⟨rfl, d0, d1, e0, e1, hp⟩; have d1' : w3.cell? ⟨g, 3, none⟩ = some (.int .i64 l.length) := d1; clear d1)
    go_end0
    obtain ⟨p1, p2, p3⟩ := hp
    have q1 := p1.set 3 (.int .i64 ((l ++ s.data.toList).length : Int))
    refine ⟨rfl, ⟨hBg, .inr ⟨b, ?_, ?_, by simp [hne]⟩⟩, ?_⟩
    · simpa [cb] using q1
    · exact isBuilder_set (by simpa [Lib.strCells_eq, Lib.byteCells_append] using p2) p1 _ _
    · exact (((Fr.refl B w).drewN nq).trans p3).setCell p1 hBg _ _
end Go.Proofs.YtdfpmhdgebajfaaDoor
