/-
  The contracts of octet.Writer: put, text, Text, Len, String.
-/
import Derived.Test.YtnjekkcfdcbimaaD
import Derived.Deep.RegionHeld3
namespace Go.Proofs.Ytnjekkcfdcbimaa
open Go.ChangeShapes Go.WideShapes Go.ChangeAt Go.RowKit
set_option linter.unusedVariables false

/-- Block g (one from B on) is an octet.Writer that has written l. -/
def WrAt (B g : Nat) (l : List UInt8) (w : World) : Prop :=
  B ≤ g ∧ ((l = [] ∧ IsAt g 29 #[.pointer none, .int .i64 0] w) ∨
    ∃ b, IsAt g 29 #[.pointer (some ⟨b, 0, none⟩), .int .i64 l.length] w ∧ Lib.IsBuilderF 61 5 B b (Lib.byteCells l) w)

theorem builder_keep {B b : Nat} {p : Value} {bs : List Value} {w w' : World} (h : Lib.BuilderAtF 61 5 B b p bs w)
    (hk : ∀ (k : Nat) (c : Array Value) (t : TypeId) (f : Nat × Nat), w.heap[k]? = some (Obj.cells c t f) → t = 61 ∨ t = 5 → w'.heap[k]? = w.heap[k]?) : Lib.BuilderAtF 61 5 B b p bs w' := by
  obtain ⟨hB, v, hb, hown, hne⟩ := h
  refine ⟨hB, v, (hk _ _ _ _ hb (.inl rfl)).trans hb, ⟨hown.1, ?_⟩, hne⟩
  rcases hown.2 with hn | ⟨g, cap, cur, fz, hv, hbg, hg, rest⟩
  · exact .inl hn
  · exact .inr ⟨g, cap, cur, fz, hv, hbg, (hk _ _ _ _ hg (.inr rfl)).trans hg, rest⟩
theorem isBuilder_keep {B b : Nat} {bs : List Value} {w w' : World} (h : Lib.IsBuilderF 61 5 B b bs w)
    (hk : ∀ (k : Nat) (c : Array Value) (t : TypeId) (f : Nat × Nat), w.heap[k]? = some (Obj.cells c t f) → t = 61 ∨ t = 5 → w'.heap[k]? = w.heap[k]?) : Lib.IsBuilderF 61 5 B b bs w' := by
  rcases h with h | h
  · exact .inl (builder_keep h hk)
  · exact .inr (builder_keep h hk)
theorem WrAt.keep {B g : Nat} {l : List UInt8} {w w' : World} (h : WrAt B g l w)
    (hk : ∀ (k : Nat) (c : Array Value) (t : TypeId) (f : Nat × Nat), w.heap[k]? = some (Obj.cells c t f) → t = 29 ∨ t = 61 ∨ t = 5 → w'.heap[k]? = w.heap[k]?) : WrAt B g l w' := by
  obtain ⟨hB, ⟨hl, h1⟩ | ⟨b, h1, h2⟩⟩ := h
  · exact ⟨hB, .inl ⟨hl, (hk _ _ _ _ h1 (.inl rfl)).trans h1⟩⟩
  · exact ⟨hB, .inr ⟨b, (hk _ _ _ _ h1 (.inl rfl)).trans h1, isBuilder_keep h2 fun k c t f e1 e2 => hk k c t f e1 (.inr e2)⟩⟩
theorem WrAt.below {B g : Nat} {l : List UInt8} {w w' : World} (h : WrAt B g l w) (hb : Below w.heap.size w w') : WrAt B g l w' :=
  h.keep fun k c t f e _ => hb.block k (Array.getElem?_eq_some_iff.1 e).1
theorem WrAt.but {B g r : Nat} {l : List UInt8} {cs : Array Value} {w w' : World} (h : WrAt B g l w) (hr : IsAt r 52 cs w) (hb : But r w w') : WrAt B g l w' :=
  h.keep fun k c t f e ht => hb.block k (Array.getElem?_eq_some_iff.1 e).1 (by
    rintro rfl
    have hr' : w.heap[k]? = some (.cells cs 52 (0, 0)) := hr
    rw [hr'] at e
    simp only [Option.some.injEq, Obj.cells.injEq] at e
    obtain ⟨_, rfl, _⟩ := e
    revert ht
    decide)
theorem wr_new (w : World) (B : Nat) (hB : B ≤ w.heap.size) : WrAt B w.heap.size [] (w.alloc (.cells #[.pointer none, .int .i64 0] 29)) :=
  ⟨hB, .inl ⟨rfl, heap_alloc_new w _⟩⟩
theorem WrAt.lt {B g : Nat} {l : List UInt8} {w : World} (h : WrAt B g l w) : g < w.heap.size := by
  obtain ⟨hB, ⟨hl, h1⟩ | ⟨b, h1, h2⟩⟩ := h
  · exact h1.lt
  · exact h1.lt

theorem wlen_at (B g : Nat) (l : List UInt8) (w : World) (h : WrAt B g l w) :
    Calls Try.prog 11 #[.pointer (some ⟨g, 0, none⟩)] w fun e w' => e = .returned (.int .i64 l.length) ∧ w' = w := by
  have c1 : w.cell? ⟨g, 1, none⟩ = some (.int .i64 l.length) := by
    obtain ⟨hB, ⟨rfl, h1⟩ | ⟨b, h1, h2⟩⟩ := h
    · exact h1.cell 1
    · exact h1.cell 1
  clear h
  go_enter Try.func11, Try.ntmps11
  go_wp2
  go_ret
  exact ⟨rfl, rfl⟩
theorem wlen_nil (w : World) : Calls Try.prog 11 #[.pointer none] w fun e w' => e = .returned (.int .i64 0) ∧ w' = w := by
  go_enter Try.func11, Try.ntmps11
  go_wp2
  go_ret
  exact ⟨rfl, rfl⟩
theorem wstr_nil (w : World) : Calls Try.prog 12 #[.pointer none] w fun e w' => e = .returned (.string ⟨#[]⟩) ∧ w' = w := by
  go_enter Try.func12, Try.ntmps12
  go_wp2
  go_ret
  exact ⟨rfl, rfl⟩
theorem wtext_nil (s : ByteArray) (w : World) : Calls Try.prog 9 #[.pointer none, .string s] w fun e w' => e = .returned (.tuple #[]) ∧ w' = w := by
  go_enter Try.func9, Try.ntmps9
  go_wp2
  go_end0
  exact ⟨rfl, rfl⟩
theorem wnum_nil (n k : Int) (w : World) : Calls Try.prog 8 #[.pointer none, .int .i64 n, .int .i64 k] w fun e w' => e = .returned (.tuple #[]) ∧ w' = w := by
  go_enter Try.func8, Try.ntmps8
  go_wp2
  (try simp only [Exit.inBlock, Exit.then])
  refine bodyPost_ret (results_none rfl _ _ _) rfl ?_
  exact ⟨rfl, rfl⟩
theorem btext_none (g : Nat) (w : World) (h : IsAt g 29 #[.pointer none, .int .i64 0] w) :
    Calls Try.prog 25 #[.pointer (some ⟨g, 0, none⟩)] w fun e w' => e = .returned (.string ⟨#[]⟩) ∧ w' = w := by
  have c0 : w.cell? ⟨g, 0, none⟩ = some (.pointer none) := h.cell 0
  clear h
  go_enter Try.func25, Try.ntmps25
  go_wp2
  go_ret
  exact ⟨rfl, rfl⟩
/-- What builder.text and Writer.String leave. -/
def TextPost (B b : Nat) (l : List UInt8) (w w' : World) : Prop := Lib.IsBuilderF 61 5 B b (Lib.byteCells l) w' ∧ Below B w w' ∧ Lib.OthersKept 5 (some b) w w'
theorem bstr2 (B g b : Nat) (l : List UInt8) (w : World) (h : IsAt g 29 #[.pointer (some ⟨b, 0, none⟩), .int .i64 l.length] w) (hb : Lib.IsBuilderF 61 5 B b (Lib.byteCells l) w) (hB : B ≤ w.heap.size) :
    Calls Try.prog 29 #[.pointer (some ⟨b, 0, none⟩)] w fun e w' => e = .returned (.string ⟨l.toArray⟩) ∧ w'.cell? ⟨g, 0, none⟩ = some (.pointer (some ⟨b, 0, none⟩)) ∧ w'.cell? ⟨g, 1, none⟩ = some (.int .i64 l.length) ∧ TextPost B b l w w' := by
  refine (bstring B b l w hb hB).mono ?_
  rintro e w' ⟨rfl, h1, h2, h3⟩
  have hgb : g ≠ b := by
    rintro rfl
    have h' : w.heap[g]? = some (.cells #[.pointer (some ⟨g, 0, none⟩), .int .i64 l.length] 29 (0, 0)) := h
    rcases hb with ⟨_, v, hb, _⟩ | ⟨_, v, hb, _⟩
    all_goals
      rw [h'] at hb
      simp at hb
  have h' : IsAt g 29 #[.pointer (some ⟨b, 0, none⟩), .int .i64 l.length] w' := h3 g _ h (by simpa using hgb) (by intro c fz hc; simp at hc)
  exact ⟨rfl, h'.cell 0, h'.cell 1, h1, h2, h3⟩
theorem btext_some (B g b : Nat) (l : List UInt8) (w : World) (h : IsAt g 29 #[.pointer (some ⟨b, 0, none⟩), .int .i64 l.length] w) (hb : Lib.IsBuilderF 61 5 B b (Lib.byteCells l) w) (hB : B ≤ w.heap.size) (hl : l.length ≤ 100000) :
    Calls Try.prog 25 #[.pointer (some ⟨g, 0, none⟩)] w fun e w' => e = .returned (.string ⟨l.toArray⟩) ∧ TextPost B b l w w' := by
  have c0 : w.cell? ⟨g, 0, none⟩ = some (.pointer (some ⟨b, 0, none⟩)) := h.cell 0
  have c1 : w.cell? ⟨g, 1, none⟩ = some (.int .i64 l.length) := h.cell 1
  have H := bstr2 B g b l w.drew h hb hB
  have H' : Hid (Calls Try.prog 29 #[.pointer (some ⟨b, 0, none⟩)] w.drew fun e w' => e = .returned (.string ⟨l.toArray⟩) ∧ w'.cell? ⟨g, 0, none⟩ = some (.pointer (some ⟨b, 0, none⟩)) ∧ w'.cell? ⟨g, 1, none⟩ = some (.int .i64 l.length) ∧ TextPost B b l w.drew w') := H
  clear H h hb
  go_enter Try.func25, Try.ntmps25
  go_wp2
  go_region_held3 (fun w' => w'.cell? ⟨g, 0, none⟩ = some (.pointer (some ⟨b, 0, none⟩)) ∧ w'.cell? ⟨g, 1, none⟩ = some (.int .i64 l.length)) (go_keep)
    (first | (go_at_call 29; refine H'.out.mono ?_; rintro e w2 ⟨rfl, hc0, hc1, hp⟩))
  all_goals go_wp2
  go_ret
  have e : (⟨l.toArray⟩ : ByteArray).extract 0 l.length = ⟨l.toArray⟩ := by rw [ByteArray.extract_mk]; simp
  exact ⟨ret_str e, hp.1, ((Below.refl B w).drew).trans hp.2.1, ((Lib.OthersKept.refl 5 (some b) w).drew).trans hp.2.2⟩

theorem wstr_at (B g : Nat) (l : List UInt8) (w : World) (h : WrAt B g l w) (hB : B ≤ w.heap.size) (hl : l.length ≤ 100000) :
    Calls Try.prog 12 #[.pointer (some ⟨g, 0, none⟩)] w fun e w' => e = .returned (.string ⟨l.toArray⟩) ∧ WrAt B g l w' ∧ Below B w w' ∧ ∀ r cs, IsAt r 52 cs w → IsAt r 52 cs w' := by
  obtain ⟨hBg, ⟨rfl, h1⟩ | ⟨b, h1, h2⟩⟩ := h
  · go_enter Try.func12, Try.ntmps12
    go_wp2_with (go_at_call 25; refine (btext_none g _ h1).mono ?_; rintro e w' ⟨rfl, rfl⟩)
    go_ret
    exact ⟨rfl, ⟨hBg, .inl ⟨rfl, h1⟩⟩, Below.refl _ _, fun r cs hr => hr⟩
  · have H : Hid (IsAt g 29 #[.pointer (some ⟨b, 0, none⟩), .int .i64 l.length] w) := h1
    have H2 : Hid (Lib.IsBuilderF 61 5 B b (Lib.byteCells l) w) := h2
    clear h1 h2
    go_enter Try.func12, Try.ntmps12
    go_wp2_with (go_at_call 25; refine (btext_some B g b l _ H.out H2.out hB hl).mono ?_; rintro e w' ⟨rfl, hp⟩)
    go_ret
    obtain ⟨p1, p2, p3⟩ := hp
    have hb61 : ∃ cs, IsAt b 61 cs w := by
      rcases H2.out with ⟨_, v, hb, _⟩ | ⟨_, v, hb, _⟩
      all_goals exact ⟨_, hb⟩
    obtain ⟨cs, hb⟩ := hb61
    have key : ∀ r t cs', IsAt r t cs' w → t ≠ 61 → t ≠ 5 → IsAt r t cs' w' := by
      intro r t cs' hr ht ht5
      refine p3 r _ hr ?_ (by intro c fz hc; simp at hc; exact ht5 hc.2.1)
      simp only [ne_eq, Option.some.injEq]
      rintro rfl
      have e1 : w.heap[r]? = some (.cells cs 61 (0, 0)) := hb
      have e2 : w.heap[r]? = some (.cells cs' t (0, 0)) := hr
      rw [e1] at e2
      simp at e2
      exact ht e2.2.symm
    exact ⟨rfl, ⟨hBg, .inr ⟨b, key g 29 _ H.out (by decide) (by decide), p1⟩⟩, p2, fun r cs' hr => key r 52 cs' hr (by decide) (by decide)⟩

theorem isAt_ne {r r' t t' : Nat} {cs cs' : Array Value} {w : World} (h : IsAt r t cs w) (h' : IsAt r' t' cs' w) (ht : t ≠ t') : r ≠ r' := by
  rintro rfl
  have e1 : w.heap[r]? = some (.cells cs t (0, 0)) := h
  have e2 : w.heap[r]? = some (.cells cs' t' (0, 0)) := h'
  rw [e1] at e2
  simp at e2
  exact ht e2.2
theorem builder_block {B b : Nat} {bs : List Value} {w : World} (h : Lib.IsBuilderF 61 5 B b bs w) : ∃ cs, IsAt b 61 cs w := by
  rcases h with ⟨_, v, hb, _⟩ | ⟨_, v, hb, _⟩
  all_goals exact ⟨_, hb⟩
theorem isBuilder_set {B b g : Nat} {bs : List Value} {cs : Array Value} {w : World} (h : Lib.IsBuilderF 61 5 B b bs w) (hg : IsAt g 29 cs w) (o : Nat) (v : Value) :
    Lib.IsBuilderF 61 5 B b bs (w.setCell ⟨g, o, none⟩ v) := by
  refine isBuilder_keep h fun k c t f e ht => Below.heap_setCell _ _ _ _ ?_
  intro hkg
  have hkg' : k = g := hkg
  subst hkg'
  have e2 : w.heap[k]? = some (Obj.cells cs 29 (0, 0)) := hg
  have e' : w.heap[k]? = some (Obj.cells c t f) := e
  rw [e2] at e'
  simp at e'
  obtain ⟨_, rfl, _⟩ := e'
  revert ht
  decide
/-- What builder.put's calls of WriteString leave: the writer's cells x and y, and the builder. -/
def PutPost (B g b : Nat) (bs : List Value) (x y : Value) (w w' : World) : Prop := IsAt g 29 #[x, y] w' ∧ Lib.IsBuilderF 61 5 B b bs w' ∧ Below B w w'
theorem bwrite2 (B g b : Nat) (bs : List Value) (s : ByteArray) (x y : Value) (w : World) (hg : IsAt g 29 #[x, y] w) (h : Lib.IsBuilderF 61 5 B b bs w) (hlen : bs.length + s.size ≤ 100000) (hBw : B ≤ w.heap.size) :
    Calls Try.prog 28 #[.pointer (some ⟨b, 0, none⟩), .string s] w fun e w' => e = .returned (.tuple #[.int .i64 s.size, .nilIface]) ∧
      w'.cell? ⟨g, 0, none⟩ = some x ∧ w'.cell? ⟨g, 1, none⟩ = some y ∧ w'.frozen? ⟨g, 0, none⟩ = false ∧ w'.frozen? ⟨g, 1, none⟩ = false ∧ PutPost B g b (bs ++ Lib.strCells s) x y w w' := by
  refine (bwrite B b bs s w h (by omega) hBw).mono ?_
  rintro e w' ⟨rfl, h1, h2, h3⟩
  obtain ⟨cs, hb⟩ := builder_block h
  have hgb := isAt_ne hg hb (by decide)
  have h' : IsAt g 29 #[x, y] w' := h3 g _ hg (by simpa using hgb) (by intro c fz hc; simp at hc)
  exact ⟨rfl, h'.cell 0, h'.cell 1, h'.frozen 0, h'.frozen 1, h', h1, h2⟩
/-- builder.put. -/
theorem put_at (B g : Nat) (l : List UInt8) (s : ByteArray) (w : World) (h : WrAt B g l w) (hB : B ≤ w.heap.size) (hl : l.length + s.size ≤ 100000) :
    Calls Try.prog 24 #[.pointer (some ⟨g, 0, none⟩), .string s] w fun e w' => e = .returned (.tuple #[]) ∧ WrAt B g (l ++ s.data.toList) w' ∧ Below B w w' := by
  obtain ⟨hBg, ⟨rfl, h1⟩ | ⟨b, h1, h2⟩⟩ := h
  · have c0 : w.cell? ⟨g, 0, none⟩ = some (.pointer none) := h1.cell 0
    have c1 : w.cell? ⟨g, 1, none⟩ = some (.int .i64 0) := h1.cell 1
    have HA : Hid (IsAt g 29 #[.pointer none, .int .i64 0] (w.alloc (.cells #[.pointer none, .slice none 0 0] 61))) := (Below.heap_alloc w _ g h1.lt).trans h1
    have HI : Hid (Lib.IsBuilderF 61 5 B w.heap.size [] (w.alloc (.cells #[.pointer none, .slice none 0 0] 61))) :=
      .inl ⟨hB, .slice none 0 0, heap_alloc_new w _, World.ownsRowF_nil _ _ _ _, by simp [Value.ownBlock]⟩
    clear h1
    go_enter Try.func24, Try.ntmps24
    go_wp2
    go_quiet (fail)
    go_wp2_with (go_at_call 25; refine (btext_none g _ (by exact HA.out)).mono ?_; rintro e w' ⟨rfl, rfl⟩)
    refine (bwrite2 B g _ [] ⟨#[]⟩ (.pointer none) (.int .i64 0) _ (by exact HA.out) (by exact HI.out) (by decide) (by simp; omega)).mono ?_
    rintro e w2 ⟨rfl, d0, d1, e0, e1, hp⟩
    have HP : Hid (PutPost B g w.heap.size ([] ++ Lib.strCells ⟨#[]⟩) (.pointer none) (.int .i64 0) ((w.alloc (.cells #[.pointer none, .slice none 0 0] 61)).drewN nq) w2) := hp
    clear hp
    obtain ⟨p1, p2, p3⟩ := HP.out
    have HQ1 : Hid (IsAt g 29 #[.pointer (some ⟨w.heap.size, 0, none⟩), .int .i64 0] (w2.setCell ⟨g, 0, none⟩ (.pointer (some ⟨w.heap.size, 0, none⟩)))) := p1.set 0 _
    have HQ2 : Hid (Lib.IsBuilderF 61 5 B w.heap.size [] (w2.setCell ⟨g, 0, none⟩ (.pointer (some ⟨w.heap.size, 0, none⟩)))) := isBuilder_set p2 p1 _ _
    have HQ3 : Hid (Below B w w2) := (((Below.refl B w).alloc hB _).trans ⟨p3.os, p3.tape, p3.output, p3.size, p3.block⟩)
    have hz : B ≤ w2.heap.size := Nat.le_trans hB HQ3.out.size
    clear p1 p2 p3 HP HA HI
    go_wp2_with (go_at_call 28; refine (bwrite2 B g w.heap.size [] s _ _ _ HQ1.out HQ2.out (by simpa using hl) (by simpa [World.setCell] using hz)).mono ?_; rintro e w3 ⟨rfl, d0, d1, e0, e1, hp⟩)
    go_end0
    obtain ⟨p1, p2, p3⟩ := hp
    have q1 := p1.set 1 (.int .i64 ((s.data.toList).length : Int))
    refine ⟨rfl, ⟨hBg, .inr ⟨w.heap.size, ?_, ?_⟩⟩, ?_⟩
    · simpa using q1
    · exact isBuilder_set (by simpa [Lib.strCells_eq] using p2) p1 _ _
    · exact ((HQ3.out.setCell (p := ⟨g, 0, none⟩) hBg _).trans p3).setCell (p := ⟨g, 1, none⟩) hBg _
  · have c0 : w.cell? ⟨g, 0, none⟩ = some (.pointer (some ⟨b, 0, none⟩)) := h1.cell 0
    have c1 : w.cell? ⟨g, 1, none⟩ = some (.int .i64 l.length) := h1.cell 1
    have H1 : Hid (IsAt g 29 #[.pointer (some ⟨b, 0, none⟩), .int .i64 l.length] w) := h1
    have H2 : Hid (Lib.IsBuilderF 61 5 B b (Lib.byteCells l) w) := h2
    have hbl := Lib.byteCells_length l
    clear h1 h2
    go_enter Try.func24, Try.ntmps24
    go_wp2
    go_quiet ((go_at_call 27; exact Calls.quiet_of_same (blen B b _ _ (by exact H2.out))))
    go_wp2_with (go_at_call 28; refine (bwrite2 B g b (Lib.byteCells l) s _ _ _ (by exact H1.out) (by exact H2.out) (by omega) (by exact hB)).mono ?_; rintro e w3 ⟨rfl, d0, d1, e0, e1, hp⟩)
    go_end0
    obtain ⟨p1, p2, p3⟩ := hp
    have q1 := p1.set 1 (.int .i64 ((l ++ s.data.toList).length : Int))
    refine ⟨rfl, ⟨hBg, .inr ⟨b, ?_, ?_⟩⟩, ?_⟩
    · simpa using q1
    · exact isBuilder_set (by simpa [Lib.strCells_eq, Lib.byteCells_append] using p2) p1 _ _
    · exact Below.setCell (p := ⟨g, 1, none⟩) ((Below.refl B w).trans ⟨p3.os, p3.tape, p3.output, p3.size, p3.block⟩) hBg _
theorem wtext_at (B g : Nat) (l : List UInt8) (s : ByteArray) (w : World) (h : WrAt B g l w) (hB : B ≤ w.heap.size) (hl : l.length + s.size ≤ 100000) :
    Calls Try.prog 9 #[.pointer (some ⟨g, 0, none⟩), .string s] w fun e w' => e = .returned (.tuple #[]) ∧ WrAt B g (l ++ s.data.toList) w' ∧ Below B w w' := by
  have H : Hid (WrAt B g l w) := h
  clear h
  go_enter Try.func9, Try.ntmps9
  go_wp2_with (go_at_call 24; refine (put_at B g l s _ H.out hB hl).mono ?_; rintro e w3 ⟨rfl, h1, h2⟩)
  go_end0
  exact ⟨rfl, h1, h2⟩
end Go.Proofs.Ytnjekkcfdcbimaa
