/-
  Arguments opened: a slice of three numbers each, an array of three; the part of three numbers inside a law; Code of any numbers.
-/
import Derived.Test.YtkdmgeefeojdoaaDoorX
import Derived.Deep.SlicePairs
import Derived.ChangeOld
namespace Go.Proofs.YtkdmgeefeojdoaaDoor
open Go.ChangeShapes Go.WideShapes Go.ChangeAt Go.RowKit Go.Deep
set_option linter.unusedVariables false
set_option maxRecDepth 100000

theorem addr_plain {w : World} {a : Addr} {v : Value} (h : w.cell? a = some v) : ∃ b off, a = ⟨b, off, none⟩ ∧ b < w.heap.size := by
  obtain ⟨b, off, spot⟩ := a
  have hs : spot = none := World.cell?_spot h
  subst hs
  refine ⟨b, off, rfl, ?_⟩
  rcases Nat.lt_or_ge b w.heap.size with h' | h'
  · exact h'
  · simp [World.cell?, Array.getElem?_eq_none h'] at h
/-- Three cells, one behind the other. -/
def ThreeAt (w : World) (b o : Nat) (X : Nat × Nat × Nat) : Prop :=
  w.cell? ⟨b, o, none⟩ = some (.int .u16 (X.1 : Int)) ∧ w.cell? ⟨b, o + 1, none⟩ = some (.int .u16 (X.2.1 : Int)) ∧ w.cell? ⟨b, o + 2, none⟩ = some (.int .u16 (X.2.2 : Int))
def Small (X : Nat × Nat × Nat) : Prop := X.1 < 65536 ∧ X.2.1 < 65536 ∧ X.2.2 < 65536
/-- What a walk is told of a slice of three numbers each. -/
def IsThrees (w : World) (a : Option Addr) (len cap : Nat) (X : Nat → Nat × Nat × Nat) : Prop :=
  len ≤ maxLen ∧ (len = 0 ∨ ∃ b off, a = some ⟨b, off, none⟩ ∧ b < w.heap.size ∧ len ≤ cap ∧ cap ≤ maxLen ∧ ∀ i, i < len → ThreeAt w b (off + i * 3) (X i) ∧ Small (X i))
section
variable {H : Type} {enc : TypeId × Value → H} {P : Program} {w : World} {base : Nat} {held : Bool}
theorem u16_nat {n : Int} (h : (Lit.int .u16 n).wf = true) : ∃ k : Nat, n = k ∧ k < 65536 := by
  have : 0 ≤ n ∧ n ≤ 65535 := by simpa [Lit.wf, IntKind.min, IntKind.max, IntKind.signed, IntKind.bits] using h
  exact ⟨n.toNat, by omega, by omega⟩
theorem open_arr3 {t e f : TypeId} {fuel : Nat} {a : Option Addr} {len cap : Nat} {x : DataW H × List MemPlace} (ht : P.underlying t = some (.slice e)) (he : P.underlying e = some (.array 3 f)) (hf : P.underlying f = some (.int .u16))
    (ce : P.cellsOf e = 3) (cf : P.cellsOf f = 1) (h : DataW.trod enc P w base (fun _ => true) held fuel t (Value.slice a len cap).cells.toList = some x) :
    ∃ X : Nat → Nat × Nat × Nat, IsThrees w a len cap X := by
  rcases open_slice ht h with h0 | ⟨a', len', cap', m, n, D, Pl, hcs, hb, hl, hm, hmm, rfl, hx⟩
  · have := h0.1
    simp [Value.cells] at this
    obtain ⟨rfl, rfl, rfl⟩ := this
    exact ⟨fun _ => (0, 0, 0), Nat.zero_le _, .inl rfl⟩
  simp [Value.cells] at hcs
  obtain ⟨rfl, rfl, rfl⟩ := hcs
  have hmc : m = cap := by simpa using hmm
  subst hmc
  have each : ∀ i, i < m → ∃ q : Nat × Nat × Nat, ((w.cell? (a'.add (i * 3)) = some (.int .u16 (q.1 : Int)) ∧ w.cell? (a'.add (i * 3 + 1)) = some (.int .u16 (q.2.1 : Int))) ∧ w.cell? (a'.add (i * 3 + 2)) = some (.int .u16 (q.2.2 : Int))) ∧ Small q := by
    intro i hi
    obtain ⟨cs', h1, h2⟩ := hx i hi
    rw [ce] at h1
    obtain ⟨_, hlen, hcell⟩ := World.cells?_some h1
    obtain ⟨xs, k, hk, hxy, _, hxl, hf'⟩ := DataW.trod_array he h2
    match xs, hxl, cs', hlen with
    | [y0, y1, y2], _, [v0, v1, v2], _ =>
      have g0 := hf' 0 (by omega)
      have g1 := hf' 1 (by omega)
      have g2 := hf' 2 (by omega)
      simp [cf] at g0 g1 g2
      obtain ⟨n0, e0, _, w0⟩ := DataW.trod_int hf g0
      obtain ⟨n1, e1, _, w1⟩ := DataW.trod_int hf g1
      obtain ⟨n2, e2, _, w2⟩ := DataW.trod_int hf g2
      simp at e0 e1 e2
      obtain ⟨k0, rfl, b0⟩ := u16_nat w0
      obtain ⟨k1, rfl, b1⟩ := u16_nat w1
      obtain ⟨k2, rfl, b2⟩ := u16_nat w2
      subst e0 e1 e2
      have c0 := hcell 0 (by omega)
      have c1 := hcell 1 (by omega)
      have c2 := hcell 2 (by omega)
      rw [add_add] at c0 c1 c2
      exact ⟨(k0, k1, k2), ⟨⟨by simpa using c0, by simpa using c1⟩, by simpa using c2⟩, b0, b1, b2⟩
  obtain ⟨q, hq⟩ := choose_lt each
  refine ⟨q, Nat.le_trans hl hm, ?_⟩
  by_cases h0 : len = 0
  · exact .inl h0
  right
  have h1 := (hq 0 (by omega)).1.1.1
  have e : a'.add (0 * 3) = a' := by simp [Addr.add]
  rw [e] at h1
  obtain ⟨b, off, rfl, hb'⟩ := addr_plain h1
  refine ⟨b, off, rfl, hb', hl, hm, fun i hi => ?_⟩
  obtain ⟨⟨⟨h2, h3⟩, h4⟩, h5⟩ := hq i (by omega)
  rw [add_plain] at h2 h3 h4
  exact ⟨⟨h2, by rw [Nat.add_assoc]; exact h3, by rw [Nat.add_assoc]; exact h4⟩, h5⟩
theorem open_three {r : Reach} {t f : TypeId} {v : Value} {d : DataW H} {p : List MemPlace} (ht : P.underlying t = some (.array 3 f)) (hf : P.underlying f = some (.int .i64)) (cf : P.cellsOf f = 1) (ct : P.cellsOf t = 3)
    (hv : Value.okWide P w r base t v) (h : DataW.Trod enc P w 0 (fun _ => true) held t v d p) : ∃ x y z : Int, v = .agg #[.int .i64 x, .int .i64 y, .int .i64 z] := by
  simp only [Value.okWide, ht] at hv
  obtain ⟨cs, rfl, _, _⟩ := hv
  obtain ⟨fuel, hf1⟩ := h
  obtain ⟨xs, k, hk, hxy, hcl, hxl, hf'⟩ := DataW.trod_array ht hf1
  match xs, hxl with
  | [y0, y1, y2], _ =>
    have g0 := hf' 0 (by omega)
    have g1 := hf' 1 (by omega)
    have g2 := hf' 2 (by omega)
    simp [cf, Value.cells] at g0 g1 g2
    obtain ⟨n0, e0, _, w0⟩ := DataW.trod_int hf g0
    obtain ⟨n1, e1, _, w1⟩ := DataW.trod_int hf g1
    obtain ⟨n2, e2, _, w2⟩ := DataW.trod_int hf g2
    refine ⟨n0, n1, n2, ?_⟩
    congr 1
    apply Array.ext'
    have hl : cs.toList.length = 3 := by
      rw [← ct]
      simpa [Value.cells] using hcl
    generalize cs.toList = L at *
    match L, hl with
    | [u0, u1, u2], _ =>
      simp at e0 e1 e2
      subst e0 e1 e2
      rfl
end
/-- Code of any numbers. -/
def codeI (s : Co) (lo hi t : Int) : Co := if isP lo hi t then codeC s lo.toNat hi.toNat t.toNat else s
theorem codeI_ok {s : Co} (h : s.Ok) (lo hi t : Int) : (codeI s lo hi t).Ok ∧ (codeI s lo hi t).T.length ≤ s.T.length + 2 := by
  unfold codeI
  cases hp : isP lo hi t with
  | false => exact ⟨h, by simp⟩
  | true =>
    obtain ⟨a, b, c, rfl, rfl, rfl, p⟩ := isP_part hp
    exact ⟨code_ok h p, code_len h p⟩
theorem carry_some {B g : Nat} {s : Co} {w : World} (h : CoAt B g s w) (ok : s.Ok) {lo hi t : Nat} (p : IsPart lo hi t) : s.low + s.rng / t * lo ≥ 4294967296 → 0 < s.T.length := by
  intro hc
  obtain ⟨set, sm, last, beh, _, k⟩ := h
  cases sm with
  | true => rw [k.told]; simp [openL]; omega
  | false =>
    have := k.full (.inl rfl)
    have h1 := narrow_le (rng := s.rng) p
    have h2 := narrow_ge ok.lo p
    omega
theorem code_int (B g : Nat) (s : Co) (lo hi t : Int) (w : World) (h : CoAt B g s w) (ok : s.Ok) (hB : B ≤ w.heap.size) (hl : s.T.length ≤ 2000) :
    Calls Tryd.prog 9 #[.pointer (some ⟨g, 0, none⟩), .int .i64 lo, .int .i64 hi, .int .i64 t] w fun e w' => e = .returned (.tuple #[]) ∧ CoAt B g (codeI s lo hi t) w' ∧ Fr B w w' := by
  unfold codeI
  cases hp : isP lo hi t with
  | false =>
    refine (code_not g lo hi t w hp).mono ?_
    rintro e w' ⟨rfl, rfl⟩
    exact ⟨rfl, h, Fr.refl _ _⟩
  | true =>
    obtain ⟨a, b, c, rfl, rfl, rfl, p⟩ := isP_part hp
    exact code_at B g s a b c w h ok p hB hl
theorem rcode_int (B g r : Nat) (s : Co) (lo hi t : Int) (w w0 : World) (h0 : CoAt B g s w0) (h : DoAt B r s w) (ok : s.Ok) (hB : B ≤ w.heap.size) (hl : s.T.length ≤ 2000) :
    Calls Tryd.prog 10 #[.pointer (some ⟨r, 0, none⟩), .int .i64 lo, .int .i64 hi, .int .i64 t] w fun e w' => e = .returned (.tuple #[]) ∧ DoAt B r (codeI s lo hi t) w' ∧ Gr B w w' := by
  unfold codeI
  cases hp : isP lo hi t with
  | false =>
    refine (rcode_not r lo hi t w hp).mono ?_
    rintro e w' ⟨rfl, rfl⟩
    exact ⟨rfl, h, Gr.refl _ _⟩
  | true =>
    obtain ⟨a, b, c, rfl, rfl, rfl, p⟩ := isP_part hp
    exact rcode_at B r s a b c w h ok p hB hl (carry_some h0 ok p)
theorem Fr.three {B : Nat} {s : Co} {r : Nat} {w w' : World} (h : Fr B w w') (k : DoAt B r s w) : DoAt B r s w' :=
  k.keep fun i c t f e ht => (h.kept i c t f e (by rcases ht with rfl | rfl <;> decide) (by rcases ht with rfl | rfl <;> decide) (by rcases ht with rfl | rfl <;> decide)).trans e.symm
theorem Gr.co {B : Nat} {s : Co} {g : Nat} {w w' : World} (h : Gr B w w') (k : CoAt B g s w) : CoAt B g s w' :=
  k.keep fun i c t f e ht => (h.kept i c t f e (by rcases ht with rfl | rfl | rfl <;> decide) (by rcases ht with rfl | rfl | rfl <;> decide)).trans e.symm
/-- The part of three numbers, as codes. -/
def prt (X : Nat × Nat × Nat) : Nat × Nat × Nat := (someLo X.1 X.2.2, someHi X.1 X.2.1 X.2.2, 1 + X.2.2)
theorem prt_part (X : Nat × Nat × Nat) (h : Small X) : IsPart (prt X).1 (prt X).2.1 (prt X).2.2 := some_part _ _ _ h.2.2
/-- Some, with what the region asks of the world behind it. -/
theorem some_keep (X : Nat × Nat × Nat) (hX : Small X) (b o : Nat) (w : World) (h : ThreeAt w b o X) :
    Calls Tryd.prog 8 #[.int .u16 (X.1 : Int), .int .u16 (X.2.1 : Int), .int .u16 (X.2.2 : Int)] w fun e w' => e = .returned (.agg #[.int .i64 ((prt X).1 : Int), .int .i64 ((prt X).2.1 : Int), .int .i64 ((prt X).2.2 : Int)]) ∧ ThreeAt w' b o X ∧ Below w.heap.size w w' := by
  refine (some_any X.1 X.2.1 X.2.2 hX.1 hX.2.1 hX.2.2 w).mono ?_
  rintro e w' ⟨rfl, hb⟩
  obtain ⟨h0, h1, h2⟩ := h
  have hlt : b < w.heap.size := block_lt_of_cell h0
  exact ⟨rfl, ⟨by rw [hb.cell (p := ⟨b, o, none⟩) hlt]; exact h0, by rw [hb.cell (p := ⟨b, o + 1, none⟩) hlt]; exact h1, by rw [hb.cell (p := ⟨b, o + 2, none⟩) hlt]; exact h2⟩, hb⟩
theorem cells_of {w w' : World} (h : Below w.heap.size w w') : ∀ (a : Addr) (v : Value), w.cell? a = some v → w'.cell? a = some v := fun a v e => by
  rw [h.cell (p := a) (block_lt_of_cell e)]; exact e
theorem frozen_of {w w' : World} (h : Below w.heap.size w w') : ∀ (a : Addr) (v : Value), w.cell? a = some v → w'.frozen? a = w.frozen? a := fun a v e => h.frozen (p := a) (block_lt_of_cell e)
end Go.Proofs.YtkdmgeefeojdoaaDoor
