/-
  Code of any numbers; what the frames keep.
-/
import Derived.Test.YtdfpmhdgebajfaaDoorX
import Derived.Deep.SlicePairs
import Derived.ChangeOld
namespace Go.Proofs.YtdfpmhdgebajfaaDoor
open Go.ChangeShapes Go.WideShapes Go.ChangeAt Go.RowKit Go.Deep
set_option linter.unusedVariables false
set_option maxRecDepth 100000

theorem addr_plain {w : World} {a : Addr} {v : Value} (h : w.cell? a = some v) : ∃ b off, a = ⟨b, off, none⟩ ∧ b < w.heap.size := by
  obtain ⟨b, off, spot⟩ := a
  have hs : spot = none := World.cell?_spot h
  subst hs
  refine ⟨b, off, rfl, ?_⟩
  rcases Nat.lt_or_ge b w.heap.size with h' | h'
  · exact h'
  · simp [World.cell?, Array.getElem?_eq_none h'] at h
/-- Code of any numbers. -/
def codeI (s : Co) (lo hi t : Int) : Co := if isP lo hi t then codeC s lo.toNat hi.toNat t.toNat else s
theorem codeI_ok {s : Co} (h : s.Ok) (lo hi t : Int) : (codeI s lo hi t).Ok ∧ (codeI s lo hi t).T.length ≤ s.T.length + 2 := by
  unfold codeI
  cases hp : isP lo hi t with
  | false => exact ⟨h, by simp⟩
  | true =>
    obtain ⟨a, b, c, rfl, rfl, rfl, p⟩ := isP_part hp
    exact ⟨code_ok h p, code_len h p⟩
theorem carry_some {B g : Nat} {s : Co} {w : World} (h : CoAt B g s w) (ok : s.Ok) {lo hi t : Nat} (p : IsPart lo hi t) : s.low + s.rng / t * lo ≥ 4294967296 → 0 < s.T.length := by
  intro hc
  obtain ⟨set, sm, last, beh, _, k⟩ := h
  cases sm with
  | true => rw [k.told]; simp [openL]; omega
  | false =>
    have := k.full (.inl rfl)
    have h1 := narrow_le (rng := s.rng) p
    have h2 := narrow_ge ok.lo p
    omega
theorem code_int (B g : Nat) (s : Co) (lo hi t : Int) (w : World) (h : CoAt B g s w) (ok : s.Ok) (hB : B ≤ w.heap.size) (hl : s.T.length ≤ 2000) :
    Calls Tryd.prog 42 #[.pointer (some ⟨g, 0, none⟩), .int .i64 lo, .int .i64 hi, .int .i64 t] w fun e w' => e = .returned (.tuple #[]) ∧ CoAt B g (codeI s lo hi t) w' ∧ Fr B w w' := by
  unfold codeI
  cases hp : isP lo hi t with
  | false =>
    refine (code_not g lo hi t w hp).mono ?_
    rintro e w' ⟨rfl, rfl⟩
    exact ⟨rfl, h, Fr.refl _ _⟩
  | true =>
    obtain ⟨a, b, c, rfl, rfl, rfl, p⟩ := isP_part hp
    exact code_at B g s a b c w h ok p hB hl
theorem rcode_int (B g r : Nat) (s : Co) (lo hi t : Int) (w w0 : World) (h0 : CoAt B g s w0) (h : DoAt B r s w) (ok : s.Ok) (hB : B ≤ w.heap.size) (hl : s.T.length ≤ 2000) :
    Calls Tryd.prog 44 #[.pointer (some ⟨r, 0, none⟩), .int .i64 lo, .int .i64 hi, .int .i64 t] w fun e w' => e = .returned (.tuple #[]) ∧ DoAt B r (codeI s lo hi t) w' ∧ Gr B w w' := by
  unfold codeI
  cases hp : isP lo hi t with
  | false =>
    refine (rcode_not r lo hi t w hp).mono ?_
    rintro e w' ⟨rfl, rfl⟩
    exact ⟨rfl, h, Gr.refl _ _⟩
  | true =>
    obtain ⟨a, b, c, rfl, rfl, rfl, p⟩ := isP_part hp
    exact rcode_at B r s a b c w h ok p hB hl (carry_some h0 ok p)
theorem Fr.three {B : Nat} {s : Co} {r : Nat} {w w' : World} (h : Fr B w w') (k : DoAt B r s w) : DoAt B r s w' :=
  k.keep fun i c t f e ht => (h.kept i c t f e (by rcases ht with rfl | rfl <;> decide) (by rcases ht with rfl | rfl <;> decide) (by rcases ht with rfl | rfl <;> decide)).trans e.symm
theorem Gr.co {B : Nat} {s : Co} {g : Nat} {w w' : World} (h : Gr B w w') (k : CoAt B g s w) : CoAt B g s w' :=
  k.keep fun i c t f e ht => (h.kept i c t f e (by rcases ht with rfl | rfl | rfl <;> decide) (by rcases ht with rfl | rfl | rfl <;> decide)).trans e.symm
theorem cells_of {w w' : World} (h : Below w.heap.size w w') : ∀ (a : Addr) (v : Value), w.cell? a = some v → w'.cell? a = some v := fun a v e => by
  rw [h.cell (p := a) (block_lt_of_cell e)]; exact e
theorem frozen_of {w w' : World} (h : Below w.heap.size w w') : ∀ (a : Addr) (v : Value), w.cell? a = some v → w'.frozen? a = w.frozen? a := fun a v e => h.frozen (p := a) (block_lt_of_cell e)
end Go.Proofs.YtdfpmhdgebajfaaDoor
