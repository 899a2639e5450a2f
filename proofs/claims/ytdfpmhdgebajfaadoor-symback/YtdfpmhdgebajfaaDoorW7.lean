/-
  Items that were coded, one behind the other: what is kept of them, and that they come back.
-/
import Derived.Test.YtdfpmhdgebajfaaDoorW6
import Derived.Deep.AppendLies
import Derived.OwnWalk
namespace Go.Proofs.YtdfpmhdgebajfaaDoor
open Go.ChangeShapes Go.WideShapes Go.ChangeAt Go.RowKit Go.Deep
set_option linter.unusedVariables false
set_option maxRecDepth 100000

abbrev Items := List (Int × Int × Int)
def flat (q : Items) : Parts := q.flatMap partsI
def cellsQ (q : Items) : List Value := q.flatMap fun X => [.int .i64 X.1, .int .i64 X.2.1, .int .i64 X.2.2]
def AllOk (q : Items) : Prop := ∀ X ∈ q, okI X = true
def codQ (q : Items) : Co := codesC zeroC (flat q)
theorem flat_snoc (q : Items) (X : Int × Int × Int) : flat (q ++ [X]) = flat q ++ partsI X := by simp [flat]
theorem cellsQ_snoc (q : Items) (X : Int × Int × Int) : cellsQ (q ++ [X]) = cellsQ q ++ [.int .i64 X.1, .int .i64 X.2.1, .int .i64 X.2.2] := by simp [cellsQ]
theorem cellsQ_len (q : Items) : (cellsQ q).length = q.length * 3 := by
  induction q with
  | nil => rfl
  | cons X q ih =>
    have : cellsQ (X :: q) = [.int .i64 X.1, .int .i64 X.2.1, .int .i64 X.2.2] ++ cellsQ q := rfl
    rw [this, List.length_append, ih]
    simp
    omega
theorem cellsQ_get : ∀ (q : Items) (i : Nat) (X : Int × Int × Int), q[i]? = some X → (cellsQ q)[i * 3]? = some (.int .i64 X.1) ∧ (cellsQ q)[i * 3 + 1]? = some (.int .i64 X.2.1) ∧ (cellsQ q)[i * 3 + 2]? = some (.int .i64 X.2.2)
  | [], i, X, h => by simp at h
  | Y :: q, 0, X, h => by
    simp at h
    subst h
    exact ⟨rfl, rfl, rfl⟩
  | Y :: q, i + 1, X, h => by
    have ih := cellsQ_get q i X (by simpa using h)
    have e : cellsQ (Y :: q) = .int .i64 Y.1 :: .int .i64 Y.2.1 :: .int .i64 Y.2.2 :: cellsQ q := rfl
    rw [e, show (i + 1) * 3 = i * 3 + 1 + 1 + 1 by omega]
    simpa using ih
theorem flat_part (q : Items) (h : AllOk q) : (∀ p ∈ flat q, IsPart p.1 p.2.1 p.2.2) ∧ (flat q).length ≤ 6 * q.length := by
  induction q with
  | nil => exact ⟨fun p hp => by simp [flat] at hp, by simp [flat]⟩
  | cons X q ih =>
    have i := ih fun Y hY => h Y (List.mem_cons_of_mem _ hY)
    have j := items_part (h X List.mem_cons_self)
    have e : flat (X :: q) = partsI X ++ flat q := rfl
    rw [e]
    refine ⟨fun p hp => ?_, ?_⟩
    · rcases List.mem_append.1 hp with hp | hp
      · exact j.1 p hp
      · exact i.1 p hp
    · rw [List.length_append, List.length_cons]
      have := i.2
      have := j.2
      omega
theorem codQ_ok (q : Items) (h : AllOk q) : (codQ q).Ok ∧ (codQ q).T.length ≤ 12 * q.length := by
  have p := flat_part q h
  have c := codes_ok (flat q) zero_ok p.1
  exact ⟨c.1, by have h1 := c.2; have h2 := p.2; have : zeroC.T.length = 0 := rfl; show (codesC zeroC (flat q)).T.length ≤ _; omega⟩
theorem codQ_snoc {q : Items} {X : Int × Int × Int} (h : okI X = true) : stI (codQ q) X = codQ (q ++ [X]) := by
  unfold stI codQ
  rw [h, flat_snoc, codes_append]
  rfl
theorem allOk_snoc {q : Items} {X : Int × Int × Int} (h : AllOk q) (hX : okI X = true) : AllOk (q ++ [X]) := fun Y hY => by
  rcases List.mem_append.1 hY with hY | hY
  · exact h Y hY
  · rw [List.mem_singleton.1 hY]; exact hX
/-- What stands in the first loop: c and some. -/
structure Sb (w : World) (q : Items) (v : Value) (wr : World) : Prop where
  okq : AllOk q
  co : CoAt w.heap.size w.heap.size (codQ q) wr
  own : wr.ownsRow w.heap.size 40 3 v q.length (cellsQ q)
  bel : Below w.heap.size w wr
theorem owns_keepI {B : Nat} {v : Value} {n : Nat} {xs : List Value} {w w' : World} (h : w.ownsRow B 40 3 v n xs)
    (hk : ∀ (k : Nat) (c : Array Value) (f : Nat × Nat), w.heap[k]? = some (Obj.cells c 40 f) → w'.heap[k]? = w.heap[k]?) : w'.ownsRow B 40 3 v n xs := by
  refine ⟨h.1, ?_⟩
  rcases h.2 with hn | ⟨g, cap, cur, hv, hb, hg, rest⟩
  · exact .inl hn
  · exact .inr ⟨g, cap, cur, hv, hb, (hk _ _ _ hg).trans hg, rest⟩
theorem owns_fr {B C : Nat} {v : Value} {n : Nat} {xs : List Value} {w w' : World} (h : w.ownsRow B 40 3 v n xs) (hf : Fr C w w') : w'.ownsRow B 40 3 v n xs :=
  owns_keepI h fun k c f e => (hf.kept k c _ f e (by decide) (by decide) (by decide)).trans e.symm
theorem owns_below {B : Nat} {v : Value} {n : Nat} {xs : List Value} {w w' : World} (h : w.ownsRow B 40 3 v n xs) (hb : Below w.heap.size w w') : w'.ownsRow B 40 3 v n xs :=
  owns_keepI h fun k c f e => hb.block k (Array.getElem?_eq_some_iff.1 e).1
theorem owns_but {B r t : Nat} {cs : Array Value} {v : Value} {n : Nat} {xs : List Value} {w w' : World} (h : w.ownsRow B 40 3 v n xs) (hr : IsAt r t cs w) (ht : t ≠ 40) (hb : But r w w') : w'.ownsRow B 40 3 v n xs :=
  owns_keepI h fun k c f e => hb.block k (Array.getElem?_eq_some_iff.1 e).1 (by
    rintro rfl
    have e2 : w.heap[k]? = some (Obj.cells cs t (0, 0)) := hr
    rw [e2] at e
    simp at e
    exact ht e.2.1)
theorem owns_kindI {w : World} {B : Nat} {v : Value} {n : Nat} {xs : List Value} (h : w.ownsRow B 40 3 v n xs) : ∀ k, v.ownBlock = some k → B ≤ k ∧ ∃ c f, w.heap[k]? = some (.cells c 40 f) := by
  intro k hk
  refine ⟨(h.lt k hk).1, ?_⟩
  rcases h.2 with ⟨rfl, _⟩ | ⟨g, cap, cur, rfl, _, hg, _⟩
  · simp [Value.ownBlock] at hk
  · simp [Value.ownBlock] at hk
    subst hk
    exact ⟨_, _, hg⟩
theorem owns_form {w : World} {B : Nat} {v : Value} {n : Nat} {xs : List Value} (h : w.ownsRow B 40 3 v n xs) : ∃ (ad : Option Addr) (cap : Nat), v = .slice ad n cap ∧ (n ≠ 0 → ∃ g, ad = some ⟨g, 0, none⟩) := by
  rcases h.2 with ⟨rfl, rfl⟩ | ⟨g, cap, cur, rfl, _⟩
  · exact ⟨none, 0, rfl, fun h => absurd rfl h⟩
  · exact ⟨_, cap, rfl, fun _ => ⟨g, rfl⟩⟩
theorem CoAt.grown {B C g : Nat} {s : Co} {v : Value} {n : Nat} {xs : List Value} {w w' : World} (h : CoAt B g s w) (hown : w.ownsRow C 40 3 v n xs) (hg : w.grownBy w' v.ownBlock) : CoAt B g s w' :=
  h.keep fun k c t f e ht => hg.block k (Array.getElem?_eq_some_iff.1 e).1 (by
    intro hk
    obtain ⟨c', f', e'⟩ := (owns_kindI hown k hk.symm).2
    rw [e'] at e
    simp at e
    obtain ⟨_, rfl, _⟩ := e
    revert ht
    decide)
theorem Sb.drop {w : World} {q : Items} {v : Value} {wr w1 : World} (h : Sb w q v wr) {X : Int × Int × Int} (hX : okI X = false) (c1 : CoAt w.heap.size w.heap.size (stI (codQ q) X) w1) (f1 : Fr w.heap.size wr w1) : Sb w q v w1 := by
  have e : stI (codQ q) X = codQ q := by unfold stI; rw [hX]; rfl
  rw [e] at c1
  exact ⟨h.okq, c1, owns_fr h.own f1, h.bel.trans f1.below⟩
theorem Sb.keep {w : World} {q : Items} {v v' : Value} {wr w1 w3 : World} (h : Sb w q v wr) {X : Int × Int × Int} (hX : okI X = true) (c1 : CoAt w.heap.size w.heap.size (stI (codQ q) X) w1) (f1 : Fr w.heap.size wr w1) {o : Obj}
    (hown : w3.ownsRow w.heap.size 40 3 v' (q.length + 1) (cellsQ q ++ [.int .i64 X.1, .int .i64 X.2.1, .int .i64 X.2.2])) (hg : (w1.alloc o).grownBy w3 v.ownBlock) : Sb w (q ++ [X]) v' w3 := by
  have b1 := (Below.refl _ w1).alloc (Nat.le_refl _) o
  have o1 := owns_below (owns_fr h.own f1) b1
  have s1 : w.heap.size ≤ (w1.alloc o).heap.size := Nat.le_trans h.bel.size (Nat.le_trans f1.below.size b1.size)
  refine ⟨allOk_snoc h.okq hX, ?_, ?_, ?_⟩
  · rw [← codQ_snoc hX]
    exact (c1.below b1).grown o1 hg
  · rw [cellsQ_snoc, List.length_append]
    exact hown
  · have b3 := (h.bel.trans f1.below).trans (b1.mono (Nat.le_trans h.bel.size f1.below.size))
    exact b3.grown hg s1 (fun k hk => (o1.lt k hk).1)
theorem infoI : (Tryd.prog.info? 40).map (fun i => (i.zero, i.size, i.bytes)) = some (some (.agg #[.int .i64 0, .int .i64 0, .int .i64 0]), 3, 24) := by kernel_rfl
/-- The decoder of what was told stands ahead of item i. -/
def decQ (q : Items) (i : Nat) : De := takesD (endC (codQ q)) (newD (endC (codQ q))) (flat (q.take i))
theorem decQ_next {q : Items} {i : Nat} {X : Int × Int × Int} (h : q[i]? = some X) : takesD (endC (codQ q)) (decQ q i) (partsI X) = decQ q (i + 1) := by
  unfold decQ
  have hi : i < q.length := (List.getElem?_eq_some_iff.1 h).1
  have e : q.take (i + 1) = q.take i ++ [X] := by
    rw [List.take_add_one, h]; rfl
  rw [e, flat_snoc, takes_append]
theorem decQ_fits {q : Items} (ok : AllOk q) {i : Nat} {X : Int × Int × Int} (h : q[i]? = some X) : Fits (endC (codQ q)) (decQ q i) (partsI X) := by
  have hi : i < q.length := (List.getElem?_eq_some_iff.1 h).1
  have hx : q[i] = X := (List.getElem?_eq_some_iff.1 h).2
  have e : flat q = flat (q.take i) ++ partsI X ++ flat (q.drop (i + 1)) := by
    have e1 : q = q.take i ++ [X] ++ q.drop (i + 1) := by
      rw [← hx, List.take_append_getElem hi, List.take_append_drop]
    have e2 : ∀ a b : Items, flat (a ++ b) = flat a ++ flat b := fun a b => by simp [flat]
    have e3 : flat [X] = partsI X := by simp [flat]
    calc flat q = flat (q.take i ++ [X] ++ q.drop (i + 1)) := by rw [← e1]
      _ = _ := by rw [e2, e2, e3]
  have := back_fits (partsI X) (flat (q.take i)) (flat (q.drop (i + 1))) (by rw [← e]; exact (flat_part q ok).1)
  rw [← e] at this
  exact this
theorem decQ_ok {q : Items} (ok : AllOk q) : ∀ i, (decQ q i).Ok := by
  intro i
  have hp : ∀ p ∈ flat (q.take i), IsPart p.1 p.2.1 p.2.2 := (flat_part (q.take i) fun X hX => ok X (List.mem_of_mem_take hX)).1
  unfold decQ
  have : ∀ (ps : Parts) (d : De), d.Ok → (∀ p ∈ ps, IsPart p.1 p.2.1 p.2.2) → (takesD (endC (codQ q)) d ps).Ok := by
    intro ps
    induction ps with
    | nil => intro d hd _; exact hd
    | cons p ps ih =>
      intro d hd h
      rw [takes_cons]
      exact ih _ (take_ok hd (h p List.mem_cons_self)).1 fun x hx => h x (List.mem_cons_of_mem _ hx)
  exact this _ _ (new_ok _) hp
theorem endQ_len {q : Items} (ok : AllOk q) (h : q.length ≤ 40) : (endC (codQ q)).length ≤ 1000 := by
  have h1 := strip_le (fullC (codQ q))
  have h2 := full_len (codQ q)
  have h3 := (codQ_ok q ok).2
  show (strip _).length ≤ 1000
  omega
end Go.Proofs.YtdfpmhdgebajfaaDoor
