/-
  A region that draws its order, in which every operation from the m-th on waits for all ahead of it: the head (the first m, in whatever order, with loads taken first under a condition S that the tail may break), then the tail in the text's order.
-/
import Derived.Test.YtgbehapekfoaiaaRT
import Derived.Test.YtgbehapekfoaiaaTO
import Derived.Test.YtgbehapekfoaiaaOI
namespace Go.Proofs.Ytgbehapekfoaiaa
open Go.ChangeShapes Go.WideShapes Go.ChangeAt Go.RowKit
set_option linter.unusedVariables false

/-- What the head leaves behind: R, and no panic. -/
def HeadQ (R : Act → World → Prop) : Exit → Act → World → Prop
  | .normal, a, w => R a w
  | _, _, _ => False
theorem head_out {R : Act → World → Prop} {p : Prop} (h : LetsOut (HeadQ R)) : p := by
  obtain ⟨_, _, h⟩ := h
  exact h.elim
section
variable {P : Program} {md : Region.Mode} {S : World → Prop} {R : Act → World → Prop} {Q : Exit → Act → World → Prop}
theorem wp_of_head {o : Oper} {a : Act} {w : World} {K K' : Act → World → Prop} (h : ∀ a w, K a w → K' a w) (hh : o.wp P a w K (HeadQ R)) : o.wp P a w K' Q := by
  unfold Oper.wp at *
  generalize (execOp a.eval o).run P w = r at *
  cases r with
  | ok n w' =>
    cases n <;> simp only [Oper.upon] at hh ⊢ <;>
      first
        | exact h _ _ hh
        | exact Calls.mono hh (fun e w'' he => by cases e <;> first | exact h _ _ he | exact (he : False).elim | exact head_out he)
        | exact Rows.mono hh (fun _ _ he => h _ _ he)
  | halt x w' => cases x <;> simp only [Oper.upon] at hh ⊢ <;> first | exact hh | exact (hh : False).elim
theorem head_or {o : Oper} {a : Act} {w : World} {K : Act → World → Prop} (h : o.wp P a w K (HeadQ R) ∨ (o.asks P a w ∧ LetsOut (HeadQ R))) : o.wp P a w K (HeadQ R) := h.elim id fun h => head_out h.2
theorem wp_idle {o : Oper} {a : Act} {w : World} {K : Act → World → Prop} : (idleN o).wp P a w K Q ↔ K a w := by
  have e : (execOp a.eval (idleN o)).run P w = .ok (.value (.bool true)) w := by simp [idleN, go_sem]
  have h2 : ∀ v, a.put (idleN o).dst v = a := fun v => rfl
  unfold Oper.wp
  rw [e, Oper.upon_value, h2]
theorem head_q {z m : Nat} {L : List Oper} (hc : tailB md z m L = true) : ∀ (d fuel i : Nat) (listed : Array Bool) (a : Act) (w : World), i + d = L.length → m ≤ i → Till L i listed → wpAnyH P md (idleTail m L).toArray (HeadQ R) S fuel listed a w → R a w ∧ d ≤ fuel := by
  intro d
  induction d with
  | zero =>
    intro fuel i listed a w hd hm ht h
    have hnil : Region.ready md (idleTail m L).toArray listed = [] := List.eq_nil_iff_forall_not_mem.2 fun j hj => by
      rw [idleTail_ready, ht.done (by omega)] at hj; cases hj
    cases fuel with
    | zero => exact ⟨h.2, Nat.le_refl _⟩
    | succ f => exact ⟨h.1 hnil, Nat.zero_le _⟩
  | succ d ih =>
    intro fuel i listed a w hd hm ht h
    have hi : i < L.length := by omega
    have hr := (idleTail_ready md m L listed i).2 (ht.ready hc hi)
    cases fuel with
    | zero =>
      have := h.1
      rw [this] at hr; cases hr
    | succ f =>
      have hq := h.2 i hr
      obtain ⟨o, ho⟩ : ∃ o, L[i]? = some o := ⟨_, List.getElem?_eq_getElem hi⟩
      unfold wpOp at hq
      rw [List.getElem?_toArray, idleTail_ge m L i hm, ho] at hq
      have hput : ∀ v, a.put (idleN o).dst v = a := fun v => rfl
      simp only [Option.map_some] at hq
      have hq' : wpAnyH P md (idleTail m L).toArray (HeadQ R) S f (listed.setIfInBounds i true) a w := by
        split at hq
        · exact (wp_idle.1 (head_or hq)).2
        · rw [hput] at hq; exact hq.2
      have := ih f (i + 1) _ a w (by omega) (by omega) (ht.next hi) hq'
      exact ⟨this.1, by omega⟩
/-- The head is done: what is left of the walk is idle. -/
theorem head_done {z m : Nat} {L : List Oper} (hc : tailB md z m L = true) : ∀ (d fuel i : Nat) (listed : Array Bool) (a : Act) (w : World), i + d = L.length → m ≤ i → d ≤ fuel → Till L i listed → S w → R a w → wpAnyH P md (idleTail m L).toArray (HeadQ R) S fuel listed a w := by
  intro d
  induction d with
  | zero =>
    intro fuel i listed a w hd hm hf ht hS h
    have hnil : Region.ready md (idleTail m L).toArray listed = [] := List.eq_nil_iff_forall_not_mem.2 fun j hj => by
      rw [idleTail_ready, ht.done (by omega)] at hj; cases hj
    cases fuel with
    | zero => exact ⟨hnil, h⟩
    | succ f => exact ⟨fun _ => h, fun j hj => by rw [hnil] at hj; cases hj⟩
  | succ d ih =>
    intro fuel i listed a w hd hm hf ht hS h
    have hi : i < L.length := by omega
    cases fuel with
    | zero => omega
    | succ f =>
      have hr := (idleTail_ready md m L listed i).2 (ht.ready hc hi)
      refine ⟨fun hnil => absurd hr (by rw [hnil]; simp), fun j hj => ?_⟩
      obtain rfl := ht.only hc hm ((idleTail_ready md m L listed j).1 hj)
      obtain ⟨o, ho⟩ : ∃ o, L[j]? = some o := ⟨_, List.getElem?_eq_getElem hi⟩
      unfold wpOp
      rw [List.getElem?_toArray, idleTail_ge m L j hm, ho]
      simp only [Option.map_some]
      have hg : Region.wanted (idleN o) (yielded (idleTail m L).toArray a.tmps) = true := by
        have := (tail_down hc ho).2.1
        simp [Region.wanted, idleN, this]
      rw [if_pos hg]
      exact .inl (wp_idle.2 ⟨hS, ih f (j + 1) _ a w (by omega) (by omega) (by omega) (ht.next hi) hS h⟩)
theorem any_head {L : List Oper} {z m : Nat} (hc : tailB md z m L = true) (hm : m < L.length) (hlast : ∀ a w, R a w → wpList P L.toArray Q (L.drop m) a w) :
    ∀ (fuel : Nat) (listed : Array Bool) (a : Act) (w : World), Good md L listed → (∀ k, k < z → listed.getD k true = true) → (∀ k, m ≤ k → k < L.length → listed.getD k true = false) → wpAnyH P md (idleTail m L).toArray (HeadQ R) S fuel listed a w → wpAny P md L.toArray Q fuel listed a w := by
  intro fuel
  have hall : ∀ (listed : Array Bool), Good md L listed → (∀ k, k < z → listed.getD k true = true) → m ∈ Region.ready md L.toArray listed → ∀ d k, d = m - k → k < m → listed.getD k true = true := by
    intro listed hg hzl hr d
    induction d using Nat.strongRecOn with
    | _ d ih =>
      intro k hd hk
      by_cases hkz : k < z
      · exact hzl k hkz
      obtain ⟨j, o, hj, hjm, ho, e, he, hb, hon⟩ := tail_up hc (by omega) hk
      have hr' := hr
      rw [mem_ready, List.getElem?_toArray] at hr'
      by_cases e1 : j = m
      · subst e1
        obtain ⟨_, o', ho', hall⟩ := hr'
        rw [ho] at ho'
        obtain rfl := Option.some.inj ho'
        have := hall e he hb
        rw [hon] at this
        exact getD_tf this
      · have h1 := ih (m - j) (by omega) j rfl (by omega)
        have := hg.2 j o ho h1 e he hb
        rw [hon] at this
        exact getD_tf this
  have hsome : ∀ (listed : Array Bool), Good md L listed → ∀ k, k < L.length → listed.getD k true = false → Region.ready md L.toArray listed ≠ [] := by
    intro listed hg k
    induction k using Nat.strongRecOn with
    | _ k ih =>
      intro hk h0 hnil
      obtain ⟨o, ho⟩ : ∃ o, L[k]? = some o := ⟨_, List.getElem?_eq_getElem hk⟩
      have hd := (tail_down hc ho).2.2
      have hmem : k ∈ Region.ready md L.toArray listed := by
        rw [mem_ready, List.getElem?_toArray]
        refine ⟨h0, o, ho, fun e he hb => ?_⟩
        have hlt := hd e he hb
        cases hx : listed.getD e.on true with
        | false => exact absurd hnil (ih e.on hlt (by omega) hx)
        | true => exact getD_ft (by rw [hg.1]; omega) hx
      rw [hnil] at hmem; cases hmem
  induction fuel with
  | zero =>
    intro listed a w hg hzl h0 h
    exfalso
    refine hsome listed hg m hm (h0 m (Nat.le_refl _) hm) (List.eq_nil_iff_forall_not_mem.2 fun j hj => ?_)
    rw [← idleTail_ready, h.1] at hj; cases hj
  | succ fuel ih =>
    intro listed a w hg hzl h0 h
    refine ⟨fun hn => absurd hn (hsome listed hg m hm (h0 m (Nat.le_refl _) hm)), fun i hi => ?_⟩
    have hi' := hi
    rw [mem_ready, List.getElem?_toArray] at hi'
    obtain ⟨hi0, o, ho, hia⟩ := hi'
    have hil := lt_of_get ho
    rcases Nat.lt_trichotomy i m with hlt | heq | hgt
    · have hq := h.2 i ((idleTail_ready md m L listed i).2 hi)
      have hg' := hg.step hi
      have hzl' : ∀ k, k < z → (listed.setIfInBounds i true).getD k true = true := fun k hk => by
        by_cases e : i = k
        · subst e
          have : i < listed.size := by rw [hg.1]; exact hil
          simp [this]
        · rw [getD_set_ne true e]; exact hzl k hk
      have h0' : ∀ k, m ≤ k → k < L.length → (listed.setIfInBounds i true).getD k true = false := fun k hk hl => by rw [getD_set_ne true (show i ≠ k by omega)]; exact h0 k hk hl
      unfold wpOp at hq ⊢
      rw [List.getElem?_toArray, idleTail_lt m L i hlt, ho] at hq
      rw [List.getElem?_toArray, ho]
      have hgn := (tail_down hc ho).2.1
      simp only [Region.wanted, hgn, if_true] at hq ⊢
      exact .inl (wp_of_head (fun a' w' hk => ih _ a' w' hg' hzl' h0' hk.2) (head_or hq))
    · subst heq
      have ht : Till L i listed := ⟨hg.1, fun k hk hl => getD_ft (by rw [hg.1]; exact hl) (hall listed hg hzl hi _ k rfl hk), h0⟩
      obtain ⟨hqa, hf⟩ := head_q hc (L.length - i) (fuel + 1) i listed a w (by omega) (Nat.le_refl _) ht h
      have := tail_runP (P := P) hc (L.length - i) (fuel + 1) i listed a w (by omega) (Nat.le_refl _) hf ht (hlast a w hqa)
      exact this.2 i hi
    · exfalso
      obtain ⟨e, he, hb, hon⟩ := tail_prev hc hgt ho
      have h1 := hia e he hb
      rw [hon] at h1
      exact tf_absurd (h0 (i - 1) (by omega) (by omega)) h1
theorem head_end (m : Nat) {L : List Oper} {a : Act} {w : World} {fuel : Nat} {listed : Array Bool} (hc : tailB md 0 m L = true) (hl : tillB m L.length listed = true) (hf : m + fuel = L.length) (hS : S w) (h : R a w) : wpAnyH P md (idleTail m L).toArray (HeadQ R) S fuel listed a w :=
  head_done hc fuel fuel m listed a w (by omega) (Nat.le_refl _) (Nat.le_refl _) (till_of hl) hS h
/-- THE LAW. The walk of the head is handed what ends it ('hfin'): turn 'idleTail' in both, then walk. -/
theorem region_head {id : Nat} {L : List Oper} {a : Act} {w : World} (m : Nat) (hmx : P.follows .mixedOrders = true) (hc : tailB .any 0 m L = true) (hm : m < L.length)
    (R : Act → World → Prop) (S : World → Prop) (hS : S w.drew)
    (h : (∀ (fuel : Nat) (listed : Array Bool) (a : Act) (w : World), tillB m L.length listed = true → m + fuel = L.length → S w → R a w → wpAnyH P .any (idleTail m L).toArray (HeadQ R) S fuel listed a w) → S w.drew → wpAnyH P .any (idleTail m L).toArray (HeadQ R) S L.length (Array.replicate L.length false) a w.drew)
    (hlast : ∀ a w, R a w → wpList P L.toArray Q (L.drop m) a w) : (Code.region id L.toArray true).wp P Q a w := by
  refine wp_region_any hmx ?_
  rw [List.size_toArray]
  refine any_head hc hm hlast _ _ _ _ (Good.start _ _) (fun k hk => by omega) (fun k hk hl => ?_) (h (fun fuel listed a w hl hf hS h => head_end m hc hl hf hS h) hS)
  simp [hl]
end
/-- One more number in the one, or in the other, row. -/
theorem TwoOwn.snocA {B : Nat} {u v : Value} {ka kb : Nat} {X Y : Nat → Int} {w0 w w3 : World} {g cap : Nat} {c : Int} (h : TwoOwn B u v ka kb X Y w0 w) (hc : c = X ka)
    (hown : w3.ownsRow B 3 1 (.slice (some ⟨g, 0, none⟩) (ka + 1) cap) (ka + 1) (intL ka X ++ [.int .i64 c])) (hg : w.grownBy w3 u.ownBlock)
    (hor : u.ownBlock = some g ∨ g = w.heap.size) : TwoOwn B (.slice (some ⟨g, 0, none⟩) (ka + 1) cap) v (ka + 1) kb X Y w0 w3 := by
  subst hc
  refine ⟨by rw [intL_snoc]; exact hown, h.b.kept hg ?_, .inr ?_, Below.grown h.bel hg h.sz (fun j hj => (h.a.lt j hj).1), by have := hg.size; have := h.sz; omega⟩
  · rcases h.ne with e | e
    · rw [e]; cases hv : v.ownBlock with
      | none => exact .inl rfl
      | some x => exact .inr (by simp)
    · exact .inr (fun e' => e e'.symm)
  · intro e
    have e : some g = v.ownBlock := e
    rcases hor with e2 | e2
    · rcases h.ne with e3 | e3
      · rw [e2] at e3; cases e3
      · exact e3 (e2.trans e)
    · have := (h.b.lt g e.symm).2
      omega
theorem TwoOwn.snocB {B : Nat} {u v : Value} {ka kb : Nat} {X Y : Nat → Int} {w0 w w3 : World} {g cap : Nat} {c : Int} (h : TwoOwn B u v ka kb X Y w0 w) (hc : c = Y kb)
    (hown : w3.ownsRow B 3 1 (.slice (some ⟨g, 0, none⟩) (kb + 1) cap) (kb + 1) (intL kb Y ++ [.int .i64 c])) (hg : w.grownBy w3 v.ownBlock)
    (hor : v.ownBlock = some g ∨ g = w.heap.size) : TwoOwn B u (.slice (some ⟨g, 0, none⟩) (kb + 1) cap) ka (kb + 1) X Y w0 w3 := by
  subst hc
  refine ⟨h.a.kept hg h.ne, by rw [intL_snoc]; exact hown, ?_, Below.grown h.bel hg h.sz (fun j hj => (h.b.lt j hj).1), by have := hg.size; have := h.sz; omega⟩
  rcases h.ne with e | e
  · exact .inl e
  · refine .inr (fun e1 => ?_)
    have e1 : u.ownBlock = some g := e1
    rcases hor with e2 | e2
    · exact e (e1.trans e2.symm)
    · have := (h.a.lt g e1).2
      omega
end Go.Proofs.Ytgbehapekfoaiaa
