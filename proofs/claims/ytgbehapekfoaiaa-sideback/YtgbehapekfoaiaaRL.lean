/-
  A region that draws its order, whose operations are quiet but for the last one, which waits for all the others (a store at the end of a sum of calls): one walk of the text's order serves every order, in a round of a range over a function, too.
-/
import Derived.Deep.Quiet
import Derived.OrdersIn
import Derived.OwnWalkIn
import Derived.RangeFuncCalls
import Derived.WalkKit
namespace Go.Proofs.Ytgbehapekfoaiaa
set_option linter.unusedVariables false

def isDefer : Op → Bool
  | .defer _ => true
  | _ => false
theorem isDefer_no {o : Op} (h : isDefer o = false) : ∀ c, o ≠ .defer c := fun c e => by subst e; cases h
/-- The same place, but nothing is done there. -/
def idle (o : Oper) : Oper := { o with op := .move (.const (.bool true)) }
/-- The last operation made idle. -/
def idleLast : List Oper → List Oper
  | [] => []
  | [o] => [idle o]
  | o :: p :: r => o :: idleLast (p :: r)
theorem idleLast_len : ∀ L : List Oper, (idleLast L).length = L.length
  | [] => rfl
  | [o] => rfl
  | o :: p :: r => by rw [idleLast, List.length_cons, idleLast_len (p :: r)]; rfl
theorem idleLast_lt : ∀ (L : List Oper) (i : Nat), i + 1 < L.length → (idleLast L)[i]? = L[i]?
  | [], i, h => by simp at h
  | [o], i, h => by simp at h
  | o :: p :: r, 0, h => rfl
  | o :: p :: r, i + 1, h => by
    show (idleLast (p :: r))[i]? = (p :: r)[i]?
    exact idleLast_lt (p :: r) i (by simpa using h)
theorem idleLast_last : ∀ (L : List Oper) (i : Nat), i + 1 = L.length → (idleLast L)[i]? = (L[i]?).map idle
  | [], i, h => by simp at h
  | [o], i, h => by
    have : i = 0 := by simpa using h
    subst this; rfl
  | o :: p :: r, 0, h => by simp at h
  | o :: p :: r, i + 1, h => by
    show (idleLast (p :: r))[i]? = ((p :: r)[i]?).map idle
    exact idleLast_last (p :: r) i (by simpa using h)
theorem idleLast_after (L : List Oper) (i : Nat) : ((idleLast L)[i]?).map (·.after) = (L[i]?).map (·.after) := by
  rcases (by omega : i + 1 < L.length ∨ i + 1 = L.length ∨ L.length < i + 1) with h | h | h
  · rw [idleLast_lt L i h]
  · rw [idleLast_last L i h, Option.map_map]; rfl
  · rw [List.getElem?_eq_none (by rw [idleLast_len]; omega), List.getElem?_eq_none (by omega)]
theorem idleLast_dst (L : List Oper) (i : Nat) : ((idleLast L)[i]?).bind (·.dst) = (L[i]?).bind (·.dst) := by
  rcases (by omega : i + 1 < L.length ∨ i + 1 = L.length ∨ L.length < i + 1) with h | h | h
  · rw [idleLast_lt L i h]
  · rw [idleLast_last L i h]; cases L[i]? <;> rfl
  · rw [List.getElem?_eq_none (by rw [idleLast_len]; omega), List.getElem?_eq_none (by omega)]
theorem idleLast_yielded (L : List Oper) (t : Array Value) : yielded (idleLast L).toArray t = yielded L.toArray t := by
  funext j
  simp only [yielded, List.getElem?_toArray, idleLast_dst]
theorem idleLast_ready (md : Region.Mode) (L : List Oper) (listed : Array Bool) (j : Nat) : j ∈ Region.ready md (idleLast L).toArray listed ↔ j ∈ Region.ready md L.toArray listed := by
  rw [mem_ready, mem_ready, List.getElem?_toArray, List.getElem?_toArray]
  have h := idleLast_after L j
  constructor
  · rintro ⟨h0, o, ho, h1⟩
    rw [ho] at h
    cases hL : L[j]? with
    | none => rw [hL] at h; cases h
    | some o' =>
      rw [hL] at h
      have e : o.after = o'.after := Option.some.inj h
      exact ⟨h0, o', rfl, by rw [← e]; exact h1⟩
  · rintro ⟨h0, o, ho, h1⟩
    rw [ho] at h
    cases hL : (idleLast L)[j]? with
    | none => rw [hL] at h; cases h
    | some o' =>
      rw [hL] at h
      have e : o'.after = o.after := Option.some.inj h
      exact ⟨h0, o', rfl, by rw [e]; exact h1⟩

/-- Every operation but the last one is waited for by a later one; each waits for earlier ones alone; none is a defer. -/
def chainB (md : Region.Mode) (L : List Oper) : Bool :=
  ((List.range (L.length - 1)).all fun k => (List.range L.length).any fun j => decide (k < j) && (match L[j]? with | none => false | some o => o.after.any fun e => Region.binds md e && e.on == k)) &&
  ((List.range L.length).all fun j => match L[j]? with | none => true | some o => !isDefer o.op && o.after.all fun e => !Region.binds md e || decide (e.on < j))
theorem chain_up {md : Region.Mode} {L : List Oper} (h : chainB md L = true) {k : Nat} (hk : k + 1 < L.length) : ∃ j o, k < j ∧ L[j]? = some o ∧ ∃ e ∈ o.after, Region.binds md e = true ∧ e.on = k := by
  simp only [chainB, Bool.and_eq_true] at h
  have h1 := List.all_eq_true.1 h.1 k (List.mem_range.2 (by omega))
  obtain ⟨j, hj, h2⟩ := List.any_eq_true.1 h1
  simp only [Bool.and_eq_true, decide_eq_true_eq] at h2
  cases hL : L[j]? with
  | none => rw [hL] at h2; cases h2.2
  | some o =>
    rw [hL] at h2
    obtain ⟨e, he, h3⟩ := Array.any_eq_true'.1 h2.2
    simp only [Bool.and_eq_true, beq_iff_eq] at h3
    exact ⟨j, o, h2.1, hL, e, he, h3.1, h3.2⟩
theorem chain_down {md : Region.Mode} {L : List Oper} (h : chainB md L = true) {j : Nat} {o : Oper} (hj : L[j]? = some o) : isDefer o.op = false ∧ ∀ e ∈ o.after, Region.binds md e = true → e.on < j := by
  simp only [chainB, Bool.and_eq_true] at h
  have hlt : j < L.length := by
    rcases Nat.lt_or_ge j L.length with h | h
    · exact h
    · rw [List.getElem?_eq_none h] at hj; cases hj
  have h1 := List.all_eq_true.1 h.2 j (List.mem_range.2 hlt)
  rw [hj] at h1
  simp only [Bool.and_eq_true, Bool.not_eq_true'] at h1
  refine ⟨h1.1, fun e he hb => ?_⟩
  have h2 := Array.all_eq_true'.1 h1.2 e he
  simp only [hb, Bool.not_true, Bool.false_or, decide_eq_true_eq] at h2
  exact h2

/-- What has come up had all that it waits for come up. -/
def Good (md : Region.Mode) (L : List Oper) (listed : Array Bool) : Prop := listed.size = L.length ∧ ∀ j o, L[j]? = some o → listed.getD j true = true → ∀ e ∈ o.after, Region.binds md e = true → listed.getD e.on false = true
theorem getD_tf {l : Array Bool} {k : Nat} (h : l.getD k false = true) : l.getD k true = true := by
  rcases Nat.lt_or_ge k l.size with h' | h'
  · simp [h'] at h ⊢; exact h
  · simp [Array.getElem?_eq_none h'] at h
theorem getD_ft {l : Array Bool} {k : Nat} (hk : k < l.size) (h : l.getD k true = true) : l.getD k false = true := by
  simp [hk] at h ⊢; exact h
theorem Good.start (md : Region.Mode) (L : List Oper) : Good md L (Array.replicate L.length false) := by
  refine ⟨by simp, fun j o hj h => ?_⟩
  have hlt : j < L.length := by
    rcases Nat.lt_or_ge j L.length with h | h
    · exact h
    · rw [List.getElem?_eq_none h] at hj; cases hj
  simp [hlt] at h
theorem Good.step {md : Region.Mode} {L : List Oper} {listed : Array Bool} (h : Good md L listed) {i : Nat} (hi : i ∈ Region.ready md L.toArray listed) : Good md L (listed.setIfInBounds i true) := by
  refine ⟨by simp [h.1], fun j o hj hl e he hb => ?_⟩
  rw [mem_ready, List.getElem?_toArray] at hi
  by_cases e1 : i = j
  · subst e1
    obtain ⟨_, o', ho, hall⟩ := hi
    rw [hj] at ho
    obtain rfl := Option.some.inj ho
    exact getD_set_true (hall e he hb)
  · rw [getD_set_ne true e1] at hl
    exact getD_set_true (h.2 j o hj hl e he hb)
/-- Where the last one may come up, all others have. -/
theorem all_up {md : Region.Mode} {L : List Oper} (hc : chainB md L = true) {listed : Array Bool} (h : Good md L listed) {m : Nat} (hm : m + 1 = L.length) (hr : m ∈ Region.ready md L.toArray listed) :
    ∀ d k, d = m - k → k < m → listed.getD k true = true := by
  intro d
  induction d using Nat.strongRecOn with
  | _ d ih =>
    intro k hd hk
    obtain ⟨j, o, hj, ho, e, he, hb, hon⟩ := chain_up hc (k := k) (by omega)
    have hjl : j < L.length := by
      rcases Nat.lt_or_ge j L.length with h | h
      · exact h
      · rw [List.getElem?_eq_none h] at ho; cases ho
    rw [mem_ready, List.getElem?_toArray] at hr
    by_cases e1 : j = m
    · subst e1
      obtain ⟨_, o', ho', hall⟩ := hr
      rw [ho] at ho'
      obtain rfl := Option.some.inj ho'
      have := hall e he hb
      rw [hon] at this
      exact getD_tf this
    · have h1 := ih (m - j) (by omega) j rfl (by omega)
      have := h.2 j o ho h1 e he hb
      rw [hon] at this
      exact getD_tf this
theorem ready_nil {md : Region.Mode} {L : List Oper} {listed : Array Bool} (hall : ∀ k, k < L.length → listed.getD k true = true) : Region.ready md L.toArray listed = [] := by
  refine List.eq_nil_iff_forall_not_mem.2 (fun j hj => ?_)
  rw [mem_ready, List.getElem?_toArray] at hj
  obtain ⟨h0, o, ho, _⟩ := hj
  have hjl : j < L.length := by
    rcases Nat.lt_or_ge j L.length with h | h
    · exact h
    · rw [List.getElem?_eq_none h] at ho; cases ho
  rw [hall j hjl] at h0; cases h0
/-- While one has not come up, some one may. -/
theorem ready_some {md : Region.Mode} {L : List Oper} (hc : chainB md L = true) {listed : Array Bool} (h : Good md L listed) : ∀ m, m < L.length → listed.getD m true = false → Region.ready md L.toArray listed ≠ [] := by
  intro m
  induction m using Nat.strongRecOn with
  | _ m ih =>
    intro hm h0 hnil
    obtain ⟨o, ho⟩ : ∃ o, L[m]? = some o := ⟨_, List.getElem?_eq_getElem hm⟩
    have hd := (chain_down hc ho).2
    have hmem : m ∈ Region.ready md L.toArray listed := by
      rw [mem_ready, List.getElem?_toArray]
      refine ⟨h0, o, ho, fun e he hb => ?_⟩
      have hlt := hd e he hb
      cases hx : listed.getD e.on true with
      | false => exact absurd hnil (ih e.on hlt (by omega) hx)
      | true => exact getD_ft (by rw [h.1]; omega) hx
    rw [hnil] at hmem; cases hmem

section
variable {F : Fence} {n : Nat} {P : Program} {C : World → Prop} {md : Region.Mode}
theorem wpIn_of_quiet (hfn : ∀ f, F.fn f) (hdp : F.depth = none) (hcl : ∀ f args w R, Calls P f args w R → CallsIn F (n - 1) P f args w R) {o : Oper} (hnd : isDefer o.op = false)
    {a : Act} {K : Act → Prop} {K' : Act → World → Prop} {Q' : Exit → Act → World → Prop} {w : World} (hw : C w) (h : ∀ a w', C w' → K a → K' a w') (hh : o.quiet P a C K) : o.wpIn F n P a w K' Q' := by
  obtain ⟨v, h1, h2⟩ := hh
  have h3 := h1 w hw
  unfold Oper.quietAt at h3
  unfold Oper.wpIn
  refine ⟨fun f _ => hfn f, ?_⟩
  rw [Oper.semAt_plain F _ o (isDefer_no hnd)]
  generalize (execOp a.eval o).run P w = r at *
  cases r with
  | ok x w' =>
    cases x <;> simp only [Oper.quietUpon] at h3 <;> simp only [Oper.uponIn]
    case value u =>
      obtain ⟨e1, e2⟩ := h3
      rw [e1, e2]
      exact h _ _ hw h2
    case skip =>
      obtain ⟨e1, e2⟩ := h3
      rw [e1, ← e2]
      exact h _ _ hw h2
    case enter f args =>
      obtain ⟨e1, hc⟩ := h3
      rw [e1]
      exact ⟨by rw [hdp]; simp, (hcl _ _ _ _ hc).mono fun e w'' ⟨he, hw''⟩ => by subst he; exact h _ _ hw'' h2⟩
  | halt x w' => simp only [Oper.quietUpon] at h3

theorem any_last (hfn : ∀ f, F.fn f) (hdp : F.depth = none) (hcl : ∀ f args w R, Calls P f args w R → CallsIn F (n - 1) P f args w R)
    {L : List Oper} (hc : chainB md L = true) {m : Nat} (hm : m + 1 = L.length) {o : Oper} (ho : L[m]? = some o) (hdst : o.dst = none)
    {Qa : Act → Prop} {Q : Exit → Act → World → Prop} (hlast : ∀ a w, C w → Qa a → wpOpIn F n P L.toArray Q m (fun a' w' => Q .normal a' w') a w) :
    ∀ (fuel : Nat) (listed : Array Bool) (a : Act) (w : World), C w → Good md L listed → listed.getD m true = false → wpAnyQ P md (idleLast L).toArray C Qa fuel listed a → wpAnyIn F n P md L.toArray Q fuel listed a w := by
  intro fuel
  induction fuel with
  | zero =>
    intro listed a w hw hg h0 h
    exfalso
    refine ready_some hc hg m (by omega) h0 (List.eq_nil_iff_forall_not_mem.2 fun j hj => ?_)
    rw [← idleLast_ready, h.1] at hj; cases hj
  | succ fuel ih =>
    intro listed a w hw hg h0 h
    refine ⟨fun hn => absurd hn (ready_some hc hg m (by omega) h0), fun i hi => ?_⟩
    have hq := h.2 i ((idleLast_ready md L listed i).2 hi)
    have hg' := hg.step hi
    by_cases e : i = m
    · subst e
      have hall := all_up hc hg hm hi
      have hnil : Region.ready md L.toArray (listed.setIfInBounds i true) = [] := ready_nil fun k hk => by
        by_cases e1 : i = k
        · subst e1
          have : i < listed.size := by rw [hg.1]; omega
          simp [this]
        · rw [getD_set_ne true e1]; exact hall _ k rfl (by omega)
      have hnil' : Region.ready md (idleLast L).toArray (listed.setIfInBounds i true) = [] := List.eq_nil_iff_forall_not_mem.2 fun j hj => by
        rw [idleLast_ready, hnil] at hj; cases hj
      have hqa : Qa a := by
        unfold qOp at hq
        rw [List.getElem?_toArray, idleLast_last L i hm, ho] at hq
        have hfin : ∀ a, wpAnyQ P md (idleLast L).toArray C Qa fuel (listed.setIfInBounds i true) a → Qa a := fun a h => by
          cases fuel with
          | zero => exact h.2
          | succ f => exact h.1 hnil'
        have hput : ∀ v, a.put (idle o).dst v = a := fun v => by show a.put o.dst v = a; rw [hdst]; rfl
        simp only [Option.map_some] at hq
        split at hq
        · obtain ⟨v, _, h2⟩ := hq
          rw [hput] at h2; exact hfin _ h2
        · rw [hput] at hq; exact hfin _ hq
      refine wpOpIn_mono (fun a' w' hQ => ?_) (hlast a w hw hqa)
      cases fuel with
      | zero => exact ⟨hnil, hQ⟩
      | succ f => exact ⟨fun _ => hQ, fun j hj => by rw [hnil] at hj; cases hj⟩
    · have hil : i < L.length := by
        rw [mem_ready, List.getElem?_toArray] at hi
        obtain ⟨_, o', ho', _⟩ := hi
        rcases Nat.lt_or_ge i L.length with h | h
        · exact h
        · rw [List.getElem?_eq_none h] at ho'; cases ho'
      have h0' : (listed.setIfInBounds i true).getD m true = false := by rw [getD_set_ne true e]; exact h0
      unfold qOp at hq
      unfold wpOpIn
      rw [List.getElem?_toArray, idleLast_lt L i (by omega), idleLast_yielded] at hq
      rw [List.getElem?_toArray]
      cases hL : L[i]? with
      | none => rw [List.getElem?_eq_none_iff] at hL; omega
      | some oi =>
        rw [hL] at hq
        simp only at hq ⊢
        split
        · rename_i hwt
          rw [if_pos hwt] at hq
          exact wpIn_of_quiet hfn hdp hcl (chain_down hc hL).1 hw (fun a' w' hw' hk => ih _ a' w' hw' hg' h0' hk) hq
        · rename_i hwt
          rw [if_neg hwt] at hq
          exact ⟨fun f _ => hfn f, ih _ _ _ hw hg' h0' hq⟩

/-- THE LAW. -/
theorem region_last {id : Nat} {L : List Oper} {Q : Exit → Act → World → Prop} {a : Act} {w : World} (hfn : ∀ f, F.fn f) (hdp : F.depth = none) (hcl : ∀ f args w R, Calls P f args w R → CallsIn F (n - 1) P f args w R)
    (hmx : P.follows .mixedOrders = true) (hc : chainB .any L = true) (hB : Region.lexB .any (idleLast L).toArray = true) {m : Nat} {o : Oper} (hm : m + 1 = L.length) (ho : L[m]? = some o) (hdst : o.dst = none) (hgd : o.guard = none) (hC : C w.drew)
    {Qa : Act → Prop} (h : wpQuiet P (idleLast L).toArray C Qa (idleLast L) a) (hlast : ∀ a w, C w → Qa a → o.wpIn F n P a w (fun a' w' => Q .normal a' w') Q) : (Code.region id L.toArray true).wpIn F n P Q a w := by
  simp only [Region.lexB, Bool.and_eq_true] at hB
  have hq := wpAnyQ_lex (C := C) (md := .any) (P := P) (Q := Qa) hB.1 (idleLast L) 0 (Array.replicate (idleLast L).toArray.size false) a (fun j => by simp) (by have := hB.2; simpa using this) h
  refine wpIn_region_any hmx ?_
  rw [List.size_toArray, idleLast_len] at hq
  rw [List.size_toArray]
  refine any_last hfn hdp hcl hc hm ho hdst (fun a w hw hqa => ?_) _ _ _ _ hC (Good.start _ _) ?_ hq
  · unfold wpOpIn
    rw [List.getElem?_toArray, ho]
    simp only [Region.wanted, hgd, if_true]
    exact hlast a w hw hqa
  · have : m < L.length := by omega
    simp [this]
theorem region_last_round {id r : Nat} {L : List Oper} {Q : Exit → Act → World → Prop} {a : Act} {w : World}
    (hmx : P.follows .mixedOrders = true) (hc : chainB .any L = true) (hB : Region.lexB .any (idleLast L).toArray = true) {m : Nat} {o : Oper} (hm : m + 1 = L.length) (ho : L[m]? = some o) (hdst : o.dst = none) (hgd : o.guard = none) (hC : C w.drew)
    {Qa : Act → Prop} (h : wpQuiet P (idleLast L).toArray C Qa (idleLast L) a) (hlast : ∀ a w, C w → Qa a → o.wpIn (Fence.wide.inRound r) n P a w (fun a' w' => Q .normal a' w') Q) : (Code.region id L.toArray true).wpIn (Fence.wide.inRound r) n P Q a w :=
  region_last (fun _ => trivial) rfl (fun f args w R h => CallsIn.inRound r (callsIn_wide.2 h)) hmx hc hB hm ho hdst hgd hC h hlast
theorem region_last_plain {id : Nat} {L : List Oper} {Q : Exit → Act → World → Prop} {a : Act} {w : World}
    (hmx : P.follows .mixedOrders = true) (hc : chainB .any L = true) (hB : Region.lexB .any (idleLast L).toArray = true) {m : Nat} {o : Oper} (hm : m + 1 = L.length) (ho : L[m]? = some o) (hdst : o.dst = none) (hgd : o.guard = none) (hC : C w.drew)
    {Qa : Act → Prop} (h : wpQuiet P (idleLast L).toArray C Qa (idleLast L) a) (hlast : ∀ a w, C w → Qa a → o.wpIn Fence.wide 1 P a w (fun a' w' => Q .normal a' w') Q) : (Code.region id L.toArray true).wp P Q a w :=
  wpIn_wide.1 (region_last (n := 1) (fun _ => trivial) rfl (fun f args w R h => callsIn_wide.2 h) hmx hc hB hm ho hdst hgd hC h hlast)
end
/-- A store of an int that ends a region. -/
theorem exec_store {P : Program} {F : Fence} {n : Nat} (hfn : ∀ f, F.fn f) {o : Oper} {ty : TypeId} {p q : Operand} (hs : ∀ w, (sizeOf ty).run P w = .ok 1 w) (ho : o.op = .store ty p q) (hd : o.dst = none) {a : Act} {w : World} {b off : Nat} {x : Int} {v0 : Value}
    {K : Act → World → Prop} {Q : Exit → Act → World → Prop} (h1 : a.eval p = .pointer (some ⟨b, off, none⟩)) (h2 : a.eval q = .int .i64 x) (hc : w.cell? ⟨b, off, none⟩ = some v0) (hf : w.frozen? ⟨b, off, none⟩ = false)
    (hK : K a (w.setCell ⟨b, off, none⟩ (.int .i64 x))) : o.wpIn F n P a w K Q := by
  unfold Oper.wpIn
  refine ⟨fun f _ => hfn f, ?_⟩
  rw [Oper.semAt_plain F _ o (fun c => by rw [ho]; intro h; cases h)]
  have e : (execOp a.eval o).run P w = .ok .skip (w.setCell ⟨b, off, none⟩ (.int .i64 x)) := by
    generalize a.eval = ρ at *
    simp [execOp, ho, h1, h2, Instr.storeAt, go_sem, hc, hf, hs]
  rw [e]
  have e2 : a.put o.dst undef = a := by rw [hd]; rfl
  show K (a.put o.dst undef) _
  rw [e2]; exact hK
end Go.Proofs.Ytgbehapekfoaiaa
