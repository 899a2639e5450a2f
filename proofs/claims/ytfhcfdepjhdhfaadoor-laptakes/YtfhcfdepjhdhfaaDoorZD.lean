/-
  A region that draws its order, whose operations are quiet but for the last one, which waits for all the others (a store at the end of a sum of calls): one walk of the text's order serves every order, in a round of a range over a function, too.
-/
import Derived.Deep.Quiet
import Derived.OrdersIn
import Derived.OwnWalkIn
import Derived.RangeFuncCalls
import Derived.WalkKit
import Derived.Deep.RegionHeld3
import Derived.RangeFuncFrom
import Derived.RangeFuncLeaves
import Derived.Test.YtfhcfdepjhdhfaaDoorZC
namespace Go.Proofs.YtfhcfdepjhdhfaaDoor
set_option linter.unusedVariables false

def isDefer : Op → Bool
  | .defer _ => true
  | _ => false
theorem isDefer_no {o : Op} (h : isDefer o = false) : ∀ c, o ≠ .defer c := fun c e => by subst e; cases h
/-- The same place, but nothing is done there. -/
def idle (o : Oper) : Oper := { o with op := .move (.const (.bool true)) }
/-- The last operation made idle. -/
def idleLast : List Oper → List Oper
  | [] => []
  | [o] => [idle o]
  | o :: p :: r => o :: idleLast (p :: r)
theorem idleLast_len : ∀ L : List Oper, (idleLast L).length = L.length
  | [] => rfl
  | [o] => rfl
  | o :: p :: r => by rw [idleLast, List.length_cons, idleLast_len (p :: r)]; rfl
theorem idleLast_lt : ∀ (L : List Oper) (i : Nat), i + 1 < L.length → (idleLast L)[i]? = L[i]?
  | [], i, h => by simp at h
  | [o], i, h => by simp at h
  | o :: p :: r, 0, h => rfl
  | o :: p :: r, i + 1, h => by
    show (idleLast (p :: r))[i]? = (p :: r)[i]?
    exact idleLast_lt (p :: r) i (by simpa using h)
theorem idleLast_last : ∀ (L : List Oper) (i : Nat), i + 1 = L.length → (idleLast L)[i]? = (L[i]?).map idle
  | [], i, h => by simp at h
  | [o], i, h => by
    have : i = 0 := by simpa using h
    subst this; rfl
  | o :: p :: r, 0, h => by simp at h
  | o :: p :: r, i + 1, h => by
    show (idleLast (p :: r))[i]? = ((p :: r)[i]?).map idle
    exact idleLast_last (p :: r) i (by simpa using h)
theorem idleLast_after (L : List Oper) (i : Nat) : ((idleLast L)[i]?).map (·.after) = (L[i]?).map (·.after) := by
  rcases (by omega : i + 1 < L.length ∨ i + 1 = L.length ∨ L.length < i + 1) with h | h | h
  · rw [idleLast_lt L i h]
  · rw [idleLast_last L i h, Option.map_map]; rfl
  · rw [List.getElem?_eq_none (by rw [idleLast_len]; omega), List.getElem?_eq_none (by omega)]
theorem idleLast_dst (L : List Oper) (i : Nat) : ((idleLast L)[i]?).bind (·.dst) = (L[i]?).bind (·.dst) := by
  rcases (by omega : i + 1 < L.length ∨ i + 1 = L.length ∨ L.length < i + 1) with h | h | h
  · rw [idleLast_lt L i h]
  · rw [idleLast_last L i h]; cases L[i]? <;> rfl
  · rw [List.getElem?_eq_none (by rw [idleLast_len]; omega), List.getElem?_eq_none (by omega)]
theorem idleLast_yielded (L : List Oper) (t : Array Value) : yielded (idleLast L).toArray t = yielded L.toArray t := by
  funext j
  simp only [yielded, List.getElem?_toArray, idleLast_dst]
theorem idleLast_ready (md : Region.Mode) (L : List Oper) (listed : Array Bool) (j : Nat) : j ∈ Region.ready md (idleLast L).toArray listed ↔ j ∈ Region.ready md L.toArray listed := by
  rw [mem_ready, mem_ready, List.getElem?_toArray, List.getElem?_toArray]
  have h := idleLast_after L j
  constructor
  · rintro ⟨h0, o, ho, h1⟩
    rw [ho] at h
    cases hL : L[j]? with
    | none => rw [hL] at h; cases h
    | some o' =>
      rw [hL] at h
      have e : o.after = o'.after := Option.some.inj h
      exact ⟨h0, o', rfl, by rw [← e]; exact h1⟩
  · rintro ⟨h0, o, ho, h1⟩
    rw [ho] at h
    cases hL : (idleLast L)[j]? with
    | none => rw [hL] at h; cases h
    | some o' =>
      rw [hL] at h
      have e : o'.after = o.after := Option.some.inj h
      exact ⟨h0, o', rfl, by rw [e]; exact h1⟩

/-- Every operation but the last one is waited for by a later one; each waits for earlier ones alone; none is a defer. -/
def chainB (md : Region.Mode) (L : List Oper) : Bool :=
  ((List.range (L.length - 1)).all fun k => (List.range L.length).any fun j => decide (k < j) && (match L[j]? with | none => false | some o => o.after.any fun e => Region.binds md e && e.on == k)) &&
  ((List.range L.length).all fun j => match L[j]? with | none => true | some o => !isDefer o.op && o.after.all fun e => !Region.binds md e || decide (e.on < j))
theorem chain_up {md : Region.Mode} {L : List Oper} (h : chainB md L = true) {k : Nat} (hk : k + 1 < L.length) : ∃ j o, k < j ∧ L[j]? = some o ∧ ∃ e ∈ o.after, Region.binds md e = true ∧ e.on = k := by
  simp only [chainB, Bool.and_eq_true] at h
  have h1 := List.all_eq_true.1 h.1 k (List.mem_range.2 (by omega))
  obtain ⟨j, hj, h2⟩ := List.any_eq_true.1 h1
  simp only [Bool.and_eq_true, decide_eq_true_eq] at h2
  cases hL : L[j]? with
  | none => rw [hL] at h2; cases h2.2
  | some o =>
    rw [hL] at h2
    obtain ⟨e, he, h3⟩ := Array.any_eq_true'.1 h2.2
    simp only [Bool.and_eq_true, beq_iff_eq] at h3
    exact ⟨j, o, h2.1, hL, e, he, h3.1, h3.2⟩
theorem chain_down {md : Region.Mode} {L : List Oper} (h : chainB md L = true) {j : Nat} {o : Oper} (hj : L[j]? = some o) : isDefer o.op = false ∧ ∀ e ∈ o.after, Region.binds md e = true → e.on < j := by
  simp only [chainB, Bool.and_eq_true] at h
  have hlt : j < L.length := by
    rcases Nat.lt_or_ge j L.length with h | h
    · exact h
    · rw [List.getElem?_eq_none h] at hj; cases hj
  have h1 := List.all_eq_true.1 h.2 j (List.mem_range.2 hlt)
  rw [hj] at h1
  simp only [Bool.and_eq_true, Bool.not_eq_true'] at h1
  refine ⟨h1.1, fun e he hb => ?_⟩
  have h2 := Array.all_eq_true'.1 h1.2 e he
  simp only [hb, Bool.not_true, Bool.false_or, decide_eq_true_eq] at h2
  exact h2

/-- What has come up had all that it waits for come up. -/
def Good (md : Region.Mode) (L : List Oper) (listed : Array Bool) : Prop := listed.size = L.length ∧ ∀ j o, L[j]? = some o → listed.getD j true = true → ∀ e ∈ o.after, Region.binds md e = true → listed.getD e.on false = true
theorem getD_tf {l : Array Bool} {k : Nat} (h : l.getD k false = true) : l.getD k true = true := by
  rcases Nat.lt_or_ge k l.size with h' | h'
  · simp [h'] at h ⊢; exact h
  · simp [Array.getElem?_eq_none h'] at h
theorem getD_ft {l : Array Bool} {k : Nat} (hk : k < l.size) (h : l.getD k true = true) : l.getD k false = true := by
  simp [hk] at h ⊢; exact h
theorem Good.start (md : Region.Mode) (L : List Oper) : Good md L (Array.replicate L.length false) := by
  refine ⟨by simp, fun j o hj h => ?_⟩
  have hlt : j < L.length := by
    rcases Nat.lt_or_ge j L.length with h | h
    · exact h
    · rw [List.getElem?_eq_none h] at hj; cases hj
  simp [hlt] at h
theorem Good.step {md : Region.Mode} {L : List Oper} {listed : Array Bool} (h : Good md L listed) {i : Nat} (hi : i ∈ Region.ready md L.toArray listed) : Good md L (listed.setIfInBounds i true) := by
  refine ⟨by simp [h.1], fun j o hj hl e he hb => ?_⟩
  rw [mem_ready, List.getElem?_toArray] at hi
  by_cases e1 : i = j
  · subst e1
    obtain ⟨_, o', ho, hall⟩ := hi
    rw [hj] at ho
    obtain rfl := Option.some.inj ho
    exact getD_set_true (hall e he hb)
  · rw [getD_set_ne true e1] at hl
    exact getD_set_true (h.2 j o hj hl e he hb)
/-- Where the last one may come up, all others have. -/
theorem all_up {md : Region.Mode} {L : List Oper} (hc : chainB md L = true) {listed : Array Bool} (h : Good md L listed) {m : Nat} (hm : m + 1 = L.length) (hr : m ∈ Region.ready md L.toArray listed) :
    ∀ d k, d = m - k → k < m → listed.getD k true = true := by
  intro d
  induction d using Nat.strongRecOn with
  | _ d ih =>
    intro k hd hk
    obtain ⟨j, o, hj, ho, e, he, hb, hon⟩ := chain_up hc (k := k) (by omega)
    have hjl : j < L.length := by
      rcases Nat.lt_or_ge j L.length with h | h
      · exact h
      · rw [List.getElem?_eq_none h] at ho; cases ho
    rw [mem_ready, List.getElem?_toArray] at hr
    by_cases e1 : j = m
    · subst e1
      obtain ⟨_, o', ho', hall⟩ := hr
      rw [ho] at ho'
      obtain rfl := Option.some.inj ho'
      have := hall e he hb
      rw [hon] at this
      exact getD_tf this
    · have h1 := ih (m - j) (by omega) j rfl (by omega)
      have := h.2 j o ho h1 e he hb
      rw [hon] at this
      exact getD_tf this
theorem ready_nil {md : Region.Mode} {L : List Oper} {listed : Array Bool} (hall : ∀ k, k < L.length → listed.getD k true = true) : Region.ready md L.toArray listed = [] := by
  refine List.eq_nil_iff_forall_not_mem.2 (fun j hj => ?_)
  rw [mem_ready, List.getElem?_toArray] at hj
  obtain ⟨h0, o, ho, _⟩ := hj
  have hjl : j < L.length := by
    rcases Nat.lt_or_ge j L.length with h | h
    · exact h
    · rw [List.getElem?_eq_none h] at ho; cases ho
  rw [hall j hjl] at h0; cases h0
/-- While one has not come up, some one may. -/
theorem ready_some {md : Region.Mode} {L : List Oper} (hc : chainB md L = true) {listed : Array Bool} (h : Good md L listed) : ∀ m, m < L.length → listed.getD m true = false → Region.ready md L.toArray listed ≠ [] := by
  intro m
  induction m using Nat.strongRecOn with
  | _ m ih =>
    intro hm h0 hnil
    obtain ⟨o, ho⟩ : ∃ o, L[m]? = some o := ⟨_, List.getElem?_eq_getElem hm⟩
    have hd := (chain_down hc ho).2
    have hmem : m ∈ Region.ready md L.toArray listed := by
      rw [mem_ready, List.getElem?_toArray]
      refine ⟨h0, o, ho, fun e he hb => ?_⟩
      have hlt := hd e he hb
      cases hx : listed.getD e.on true with
      | false => exact absurd hnil (ih e.on hlt (by omega) hx)
      | true => exact getD_ft (by rw [h.1]; omega) hx
    rw [hnil] at hmem; cases hmem

section
variable {F : Fence} {n : Nat} {P : Program} {C : World → Prop} {md : Region.Mode}
theorem wpIn_of_quiet (hfn : ∀ f, F.fn f) (hdp : F.depth = none) (hcl : ∀ f args w R, Calls P f args w R → CallsIn F (n - 1) P f args w R) {o : Oper} (hnd : isDefer o.op = false)
    {a : Act} {K : Act → Prop} {K' : Act → World → Prop} {Q' : Exit → Act → World → Prop} {w : World} (hw : C w) (h : ∀ a w', C w' → K a → K' a w') (hh : o.quiet P a C K) : o.wpIn F n P a w K' Q' := by
  obtain ⟨v, h1, h2⟩ := hh
  have h3 := h1 w hw
  unfold Oper.quietAt at h3
  unfold Oper.wpIn
  refine ⟨fun f _ => hfn f, ?_⟩
  rw [Oper.semAt_plain F _ o (isDefer_no hnd)]
  generalize (execOp a.eval o).run P w = r at *
  cases r with
  | ok x w' =>
    cases x <;> simp only [Oper.quietUpon] at h3 <;> simp only [Oper.uponIn]
    case value u =>
      obtain ⟨e1, e2⟩ := h3
      rw [e1, e2]
      exact h _ _ hw h2
    case skip =>
      obtain ⟨e1, e2⟩ := h3
      rw [e1, ← e2]
      exact h _ _ hw h2
    case enter f args =>
      obtain ⟨e1, hc⟩ := h3
      rw [e1]
      exact ⟨by rw [hdp]; simp, (hcl _ _ _ _ hc).mono fun e w'' ⟨he, hw''⟩ => by subst he; exact h _ _ hw'' h2⟩
  | halt x w' => simp only [Oper.quietUpon] at h3

theorem any_last (hfn : ∀ f, F.fn f) (hdp : F.depth = none) (hcl : ∀ f args w R, Calls P f args w R → CallsIn F (n - 1) P f args w R)
    {L : List Oper} (hc : chainB md L = true) {m : Nat} (hm : m + 1 = L.length) {o : Oper} (ho : L[m]? = some o) (hdst : o.dst = none)
    {Qa : Act → Prop} {Q : Exit → Act → World → Prop} (hlast : ∀ a w, C w → Qa a → wpOpIn F n P L.toArray Q m (fun a' w' => Q .normal a' w') a w) :
    ∀ (fuel : Nat) (listed : Array Bool) (a : Act) (w : World), C w → Good md L listed → listed.getD m true = false → wpAnyQ P md (idleLast L).toArray C Qa fuel listed a → wpAnyIn F n P md L.toArray Q fuel listed a w := by
  intro fuel
  induction fuel with
  | zero =>
    intro listed a w hw hg h0 h
    exfalso
    refine ready_some hc hg m (by omega) h0 (List.eq_nil_iff_forall_not_mem.2 fun j hj => ?_)
    rw [← idleLast_ready, h.1] at hj; cases hj
  | succ fuel ih =>
    intro listed a w hw hg h0 h
    refine ⟨fun hn => absurd hn (ready_some hc hg m (by omega) h0), fun i hi => ?_⟩
    have hq := h.2 i ((idleLast_ready md L listed i).2 hi)
    have hg' := hg.step hi
    by_cases e : i = m
    · subst e
      have hall := all_up hc hg hm hi
      have hnil : Region.ready md L.toArray (listed.setIfInBounds i true) = [] := ready_nil fun k hk => by
        by_cases e1 : i = k
        · subst e1
          have : i < listed.size := by rw [hg.1]; omega
          simp [this]
        · rw [getD_set_ne true e1]; exact hall _ k rfl (by omega)
      have hnil' : Region.ready md (idleLast L).toArray (listed.setIfInBounds i true) = [] := List.eq_nil_iff_forall_not_mem.2 fun j hj => by
        rw [idleLast_ready, hnil] at hj; cases hj
      have hqa : Qa a := by
        unfold qOp at hq
        rw [List.getElem?_toArray, idleLast_last L i hm, ho] at hq
        have hfin : ∀ a, wpAnyQ P md (idleLast L).toArray C Qa fuel (listed.setIfInBounds i true) a → Qa a := fun a h => by
          cases fuel with
          | zero => exact h.2
          | succ f => exact h.1 hnil'
        have hput : ∀ v, a.put (idle o).dst v = a := fun v => by show a.put o.dst v = a; rw [hdst]; rfl
        simp only [Option.map_some] at hq
        split at hq
        · obtain ⟨v, _, h2⟩ := hq
          rw [hput] at h2; exact hfin _ h2
        · rw [hput] at hq; exact hfin _ hq
      refine wpOpIn_mono (fun a' w' hQ => ?_) (hlast a w hw hqa)
      cases fuel with
      | zero => exact ⟨hnil, hQ⟩
      | succ f => exact ⟨fun _ => hQ, fun j hj => by rw [hnil] at hj; cases hj⟩
    · have hil : i < L.length := by
        rw [mem_ready, List.getElem?_toArray] at hi
        obtain ⟨_, o', ho', _⟩ := hi
        rcases Nat.lt_or_ge i L.length with h | h
        · exact h
        · rw [List.getElem?_eq_none h] at ho'; cases ho'
      have h0' : (listed.setIfInBounds i true).getD m true = false := by rw [getD_set_ne true e]; exact h0
      unfold qOp at hq
      unfold wpOpIn
      rw [List.getElem?_toArray, idleLast_lt L i (by omega), idleLast_yielded] at hq
      rw [List.getElem?_toArray]
      cases hL : L[i]? with
      | none => rw [List.getElem?_eq_none_iff] at hL; omega
      | some oi =>
        rw [hL] at hq
        simp only at hq ⊢
        split
        · rename_i hwt
          rw [if_pos hwt] at hq
          exact wpIn_of_quiet hfn hdp hcl (chain_down hc hL).1 hw (fun a' w' hw' hk => ih _ a' w' hw' hg' h0' hk) hq
        · rename_i hwt
          rw [if_neg hwt] at hq
          exact ⟨fun f _ => hfn f, ih _ _ _ hw hg' h0' hq⟩

/-- THE LAW. -/
theorem region_last {id : Nat} {L : List Oper} {Q : Exit → Act → World → Prop} {a : Act} {w : World} (hfn : ∀ f, F.fn f) (hdp : F.depth = none) (hcl : ∀ f args w R, Calls P f args w R → CallsIn F (n - 1) P f args w R)
    (hmx : P.follows .mixedOrders = true) (hc : chainB .any L = true) (hB : Region.lexB .any (idleLast L).toArray = true) {m : Nat} {o : Oper} (hm : m + 1 = L.length) (ho : L[m]? = some o) (hdst : o.dst = none) (hgd : o.guard = none) (hC : C w.drew)
    {Qa : Act → Prop} (h : wpQuiet P (idleLast L).toArray C Qa (idleLast L) a) (hlast : ∀ a w, C w → Qa a → o.wpIn F n P a w (fun a' w' => Q .normal a' w') Q) : (Code.region id L.toArray true).wpIn F n P Q a w := by
  simp only [Region.lexB, Bool.and_eq_true] at hB
  have hq := wpAnyQ_lex (C := C) (md := .any) (P := P) (Q := Qa) hB.1 (idleLast L) 0 (Array.replicate (idleLast L).toArray.size false) a (fun j => by simp) (by have := hB.2; simpa using this) h
  refine wpIn_region_any hmx ?_
  rw [List.size_toArray, idleLast_len] at hq
  rw [List.size_toArray]
  refine any_last hfn hdp hcl hc hm ho hdst (fun a w hw hqa => ?_) _ _ _ _ hC (Good.start _ _) ?_ hq
  · unfold wpOpIn
    rw [List.getElem?_toArray, ho]
    simp only [Region.wanted, hgd, if_true]
    exact hlast a w hw hqa
  · have : m < L.length := by omega
    simp [this]
theorem region_last_round {id r : Nat} {L : List Oper} {Q : Exit → Act → World → Prop} {a : Act} {w : World}
    (hmx : P.follows .mixedOrders = true) (hc : chainB .any L = true) (hB : Region.lexB .any (idleLast L).toArray = true) {m : Nat} {o : Oper} (hm : m + 1 = L.length) (ho : L[m]? = some o) (hdst : o.dst = none) (hgd : o.guard = none) (hC : C w.drew)
    {Qa : Act → Prop} (h : wpQuiet P (idleLast L).toArray C Qa (idleLast L) a) (hlast : ∀ a w, C w → Qa a → o.wpIn (Fence.wide.inRound r) n P a w (fun a' w' => Q .normal a' w') Q) : (Code.region id L.toArray true).wpIn (Fence.wide.inRound r) n P Q a w :=
  region_last (fun _ => trivial) rfl (fun f args w R h => CallsIn.inRound r (callsIn_wide.2 h)) hmx hc hB hm ho hdst hgd hC h hlast
theorem region_last_plain {id : Nat} {L : List Oper} {Q : Exit → Act → World → Prop} {a : Act} {w : World}
    (hmx : P.follows .mixedOrders = true) (hc : chainB .any L = true) (hB : Region.lexB .any (idleLast L).toArray = true) {m : Nat} {o : Oper} (hm : m + 1 = L.length) (ho : L[m]? = some o) (hdst : o.dst = none) (hgd : o.guard = none) (hC : C w.drew)
    {Qa : Act → Prop} (h : wpQuiet P (idleLast L).toArray C Qa (idleLast L) a) (hlast : ∀ a w, C w → Qa a → o.wpIn Fence.wide 1 P a w (fun a' w' => Q .normal a' w') Q) : (Code.region id L.toArray true).wp P Q a w :=
  wpIn_wide.1 (region_last (n := 1) (fun _ => trivial) rfl (fun f args w R h => callsIn_wide.2 h) hmx hc hB hm ho hdst hgd hC h hlast)
end
/-- A store of an int that ends a region. -/
theorem exec_store {P : Program} {F : Fence} {n : Nat} (hfn : ∀ f, F.fn f) {o : Oper} {ty : TypeId} {p q : Operand} (hs : ∀ w, (sizeOf ty).run P w = .ok 1 w) (ho : o.op = .store ty p q) (hd : o.dst = none) {a : Act} {w : World} {b off : Nat} {x : Int} {v0 : Value}
    {K : Act → World → Prop} {Q : Exit → Act → World → Prop} (h1 : a.eval p = .pointer (some ⟨b, off, none⟩)) (h2 : a.eval q = .int .i64 x) (hc : w.cell? ⟨b, off, none⟩ = some v0) (hf : w.frozen? ⟨b, off, none⟩ = false)
    (hK : K a (w.setCell ⟨b, off, none⟩ (.int .i64 x))) : o.wpIn F n P a w K Q := by
  unfold Oper.wpIn
  refine ⟨fun f _ => hfn f, ?_⟩
  rw [Oper.semAt_plain F _ o (fun c => by rw [ho]; intro h; cases h)]
  have e : (execOp a.eval o).run P w = .ok .skip (w.setCell ⟨b, off, none⟩ (.int .i64 x)) := by
    generalize a.eval = ρ at *
    simp [execOp, ho, h1, h2, Instr.storeAt, go_sem, hc, hf, hs]
  rw [e]
  have e2 : a.put o.dst undef = a := by rw [hd]; rfl
  show K (a.put o.dst undef) _
  rw [e2]; exact hK
end Go.Proofs.YtfhcfdepjhdhfaaDoor
/-
  A region that draws its order, whose operations are quiet up to the m-th, and in which every later one waits for the one ahead of it, and the m-th (by way of others) for all that are quiet: one walk of the quiet ones, then the rest in the text's order, serves every order.
-/
namespace Go.Proofs.YtfhcfdepjhdhfaaDoor
set_option linter.unusedVariables false

/-- The same place, but nothing is done there, and nothing kept. -/
def idleN (o : Oper) : Oper := { o with op := .move (.const (.bool true)), dst := none }
/-- All from the m-th on made idle. -/
def idleTail : Nat → List Oper → List Oper
  | _, [] => []
  | 0, o :: r => idleN o :: idleTail 0 r
  | m + 1, o :: r => o :: idleTail m r
theorem idleTail_len : ∀ (m : Nat) (L : List Oper), (idleTail m L).length = L.length
  | _, [] => by simp [idleTail]
  | 0, o :: r => by simp [idleTail, idleTail_len 0 r]
  | m + 1, o :: r => by simp [idleTail, idleTail_len m r]
theorem idleTail_lt : ∀ (m : Nat) (L : List Oper) (i : Nat), i < m → (idleTail m L)[i]? = L[i]?
  | _, [], i, _ => by simp [idleTail]
  | 0, o :: r, i, h => by omega
  | m + 1, o :: r, 0, h => by simp [idleTail]
  | m + 1, o :: r, i + 1, h => by simpa [idleTail] using idleTail_lt m r i (by omega)
theorem idleTail_ge : ∀ (m : Nat) (L : List Oper) (i : Nat), m ≤ i → (idleTail m L)[i]? = (L[i]?).map idleN
  | _, [], i, _ => by simp [idleTail]
  | 0, o :: r, 0, h => by simp [idleTail]
  | 0, o :: r, i + 1, h => by simpa [idleTail] using idleTail_ge 0 r i (by omega)
  | m + 1, o :: r, 0, h => by omega
  | m + 1, o :: r, i + 1, h => by simpa [idleTail] using idleTail_ge m r i (by omega)
theorem idleTail_after (m : Nat) (L : List Oper) (i : Nat) : ((idleTail m L)[i]?).map (·.after) = (L[i]?).map (·.after) := by
  rcases Nat.lt_or_ge i m with h | h
  · rw [idleTail_lt m L i h]
  · rw [idleTail_ge m L i h, Option.map_map]; rfl
theorem idleTail_ready (md : Region.Mode) (m : Nat) (L : List Oper) (listed : Array Bool) (j : Nat) : j ∈ Region.ready md (idleTail m L).toArray listed ↔ j ∈ Region.ready md L.toArray listed := by
  rw [mem_ready, mem_ready, List.getElem?_toArray, List.getElem?_toArray]
  have h := idleTail_after m L j
  constructor
  · rintro ⟨h0, o, ho, h1⟩
    rw [ho] at h
    cases hL : L[j]? with
    | none => rw [hL] at h; cases h
    | some o' =>
      rw [hL] at h
      have e : o.after = o'.after := Option.some.inj h
      exact ⟨h0, o', rfl, by rw [← e]; exact h1⟩
  · rintro ⟨h0, o, ho, h1⟩
    rw [ho] at h
    cases hL : (idleTail m L)[j]? with
    | none => rw [hL] at h; cases h
    | some o' =>
      rw [hL] at h
      have e : o'.after = o.after := Option.some.inj h
      exact ⟨h0, o', rfl, by rw [e]; exact h1⟩

def bindsOn (md : Region.Mode) (o : Oper) (k : Nat) : Bool := o.after.any fun e => Region.binds md e && e.on == k
/-- The quiet ones (but for the first z, which are to come up ahead) are waited for by some one up to the m-th; behind it each waits for the one ahead; each waits for earlier ones alone; none is a defer, none is guarded. -/
def tailB (md : Region.Mode) (z m : Nat) (L : List Oper) : Bool :=
  ((List.range m).all fun k => decide (k < z) || (List.range (m + 1)).any fun j => decide (k < j) && (match L[j]? with | none => false | some o => bindsOn md o k)) &&
  ((List.range L.length).all fun i => !decide (m < i) || (match L[i]? with | none => true | some o => bindsOn md o (i - 1))) &&
  ((List.range L.length).all fun j => match L[j]? with | none => true | some o => !isDefer o.op && o.guard.isNone && o.after.all fun e => !Region.binds md e || decide (e.on < j))
theorem bindsOn_spec {md : Region.Mode} {o : Oper} {k : Nat} (h : bindsOn md o k = true) : ∃ e ∈ o.after, Region.binds md e = true ∧ e.on = k := by
  obtain ⟨e, he, h3⟩ := Array.any_eq_true'.1 h
  simp only [Bool.and_eq_true, beq_iff_eq] at h3
  exact ⟨e, he, h3⟩
theorem tail_up {md : Region.Mode} {z m : Nat} {L : List Oper} (h : tailB md z m L = true) {k : Nat} (hz : z ≤ k) (hk : k < m) : ∃ j o, k < j ∧ j ≤ m ∧ L[j]? = some o ∧ ∃ e ∈ o.after, Region.binds md e = true ∧ e.on = k := by
  simp only [tailB, Bool.and_eq_true] at h
  have h1 := List.all_eq_true.1 h.1.1 k (List.mem_range.2 hk)
  rw [decide_eq_false (show ¬ k < z by omega), Bool.false_or] at h1
  obtain ⟨j, hj, h2⟩ := List.any_eq_true.1 h1
  simp only [Bool.and_eq_true, decide_eq_true_eq] at h2
  cases hL : L[j]? with
  | none => rw [hL] at h2; cases h2.2
  | some o =>
    rw [hL] at h2
    exact ⟨j, o, h2.1, by have := List.mem_range.1 hj; omega, hL, bindsOn_spec h2.2⟩
theorem lt_of_get {L : List Oper} {j : Nat} {o : Oper} (hj : L[j]? = some o) : j < L.length := by
  rcases Nat.lt_or_ge j L.length with h | h
  · exact h
  · rw [List.getElem?_eq_none h] at hj; cases hj
theorem tail_prev {md : Region.Mode} {z m : Nat} {L : List Oper} (h : tailB md z m L = true) {i : Nat} {o : Oper} (hi : m < i) (ho : L[i]? = some o) : ∃ e ∈ o.after, Region.binds md e = true ∧ e.on = i - 1 := by
  simp only [tailB, Bool.and_eq_true] at h
  have h1 := List.all_eq_true.1 h.1.2 i (List.mem_range.2 (lt_of_get ho))
  rw [ho] at h1
  simp only [hi, decide_true, Bool.not_true, Bool.false_or] at h1
  exact bindsOn_spec h1
theorem tail_down {md : Region.Mode} {z m : Nat} {L : List Oper} (h : tailB md z m L = true) {j : Nat} {o : Oper} (hj : L[j]? = some o) : isDefer o.op = false ∧ o.guard = none ∧ ∀ e ∈ o.after, Region.binds md e = true → e.on < j := by
  simp only [tailB, Bool.and_eq_true] at h
  have h1 := List.all_eq_true.1 h.2 j (List.mem_range.2 (lt_of_get hj))
  rw [hj] at h1
  simp only [Bool.and_eq_true, Bool.not_eq_true'] at h1
  refine ⟨h1.1.1, by simpa using h1.1.2, fun e he hb => ?_⟩
  have h2 := Array.all_eq_true'.1 h1.2 e he
  simp only [hb, Bool.not_true, Bool.false_or, decide_eq_true_eq] at h2
  exact h2

/-- All below i have come up, none from i on. -/
def Till (L : List Oper) (i : Nat) (listed : Array Bool) : Prop := listed.size = L.length ∧ (∀ k, k < i → k < L.length → listed.getD k false = true) ∧ ∀ k, i ≤ k → k < L.length → listed.getD k true = false
theorem Till.next {L : List Oper} {i : Nat} {listed : Array Bool} (h : Till L i listed) (hi : i < L.length) : Till L (i + 1) (listed.setIfInBounds i true) := by
  refine ⟨by simp [h.1], fun k hk hl => ?_, fun k hk hl => ?_⟩
  · by_cases e : i = k
    · subst e
      have : i < listed.size := by rw [h.1]; exact hi
      simp [this]
    · exact getD_set_true (h.2.1 k (by omega) hl)
  · have e : i ≠ k := by omega
    rw [getD_set_ne true e]
    exact h.2.2 k (by omega) hl
theorem Till.ready {md : Region.Mode} {z m : Nat} {L : List Oper} (hc : tailB md z m L = true) {i : Nat} {listed : Array Bool} (h : Till L i listed) (hi : i < L.length) : i ∈ Region.ready md L.toArray listed := by
  rw [mem_ready, List.getElem?_toArray]
  obtain ⟨o, ho⟩ : ∃ o, L[i]? = some o := ⟨_, List.getElem?_eq_getElem hi⟩
  refine ⟨h.2.2 i (Nat.le_refl _) hi, o, ho, fun e he hb => ?_⟩
  have hlt := (tail_down hc ho).2.2 e he hb
  exact h.2.1 _ hlt (by omega)
theorem tf_absurd {l : Array Bool} {k : Nat} (h1 : l.getD k true = false) (h2 : l.getD k false = true) : False := by
  rw [getD_tf h2] at h1; cases h1
theorem Till.only {md : Region.Mode} {z m : Nat} {L : List Oper} (hc : tailB md z m L = true) {i j : Nat} {listed : Array Bool} (h : Till L i listed) (hm : m ≤ i) (hj : j ∈ Region.ready md L.toArray listed) : j = i := by
  rw [mem_ready, List.getElem?_toArray] at hj
  obtain ⟨h0, o, ho, hall⟩ := hj
  have hl := lt_of_get ho
  rcases Nat.lt_trichotomy j i with hlt | heq | hgt
  · exact (tf_absurd h0 (h.2.1 j hlt hl)).elim
  · exact heq
  · obtain ⟨e, he, hb, hon⟩ := tail_prev hc (show m < j by omega) ho
    have h1 := hall e he hb
    rw [hon] at h1
    exact (tf_absurd (h.2.2 (j - 1) (by omega) (by omega)) h1).elim
theorem Till.done {md : Region.Mode} {L : List Oper} {i : Nat} {listed : Array Bool} (h : Till L i listed) (hi : L.length ≤ i) : Region.ready md L.toArray listed = [] :=
  ready_nil fun k hk => getD_tf (h.2.1 k (by omega) hk)

section
variable {F : Fence} {n : Nat} {P : Program} {C : World → Prop} {md : Region.Mode}
/-- What the quiet walk says once all quiet ones have come up. -/
theorem tail_q {z m : Nat} {L : List Oper} (hc : tailB md z m L = true) {Qa : Act → Prop} : ∀ (d fuel i : Nat) (listed : Array Bool) (a : Act), i + d = L.length → m ≤ i → Till L i listed → wpAnyQ P md (idleTail m L).toArray C Qa fuel listed a → Qa a ∧ d ≤ fuel := by
  intro d
  induction d with
  | zero =>
    intro fuel i listed a hd hm ht h
    have hnil : Region.ready md (idleTail m L).toArray listed = [] := List.eq_nil_iff_forall_not_mem.2 fun j hj => by
      rw [idleTail_ready, ht.done (by omega)] at hj; cases hj
    cases fuel with
    | zero => exact ⟨h.2, Nat.le_refl _⟩
    | succ f => exact ⟨h.1 hnil, Nat.zero_le _⟩
  | succ d ih =>
    intro fuel i listed a hd hm ht h
    have hi : i < L.length := by omega
    have hr := (idleTail_ready md m L listed i).2 (ht.ready hc hi)
    cases fuel with
    | zero =>
      have := h.1
      rw [this] at hr; cases hr
    | succ f =>
      have hq := h.2 i hr
      obtain ⟨o, ho⟩ : ∃ o, L[i]? = some o := ⟨_, List.getElem?_eq_getElem hi⟩
      unfold qOp at hq
      rw [List.getElem?_toArray, idleTail_ge m L i hm, ho] at hq
      have hput : ∀ v, a.put (idleN o).dst v = a := fun v => rfl
      simp only [Option.map_some] at hq
      have hq' : wpAnyQ P md (idleTail m L).toArray C Qa f (listed.setIfInBounds i true) a := by
        split at hq
        · obtain ⟨v, _, h2⟩ := hq
          rw [hput] at h2; exact h2
        · rw [hput] at hq; exact hq
      have := ih f (i + 1) _ a (by omega) (by omega) (ht.next hi) hq'
      exact ⟨this.1, by omega⟩
/-- The rest in the text's order. -/
theorem tail_run {z m : Nat} {L : List Oper} (hc : tailB md z m L = true) {Q : Exit → Act → World → Prop} : ∀ (d fuel i : Nat) (listed : Array Bool) (a : Act) (w : World), i + d = L.length → m ≤ i → d ≤ fuel → Till L i listed → wpListIn F n P L.toArray Q (L.drop i) a w → wpAnyIn F n P md L.toArray Q fuel listed a w := by
  intro d
  induction d with
  | zero =>
    intro fuel i listed a w hd hm hf ht h
    have hnil : Region.ready md L.toArray listed = [] := ht.done (by omega)
    rw [List.drop_eq_nil_of_le (by omega)] at h
    cases fuel with
    | zero => exact ⟨hnil, h⟩
    | succ f => exact ⟨fun _ => h, fun j hj => by rw [hnil] at hj; cases hj⟩
  | succ d ih =>
    intro fuel i listed a w hd hm hf ht h
    have hi : i < L.length := by omega
    cases fuel with
    | zero => omega
    | succ f =>
      refine ⟨fun hnil => absurd (ht.ready hc hi) (by rw [hnil]; simp), fun j hj => ?_⟩
      obtain rfl := ht.only hc hm hj
      rw [List.drop_eq_getElem_cons hi] at h
      unfold wpOpIn
      rw [List.getElem?_toArray, List.getElem?_eq_getElem hi]
      have hg : Region.wanted L[j] (yielded L.toArray a.tmps) = true := by
        have := (tail_down hc (List.getElem?_eq_getElem hi)).2.1
        simp [Region.wanted, this]
      unfold wpListIn at h
      rw [if_pos hg] at h
      simp only [hg, if_true]
      exact Oper.wpIn_mono (fun a' w' h' => ih f (j + 1) _ a' w' (by omega) (by omega) (by omega) (ht.next hi) h') h
theorem any_tail (hfn : ∀ f, F.fn f) (hdp : F.depth = none) (hcl : ∀ f args w R, Calls P f args w R → CallsIn F (n - 1) P f args w R)
    {L : List Oper} {z m : Nat} (hc : tailB md z m L = true) (hm : m < L.length)
    {Qa : Act → Prop} {Q : Exit → Act → World → Prop} (hlast : ∀ a w, C w → Qa a → wpListIn F n P L.toArray Q (L.drop m) a w) :
    ∀ (fuel : Nat) (listed : Array Bool) (a : Act) (w : World), C w → Good md L listed → (∀ k, k < z → listed.getD k true = true) → (∀ k, m ≤ k → k < L.length → listed.getD k true = false) → wpAnyQ P md (idleTail m L).toArray C Qa fuel listed a → wpAnyIn F n P md L.toArray Q fuel listed a w := by
  intro fuel
  have hall : ∀ (listed : Array Bool), Good md L listed → (∀ k, k < z → listed.getD k true = true) → m ∈ Region.ready md L.toArray listed → ∀ d k, d = m - k → k < m → listed.getD k true = true := by
    intro listed hg hzl hr d
    induction d using Nat.strongRecOn with
    | _ d ih =>
      intro k hd hk
      by_cases hkz : k < z
      · exact hzl k hkz
      obtain ⟨j, o, hj, hjm, ho, e, he, hb, hon⟩ := tail_up hc (by omega) hk
      have hr' := hr
      rw [mem_ready, List.getElem?_toArray] at hr'
      by_cases e1 : j = m
      · subst e1
        obtain ⟨_, o', ho', hall⟩ := hr'
        rw [ho] at ho'
        obtain rfl := Option.some.inj ho'
        have := hall e he hb
        rw [hon] at this
        exact getD_tf this
      · have h1 := ih (m - j) (by omega) j rfl (by omega)
        have := hg.2 j o ho h1 e he hb
        rw [hon] at this
        exact getD_tf this
  have hsome : ∀ (listed : Array Bool), Good md L listed → ∀ k, k < L.length → listed.getD k true = false → Region.ready md L.toArray listed ≠ [] := by
    intro listed hg k
    induction k using Nat.strongRecOn with
    | _ k ih =>
      intro hk h0 hnil
      obtain ⟨o, ho⟩ : ∃ o, L[k]? = some o := ⟨_, List.getElem?_eq_getElem hk⟩
      have hd := (tail_down hc ho).2.2
      have hmem : k ∈ Region.ready md L.toArray listed := by
        rw [mem_ready, List.getElem?_toArray]
        refine ⟨h0, o, ho, fun e he hb => ?_⟩
        have hlt := hd e he hb
        cases hx : listed.getD e.on true with
        | false => exact absurd hnil (ih e.on hlt (by omega) hx)
        | true => exact getD_ft (by rw [hg.1]; omega) hx
      rw [hnil] at hmem; cases hmem
  induction fuel with
  | zero =>
    intro listed a w hw hg hzl h0 h
    exfalso
    refine hsome listed hg m hm (h0 m (Nat.le_refl _) hm) (List.eq_nil_iff_forall_not_mem.2 fun j hj => ?_)
    rw [← idleTail_ready, h.1] at hj; cases hj
  | succ fuel ih =>
    intro listed a w hw hg hzl h0 h
    refine ⟨fun hn => absurd hn (hsome listed hg m hm (h0 m (Nat.le_refl _) hm)), fun i hi => ?_⟩
    have hi' := hi
    rw [mem_ready, List.getElem?_toArray] at hi'
    obtain ⟨hi0, o, ho, hia⟩ := hi'
    have hil := lt_of_get ho
    rcases Nat.lt_trichotomy i m with hlt | heq | hgt
    · have hq := h.2 i ((idleTail_ready md m L listed i).2 hi)
      have hg' := hg.step hi
      have hzl' : ∀ k, k < z → (listed.setIfInBounds i true).getD k true = true := fun k hk => by
        by_cases e : i = k
        · subst e
          have : i < listed.size := by rw [hg.1]; exact hil
          simp [this]
        · rw [getD_set_ne true e]; exact hzl k hk
      have h0' : ∀ k, m ≤ k → k < L.length → (listed.setIfInBounds i true).getD k true = false := fun k hk hl => by rw [getD_set_ne true (show i ≠ k by omega)]; exact h0 k hk hl
      unfold qOp at hq
      unfold wpOpIn
      rw [List.getElem?_toArray, idleTail_lt m L i hlt, ho] at hq
      rw [List.getElem?_toArray, ho]
      have hgn := (tail_down hc ho).2.1
      simp only [Region.wanted, hgn, if_true] at hq ⊢
      exact wpIn_of_quiet hfn hdp hcl (tail_down hc ho).1 hw (fun a' w' hw' hk => ih _ a' w' hw' hg' hzl' h0' hk) hq
    · subst heq
      have ht : Till L i listed := ⟨hg.1, fun k hk hl => getD_ft (by rw [hg.1]; exact hl) (hall listed hg hzl hi _ k rfl hk), h0⟩
      obtain ⟨hqa, hf⟩ := tail_q hc (L.length - i) (fuel + 1) i listed a (by omega) (Nat.le_refl _) ht h
      have := tail_run (F := F) (n := n) (P := P) hc (L.length - i) (fuel + 1) i listed a w (by omega) (Nat.le_refl _) hf ht (hlast a w hw hqa)
      exact this.2 i hi
    · exfalso
      obtain ⟨e, he, hb, hon⟩ := tail_prev hc hgt ho
      have h1 := hia e he hb
      rw [hon] at h1
      exact tf_absurd (h0 (i - 1) (by omega) (by omega)) h1
/-- THE LAW. -/
theorem region_tail {id : Nat} {L : List Oper} {Q : Exit → Act → World → Prop} {a : Act} {w : World} (hfn : ∀ f, F.fn f) (hdp : F.depth = none) (hcl : ∀ f args w R, Calls P f args w R → CallsIn F (n - 1) P f args w R)
    (m : Nat) (hmx : P.follows .mixedOrders = true) (hc : tailB .any 0 m L = true) (hm : m < L.length) (hB : Region.lexB .any (idleTail m L).toArray = true) (hC : C w.drew)
    {Qa : Act → Prop} (h : wpQuiet P (idleTail m L).toArray C Qa (idleTail m L) a) (hlast : ∀ a w, C w → Qa a → wpListIn F n P L.toArray Q (L.drop m) a w) : (Code.region id L.toArray true).wpIn F n P Q a w := by
  simp only [Region.lexB, Bool.and_eq_true] at hB
  have hq := wpAnyQ_lex (C := C) (md := .any) (P := P) (Q := Qa) hB.1 (idleTail m L) 0 (Array.replicate (idleTail m L).toArray.size false) a (fun j => by simp) (by have := hB.2; simpa using this) h
  refine wpIn_region_any hmx ?_
  rw [List.size_toArray, idleTail_len] at hq
  rw [List.size_toArray]
  refine any_tail hfn hdp hcl hc hm hlast _ _ _ _ hC (Good.start _ _) (fun k hk => by omega) (fun k hk hl => ?_) hq
  simp [hl]
/-- The rest in the text's order. -/
theorem tail_runP {z m : Nat} {L : List Oper} (hc : tailB md z m L = true) {Q : Exit → Act → World → Prop} : ∀ (d fuel i : Nat) (listed : Array Bool) (a : Act) (w : World), i + d = L.length → m ≤ i → d ≤ fuel → Till L i listed → wpList P L.toArray Q (L.drop i) a w → wpAny P md L.toArray Q fuel listed a w := by
  intro d
  induction d with
  | zero =>
    intro fuel i listed a w hd hm hf ht h
    have hnil : Region.ready md L.toArray listed = [] := ht.done (by omega)
    rw [List.drop_eq_nil_of_le (by omega)] at h
    cases fuel with
    | zero => exact ⟨hnil, h⟩
    | succ f => exact ⟨fun _ => h, fun j hj => by rw [hnil] at hj; cases hj⟩
  | succ d ih =>
    intro fuel i listed a w hd hm hf ht h
    have hi : i < L.length := by omega
    cases fuel with
    | zero => omega
    | succ f =>
      refine ⟨fun hnil => absurd (ht.ready hc hi) (by rw [hnil]; simp), fun j hj => ?_⟩
      obtain rfl := ht.only hc hm hj
      rw [List.drop_eq_getElem_cons hi] at h
      unfold wpOp
      rw [List.getElem?_toArray, List.getElem?_eq_getElem hi]
      have hg : Region.wanted L[j] (yielded L.toArray a.tmps) = true := by
        have := (tail_down hc (List.getElem?_eq_getElem hi)).2.1
        simp [Region.wanted, this]
      unfold wpList at h
      rw [if_pos hg] at h
      simp only [hg, if_true]
      exact h.imp (Oper.wp_mono (fun a' w' h' => ih f (j + 1) _ a' w' (by omega) (by omega) (by omega) (ht.next hi) h')) id
theorem any_tailP {L : List Oper} {z m : Nat} (hc : tailB md z m L = true) (hm : m < L.length)
    {Qa : Act → Prop} {Q : Exit → Act → World → Prop} (hlast : ∀ a w, C w → Qa a → wpList P L.toArray Q (L.drop m) a w) :
    ∀ (fuel : Nat) (listed : Array Bool) (a : Act) (w : World), C w → Good md L listed → (∀ k, k < z → listed.getD k true = true) → (∀ k, m ≤ k → k < L.length → listed.getD k true = false) → wpAnyQ P md (idleTail m L).toArray C Qa fuel listed a → wpAny P md L.toArray Q fuel listed a w := by
  intro fuel
  have hall : ∀ (listed : Array Bool), Good md L listed → (∀ k, k < z → listed.getD k true = true) → m ∈ Region.ready md L.toArray listed → ∀ d k, d = m - k → k < m → listed.getD k true = true := by
    intro listed hg hzl hr d
    induction d using Nat.strongRecOn with
    | _ d ih =>
      intro k hd hk
      by_cases hkz : k < z
      · exact hzl k hkz
      obtain ⟨j, o, hj, hjm, ho, e, he, hb, hon⟩ := tail_up hc (by omega) hk
      have hr' := hr
      rw [mem_ready, List.getElem?_toArray] at hr'
      by_cases e1 : j = m
      · subst e1
        obtain ⟨_, o', ho', hall⟩ := hr'
        rw [ho] at ho'
        obtain rfl := Option.some.inj ho'
        have := hall e he hb
        rw [hon] at this
        exact getD_tf this
      · have h1 := ih (m - j) (by omega) j rfl (by omega)
        have := hg.2 j o ho h1 e he hb
        rw [hon] at this
        exact getD_tf this
  have hsome : ∀ (listed : Array Bool), Good md L listed → ∀ k, k < L.length → listed.getD k true = false → Region.ready md L.toArray listed ≠ [] := by
    intro listed hg k
    induction k using Nat.strongRecOn with
    | _ k ih =>
      intro hk h0 hnil
      obtain ⟨o, ho⟩ : ∃ o, L[k]? = some o := ⟨_, List.getElem?_eq_getElem hk⟩
      have hd := (tail_down hc ho).2.2
      have hmem : k ∈ Region.ready md L.toArray listed := by
        rw [mem_ready, List.getElem?_toArray]
        refine ⟨h0, o, ho, fun e he hb => ?_⟩
        have hlt := hd e he hb
        cases hx : listed.getD e.on true with
        | false => exact absurd hnil (ih e.on hlt (by omega) hx)
        | true => exact getD_ft (by rw [hg.1]; omega) hx
      rw [hnil] at hmem; cases hmem
  induction fuel with
  | zero =>
    intro listed a w hw hg hzl h0 h
    exfalso
    refine hsome listed hg m hm (h0 m (Nat.le_refl _) hm) (List.eq_nil_iff_forall_not_mem.2 fun j hj => ?_)
    rw [← idleTail_ready, h.1] at hj; cases hj
  | succ fuel ih =>
    intro listed a w hw hg hzl h0 h
    refine ⟨fun hn => absurd hn (hsome listed hg m hm (h0 m (Nat.le_refl _) hm)), fun i hi => ?_⟩
    have hi' := hi
    rw [mem_ready, List.getElem?_toArray] at hi'
    obtain ⟨hi0, o, ho, hia⟩ := hi'
    have hil := lt_of_get ho
    rcases Nat.lt_trichotomy i m with hlt | heq | hgt
    · have hq := h.2 i ((idleTail_ready md m L listed i).2 hi)
      have hg' := hg.step hi
      have hzl' : ∀ k, k < z → (listed.setIfInBounds i true).getD k true = true := fun k hk => by
        by_cases e : i = k
        · subst e
          have : i < listed.size := by rw [hg.1]; exact hil
          simp [this]
        · rw [getD_set_ne true e]; exact hzl k hk
      have h0' : ∀ k, m ≤ k → k < L.length → (listed.setIfInBounds i true).getD k true = false := fun k hk hl => by rw [getD_set_ne true (show i ≠ k by omega)]; exact h0 k hk hl
      unfold qOp at hq
      unfold wpOp
      rw [List.getElem?_toArray, idleTail_lt m L i hlt, ho] at hq
      rw [List.getElem?_toArray, ho]
      have hgn := (tail_down hc ho).2.1
      simp only [Region.wanted, hgn, if_true] at hq ⊢
      exact .inl (Oper.wp_of_quiet hw (fun a' w' hw' hk => ih _ a' w' hw' hg' hzl' h0' hk) hq)
    · subst heq
      have ht : Till L i listed := ⟨hg.1, fun k hk hl => getD_ft (by rw [hg.1]; exact hl) (hall listed hg hzl hi _ k rfl hk), h0⟩
      obtain ⟨hqa, hf⟩ := tail_q hc (L.length - i) (fuel + 1) i listed a (by omega) (Nat.le_refl _) ht h
      have := tail_runP (P := P) hc (L.length - i) (fuel + 1) i listed a w (by omega) (Nat.le_refl _) hf ht (hlast a w hw hqa)
      exact this.2 i hi
    · exfalso
      obtain ⟨e, he, hb, hon⟩ := tail_prev hc hgt ho
      have h1 := hia e he hb
      rw [hon] at h1
      exact tf_absurd (h0 (i - 1) (by omega) (by omega)) h1
/-- THE LAW, plain. -/
theorem region_tail_plain {id : Nat} {L : List Oper} {Q : Exit → Act → World → Prop} {a : Act} {w : World} (m : Nat)
    (hmx : P.follows .mixedOrders = true) (hc : tailB .any 0 m L = true) (hm : m < L.length) (hB : Region.lexB .any (idleTail m L).toArray = true) (hC : C w.drew)
    {Qa : Act → Prop} (h : wpQuiet P (idleTail m L).toArray C Qa (idleTail m L) a) (hlast : ∀ a w, C w → Qa a → wpList P L.toArray Q (L.drop m) a w) : (Code.region id L.toArray true).wp P Q a w := by
  simp only [Region.lexB, Bool.and_eq_true] at hB
  have hq := wpAnyQ_lex (C := C) (md := .any) (P := P) (Q := Qa) hB.1 (idleTail m L) 0 (Array.replicate (idleTail m L).toArray.size false) a (fun j => by simp) (by have := hB.2; simpa using this) h
  refine wp_region_any hmx ?_
  rw [List.size_toArray, idleTail_len] at hq
  rw [List.size_toArray]
  refine any_tailP hc hm hlast _ _ _ _ hC (Good.start _ _) (fun k hk => by omega) (fun k hk hl => ?_) hq
  simp [hl]
theorem held_of_any {Q : Exit → Act → World → Prop} {ops : Array Oper} : ∀ (fuel : Nat) (listed : Array Bool) (a : Act) (w : World), wpAny P md ops Q fuel listed a w → wpAnyH P md ops Q (fun _ => True) fuel listed a w
  | 0, _, _, _, h => h
  | fuel + 1, listed, a, w, h => ⟨h.1, fun i hi => wpOp_mono (fun a' w' h' => ⟨trivial, held_of_any fuel _ a' w' h'⟩) (h.2 i hi)⟩
def tillB (z n : Nat) (listed : Array Bool) : Bool := listed.size == n && (List.range n).all fun k => listed.getD k (!decide (k < z)) == decide (k < z)
theorem till_of {L : List Oper} {z : Nat} {listed : Array Bool} (h : tillB z L.length listed = true) : Till L z listed := by
  simp only [tillB, Bool.and_eq_true, beq_iff_eq] at h
  refine ⟨h.1, fun k hk hl => ?_, fun k hk hl => ?_⟩
  · have := List.all_eq_true.1 h.2 k (List.mem_range.2 hl)
    rw [decide_eq_true hk] at this
    simpa using this
  · have := List.all_eq_true.1 h.2 k (List.mem_range.2 hl)
    rw [decide_eq_false (show ¬ k < z by omega)] at this
    simpa using this
/-- THE LAW, the first z operations having come up ahead (each taken by 'wpAnyH_take'). -/
theorem anyH_tail (z m : Nat) {L : List Oper} {Q : Exit → Act → World → Prop} {a : Act} {w : World} {fuel : Nat} {listed : Array Bool} (hf : fuel + z = L.length) (hl : tillB z L.length listed = true)
    (hc : tailB .any z m L = true) (hm : m < L.length) (hzm : z ≤ m) (hs : Region.noSelect (idleTail m L).toArray = true) (hB : Region.lexFrom .any (idleTail m L).toArray ((idleTail m L).drop z).length z listed = true) (hC : C w)
    {Qa : Act → Prop} (h : wpQuiet P (idleTail m L).toArray C Qa ((idleTail m L).drop z) a) (hlast : ∀ a w, C w → Qa a → wpList P L.toArray Q (L.drop m) a w) : wpAnyH P .any L.toArray Q (fun _ => True) fuel listed a w := by
  have ht := till_of hl
  have hq := wpAnyQ_lex (C := C) (md := .any) (P := P) (Q := Qa) hs ((idleTail m L).drop z) z listed a (fun j => by simp [List.getElem?_drop]) hB h
  have hfe : ((idleTail m L).drop z).length = fuel := by rw [List.length_drop, idleTail_len]; omega
  rw [hfe] at hq
  refine held_of_any _ _ _ _ (any_tailP hc hm hlast _ _ _ _ hC ⟨ht.1, fun j o hj hx e he hb => ?_⟩ (fun k hk => getD_tf (ht.2.1 k hk (by omega))) (fun k hk hkl => ht.2.2 k (by omega) hkl) hq)
  have hjl := lt_of_get hj
  have hjz : j < z := by
    rcases Nat.lt_or_ge j z with h | h
    · exact h
    · rw [ht.2.2 j h hjl] at hx; cases hx
  have hlt := (tail_down hc hj).2.2 e he hb
  exact ht.2.1 _ (by omega) (by omega)
end
end Go.Proofs.YtfhcfdepjhdhfaaDoor
/-
  A range over a function that MAKES what it hands out: what the k-th round is handed is known of the very world in which yield is called. (The rounds of this kind never leave the loop.)
-/
namespace Go.Proofs.YtfhcfdepjhdhfaaDoor
open Go.RowKit
set_option linter.unusedVariables false

/-- An iterator that hands out N times, the k-th time something of which G k holds there, if each round goes on, and keeps Kp. -/
def GivesTo {α : Type} (F : Fence) (n : Nat) (P : Program) (g : Nat) (lb : Array Value) (enc : Nat → α → Array Value) (G : Nat → α → World → Prop) (Kp : World → World → Prop) (N : Nat) (w : World) : Prop :=
  ∀ (l : Nat) (J : Nat → World → Prop) (W : World), Below w.heap.size w W → (∀ k A B, J k A → Below A.heap.size A B → J k B) →
    (∀ k x A, k < N → J k A → G k x A → YieldAt F (n - 1) P l (enc k x) A fun e B => e = .returned (.bool true) ∧ J (k + 1) B ∧ Kp A B) → J 0 W →
    CallsIn F n P g (#[.func (.yield l) #[] #[]] ++ lb) W fun e B => (∃ v, e = .returned v) ∧ J N B
/-- What does not mind that a block beyond the loop's beginning, which is no cells, turns. -/
def Minds (z : Nat) (I : World → Prop) : Prop := ∀ A l o o', I A → z ≤ l → A.heap[l]? = some o → o.isCells = false → I (A.putObj l o')
section
variable {F : Fence} {n : Nat} {P : Program}
theorem range_given {α : Type} {g : Operand} {ps : Array Tmp} {assign body : Code} {Q : Exit → Act → World → Prop} {a : Act} {w : World} (hro : F.round = none) (h1 : 1 ≤ n) {gf : Nat} {lb : Array Value}
    (hg : a.eval g = .func (.func gf) #[] lb) (hFg : F.fn gf) (eg : ∀ args w, (callFunc gf args).run P w = .ok (.enter gf args) w)
    {enc : Nat → α → Array Value} {G : Nat → α → World → Prop} {Kp : World → World → Prop} {N : Nat} (hseq : GivesTo F (n - 1) P gf lb enc G Kp N w)
    (hKt : ∀ A B C, Kp A B → Kp B C → Kp A C) (hKb : ∀ A, Minds w.heap.size (Kp A)) (hKr : ∀ A, Kp A A) (hps : ∀ k x, (enc k x).size = ps.size)
    (I : Nat → World → Prop) (hIb : ∀ k A B, I k A → Below A.heap.size A B → I k B) (hIp : ∀ k, Minds w.heap.size (I k)) (hGp : ∀ k x, Minds w.heap.size (G k x)) (h0 : I 0 w) (a₁ : Nat → α → Act)
    (hassign : ∀ (l k : Nat) (x : α) (W : World) (K : Act → World → Prop), K (a₁ k x) W →
      assign.wpIn (F.inRound l) (n - 1 - 1) P (Exit.then K (fun _ _ _ => False)) { tmps := (ps.zip (enc k x)).foldl (fun t (p, v) => t.setIfInBounds p v) a.tmps, defers := [] } W)
    (hbody : ∀ (l k : Nat) (x : α) (W : World), k < N → I k W → G k x W → body.wpIn (F.inRound l) (n - 1 - 1) P (Exit.then (fun _ W' => KeepsOthers W W' ∧ Kp W W' ∧ I (k + 1) W') (fun _ _ _ => False)) (a₁ k x) W)
    (hdone : ∀ (D : Nat) (W : World), w.heap.size ≤ D → I N W → W.heap[D]? = some (.deferred (some [])) → Q .normal { a with defers := { target := .collected D, args := #[] } :: a.defers } W) :
    (Code.rangeFunc g ps assign body).wpIn F n P Q a w := by
  refine wpIn_rangeFunc fun fn hfn => ?_
  rw [hro]
  obtain ⟨D, hD⟩ : ∃ D, D = w.heap.size := ⟨_, rfl⟩
  obtain ⟨R, hR⟩ : ∃ R : LoopState → Loop, R = fun s => { state := s, pending := none, fn, tmps := a.tmps, params := ps, assign, body, defers := w.heap.size } := ⟨_, rfl⟩
  obtain ⟨V, hV⟩ : ∃ V, V = (w.alloc (.deferred (some []))).alloc (.loop (R .ready)) := ⟨_, rfl⟩
  have bV : Below w.heap.size w V := by rw [hV]; exact ((Below.refl _ w).alloc (Nat.le_refl _) _).alloc (by simp) _
  have vd : V.heap[D]? = some (.deferred (some [])) := by
    rw [hV, hD]; exact (Below.heap_alloc _ _ _ (by simp)).trans (World.alloc_heap_new w _)
  have vl : V.heap[D + 1]? = some (.loop (R .ready)) := by
    have := World.alloc_heap_new (w.alloc (.deferred (some []))) (.loop (R .ready))
    rw [hV, hD]; rwa [World.size_alloc] at this
  refine ⟨D + 1, [{ target := .collected D, args := #[] }], V, { target := .fn (.func gf) lb, args := #[.func (.yield (D + 1)) #[] #[]] }, V, gf, #[.func (.yield (D + 1)) #[] #[]] ++ lb, V, ?_, ?_, ?_, ?_, fun _ => h1, ?_⟩
  · rw [hV, hR, hD]; exact run_enterLoop_outer _ _ _ _ _
  · simp only [resolve, hg]
    simp [go_sem]
  · intro f hf
    simp [Target.leads] at hf
    subst hf; exact hFg
  · simp [invoke, go_sem, eg]
  have keep : ∀ {s : LoopState} {A B : World}, (A.heap[D + 1]? = some (.loop (R s)) ∧ A.heap[D]? = some (.deferred (some []))) → KeepsOthers A B → B.heap[D + 1]? = some (.loop (R s)) ∧ B.heap[D]? = some (.deferred (some [])) := fun h k => ⟨k.same _ _ h.1 rfl, k.same _ _ h.2 rfl⟩
  have turn : ∀ {s s' : LoopState} {A : World}, (A.heap[D + 1]? = some (.loop (R s)) ∧ A.heap[D]? = some (.deferred (some []))) → (A.putObj (D + 1) (.loop (R s'))).heap[D + 1]? = some (.loop (R s')) ∧ (A.putObj (D + 1) (.loop (R s'))).heap[D]? = some (.deferred (some [])) := fun h =>
    ⟨World.putObj_heap_same (Array.getElem?_eq_some_iff.1 h.1).1, (World.putObj_heap_other (by omega)).trans h.2⟩
  refine (hseq (D + 1) (fun k W => I k W ∧ W.heap[D + 1]? = some (.loop (R .ready)) ∧ W.heap[D]? = some (.deferred (some []))) V bV ?_ ?_ ⟨hIb _ _ _ h0 bV, vl, vd⟩).mono ?_
  · rintro k A B ⟨hi, hl, hd⟩ hb
    exact ⟨hIb _ _ _ hi hb, (hb.block _ (Array.getElem?_eq_some_iff.1 hl).1).trans hl, (hb.block _ (Array.getElem?_eq_some_iff.1 hd).1).trans hd⟩
  · rintro k x A hk ⟨hi, hld⟩ hgx
    refine ⟨fn, _, assign, body, ?_, roundIn_of_wpIn hfn (hassign _ k x A _ ?_)⟩
    · have := run_yield (P := P) (args := enc k x) hld.1 (by rw [hR]; exact hps k x)
      rw [hR] at this; exact this
    refine ⟨A.putObj (D + 1) (.loop (R .busy)), ?_, ?_⟩
    · have := run_beginRound (P := P) hld.1 (by rw [hR])
      rw [hR] at this ⊢; exact this
    have hz : w.heap.size ≤ D + 1 := by omega
    refine wpIn_mono (hbody _ k x _ hk (hIp k A _ _ _ hi hz hld.1 rfl) (hGp k x A _ _ _ hgx hz hld.1 rfl)) ?_
    rintro e a3 B hp
    cases e <;> first | exact False.elim hp | skip
    obtain ⟨ko, kk, hi3⟩ := hp
    have h3 := keep (turn (s' := .busy) hld) ko
    refine ⟨.bool true, B.putObj (D + 1) (.loop (R .ready)), ?_, rfl, ⟨hIp _ B _ _ _ hi3 hz h3.1 rfl, turn h3⟩, ?_⟩
    · have := run_endRound (P := P) none h3.1
      rw [hR] at this ⊢; exact this
    · exact hKb A B _ _ _ (hKt _ _ _ (hKb A A _ _ _ (hKr A) hz hld.1 rfl) kk) hz h3.1 rfl
  · rintro e B ⟨⟨v, rfl⟩, hi, hl, hd⟩
    refine ⟨none, B.putObj (D + 1) (.loop { R .ready with state := .exhausted }), ?_, ?_⟩
    · have := run_endLoop (P := P) hl (by rw [hR]; simp)
      rw [hR] at this ⊢; exact this
    · exact hdone D _ (by omega) (hIp _ B _ _ _ hi (by omega) hl rfl) ((World.putObj_heap_other (by omega)).trans hd)
end
end Go.Proofs.YtfhcfdepjhdhfaaDoor
/-
  Two rows of ints of the call's own, that grow by append.
-/
namespace Go.Proofs.YtfhcfdepjhdhfaaDoor
open Go.ChangeShapes Go.WideShapes Go.ChangeAt Go.RowKit
set_option linter.unusedVariables false

/-- Two rows of the call's own: ka numbers of X, kb of Y. -/
structure TwoOwn (B : Nat) (u v : Value) (ka kb : Nat) (X Y : Nat → Int) (w0 w : World) : Prop where
  a : w.ownsRow B 3 1 u ka (intL ka X)
  b : w.ownsRow B 3 1 v kb (intL kb Y)
  ne : u.ownBlock = none ∨ u.ownBlock ≠ v.ownBlock
  bel : Below B w0 w
  sz : B ≤ w.heap.size
theorem grown_undrew {W w3 : World} {row : Option Nat} (h : W.drew.grownBy w3 row) : W.grownBy w3 row := ⟨h.os, h.tape, h.output, h.size, h.block⟩
theorem two_a {B : Nat} {u v : Value} {ka kb : Nat} {X Y : Nat → Int} {w0 w w3 : World} {g cap : Nat} {o : Obj} {c : Int} (h : TwoOwn B u v ka kb X Y w0 w) (hc : c = X ka)
    (hown : w3.ownsRow B 3 1 (.slice (some ⟨g, 0, none⟩) (ka + 1) cap) (ka + 1) (intL ka X ++ [.int .i64 c])) (hg : (w.alloc o).grownBy w3 u.ownBlock)
    (hor : u.ownBlock = some g ∨ g = w.heap.size + 1) : TwoOwn B (.slice (some ⟨g, 0, none⟩) (ka + 1) cap) v (ka + 1) kb X Y w0 w3 := by
  subst hc
  have hs : (w.alloc o).heap.size = w.heap.size + 1 := al_size _ _
  refine ⟨by rw [intL_snoc]; exact hown, (h.b.alloc _).kept hg ?_, .inr ?_, Below.grown (h.bel.alloc h.sz _) hg (by have := h.sz; omega) (fun j hj => (h.a.lt j hj).1), by have := hg.size; have := h.sz; omega⟩
  · rcases h.ne with e | e
    · rw [e]; cases hv : v.ownBlock with
      | none => exact .inl rfl
      | some x => exact .inr (by simp)
    · exact .inr (fun e' => e e'.symm)
  · intro e
    have e : some g = v.ownBlock := e
    rcases hor with e2 | e2
    · rcases h.ne with e3 | e3
      · rw [e2] at e3; cases e3
      · exact e3 (e2.trans e)
    · have := (h.b.lt g e.symm).2
      omega
theorem two_b {B : Nat} {u v : Value} {ka kb : Nat} {X Y : Nat → Int} {w0 w w3 : World} {g cap : Nat} {o : Obj} {c : Int} (h : TwoOwn B u v ka kb X Y w0 w) (hc : c = Y kb)
    (hown : w3.ownsRow B 3 1 (.slice (some ⟨g, 0, none⟩) (kb + 1) cap) (kb + 1) (intL kb Y ++ [.int .i64 c])) (hg : (w.alloc o).grownBy w3 v.ownBlock)
    (hor : v.ownBlock = some g ∨ g = w.heap.size + 1) : TwoOwn B u (.slice (some ⟨g, 0, none⟩) (kb + 1) cap) ka (kb + 1) X Y w0 w3 := by
  subst hc
  have hs : (w.alloc o).heap.size = w.heap.size + 1 := al_size _ _
  refine ⟨(h.a.alloc _).kept hg h.ne, by rw [intL_snoc]; exact hown, ?_, Below.grown (h.bel.alloc h.sz _) hg (by have := h.sz; omega) (fun j hj => (h.b.lt j hj).1), by have := hg.size; have := h.sz; omega⟩
  rcases h.ne with e | e
  · exact .inl e
  · refine .inr (fun e1 => ?_)
    have e1 : u.ownBlock = some g := e1
    rcases hor with e2 | e2
    · exact e (e1.trans e2.symm)
    · have := (h.a.lt g e1).2
      omega
end Go.Proofs.YtfhcfdepjhdhfaaDoor
