/-
  A region that draws its order, whose operations are quiet up to the m-th, and in which every later one waits for the one ahead of it, and the m-th (by way of others) for all that are quiet: one walk of the quiet ones, then the rest in the text's order, serves every order.
-/
import Derived.Test.YtgbehapekfoaiaaRL
import Derived.Deep.RegionHeld3
namespace Go.Proofs.Ytgbehapekfoaiaa
set_option linter.unusedVariables false

/-- The same place, but nothing is done there, and nothing kept. -/
def idleN (o : Oper) : Oper := { o with op := .move (.const (.bool true)), dst := none }
/-- All from the m-th on made idle. -/
def idleTail : Nat → List Oper → List Oper
  | _, [] => []
  | 0, o :: r => idleN o :: idleTail 0 r
  | m + 1, o :: r => o :: idleTail m r
theorem idleTail_len : ∀ (m : Nat) (L : List Oper), (idleTail m L).length = L.length
  | _, [] => by simp [idleTail]
  | 0, o :: r => by simp [idleTail, idleTail_len 0 r]
  | m + 1, o :: r => by simp [idleTail, idleTail_len m r]
theorem idleTail_lt : ∀ (m : Nat) (L : List Oper) (i : Nat), i < m → (idleTail m L)[i]? = L[i]?
  | _, [], i, _ => by simp [idleTail]
  | 0, o :: r, i, h => by omega
  | m + 1, o :: r, 0, h => by simp [idleTail]
  | m + 1, o :: r, i + 1, h => by simpa [idleTail] using idleTail_lt m r i (by omega)
theorem idleTail_ge : ∀ (m : Nat) (L : List Oper) (i : Nat), m ≤ i → (idleTail m L)[i]? = (L[i]?).map idleN
  | _, [], i, _ => by simp [idleTail]
  | 0, o :: r, 0, h => by simp [idleTail]
  | 0, o :: r, i + 1, h => by simpa [idleTail] using idleTail_ge 0 r i (by omega)
  | m + 1, o :: r, 0, h => by omega
  | m + 1, o :: r, i + 1, h => by simpa [idleTail] using idleTail_ge m r i (by omega)
theorem idleTail_after (m : Nat) (L : List Oper) (i : Nat) : ((idleTail m L)[i]?).map (·.after) = (L[i]?).map (·.after) := by
  rcases Nat.lt_or_ge i m with h | h
  · rw [idleTail_lt m L i h]
  · rw [idleTail_ge m L i h, Option.map_map]; rfl
theorem idleTail_ready (md : Region.Mode) (m : Nat) (L : List Oper) (listed : Array Bool) (j : Nat) : j ∈ Region.ready md (idleTail m L).toArray listed ↔ j ∈ Region.ready md L.toArray listed := by
  rw [mem_ready, mem_ready, List.getElem?_toArray, List.getElem?_toArray]
  have h := idleTail_after m L j
  constructor
  · rintro ⟨h0, o, ho, h1⟩
    rw [ho] at h
    cases hL : L[j]? with
    | none => rw [hL] at h; cases h
    | some o' =>
      rw [hL] at h
      have e : o.after = o'.after := Option.some.inj h
      exact ⟨h0, o', rfl, by rw [← e]; exact h1⟩
  · rintro ⟨h0, o, ho, h1⟩
    rw [ho] at h
    cases hL : (idleTail m L)[j]? with
    | none => rw [hL] at h; cases h
    | some o' =>
      rw [hL] at h
      have e : o'.after = o.after := Option.some.inj h
      exact ⟨h0, o', rfl, by rw [e]; exact h1⟩

def bindsOn (md : Region.Mode) (o : Oper) (k : Nat) : Bool := o.after.any fun e => Region.binds md e && e.on == k
/-- The quiet ones (but for the first z, which are to come up ahead) are waited for by some one up to the m-th; behind it each waits for the one ahead; each waits for earlier ones alone; none is a defer, none is guarded. -/
def tailB (md : Region.Mode) (z m : Nat) (L : List Oper) : Bool :=
  ((List.range m).all fun k => decide (k < z) || (List.range (m + 1)).any fun j => decide (k < j) && (match L[j]? with | none => false | some o => bindsOn md o k)) &&
  ((List.range L.length).all fun i => !decide (m < i) || (match L[i]? with | none => true | some o => bindsOn md o (i - 1))) &&
  ((List.range L.length).all fun j => match L[j]? with | none => true | some o => !isDefer o.op && o.guard.isNone && o.after.all fun e => !Region.binds md e || decide (e.on < j))
theorem bindsOn_spec {md : Region.Mode} {o : Oper} {k : Nat} (h : bindsOn md o k = true) : ∃ e ∈ o.after, Region.binds md e = true ∧ e.on = k := by
  obtain ⟨e, he, h3⟩ := Array.any_eq_true'.1 h
  simp only [Bool.and_eq_true, beq_iff_eq] at h3
  exact ⟨e, he, h3⟩
theorem tail_up {md : Region.Mode} {z m : Nat} {L : List Oper} (h : tailB md z m L = true) {k : Nat} (hz : z ≤ k) (hk : k < m) : ∃ j o, k < j ∧ j ≤ m ∧ L[j]? = some o ∧ ∃ e ∈ o.after, Region.binds md e = true ∧ e.on = k := by
  simp only [tailB, Bool.and_eq_true] at h
  have h1 := List.all_eq_true.1 h.1.1 k (List.mem_range.2 hk)
  rw [decide_eq_false (show ¬ k < z by omega), Bool.false_or] at h1
  obtain ⟨j, hj, h2⟩ := List.any_eq_true.1 h1
  simp only [Bool.and_eq_true, decide_eq_true_eq] at h2
  cases hL : L[j]? with
  | none => rw [hL] at h2; cases h2.2
  | some o =>
    rw [hL] at h2
    exact ⟨j, o, h2.1, by have := List.mem_range.1 hj; omega, hL, bindsOn_spec h2.2⟩
theorem lt_of_get {L : List Oper} {j : Nat} {o : Oper} (hj : L[j]? = some o) : j < L.length := by
  rcases Nat.lt_or_ge j L.length with h | h
  · exact h
  · rw [List.getElem?_eq_none h] at hj; cases hj
theorem tail_prev {md : Region.Mode} {z m : Nat} {L : List Oper} (h : tailB md z m L = true) {i : Nat} {o : Oper} (hi : m < i) (ho : L[i]? = some o) : ∃ e ∈ o.after, Region.binds md e = true ∧ e.on = i - 1 := by
  simp only [tailB, Bool.and_eq_true] at h
  have h1 := List.all_eq_true.1 h.1.2 i (List.mem_range.2 (lt_of_get ho))
  rw [ho] at h1
  simp only [hi, decide_true, Bool.not_true, Bool.false_or] at h1
  exact bindsOn_spec h1
theorem tail_down {md : Region.Mode} {z m : Nat} {L : List Oper} (h : tailB md z m L = true) {j : Nat} {o : Oper} (hj : L[j]? = some o) : isDefer o.op = false ∧ o.guard = none ∧ ∀ e ∈ o.after, Region.binds md e = true → e.on < j := by
  simp only [tailB, Bool.and_eq_true] at h
  have h1 := List.all_eq_true.1 h.2 j (List.mem_range.2 (lt_of_get hj))
  rw [hj] at h1
  simp only [Bool.and_eq_true, Bool.not_eq_true'] at h1
  refine ⟨h1.1.1, by simpa using h1.1.2, fun e he hb => ?_⟩
  have h2 := Array.all_eq_true'.1 h1.2 e he
  simp only [hb, Bool.not_true, Bool.false_or, decide_eq_true_eq] at h2
  exact h2

/-- All below i have come up, none from i on. -/
def Till (L : List Oper) (i : Nat) (listed : Array Bool) : Prop := listed.size = L.length ∧ (∀ k, k < i → k < L.length → listed.getD k false = true) ∧ ∀ k, i ≤ k → k < L.length → listed.getD k true = false
theorem Till.next {L : List Oper} {i : Nat} {listed : Array Bool} (h : Till L i listed) (hi : i < L.length) : Till L (i + 1) (listed.setIfInBounds i true) := by
  refine ⟨by simp [h.1], fun k hk hl => ?_, fun k hk hl => ?_⟩
  · by_cases e : i = k
    · subst e
      have : i < listed.size := by rw [h.1]; exact hi
      simp [this]
    · exact getD_set_true (h.2.1 k (by omega) hl)
  · have e : i ≠ k := by omega
    rw [getD_set_ne true e]
    exact h.2.2 k (by omega) hl
theorem Till.ready {md : Region.Mode} {z m : Nat} {L : List Oper} (hc : tailB md z m L = true) {i : Nat} {listed : Array Bool} (h : Till L i listed) (hi : i < L.length) : i ∈ Region.ready md L.toArray listed := by
  rw [mem_ready, List.getElem?_toArray]
  obtain ⟨o, ho⟩ : ∃ o, L[i]? = some o := ⟨_, List.getElem?_eq_getElem hi⟩
  refine ⟨h.2.2 i (Nat.le_refl _) hi, o, ho, fun e he hb => ?_⟩
  have hlt := (tail_down hc ho).2.2 e he hb
  exact h.2.1 _ hlt (by omega)
theorem tf_absurd {l : Array Bool} {k : Nat} (h1 : l.getD k true = false) (h2 : l.getD k false = true) : False := by
  rw [getD_tf h2] at h1; cases h1
theorem Till.only {md : Region.Mode} {z m : Nat} {L : List Oper} (hc : tailB md z m L = true) {i j : Nat} {listed : Array Bool} (h : Till L i listed) (hm : m ≤ i) (hj : j ∈ Region.ready md L.toArray listed) : j = i := by
  rw [mem_ready, List.getElem?_toArray] at hj
  obtain ⟨h0, o, ho, hall⟩ := hj
  have hl := lt_of_get ho
  rcases Nat.lt_trichotomy j i with hlt | heq | hgt
  · exact (tf_absurd h0 (h.2.1 j hlt hl)).elim
  · exact heq
  · obtain ⟨e, he, hb, hon⟩ := tail_prev hc (show m < j by omega) ho
    have h1 := hall e he hb
    rw [hon] at h1
    exact (tf_absurd (h.2.2 (j - 1) (by omega) (by omega)) h1).elim
theorem Till.done {md : Region.Mode} {L : List Oper} {i : Nat} {listed : Array Bool} (h : Till L i listed) (hi : L.length ≤ i) : Region.ready md L.toArray listed = [] :=
  ready_nil fun k hk => getD_tf (h.2.1 k (by omega) hk)

section
variable {F : Fence} {n : Nat} {P : Program} {C : World → Prop} {md : Region.Mode}
/-- What the quiet walk says once all quiet ones have come up. -/
theorem tail_q {z m : Nat} {L : List Oper} (hc : tailB md z m L = true) {Qa : Act → Prop} : ∀ (d fuel i : Nat) (listed : Array Bool) (a : Act), i + d = L.length → m ≤ i → Till L i listed → wpAnyQ P md (idleTail m L).toArray C Qa fuel listed a → Qa a ∧ d ≤ fuel := by
  intro d
  induction d with
  | zero =>
    intro fuel i listed a hd hm ht h
    have hnil : Region.ready md (idleTail m L).toArray listed = [] := List.eq_nil_iff_forall_not_mem.2 fun j hj => by
      rw [idleTail_ready, ht.done (by omega)] at hj; cases hj
    cases fuel with
    | zero => exact ⟨h.2, Nat.le_refl _⟩
    | succ f => exact ⟨h.1 hnil, Nat.zero_le _⟩
  | succ d ih =>
    intro fuel i listed a hd hm ht h
    have hi : i < L.length := by omega
    have hr := (idleTail_ready md m L listed i).2 (ht.ready hc hi)
    cases fuel with
    | zero =>
      have := h.1
      rw [this] at hr; cases hr
    | succ f =>
      have hq := h.2 i hr
      obtain ⟨o, ho⟩ : ∃ o, L[i]? = some o := ⟨_, List.getElem?_eq_getElem hi⟩
      unfold qOp at hq
      rw [List.getElem?_toArray, idleTail_ge m L i hm, ho] at hq
      have hput : ∀ v, a.put (idleN o).dst v = a := fun v => rfl
      simp only [Option.map_some] at hq
      have hq' : wpAnyQ P md (idleTail m L).toArray C Qa f (listed.setIfInBounds i true) a := by
        split at hq
        · obtain ⟨v, _, h2⟩ := hq
          rw [hput] at h2; exact h2
        · rw [hput] at hq; exact hq
      have := ih f (i + 1) _ a (by omega) (by omega) (ht.next hi) hq'
      exact ⟨this.1, by omega⟩
/-- The rest in the text's order. -/
theorem tail_run {z m : Nat} {L : List Oper} (hc : tailB md z m L = true) {Q : Exit → Act → World → Prop} : ∀ (d fuel i : Nat) (listed : Array Bool) (a : Act) (w : World), i + d = L.length → m ≤ i → d ≤ fuel → Till L i listed → wpListIn F n P L.toArray Q (L.drop i) a w → wpAnyIn F n P md L.toArray Q fuel listed a w := by
  intro d
  induction d with
  | zero =>
    intro fuel i listed a w hd hm hf ht h
    have hnil : Region.ready md L.toArray listed = [] := ht.done (by omega)
    rw [List.drop_eq_nil_of_le (by omega)] at h
    cases fuel with
    | zero => exact ⟨hnil, h⟩
    | succ f => exact ⟨fun _ => h, fun j hj => by rw [hnil] at hj; cases hj⟩
  | succ d ih =>
    intro fuel i listed a w hd hm hf ht h
    have hi : i < L.length := by omega
    cases fuel with
    | zero => omega
    | succ f =>
      refine ⟨fun hnil => absurd (ht.ready hc hi) (by rw [hnil]; simp), fun j hj => ?_⟩
      obtain rfl := ht.only hc hm hj
      rw [List.drop_eq_getElem_cons hi] at h
      unfold wpOpIn
      rw [List.getElem?_toArray, List.getElem?_eq_getElem hi]
      have hg : Region.wanted L[j] (yielded L.toArray a.tmps) = true := by
        have := (tail_down hc (List.getElem?_eq_getElem hi)).2.1
        simp [Region.wanted, this]
      unfold wpListIn at h
      rw [if_pos hg] at h
      simp only [hg, if_true]
      exact Oper.wpIn_mono (fun a' w' h' => ih f (j + 1) _ a' w' (by omega) (by omega) (by omega) (ht.next hi) h') h
theorem any_tail (hfn : ∀ f, F.fn f) (hdp : F.depth = none) (hcl : ∀ f args w R, Calls P f args w R → CallsIn F (n - 1) P f args w R)
    {L : List Oper} {z m : Nat} (hc : tailB md z m L = true) (hm : m < L.length)
    {Qa : Act → Prop} {Q : Exit → Act → World → Prop} (hlast : ∀ a w, C w → Qa a → wpListIn F n P L.toArray Q (L.drop m) a w) :
    ∀ (fuel : Nat) (listed : Array Bool) (a : Act) (w : World), C w → Good md L listed → (∀ k, k < z → listed.getD k true = true) → (∀ k, m ≤ k → k < L.length → listed.getD k true = false) → wpAnyQ P md (idleTail m L).toArray C Qa fuel listed a → wpAnyIn F n P md L.toArray Q fuel listed a w := by
  intro fuel
  have hall : ∀ (listed : Array Bool), Good md L listed → (∀ k, k < z → listed.getD k true = true) → m ∈ Region.ready md L.toArray listed → ∀ d k, d = m - k → k < m → listed.getD k true = true := by
    intro listed hg hzl hr d
    induction d using Nat.strongRecOn with
    | _ d ih =>
      intro k hd hk
      by_cases hkz : k < z
      · exact hzl k hkz
      obtain ⟨j, o, hj, hjm, ho, e, he, hb, hon⟩ := tail_up hc (by omega) hk
      have hr' := hr
      rw [mem_ready, List.getElem?_toArray] at hr'
      by_cases e1 : j = m
      · subst e1
        obtain ⟨_, o', ho', hall⟩ := hr'
        rw [ho] at ho'
        obtain rfl := Option.some.inj ho'
        have := hall e he hb
        rw [hon] at this
        exact getD_tf this
      · have h1 := ih (m - j) (by omega) j rfl (by omega)
        have := hg.2 j o ho h1 e he hb
        rw [hon] at this
        exact getD_tf this
  have hsome : ∀ (listed : Array Bool), Good md L listed → ∀ k, k < L.length → listed.getD k true = false → Region.ready md L.toArray listed ≠ [] := by
    intro listed hg k
    induction k using Nat.strongRecOn with
    | _ k ih =>
      intro hk h0 hnil
      obtain ⟨o, ho⟩ : ∃ o, L[k]? = some o := ⟨_, List.getElem?_eq_getElem hk⟩
      have hd := (tail_down hc ho).2.2
      have hmem : k ∈ Region.ready md L.toArray listed := by
        rw [mem_ready, List.getElem?_toArray]
        refine ⟨h0, o, ho, fun e he hb => ?_⟩
        have hlt := hd e he hb
        cases hx : listed.getD e.on true with
        | false => exact absurd hnil (ih e.on hlt (by omega) hx)
        | true => exact getD_ft (by rw [hg.1]; omega) hx
      rw [hnil] at hmem; cases hmem
  induction fuel with
  | zero =>
    intro listed a w hw hg hzl h0 h
    exfalso
    refine hsome listed hg m hm (h0 m (Nat.le_refl _) hm) (List.eq_nil_iff_forall_not_mem.2 fun j hj => ?_)
    rw [← idleTail_ready, h.1] at hj; cases hj
  | succ fuel ih =>
    intro listed a w hw hg hzl h0 h
    refine ⟨fun hn => absurd hn (hsome listed hg m hm (h0 m (Nat.le_refl _) hm)), fun i hi => ?_⟩
    have hi' := hi
    rw [mem_ready, List.getElem?_toArray] at hi'
    obtain ⟨hi0, o, ho, hia⟩ := hi'
    have hil := lt_of_get ho
    rcases Nat.lt_trichotomy i m with hlt | heq | hgt
    · have hq := h.2 i ((idleTail_ready md m L listed i).2 hi)
      have hg' := hg.step hi
      have hzl' : ∀ k, k < z → (listed.setIfInBounds i true).getD k true = true := fun k hk => by
        by_cases e : i = k
        · subst e
          have : i < listed.size := by rw [hg.1]; exact hil
          simp [this]
        · rw [getD_set_ne true e]; exact hzl k hk
      have h0' : ∀ k, m ≤ k → k < L.length → (listed.setIfInBounds i true).getD k true = false := fun k hk hl => by rw [getD_set_ne true (show i ≠ k by omega)]; exact h0 k hk hl
      unfold qOp at hq
      unfold wpOpIn
      rw [List.getElem?_toArray, idleTail_lt m L i hlt, ho] at hq
      rw [List.getElem?_toArray, ho]
      have hgn := (tail_down hc ho).2.1
      simp only [Region.wanted, hgn, if_true] at hq ⊢
      exact wpIn_of_quiet hfn hdp hcl (tail_down hc ho).1 hw (fun a' w' hw' hk => ih _ a' w' hw' hg' hzl' h0' hk) hq
    · subst heq
      have ht : Till L i listed := ⟨hg.1, fun k hk hl => getD_ft (by rw [hg.1]; exact hl) (hall listed hg hzl hi _ k rfl hk), h0⟩
      obtain ⟨hqa, hf⟩ := tail_q hc (L.length - i) (fuel + 1) i listed a (by omega) (Nat.le_refl _) ht h
      have := tail_run (F := F) (n := n) (P := P) hc (L.length - i) (fuel + 1) i listed a w (by omega) (Nat.le_refl _) hf ht (hlast a w hw hqa)
      exact this.2 i hi
    · exfalso
      obtain ⟨e, he, hb, hon⟩ := tail_prev hc hgt ho
      have h1 := hia e he hb
      rw [hon] at h1
      exact tf_absurd (h0 (i - 1) (by omega) (by omega)) h1
/-- THE LAW. -/
theorem region_tail {id : Nat} {L : List Oper} {Q : Exit → Act → World → Prop} {a : Act} {w : World} (hfn : ∀ f, F.fn f) (hdp : F.depth = none) (hcl : ∀ f args w R, Calls P f args w R → CallsIn F (n - 1) P f args w R)
    (m : Nat) (hmx : P.follows .mixedOrders = true) (hc : tailB .any 0 m L = true) (hm : m < L.length) (hB : Region.lexB .any (idleTail m L).toArray = true) (hC : C w.drew)
    {Qa : Act → Prop} (h : wpQuiet P (idleTail m L).toArray C Qa (idleTail m L) a) (hlast : ∀ a w, C w → Qa a → wpListIn F n P L.toArray Q (L.drop m) a w) : (Code.region id L.toArray true).wpIn F n P Q a w := by
  simp only [Region.lexB, Bool.and_eq_true] at hB
  have hq := wpAnyQ_lex (C := C) (md := .any) (P := P) (Q := Qa) hB.1 (idleTail m L) 0 (Array.replicate (idleTail m L).toArray.size false) a (fun j => by simp) (by have := hB.2; simpa using this) h
  refine wpIn_region_any hmx ?_
  rw [List.size_toArray, idleTail_len] at hq
  rw [List.size_toArray]
  refine any_tail hfn hdp hcl hc hm hlast _ _ _ _ hC (Good.start _ _) (fun k hk => by omega) (fun k hk hl => ?_) hq
  simp [hl]
/-- The rest in the text's order. -/
theorem tail_runP {z m : Nat} {L : List Oper} (hc : tailB md z m L = true) {Q : Exit → Act → World → Prop} : ∀ (d fuel i : Nat) (listed : Array Bool) (a : Act) (w : World), i + d = L.length → m ≤ i → d ≤ fuel → Till L i listed → wpList P L.toArray Q (L.drop i) a w → wpAny P md L.toArray Q fuel listed a w := by
  intro d
  induction d with
  | zero =>
    intro fuel i listed a w hd hm hf ht h
    have hnil : Region.ready md L.toArray listed = [] := ht.done (by omega)
    rw [List.drop_eq_nil_of_le (by omega)] at h
    cases fuel with
    | zero => exact ⟨hnil, h⟩
    | succ f => exact ⟨fun _ => h, fun j hj => by rw [hnil] at hj; cases hj⟩
  | succ d ih =>
    intro fuel i listed a w hd hm hf ht h
    have hi : i < L.length := by omega
    cases fuel with
    | zero => omega
    | succ f =>
      refine ⟨fun hnil => absurd (ht.ready hc hi) (by rw [hnil]; simp), fun j hj => ?_⟩
      obtain rfl := ht.only hc hm hj
      rw [List.drop_eq_getElem_cons hi] at h
      unfold wpOp
      rw [List.getElem?_toArray, List.getElem?_eq_getElem hi]
      have hg : Region.wanted L[j] (yielded L.toArray a.tmps) = true := by
        have := (tail_down hc (List.getElem?_eq_getElem hi)).2.1
        simp [Region.wanted, this]
      unfold wpList at h
      rw [if_pos hg] at h
      simp only [hg, if_true]
      exact h.imp (Oper.wp_mono (fun a' w' h' => ih f (j + 1) _ a' w' (by omega) (by omega) (by omega) (ht.next hi) h')) id
theorem any_tailP {L : List Oper} {z m : Nat} (hc : tailB md z m L = true) (hm : m < L.length)
    {Qa : Act → Prop} {Q : Exit → Act → World → Prop} (hlast : ∀ a w, C w → Qa a → wpList P L.toArray Q (L.drop m) a w) :
    ∀ (fuel : Nat) (listed : Array Bool) (a : Act) (w : World), C w → Good md L listed → (∀ k, k < z → listed.getD k true = true) → (∀ k, m ≤ k → k < L.length → listed.getD k true = false) → wpAnyQ P md (idleTail m L).toArray C Qa fuel listed a → wpAny P md L.toArray Q fuel listed a w := by
  intro fuel
  have hall : ∀ (listed : Array Bool), Good md L listed → (∀ k, k < z → listed.getD k true = true) → m ∈ Region.ready md L.toArray listed → ∀ d k, d = m - k → k < m → listed.getD k true = true := by
    intro listed hg hzl hr d
    induction d using Nat.strongRecOn with
    | _ d ih =>
      intro k hd hk
      by_cases hkz : k < z
      · exact hzl k hkz
      obtain ⟨j, o, hj, hjm, ho, e, he, hb, hon⟩ := tail_up hc (by omega) hk
      have hr' := hr
      rw [mem_ready, List.getElem?_toArray] at hr'
      by_cases e1 : j = m
      · subst e1
        obtain ⟨_, o', ho', hall⟩ := hr'
        rw [ho] at ho'
        obtain rfl := Option.some.inj ho'
        have := hall e he hb
        rw [hon] at this
        exact getD_tf this
      · have h1 := ih (m - j) (by omega) j rfl (by omega)
        have := hg.2 j o ho h1 e he hb
        rw [hon] at this
        exact getD_tf this
  have hsome : ∀ (listed : Array Bool), Good md L listed → ∀ k, k < L.length → listed.getD k true = false → Region.ready md L.toArray listed ≠ [] := by
    intro listed hg k
    induction k using Nat.strongRecOn with
    | _ k ih =>
      intro hk h0 hnil
      obtain ⟨o, ho⟩ : ∃ o, L[k]? = some o := ⟨_, List.getElem?_eq_getElem hk⟩
      have hd := (tail_down hc ho).2.2
      have hmem : k ∈ Region.ready md L.toArray listed := by
        rw [mem_ready, List.getElem?_toArray]
        refine ⟨h0, o, ho, fun e he hb => ?_⟩
        have hlt := hd e he hb
        cases hx : listed.getD e.on true with
        | false => exact absurd hnil (ih e.on hlt (by omega) hx)
        | true => exact getD_ft (by rw [hg.1]; omega) hx
      rw [hnil] at hmem; cases hmem
  induction fuel with
  | zero =>
    intro listed a w hw hg hzl h0 h
    exfalso
    refine hsome listed hg m hm (h0 m (Nat.le_refl _) hm) (List.eq_nil_iff_forall_not_mem.2 fun j hj => ?_)
    rw [← idleTail_ready, h.1] at hj; cases hj
  | succ fuel ih =>
    intro listed a w hw hg hzl h0 h
    refine ⟨fun hn => absurd hn (hsome listed hg m hm (h0 m (Nat.le_refl _) hm)), fun i hi => ?_⟩
    have hi' := hi
    rw [mem_ready, List.getElem?_toArray] at hi'
    obtain ⟨hi0, o, ho, hia⟩ := hi'
    have hil := lt_of_get ho
    rcases Nat.lt_trichotomy i m with hlt | heq | hgt
    · have hq := h.2 i ((idleTail_ready md m L listed i).2 hi)
      have hg' := hg.step hi
      have hzl' : ∀ k, k < z → (listed.setIfInBounds i true).getD k true = true := fun k hk => by
        by_cases e : i = k
        · subst e
          have : i < listed.size := by rw [hg.1]; exact hil
          simp [this]
        · rw [getD_set_ne true e]; exact hzl k hk
      have h0' : ∀ k, m ≤ k → k < L.length → (listed.setIfInBounds i true).getD k true = false := fun k hk hl => by rw [getD_set_ne true (show i ≠ k by omega)]; exact h0 k hk hl
      unfold qOp at hq
      unfold wpOp
      rw [List.getElem?_toArray, idleTail_lt m L i hlt, ho] at hq
      rw [List.getElem?_toArray, ho]
      have hgn := (tail_down hc ho).2.1
      simp only [Region.wanted, hgn, if_true] at hq ⊢
      exact .inl (Oper.wp_of_quiet hw (fun a' w' hw' hk => ih _ a' w' hw' hg' hzl' h0' hk) hq)
    · subst heq
      have ht : Till L i listed := ⟨hg.1, fun k hk hl => getD_ft (by rw [hg.1]; exact hl) (hall listed hg hzl hi _ k rfl hk), h0⟩
      obtain ⟨hqa, hf⟩ := tail_q hc (L.length - i) (fuel + 1) i listed a (by omega) (Nat.le_refl _) ht h
      have := tail_runP (P := P) hc (L.length - i) (fuel + 1) i listed a w (by omega) (Nat.le_refl _) hf ht (hlast a w hw hqa)
      exact this.2 i hi
    · exfalso
      obtain ⟨e, he, hb, hon⟩ := tail_prev hc hgt ho
      have h1 := hia e he hb
      rw [hon] at h1
      exact tf_absurd (h0 (i - 1) (by omega) (by omega)) h1
/-- THE LAW, plain. -/
theorem region_tail_plain {id : Nat} {L : List Oper} {Q : Exit → Act → World → Prop} {a : Act} {w : World} (m : Nat)
    (hmx : P.follows .mixedOrders = true) (hc : tailB .any 0 m L = true) (hm : m < L.length) (hB : Region.lexB .any (idleTail m L).toArray = true) (hC : C w.drew)
    {Qa : Act → Prop} (h : wpQuiet P (idleTail m L).toArray C Qa (idleTail m L) a) (hlast : ∀ a w, C w → Qa a → wpList P L.toArray Q (L.drop m) a w) : (Code.region id L.toArray true).wp P Q a w := by
  simp only [Region.lexB, Bool.and_eq_true] at hB
  have hq := wpAnyQ_lex (C := C) (md := .any) (P := P) (Q := Qa) hB.1 (idleTail m L) 0 (Array.replicate (idleTail m L).toArray.size false) a (fun j => by simp) (by have := hB.2; simpa using this) h
  refine wp_region_any hmx ?_
  rw [List.size_toArray, idleTail_len] at hq
  rw [List.size_toArray]
  refine any_tailP hc hm hlast _ _ _ _ hC (Good.start _ _) (fun k hk => by omega) (fun k hk hl => ?_) hq
  simp [hl]
theorem held_of_any {Q : Exit → Act → World → Prop} {ops : Array Oper} : ∀ (fuel : Nat) (listed : Array Bool) (a : Act) (w : World), wpAny P md ops Q fuel listed a w → wpAnyH P md ops Q (fun _ => True) fuel listed a w
  | 0, _, _, _, h => h
  | fuel + 1, listed, a, w, h => ⟨h.1, fun i hi => wpOp_mono (fun a' w' h' => ⟨trivial, held_of_any fuel _ a' w' h'⟩) (h.2 i hi)⟩
def tillB (z n : Nat) (listed : Array Bool) : Bool := listed.size == n && (List.range n).all fun k => listed.getD k (!decide (k < z)) == decide (k < z)
theorem till_of {L : List Oper} {z : Nat} {listed : Array Bool} (h : tillB z L.length listed = true) : Till L z listed := by
  simp only [tillB, Bool.and_eq_true, beq_iff_eq] at h
  refine ⟨h.1, fun k hk hl => ?_, fun k hk hl => ?_⟩
  · have := List.all_eq_true.1 h.2 k (List.mem_range.2 hl)
    rw [decide_eq_true hk] at this
    simpa using this
  · have := List.all_eq_true.1 h.2 k (List.mem_range.2 hl)
    rw [decide_eq_false (show ¬ k < z by omega)] at this
    simpa using this
/-- THE LAW, the first z operations having come up ahead (each taken by 'wpAnyH_take'). -/
theorem anyH_tail (z m : Nat) {L : List Oper} {Q : Exit → Act → World → Prop} {a : Act} {w : World} {fuel : Nat} {listed : Array Bool} (hf : fuel + z = L.length) (hl : tillB z L.length listed = true)
    (hc : tailB .any z m L = true) (hm : m < L.length) (hzm : z ≤ m) (hs : Region.noSelect (idleTail m L).toArray = true) (hB : Region.lexFrom .any (idleTail m L).toArray ((idleTail m L).drop z).length z listed = true) (hC : C w)
    {Qa : Act → Prop} (h : wpQuiet P (idleTail m L).toArray C Qa ((idleTail m L).drop z) a) (hlast : ∀ a w, C w → Qa a → wpList P L.toArray Q (L.drop m) a w) : wpAnyH P .any L.toArray Q (fun _ => True) fuel listed a w := by
  have ht := till_of hl
  have hq := wpAnyQ_lex (C := C) (md := .any) (P := P) (Q := Qa) hs ((idleTail m L).drop z) z listed a (fun j => by simp [List.getElem?_drop]) hB h
  have hfe : ((idleTail m L).drop z).length = fuel := by rw [List.length_drop, idleTail_len]; omega
  rw [hfe] at hq
  refine held_of_any _ _ _ _ (any_tailP hc hm hlast _ _ _ _ hC ⟨ht.1, fun j o hj hx e he hb => ?_⟩ (fun k hk => getD_tf (ht.2.1 k hk (by omega))) (fun k hk hkl => ht.2.2 k (by omega) hkl) hq)
  have hjl := lt_of_get hj
  have hjz : j < z := by
    rcases Nat.lt_or_ge j z with h | h
    · exact h
    · rw [ht.2.2 j h hjl] at hx; cases hx
  have hlt := (tail_down hc hj).2.2 e he hb
  exact ht.2.1 _ (by omega) (by omega)
end
end Go.Proofs.Ytgbehapekfoaiaa
