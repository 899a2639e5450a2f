/-
  A region that draws its order, all of whose operations are quiet (guarded ones, too), inside a fence or a round.
-/
import Derived.Test.YtmeldmmeaiiflaaDoorRL
namespace Go.Proofs.YtmeldmmeaiiflaaDoor
set_option linter.unusedVariables false

section
variable {F : Fence} {n : Nat} {P : Program} {C : World → Prop} {md : Region.Mode}
theorem any_quiet (hfn : ∀ f, F.fn f) (hdp : F.depth = none) (hcl : ∀ f args w R, Calls P f args w R → CallsIn F (n - 1) P f args w R)
    {L : List Oper} (hd : L.all (fun o => !isDefer o.op) = true) {Qa : Act → Prop} {Q : Exit → Act → World → Prop} (hlast : ∀ a w, C w → Qa a → Q .normal a w) :
    ∀ (fuel : Nat) (listed : Array Bool) (a : Act) (w : World), C w → wpAnyQ P md L.toArray C Qa fuel listed a → wpAnyIn F n P md L.toArray Q fuel listed a w := by
  intro fuel
  induction fuel with
  | zero => exact fun listed a w hw h => ⟨h.1, hlast _ _ hw h.2⟩
  | succ fuel ih =>
    intro listed a w hw h
    refine ⟨fun hn => hlast _ _ hw (h.1 hn), fun i hi => ?_⟩
    have hq := h.2 i hi
    unfold qOp at hq
    unfold wpOpIn
    rw [List.getElem?_toArray] at hq ⊢
    cases hL : L[i]? with
    | none =>
      rw [mem_ready, List.getElem?_toArray] at hi
      obtain ⟨_, o', ho', _⟩ := hi
      rw [hL] at ho'; cases ho'
    | some oi =>
      rw [hL] at hq
      simp only at hq ⊢
      have hnd : isDefer oi.op = false := by simpa using List.all_eq_true.1 hd oi (List.mem_of_getElem? hL)
      split
      · rename_i hwt
        rw [if_pos hwt] at hq
        exact wpIn_of_quiet hfn hdp hcl hnd hw (fun a' w' hw' hk => ih _ a' w' hw' hk) hq
      · rename_i hwt
        rw [if_neg hwt] at hq
        exact ⟨fun f _ => hfn f, ih _ _ _ hw hq⟩
/-- THE LAW. -/
theorem region_quiet_in {id : Nat} {L : List Oper} {Q : Exit → Act → World → Prop} {a : Act} {w : World} (hfn : ∀ f, F.fn f) (hdp : F.depth = none) (hcl : ∀ f args w R, Calls P f args w R → CallsIn F (n - 1) P f args w R)
    (hmx : P.follows .mixedOrders = true) (hd : L.all (fun o => !isDefer o.op) = true) (hB : Region.lexB .any L.toArray = true) (hC : C w.drew)
    {Qa : Act → Prop} (h : wpQuiet P L.toArray C Qa L a) (hlast : ∀ a w, C w → Qa a → Q .normal a w) : (Code.region id L.toArray true).wpIn F n P Q a w := by
  simp only [Region.lexB, Bool.and_eq_true] at hB
  have hq := wpAnyQ_lex (C := C) (md := .any) (P := P) (Q := Qa) hB.1 L 0 (Array.replicate L.toArray.size false) a (fun j => by simp) (by have := hB.2; simpa using this) h
  refine wpIn_region_any hmx ?_
  rw [List.size_toArray] at hq ⊢
  exact any_quiet hfn hdp hcl hd hlast _ _ _ _ hC hq
theorem region_quiet_round {id r : Nat} {L : List Oper} {Q : Exit → Act → World → Prop} {a : Act} {w : World}
    (hmx : P.follows .mixedOrders = true) (hd : L.all (fun o => !isDefer o.op) = true) (hB : Region.lexB .any L.toArray = true) (hC : C w.drew)
    {Qa : Act → Prop} (h : wpQuiet P L.toArray C Qa L a) (hlast : ∀ a w, C w → Qa a → Q .normal a w) : (Code.region id L.toArray true).wpIn (Fence.wide.inRound r) n P Q a w :=
  region_quiet_in (fun _ => trivial) rfl (fun f args w R h => CallsIn.inRound r (callsIn_wide.2 h)) hmx hd hB hC h hlast
end
end Go.Proofs.YtmeldmmeaiiflaaDoor
