/-
  The program's Deltas.
-/
import Derived.Test.YtfpbmgejjnifmaaENC
import Derived.Test.YtfpbmgejjnifmaaOI
namespace Go.Proofs.Ytfpbmgejjnifmaa
open Go.ChangeShapes Go.WideShapes Go.ChangeAt Go.RowKit
set_option linter.unusedVariables false

/-- What is told of the first k, and noughts. -/
def tilF (k : Nat) (F : Nat → Int) : Nat → Int := fun j => if j < k then F j else 0
theorem til_set (k : Nat) (F : Nat → Int) : upd (tilF k F) k (F k) = tilF (k + 1) F := by
  funext j
  simp only [upd, tilF]
  by_cases e : j = k
  · subst e; simp
  · rw [if_neg e]
    by_cases h : j < k
    · rw [if_pos h, if_pos (by omega)]
    · rw [if_neg h, if_neg (by omega)]
theorem til_all (F : Nat → Int) (n : Nat) : ∀ j, j < n → tilF n F j = F j := fun j hj => by simp [tilF, hj]
/-- On the way: k numbers are told in block r; what both functions share stands from block g on. -/
structure ES (B r g : Nat) (i : Bool) (a : Option Addr) (len cap : Nat) (F : Nat → Int) (q : Int) (k : Nat) (w wr : World) : Prop where
  row : RowAt r 13 (tilF k F) wr
  ex : ExpAt g i a len cap q wr
  bel : Below B w wr
  lo : B ≤ r ∧ r < g
theorem ES.tr {B r g : Nat} {i : Bool} {a : Option Addr} {len cap : Nat} {F : Nat → Int} {q : Int} {k : Nat} {w wr w' : World} (h : ES B r g i a len cap F q k w wr) (hb : Below wr.heap.size wr w') : ES B r g i a len cap F q k w w' :=
  ⟨h.row.below hb, h.ex.below hb, h.bel.trans (hb.mono (by have := h.lo; have := h.ex.lt; omega)), h.lo⟩
theorem ES.put {B r g : Nat} {i : Bool} {a : Option Addr} {len cap : Nat} {F : Nat → Int} {q : Int} {k : Nat} {w wr : World} (h : ES B r g i a len cap F q k w wr) (hk : k < 13) {v : Int} (hv : v = F k) : ES B r g i a len cap F q (k + 1) w (wr.setCell ⟨r, k, none⟩ (.int .i64 v)) := by
  subst hv
  have := h.row.set hk (F k)
  rw [til_set] at this
  exact ⟨this, h.ex.other h.lo.2 _, h.bel.setCell (p := ⟨r, k, none⟩) h.lo.1 _, h.lo⟩
theorem ES.tell {B r g : Nat} {i : Bool} {a : Option Addr} {len cap : Nat} {F : Nat → Int} {q : Int} {k : Nat} {w wr : World} (h : ES B r g i a len cap F q k w wr) (x : Int) : ES B r g i a len cap F x k w (wr.setCell ⟨g + 2, 0, none⟩ (.int .i64 x)) :=
  ⟨h.row.other (show r ≠ g + 2 by have := h.lo; omega) _, h.ex.tell x, h.bel.setCell (p := ⟨g + 2, 0, none⟩) (show B ≤ g + 2 by have := h.lo; omega) _, h.lo⟩
theorem ES.start {g : Nat} {i : Bool} {a : Option Addr} {len cap : Nat} (F : Nat → Int) {q : Int} {w w2 : World} (hg : g = (w.alloc (.cells (rowA 13 (fun _ => 0)) 3)).heap.size) (he : ExpAt g i a len cap q w2) (hb : Below (w.alloc (.cells (rowA 13 (fun _ => 0)) 3)).heap.size (w.alloc (.cells (rowA 13 (fun _ => 0)) 3)) w2) :
    ES w.heap.size w.heap.size g i a len cap F q 0 w w2 := by
  have hr : RowAt w.heap.size 13 (fun _ => 0) (w.alloc (.cells (rowA 13 (fun _ => 0)) 3)) := al_new w _
  refine ⟨(hr.congr (fun j _ => by simp [tilF])).below hb, he, ((Below.refl _ w).alloc (Nat.le_refl _) _).trans (hb.mono (by rw [al_size]; omega)), Nat.le_refl _, by rw [hg, al_size]; omega⟩
theorem aside_of {i : Bool} {len : Nat} {P : Nat → Int} (h : eSideB i len P = true) : (i = false → len = 13) ∧ Aside i P := by
  cases i with
  | true => exact ⟨fun h => (by cases h), fun h => by cases h⟩
  | false =>
    simp [eSideB, eRightB] at h
    exact ⟨fun _ => h.1, fun _ => (allIn_iff _ _ _ _).1 h.2⟩
theorem right_yes {C : Nat → Int} (h : eRightB 13 C = true) : ∀ b, b < 13 → 0 ≤ C b ∧ C b ≤ 23 := by
  simp [eRightB] at h
  exact (allIn_iff _ _ _ _).1 h
set_option maxRecDepth 100000 in
theorem deltas_yes (i : Bool) (a : Option Addr) (len cap : Nat) (P : Nat → Int) (ml : len ≤ maxLen) (hs : eSideB i len P = true) (a' : Option Addr) (cap' : Nat) (C : Nat → Int) (hC : eRightB 13 C = true) (w : World) (h : IsInts w a len cap P) (h' : IsInts w a' 13 cap' C) :
    Calls Try.prog 11 #[.bool i, .slice a len cap, .slice a' 13 cap'] w (OPost 13 (dltF i P C) w) := by
  obtain ⟨hp, ha⟩ := aside_of hs
  have hR := right_yes hC
  have K1 := hid (right_any a' 13 cap' C (by decide) w h')
  have K2 := hid (beside_any i a len cap P ml w h)
  rw [hC] at K1
  rw [hs] at K2
  have hmk : ∀ w, (Instr.makeSlice 22 (.int .i64 13) (.int .i64 13)).run Try.prog w = .ok (.slice (some ⟨w.heap.size, 0, none⟩) 13 13) (w.alloc (.cells (rowA 13 (fun _ => 0)) 3)) := make_ints (n := 13) (by omega)
  have hb1 : Below w.heap.size w (w.alloc (.cells (rowA 13 (fun _ => 0)) 3)) := (Below.refl _ w).alloc (Nat.le_refl _) _
  have K3 := hid (expecting_any i a len cap P hp _ (h.below hb1))
  obtain ⟨cb, co, rfl, hcc⟩ := h'.cells (by omega)
  have HC := hid hcc
  have HI := hid h
  have HP := hid (And.intro hp ha)
  have HR := hid hR
  have HK := hid (fun k (hk : k < 13) => prev_bd ha hR hk)
  clear h h' hs hC hp ha hR hb1 hcc
  go_enter Try.func11, Try.ntmps11
  go_wp2_with (fail)
  refine Calls.mono K1.out ?_
  rintro e w1 ⟨rfl, rfl⟩
  go_wp2_with (fail)
  refine Calls.mono K2.out ?_
  rintro e w1 ⟨rfl, rfl⟩
  go_wp2_with (fail)
  refine Calls.mono K3.out ?_
  rintro e w2 ⟨rfl, he, hb2⟩
  obtain ⟨g, hg⟩ : ∃ g, g = (w1.alloc (.cells (rowA 13 (fun _ => 0)) 3)).heap.size := ⟨_, rfl⟩
  rw [← hg] at he ⊢
  have HS := hid (ES.start (dltF i P C) hg he hb2)
  clear he hb2 hg K1 K2 K3 hmk
  have hbw := fun W hW => HI.out.below (w' := W) hW
  go_wp2
  go_loopw [32] (fun k wr => ∃ n : Nat, n ≤ 13 ∧ k = .int .i64 n ∧ Hid (ES w1.heap.size w1.heap.size g i a len cap (dltF i P C) (prevF i P C n) n w1 wr)) (fun k _ => 13 - (intOf k).toNat)
  case atStart => exact ⟨0, by omega, rfl, HS⟩
  case round =>
    clear HS
    obtain ⟨k, hk, rfl, HE⟩ := hrel
    by_cases hlt : k < 13
    · have hx := HC.out wr HE.out.bel k hlt
      have hxb := HR.out k hlt
      have hqb := HK.out k hlt
      have hlow := HE.out.lo
      have KE := hid (expected_any i a len cap P HP.out.1 HP.out.2 (prevF i P C k) hqb k hlt g wr (hbw wr HE.out.bel) HE.out.ex)
      have heb := exp_bd HP.out.2 hqb.1 hqb.2 hlt
      have HD := hid (show C k - expL i P (prevF i P C k) k = dltF i P C k from rfl)
      have HN := hid (show C k = prevF i P C (k + 1) from rfl)
      generalize expL i P (prevF i P C k) k = z at KE heb HD
      generalize C k = x at hx hxb HD HN
      clear hqb
      go_wp2_with (fail)
      refine Calls.mono KE.out ?_
      rintro e w3 ⟨rfl, hb3⟩
      have HE3 := hid (HE.out.tr hb3)
      have hcell := HE3.out.row.get hlt
      have hfro := HE3.out.row.frozen k
      clear hb3 HE KE
      go_wp2_with (fail)
      have HE4 := hid (HE3.out.put hlt HD.out)
      refine Calls.mono (keep_any x i a len cap _ g _ HE4.out.ex) ?_
      rintro e w5 ⟨rfl, hw5⟩
      have HE5 := hid (HE4.out.tell x)
      rw [← hw5, HN.out] at HE5
      clear HE4 hw5 hcell hfro hx
      go_wp2
      exact ⟨⟨k + 1, by omega, by go_num, HE5⟩, by simp [intOf]; omega⟩
    · obtain rfl : k = 13 := by omega
      go_wp2
      go_ret
      have hr := HE.out.row
      exact ⟨_, _, rfl, (hr.congr (til_all _ 13)).ints (by decide), HE.out.bel, fun x hx => by cases hx; exact Nat.le_refl _⟩
/-- Of others there is none. -/
theorem deltas_no (i : Bool) (a : Option Addr) (len cap : Nat) (P : Nat → Int) (ml : len ≤ maxLen) (a' : Option Addr) (len' cap' : Nat) (ml' : len' ≤ maxLen) (C : Nat → Int) (hn : (eRightB len' C && eSideB i len P) = false) (w : World) (h : IsInts w a len cap P) (h' : IsInts w a' len' cap' C) :
    Calls Try.prog 11 #[.bool i, .slice a len cap, .slice a' len' cap'] w fun e w' => e = .returned (.slice none 0 0) ∧ w' = w := by
  have K1 := hid (right_any a' len' cap' C ml' w h')
  have K2 := hid (beside_any i a len cap P ml w h)
  clear h h'
  cases hR : eRightB len' C with
  | false =>
    rw [hR] at K1
    clear K2
    go_enter Try.func11, Try.ntmps11
    go_wp2_with (fail)
    refine Calls.mono K1.out ?_
    rintro e w1 ⟨rfl, rfl⟩
    go_wp2
    go_ret
    exact ⟨rfl, rfl⟩
  | true =>
    have hS : eSideB i len P = false := by simpa [hR] using hn
    rw [hR] at K1
    rw [hS] at K2
    go_enter Try.func11, Try.ntmps11
    go_wp2_with (fail)
    refine Calls.mono K1.out ?_
    rintro e w1 ⟨rfl, rfl⟩
    go_wp2_with (fail)
    refine Calls.mono K2.out ?_
    rintro e w1 ⟨rfl, rfl⟩
    go_wp2
    go_ret
    exact ⟨rfl, rfl⟩
end Go.Proofs.Ytfpbmgejjnifmaa
