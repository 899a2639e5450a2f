/-
  The contract of rc.Coder.Code.
-/
import Derived.Test.YtdfpmhdgebajfaaDoorG2
import Derived.Deep.LoopGhost
namespace Go.Proofs.YtdfpmhdgebajfaaDoor
open Go.ChangeShapes Go.WideShapes Go.ChangeAt Go.RowKit
set_option linter.unusedVariables false
set_option maxRecDepth 100000

/-- The told octets and what is kept of them; nothing is carried to a 255 any more. -/
structure Kept (s : Co) (set : List UInt8) (sm : Bool) (last : UInt8) (beh : Nat) : Prop where
  told : s.T = set ++ openL sm last beh
  none : sm = false → set = [] ∧ beh = 0
  full : (sm = false ∨ last = 255) → s.low + s.rng ≤ 4294967296
/-- Block g (one from B on) is a Coder in the state s. -/
def CoAt (B g : Nat) (s : Co) (w : World) : Prop :=
  ∃ set sm last beh, ToAt B g (lacks s.rng) (.int .i64 (s.low : Int)) set sm last beh w ∧ Kept s set sm last beh
theorem CoAt.below {B g : Nat} {s : Co} {w w' : World} (h : CoAt B g s w) (hb : Below w.heap.size w w') : CoAt B g s w' := by
  obtain ⟨set, sm, last, beh, h1, h2⟩ := h
  exact ⟨set, sm, last, beh, h1.below hb, h2⟩
theorem CoAt.keep {B g : Nat} {s : Co} {w w' : World} (h : CoAt B g s w)
    (hk : ∀ (k : Nat) (c : Array Value) (t : TypeId) (f : Nat × Nat), w.heap[k]? = some (Obj.cells c t f) → t = 33 ∨ t = 104 ∨ t = 5 → w'.heap[k]? = w.heap[k]?) : CoAt B g s w' := by
  obtain ⟨set, sm, last, beh, h1, h2⟩ := h
  exact ⟨set, sm, last, beh, BuAt.keep h1 hk, h2⟩
theorem CoAt.lt {B g : Nat} {s : Co} {w : World} (h : CoAt B g s w) : g < w.heap.size := by
  obtain ⟨set, sm, last, beh, h1, h2⟩ := h
  exact BuAt.lt h1
theorem CoAt.ge {B g : Nat} {s : Co} {w : World} (h : CoAt B g s w) : B ≤ g := by
  obtain ⟨set, sm, last, beh, h1, h2⟩ := h
  exact h1.1
theorem co_new (w : World) (B : Nat) (hB : B ≤ w.heap.size) : CoAt B w.heap.size zeroC (w.alloc (.cells #[.int .i64 0, .int .i64 0, .pointer none, .int .i64 0, .bool false, .int .u8 0, .int .i64 0] 33)) :=
  ⟨[], false, 0, 0, ⟨hB, .inl ⟨rfl, heap_alloc_new w _⟩⟩, rfl, fun _ => ⟨rfl, rfl⟩, fun _ => by decide⟩
theorem CoAt.cells {B g : Nat} {s : Co} {w : World} (h : CoAt B g s w) : w.cell? ⟨g, 0, none⟩ = some (lacks s.rng) ∧ w.cell? ⟨g, 1, none⟩ = some (.int .i64 (s.low : Int)) ∧ w.frozen? ⟨g, 0, none⟩ = false ∧ w.frozen? ⟨g, 1, none⟩ = false := by
  obtain ⟨set, sm, last, beh, h1, h2⟩ := h
  obtain ⟨c0, c1, c4, c5, c6⟩ := BuAt.cell h1
  exact ⟨c0, c1, BuAt.frozen h1 0, BuAt.frozen h1 1⟩
theorem kept_len {s : Co} {set : List UInt8} {sm : Bool} {last : UInt8} {beh : Nat} (h : Kept s set sm last beh) : set.length + beh ≤ s.T.length := by
  rw [h.told]
  cases sm with
  | false => have := h.none rfl; simp [this.1, this.2]
  | true => simp [openL]
/-- carry, of a coder to which one is carried. -/
theorem carry_any (B g : Nat) (s : Co) (low n : Nat) (w : World) (set : List UInt8) (sm : Bool) (last : UInt8) (beh : Nat) (h : ToAt B g (lacks n) (.int .i64 (low : Int)) set sm last beh w) (k : Kept s set sm last beh)
    (hc : 4294967296 < s.low + s.rng) (hB : B ≤ w.heap.size) (hl : s.T.length ≤ 3000) (hn : low + n ≤ 4294967296) :
    Calls Tryd.prog 58 #[.pointer (some ⟨g, 2, none⟩)] w fun e w' => e = .returned (.tuple #[]) ∧ CoAt B g ⟨car s.T, low, n⟩ w' ∧ Fr B w w' := by
  have hsm : sm = true := by
    cases sm with
    | true => rfl
    | false => have := k.full (.inl rfl); omega
  have hla : last ≠ 255 := fun e => by have := k.full (.inr e); omega
  subst hsm
  have hlen := kept_len k
  cases beh with
  | zero =>
    refine (carry_zero B g _ _ set true last w h hla).mono ?_
    rintro e w' ⟨rfl, h1, f1⟩
    refine ⟨rfl, ⟨set, true, last + 1, 0, h1, ?_, fun e => (by cases e), fun _ => hn⟩, f1⟩
    show car s.T = _
    rw [k.told]
    simp only [openL, if_true, List.replicate_zero]
    rw [car_snoc, if_neg hla]
  | succ m =>
    refine (carry_more B g _ _ set true last m w h hla hB (by omega)).mono ?_
    rintro e w' ⟨rfl, h1, f1⟩
    refine ⟨rfl, ⟨_, true, 0, 0, h1, ?_, fun e => (by cases e), fun e => absurd e (by decide)⟩, f1⟩
    show car s.T = _
    rw [k.told]
    simp only [openL, if_true, List.replicate_zero]
    rw [show set ++ last :: List.replicate (m + 1) 255 = (set ++ [last]) ++ List.replicate (m + 1) 255 by simp, car_ffs, car_snoc, if_neg hla, List.replicate_succ']
    simp
/-- tell, of the highest octet. -/
theorem tell_any (B g : Nat) (s : Co) (n : Nat) (w : World) (set : List UInt8) (sm : Bool) (last : UInt8) (beh : Nat) (h : ToAt B g (lacks n) (.int .i64 (s.low : Int)) set sm last beh w) (k : Kept s set sm last beh)
    (hB : B ≤ w.heap.size) (hl : s.T.length ≤ 3000) (hlow : s.low < 4294967296) :
    Calls Tryd.prog 59 #[.pointer (some ⟨g, 2, none⟩), .int .u8 ((s.low / 16777216 : Nat) : Int)] w fun e w' => e = .returned (.tuple #[]) ∧
      (∃ set' last' beh', ToAt B g (lacks n) (.int .i64 (s.low : Int)) set' true last' beh' w' ∧ Kept (wid1 s) set' true last' beh') ∧ Fr B w w' := by
  have hlen := kept_len k
  have ho : (UInt8.ofNat (s.low / 16777216)).toNat = s.low / 16777216 := by rw [ofNat_toNat]; omega
  have hv : (((s.low / 16777216 : Nat) : Int)) = ((UInt8.ofNat (s.low / 16777216)).toNat : Int) := by rw [ho]
  have hw : ∀ last' : UInt8, last' = UInt8.ofNat (s.low / 16777216) ∨ (last' = last ∧ UInt8.ofNat (s.low / 16777216) = 255) → (sm = false ∨ sm = true ∧ last' = last ∧ UInt8.ofNat (s.low / 16777216) = 255 ∨ last' ≠ 255) → (true = false ∨ last' = 255) → (wid1 s).low + (wid1 s).rng ≤ 4294967296 := by
    intro last' h1 h2 h3
    have h3' : last' = 255 := by rcases h3 with h3 | h3; cases h3; exact h3
    have o255 : UInt8.ofNat (s.low / 16777216) = 255 := by
      rcases h1 with h1 | h1
      · rw [← h1]; exact h3'
      · exact h1.2
    have hlo : s.low / 16777216 = 255 := by rw [← ho, o255]; rfl
    have hf : s.low + s.rng ≤ 4294967296 := by
      rcases h2 with h2 | h2 | h2
      · exact k.full (.inl h2)
      · exact k.full (.inr (by rw [← h2.2.1]; exact h3'))
      · exact absurd h3' h2
    show s.low % 16777216 * 256 + s.rng * 256 ≤ 4294967296
    omega
  rw [hv]
  cases sm with
  | false =>
    obtain ⟨rfl, rfl⟩ := k.none rfl
    refine (tell_first B g _ _ [] last 0 _ w h).mono ?_
    rintro e w' ⟨rfl, h1, f1⟩
    refine ⟨rfl, ⟨[], _, 0, h1, ?_, fun e => (by cases e), hw _ (.inl rfl) (.inl rfl)⟩, f1⟩
    show s.T ++ [_] = _
    rw [k.told]
    simp [openL]
  | true =>
    by_cases h255 : UInt8.ofNat (s.low / 16777216) = 255
    · rw [h255]
      refine (tell_ff B g _ _ set last beh w h (by omega)).mono ?_
      rintro e w' ⟨rfl, h1, f1⟩
      refine ⟨rfl, ⟨set, last, beh + 1, h1, ?_, fun e => (by cases e), hw _ (.inr ⟨rfl, h255⟩) (.inr (.inl ⟨rfl, rfl, h255⟩))⟩, f1⟩
      show s.T ++ [_] = _
      rw [k.told, h255]
      simp [openL, List.replicate_succ']
    · refine (tell_put B g _ _ set last beh _ w h h255 hB (by omega)).mono ?_
      rintro e w' ⟨rfl, h1, f1⟩
      refine ⟨rfl, ⟨_, _, 0, h1, ?_, fun e => (by cases e), hw _ (.inl rfl) (.inr (.inr h255))⟩, f1⟩
      show s.T ++ [_] = _
      rw [k.told]
      simp [openL]
theorem wid_step {s : Co} (h : s.Half) (hr : s.rng < 16777216) : widC 3 s = widC 3 (wid1 s) ∧ (wid1 s).Half := by
  have h1 : (wid1 s).Half := ⟨wid1_low s, by show 256 ≤ s.rng * 256; have := h.lo; omega, by show s.rng * 256 < 4294967296; omega⟩
  refine ⟨?_, h1⟩
  have hl := h.lo
  have er : (wid1 s).rng = s.rng * 256 := rfl
  rw [widC_three h, widC_three h1, if_neg (by omega), er]
  by_cases k : 65536 ≤ s.rng
  · rw [if_pos k, if_pos (by omega)]
  · rw [if_neg k, if_neg (by omega), if_pos (by omega)]
theorem wid1_len2 {s : Co} (h : s.Half) : (widC 3 s).T.length ≤ s.T.length + 2 := by
  rw [widC_three h]
  split
  · omega
  · split
    · rw [wid1_len]; omega
    · rw [wid1_len, wid1_len]; omega

theorem code_none (lo hi t : Int) (w : World) : Calls Tryd.prog 42 #[.pointer none, .int .i64 lo, .int .i64 hi, .int .i64 t] w fun e w' => e = .returned (.tuple #[]) ∧ w' = w := by
  go_enter Tryd.func42, Tryd.ntmps42
  go_wp2
  (try simp only [Exit.inBlock, Exit.then])
  refine bodyPost_ret (results_none rfl _ _ _) rfl ?_
  exact ⟨rfl, rfl⟩
theorem code_not (g : Nat) (lo hi t : Int) (w : World) (hp : isP lo hi t = false) : Calls Tryd.prog 42 #[.pointer (some ⟨g, 0, none⟩), .int .i64 lo, .int .i64 hi, .int .i64 t] w fun e w' => e = .returned (.tuple #[]) ∧ w' = w := by
  go_enter Tryd.func42, Tryd.ntmps42
  go_wp2_with (go_at_call 54; refine (ispart_any lo hi t _).mono ?_; rintro e w' ⟨rfl, rfl⟩; rw [hp])
  (try simp only [Exit.inBlock, Exit.then])
  refine bodyPost_ret (results_none rfl _ _ _) rfl ?_
  exact ⟨rfl, rfl⟩
theorem and_full (a : Nat) (ha : a < 1099511627776) : bits .and .i64 (a : Int) 4294967295 = ((a % 4294967296 : Nat) : Int) := by
  have h1 : (BitVec.ofInt 64 (a : Int)).toNat = a := by
    rw [BitVec.ofInt_natCast, BitVec.toNat_ofNat]; exact Nat.mod_eq_of_lt (by omega)
  have h2 : (BitVec.ofInt 64 (4294967295 : Int)).toNat = 4294967295 := by decide
  have h3 : a &&& 4294967295 = a % 4294967296 := Nat.and_two_pow_sub_one_eq_mod a 32
  show IntKind.i64.wrap ((BitVec.ofInt 64 (a : Int) &&& BitVec.ofInt 64 (4294967295 : Int)).toNat : Int) = _
  rw [BitVec.toNat_and, h1, h2, h3]
  simp [IntKind.wrap, IntKind.signed, IntKind.bits]
  omega
theorem wrap_add (a b : Nat) (ha : a ≤ 4294967296) (hb : b ≤ 4294967296) : IntKind.i64.wrap ((a : Int) + (b : Int)) = (a : Int) + (b : Int) := by
  simp [IntKind.wrap, IntKind.signed, IntKind.bits]
  omega
theorem wid_len_ge {s : Co} (h : s.Half) : s.T.length ≤ (widC 3 s).T.length := by
  rw [widC_three h]
  split
  · omega
  · split
    · rw [wid1_len]; omega
    · rw [wid1_len, wid1_len]; omega
theorem wrap_top (n : Nat) (h : n < 4294967296) : IntKind.u8.wrap ((n : Int) / 16777216) = (n : Int) / 16777216 := by
  simp [IntKind.wrap, IntKind.signed, IntKind.bits]
  omega
theorem and_low (n : Nat) (h : n < 4294967296) : bits .and .i64 ((n : Int) * 256) 4294967295 = (((n % 16777216 * 256 : Nat)) : Int) := by
  rw [show (n : Int) * 256 = ((n * 256 : Nat) : Int) by omega, and_full (n * 256) (by omega)]
  omega
theorem wrap_sub (a b : Nat) (ha : a ≤ 4294967296) (hb : b ≤ 4294967296) (h : 4294967296 ≤ a + b) : IntKind.i64.wrap ((a : Int) + (b : Int) - 4294967296) = (a : Int) + (b : Int) - 4294967296 := by
  simp [IntKind.wrap, IntKind.signed, IntKind.bits]
  omega
set_option maxHeartbeats 2000000 in
/-- The loop's widenings, and the whole of Code. -/
theorem code_at (B g : Nat) (s : Co) (lo hi t : Nat) (w : World) (h : CoAt B g s w) (ok : s.Ok) (p : IsPart lo hi t) (hB : B ≤ w.heap.size) (hl : s.T.length ≤ 2000) :
    Calls Tryd.prog 42 #[.pointer (some ⟨g, 0, none⟩), .int .i64 (lo : Int), .int .i64 (hi : Int), .int .i64 (t : Int)] w fun e w' => e = .returned (.tuple #[]) ∧ CoAt B g (codeC s lo hi t) w' ∧ Fr B w w' := by
  have hp := part_isP p
  obtain ⟨set, sm, last, beh, h1, k1⟩ := h
  obtain ⟨c0, c1, c4, c5, c6⟩ := BuAt.cell h1
  have f0 := BuAt.frozen h1 0
  have f1 := BuAt.frozen h1 1
  have hlow := ok.low
  have hrng := ok.hi
  have pf := part_facts hrng p
  have pn := narrow_ge ok.lo p
  have hR : (s.rng / t * lo : Nat) ≤ 4294967295 := by omega
  have HN : Hid (Calls Tryd.prog 55 #[.pointer (some ⟨g, 0, none⟩), .int .i64 (lo : Int), .int .i64 (hi : Int), .int .i64 (t : Int)] w.drew fun e w' => e = .returned (.int .i64 ((s.rng / t * lo : Nat) : Int)) ∧ w' = w.drew.setCell ⟨g, 0, none⟩ (lacks (narrowN s.rng lo hi t))) :=
    narrow_any g s.rng lo hi t w.drew c0 f0 hrng p
  have H1 : Hid (ToAt B g (lacks s.rng) (.int .i64 (s.low : Int)) set sm last beh w) := h1
  have K1 : Hid (Kept s set sm last beh) := k1
  have OK : Hid s.Ok := ok
  have PP : Hid (IsPart lo hi t) := p
  have PF : Hid (s.rng / t * lo + narrowN s.rng lo hi t ≤ s.rng) := pf.2.2.2
  have PN : Hid (256 ≤ narrowN s.rng lo hi t) := pn
  clear h1 k1 c4 c5 c6 pf pn ok p
  have hli : (s.low : Int) ≤ 4294967295 := by omega
  generalize hA : s.rng / t * lo = A at *
  have hAi : (A : Int) ≤ 4294967295 := by omega
  have H2 : ToAt B g (lacks (narrowN s.rng lo hi t)) (.int .i64 (s.low : Int)) set sm last beh (w.setCell ⟨g, 0, none⟩ (lacks (narrowN s.rng lo hi t))) := BuAt.set0 H1.out _
  have F2 : Fr B w (w.setCell ⟨g, 0, none⟩ (lacks (narrowN s.rng lo hi t))) := BuAt.fr H1.out (Fr.refl B w) _ _
  have H3 : Hid (ToAt B g (lacks (narrowN s.rng lo hi t)) (.int .i64 ((s.low : Int) + (A : Int))) set sm last beh (((w.setCell ⟨g, 0, none⟩ (lacks (narrowN s.rng lo hi t))).setCell ⟨g, 1, none⟩ (.int .i64 ((s.low : Int) + (A : Int)))))) := BuAt.set1 H2 _
  have F3 : Hid (Fr B w (((w.setCell ⟨g, 0, none⟩ (lacks (narrowN s.rng lo hi t))).setCell ⟨g, 1, none⟩ (.int .i64 ((s.low : Int) + (A : Int)))))) := BuAt.fr H2 F2 _ _
  clear H2 F2
  have hwr : IntKind.i64.wrap ((s.low : Int) + (A : Int)) = (s.low : Int) + (A : Int) := wrap_add s.low A (by omega) (by omega)
  have HH : Hid (partC s lo hi t).Half := part_half OK.out PP.out
  by_cases hcase : s.low + A < 4294967296
  · have hd : decide ((s.low : Int) + (A : Int) > 4294967295) = false := decide_eq_false (by omega)
    have hpc : partC s lo hi t = ⟨s.T, s.low + A, narrowN s.rng lo hi t⟩ := by unfold partC; rw [hA, if_pos hcase]
    have HQ : Hid (CoAt B g (partC s lo hi t) (((w.setCell ⟨g, 0, none⟩ (lacks (narrowN s.rng lo hi t))).setCell ⟨g, 1, none⟩ (.int .i64 ((s.low : Int) + (A : Int)))).drew)) := by
      show CoAt _ _ _ _
      rw [hpc]
      refine ⟨set, sm, last, beh, BuAt.drewN H3.out 1, K1.out.told, K1.out.none, fun e => ?_⟩
      have := K1.out.full e
      have := PF.out
      show s.low + A + narrowN s.rng lo hi t ≤ _
      omega
    have FQ : Hid (Fr B w (((w.setCell ⟨g, 0, none⟩ (lacks (narrowN s.rng lo hi t))).setCell ⟨g, 1, none⟩ (.int .i64 ((s.low : Int) + (A : Int)))).drew)) := F3.out.drew
    go_enter Tryd.func42, Tryd.ntmps42
    go_wp2_with (go_at_call 54; refine (ispart_any lo hi t _).mono ?_; rintro e w' ⟨rfl, he⟩; rw [hp, he]; clear he w')
    go_region_with (first | (go_at_call 55; refine HN.out.mono ?_; rintro e w2 ⟨rfl, rfl⟩))
    · go_wp2
      go_loopg [] 16777216 (fun k wr => ∃ q : Co, q.Half ∧ CoAt B g q wr ∧ Fr B w wr ∧ widC 3 q = codeC s lo hi t ∧ 16777216 - q.rng ≤ k)
      case atStart => exact ⟨partC s lo hi t, HH.out, HQ.out, FQ.out, rfl, by omega⟩
      case round =>
        obtain ⟨q, hq, hco, hfr, hwid, hk⟩ := hrel
        have HW : Hid (widC 3 q = codeC s lo hi t) := hwid
        have HF : Hid (Fr B w wr) := hfr
        have HC : Hid (CoAt B g q wr) := hco
        have HHq : Hid q.Half := hq
        obtain ⟨c0, c1, f0, f1⟩ := hco.cells
        have hqr := hq.hi
        have hql := hq.low
        clear hwid hfr hco hq HQ FQ HH
        by_cases hr : 16777216 ≤ q.rng
        · go_wp2_with (go_at_call 57; refine (widen_no g q.rng _ c0 hqr hr).mono ?_; rintro e w' ⟨rfl, rfl⟩)
          go_end0
          exact ⟨rfl, by rw [← HW.out, widC_no hr]; exact HC.out, HF.out⟩
        · have hr' : q.rng < 16777216 := by omega
          obtain ⟨set', sm', last', beh', t1, kk⟩ := HC.out
          have hql' : q.T.length ≤ 2002 := by
            have e1 := wid_len_ge HHq.out
            have e2 := code_len OK.out PP.out
            rw [HW.out] at e1
            omega
          have TW : ToAt B g (lacks (q.rng * 256)) (.int .i64 (q.low : Int)) set' sm' last' beh' ((wr.setCell ⟨g, 0, none⟩ (lacks (q.rng * 256))).drew) := BuAt.drewN (BuAt.set0 t1 _) 1
          have FW : Fr B w ((wr.setCell ⟨g, 0, none⟩ (lacks (q.rng * 256))).drew) := (BuAt.fr t1 HF.out _ _).drew
          have HT : Hid (Calls Tryd.prog 59 #[.pointer (some ⟨g, 2, none⟩), .int .u8 ((q.low : Int) / 16777216)] ((wr.setCell ⟨g, 0, none⟩ (lacks (q.rng * 256))).drew) fun e w' => e = .returned (.tuple #[]) ∧
              w'.cell? ⟨g, 1, none⟩ = some (.int .i64 (q.low : Int)) ∧ w'.frozen? ⟨g, 1, none⟩ = false ∧ Hid ((∃ set'' last'' beh'', ToAt B g (lacks (q.rng * 256)) (.int .i64 (q.low : Int)) set'' true last'' beh'' w' ∧ Kept (wid1 q) set'' true last'' beh'') ∧ Fr B w w')) := by
            show Calls _ _ _ _ _
            rw [show (q.low : Int) / 16777216 = ((q.low / 16777216 : Nat) : Int) by omega]
            refine (tell_any B g q (q.rng * 256) _ set' sm' last' beh' TW kk (Nat.le_trans hB FW.below.size) (by omega) hql).mono ?_
            rintro e w' ⟨rfl, ⟨s2, l2, b2, u1, u2⟩, u3⟩
            exact ⟨rfl, (BuAt.cell u1).2.1, BuAt.frozen u1 1, ⟨s2, l2, b2, u1, u2⟩, FW.trans u3⟩
          have hqi : (q.low : Int) ≤ 4294967295 := by omega
          have HAND : Hid (bits .and .i64 ((q.low : Int) * 256) 4294967295 = (((wid1 q).low : Nat) : Int)) := and_low q.low hql
          have hwu : IntKind.u8.wrap ((q.low : Int) / 16777216) = (q.low : Int) / 16777216 := wrap_top q.low hql
          have cw : (wr.setCell ⟨g, 0, none⟩ (lacks (q.rng * 256))).cell? ⟨g, 1, none⟩ = some (.int .i64 (q.low : Int)) := (BuAt.cell (BuAt.set0 t1 (lacks (q.rng * 256)))).2.1
          clear TW FW t1 kk
          go_wp2_with (go_at_call 57; refine (widen_yes g q.rng _ c0 f0 hr').mono ?_; rintro e w' ⟨rfl, rfl⟩)
          go_region_held3 (fun w' => w'.cell? ⟨g, 1, none⟩ = some (.int .i64 (q.low : Int))) (go_keep)
            (first | (go_at_call 59; refine HT.out.mono ?_; rintro e w2 ⟨rfl, d1, e1, hp2⟩))
          have HP2 := hp2
          clear hp2 cw HT
          go_wp2_with (rw [HAND.out])
          go_roundg (16777216 - q.rng * 256)
          case measure => have := HHq.out.lo; omega
          case rel =>
            obtain ⟨⟨s2, l2, b2, u1, u2⟩, u3⟩ := HP2.out
            obtain ⟨ws1, ws2⟩ := wid_step HHq.out hr'
            exact ⟨wid1 q, ws2, ⟨s2, true, l2, b2, BuAt.set1 u1 _, u2⟩, BuAt.fr u1 u3 _ _, by rw [← ws1]; exact HW.out, Nat.le_refl _⟩
    · go_wp2
      go_loopg [] 16777216 (fun k wr => ∃ q : Co, q.Half ∧ CoAt B g q wr ∧ Fr B w wr ∧ widC 3 q = codeC s lo hi t ∧ 16777216 - q.rng ≤ k)
      case atStart => exact ⟨partC s lo hi t, HH.out, HQ.out, FQ.out, rfl, by omega⟩
      case round =>
        obtain ⟨q, hq, hco, hfr, hwid, hk⟩ := hrel
        have HW : Hid (widC 3 q = codeC s lo hi t) := hwid
        have HF : Hid (Fr B w wr) := hfr
        have HC : Hid (CoAt B g q wr) := hco
        have HHq : Hid q.Half := hq
        obtain ⟨c0, c1, f0, f1⟩ := hco.cells
        have hqr := hq.hi
        have hql := hq.low
        clear hwid hfr hco hq HQ FQ HH
        by_cases hr : 16777216 ≤ q.rng
        · go_wp2_with (go_at_call 57; refine (widen_no g q.rng _ c0 hqr hr).mono ?_; rintro e w' ⟨rfl, rfl⟩)
          go_end0
          exact ⟨rfl, by rw [← HW.out, widC_no hr]; exact HC.out, HF.out⟩
        · have hr' : q.rng < 16777216 := by omega
          obtain ⟨set', sm', last', beh', t1, kk⟩ := HC.out
          have hql' : q.T.length ≤ 2002 := by
            have e1 := wid_len_ge HHq.out
            have e2 := code_len OK.out PP.out
            rw [HW.out] at e1
            omega
          have TW : ToAt B g (lacks (q.rng * 256)) (.int .i64 (q.low : Int)) set' sm' last' beh' ((wr.setCell ⟨g, 0, none⟩ (lacks (q.rng * 256))).drew) := BuAt.drewN (BuAt.set0 t1 _) 1
          have FW : Fr B w ((wr.setCell ⟨g, 0, none⟩ (lacks (q.rng * 256))).drew) := (BuAt.fr t1 HF.out _ _).drew
          have HT : Hid (Calls Tryd.prog 59 #[.pointer (some ⟨g, 2, none⟩), .int .u8 ((q.low : Int) / 16777216)] ((wr.setCell ⟨g, 0, none⟩ (lacks (q.rng * 256))).drew) fun e w' => e = .returned (.tuple #[]) ∧
              w'.cell? ⟨g, 1, none⟩ = some (.int .i64 (q.low : Int)) ∧ w'.frozen? ⟨g, 1, none⟩ = false ∧ Hid ((∃ set'' last'' beh'', ToAt B g (lacks (q.rng * 256)) (.int .i64 (q.low : Int)) set'' true last'' beh'' w' ∧ Kept (wid1 q) set'' true last'' beh'') ∧ Fr B w w')) := by
            show Calls _ _ _ _ _
            rw [show (q.low : Int) / 16777216 = ((q.low / 16777216 : Nat) : Int) by omega]
            refine (tell_any B g q (q.rng * 256) _ set' sm' last' beh' TW kk (Nat.le_trans hB FW.below.size) (by omega) hql).mono ?_
            rintro e w' ⟨rfl, ⟨s2, l2, b2, u1, u2⟩, u3⟩
            exact ⟨rfl, (BuAt.cell u1).2.1, BuAt.frozen u1 1, ⟨s2, l2, b2, u1, u2⟩, FW.trans u3⟩
          have hqi : (q.low : Int) ≤ 4294967295 := by omega
          have HAND : Hid (bits .and .i64 ((q.low : Int) * 256) 4294967295 = (((wid1 q).low : Nat) : Int)) := and_low q.low hql
          have hwu : IntKind.u8.wrap ((q.low : Int) / 16777216) = (q.low : Int) / 16777216 := wrap_top q.low hql
          have cw : (wr.setCell ⟨g, 0, none⟩ (lacks (q.rng * 256))).cell? ⟨g, 1, none⟩ = some (.int .i64 (q.low : Int)) := (BuAt.cell (BuAt.set0 t1 (lacks (q.rng * 256)))).2.1
          clear TW FW t1 kk
          go_wp2_with (go_at_call 57; refine (widen_yes g q.rng _ c0 f0 hr').mono ?_; rintro e w' ⟨rfl, rfl⟩)
          go_region_held3 (fun w' => w'.cell? ⟨g, 1, none⟩ = some (.int .i64 (q.low : Int))) (go_keep)
            (first | (go_at_call 59; refine HT.out.mono ?_; rintro e w2 ⟨rfl, d1, e1, hp2⟩))
          have HP2 := hp2
          clear hp2 cw HT
          go_wp2_with (rw [HAND.out])
          go_roundg (16777216 - q.rng * 256)
          case measure => have := HHq.out.lo; omega
          case rel =>
            obtain ⟨⟨s2, l2, b2, u1, u2⟩, u3⟩ := HP2.out
            obtain ⟨ws1, ws2⟩ := wid_step HHq.out hr'
            exact ⟨wid1 q, ws2, ⟨s2, true, l2, b2, BuAt.set1 u1 _, u2⟩, BuAt.fr u1 u3 _ _, by rw [← ws1]; exact HW.out, Nat.le_refl _⟩
  · have hd : decide ((s.low : Int) + (A : Int) > 4294967295) = true := decide_eq_true (by omega)
    have hpc : partC s lo hi t = ⟨car s.T, s.low + A - 4294967296, narrowN s.rng lo hi t⟩ := by unfold partC; rw [hA, if_neg hcase]
    have hwr2 : IntKind.i64.wrap ((s.low : Int) + (A : Int) - 4294967296) = (s.low : Int) + (A : Int) - 4294967296 := wrap_sub s.low A (by omega) (by omega) (by omega)
    have hci : (4294967296 : Int) ≤ (s.low : Int) + (A : Int) := by omega
    have HCA : Hid (∀ W : World, W = (((w.setCell ⟨g, 0, none⟩ (lacks (narrowN s.rng lo hi t))).setCell ⟨g, 1, none⟩ (.int .i64 ((s.low : Int) + (A : Int)))).drew) →
        Calls Tryd.prog 58 #[.pointer (some ⟨g, 2, none⟩)] (W.setCell ⟨g, 1, none⟩ (.int .i64 ((s.low : Int) + (A : Int) - 4294967296))) fun e w' => e = .returned (.tuple #[]) ∧ Hid (CoAt B g (partC s lo hi t) w' ∧ Fr B w w')) := by
      rintro W rfl
      have hB3 := Nat.le_trans hB F3.out.below.size
      have T3 := BuAt.set1 (BuAt.drewN H3.out 1) (.int .i64 ((s.low : Int) + (A : Int) - 4294967296))
      have F4 := BuAt.fr (BuAt.drewN H3.out 1) F3.out.drew 1 (.int .i64 ((s.low : Int) + (A : Int) - 4294967296))
      rw [show (s.low : Int) + (A : Int) - 4294967296 = ((s.low + A - 4294967296 : Nat) : Int) by omega] at T3 F4 ⊢
      have pf := PF.out
      have pn := PN.out
      refine (carry_any B g s (s.low + A - 4294967296) (narrowN s.rng lo hi t) _ set sm last beh T3 K1.out (by omega) (Nat.le_trans hB F4.below.size) (by omega) (by omega)).mono ?_
      rintro e w' ⟨rfl, h1, f1⟩
      exact ⟨rfl, by rw [hpc]; exact h1, F4.trans f1⟩
    go_enter Tryd.func42, Tryd.ntmps42
    go_wp2_with (go_at_call 54; refine (ispart_any lo hi t _).mono ?_; rintro e w' ⟨rfl, he⟩; rw [hp, he]; clear he w')
    go_region_with (first | (go_at_call 55; refine HN.out.mono ?_; rintro e w2 ⟨rfl, rfl⟩))
    · go_wp2_with (go_at_call 58; refine (HCA.out _ rfl).mono ?_; rintro e w4 ⟨rfl, hp4⟩)
      have HQ : Hid (CoAt B g (partC s lo hi t) w4) := hp4.out.1
      have FQ : Hid (Fr B w w4) := hp4.out.2
      clear hp4 HCA hwr hwr2
      go_loopg [] 16777216 (fun k wr => ∃ q : Co, q.Half ∧ CoAt B g q wr ∧ Fr B w wr ∧ widC 3 q = codeC s lo hi t ∧ 16777216 - q.rng ≤ k)
      case atStart => exact ⟨partC s lo hi t, HH.out, HQ.out, FQ.out, rfl, by omega⟩
      case round =>
        obtain ⟨q, hq, hco, hfr, hwid, hk⟩ := hrel
        have HW : Hid (widC 3 q = codeC s lo hi t) := hwid
        have HF : Hid (Fr B w wr) := hfr
        have HC : Hid (CoAt B g q wr) := hco
        have HHq : Hid q.Half := hq
        obtain ⟨c0, c1, f0, f1⟩ := hco.cells
        have hqr := hq.hi
        have hql := hq.low
        clear hwid hfr hco hq HQ FQ HH
        by_cases hr : 16777216 ≤ q.rng
        · go_wp2_with (go_at_call 57; refine (widen_no g q.rng _ c0 hqr hr).mono ?_; rintro e w' ⟨rfl, rfl⟩)
          go_end0
          exact ⟨rfl, by rw [← HW.out, widC_no hr]; exact HC.out, HF.out⟩
        · have hr' : q.rng < 16777216 := by omega
          obtain ⟨set', sm', last', beh', t1, kk⟩ := HC.out
          have hql' : q.T.length ≤ 2002 := by
            have e1 := wid_len_ge HHq.out
            have e2 := code_len OK.out PP.out
            rw [HW.out] at e1
            omega
          have TW : ToAt B g (lacks (q.rng * 256)) (.int .i64 (q.low : Int)) set' sm' last' beh' ((wr.setCell ⟨g, 0, none⟩ (lacks (q.rng * 256))).drew) := BuAt.drewN (BuAt.set0 t1 _) 1
          have FW : Fr B w ((wr.setCell ⟨g, 0, none⟩ (lacks (q.rng * 256))).drew) := (BuAt.fr t1 HF.out _ _).drew
          have HT : Hid (Calls Tryd.prog 59 #[.pointer (some ⟨g, 2, none⟩), .int .u8 ((q.low : Int) / 16777216)] ((wr.setCell ⟨g, 0, none⟩ (lacks (q.rng * 256))).drew) fun e w' => e = .returned (.tuple #[]) ∧
              w'.cell? ⟨g, 1, none⟩ = some (.int .i64 (q.low : Int)) ∧ w'.frozen? ⟨g, 1, none⟩ = false ∧ Hid ((∃ set'' last'' beh'', ToAt B g (lacks (q.rng * 256)) (.int .i64 (q.low : Int)) set'' true last'' beh'' w' ∧ Kept (wid1 q) set'' true last'' beh'') ∧ Fr B w w')) := by
            show Calls _ _ _ _ _
            rw [show (q.low : Int) / 16777216 = ((q.low / 16777216 : Nat) : Int) by omega]
            refine (tell_any B g q (q.rng * 256) _ set' sm' last' beh' TW kk (Nat.le_trans hB FW.below.size) (by omega) hql).mono ?_
            rintro e w' ⟨rfl, ⟨s2, l2, b2, u1, u2⟩, u3⟩
            exact ⟨rfl, (BuAt.cell u1).2.1, BuAt.frozen u1 1, ⟨s2, l2, b2, u1, u2⟩, FW.trans u3⟩
          have hqi : (q.low : Int) ≤ 4294967295 := by omega
          have HAND : Hid (bits .and .i64 ((q.low : Int) * 256) 4294967295 = (((wid1 q).low : Nat) : Int)) := and_low q.low hql
          have hwu : IntKind.u8.wrap ((q.low : Int) / 16777216) = (q.low : Int) / 16777216 := wrap_top q.low hql
          have cw : (wr.setCell ⟨g, 0, none⟩ (lacks (q.rng * 256))).cell? ⟨g, 1, none⟩ = some (.int .i64 (q.low : Int)) := (BuAt.cell (BuAt.set0 t1 (lacks (q.rng * 256)))).2.1
          clear TW FW t1 kk
          go_wp2_with (go_at_call 57; refine (widen_yes g q.rng _ c0 f0 hr').mono ?_; rintro e w' ⟨rfl, rfl⟩)
          go_region_held3 (fun w' => w'.cell? ⟨g, 1, none⟩ = some (.int .i64 (q.low : Int))) (go_keep)
            (first | (go_at_call 59; refine HT.out.mono ?_; rintro e w2 ⟨rfl, d1, e1, hp2⟩))
          have HP2 := hp2
          clear hp2 cw HT
          go_wp2_with (rw [HAND.out])
          go_roundg (16777216 - q.rng * 256)
          case measure => have := HHq.out.lo; omega
          case rel =>
            obtain ⟨⟨s2, l2, b2, u1, u2⟩, u3⟩ := HP2.out
            obtain ⟨ws1, ws2⟩ := wid_step HHq.out hr'
            exact ⟨wid1 q, ws2, ⟨s2, true, l2, b2, BuAt.set1 u1 _, u2⟩, BuAt.fr u1 u3 _ _, by rw [← ws1]; exact HW.out, Nat.le_refl _⟩
    · go_wp2_with (go_at_call 58; refine (HCA.out _ rfl).mono ?_; rintro e w4 ⟨rfl, hp4⟩)
      have HQ : Hid (CoAt B g (partC s lo hi t) w4) := hp4.out.1
      have FQ : Hid (Fr B w w4) := hp4.out.2
      clear hp4 HCA hwr hwr2
      go_loopg [] 16777216 (fun k wr => ∃ q : Co, q.Half ∧ CoAt B g q wr ∧ Fr B w wr ∧ widC 3 q = codeC s lo hi t ∧ 16777216 - q.rng ≤ k)
      case atStart => exact ⟨partC s lo hi t, HH.out, HQ.out, FQ.out, rfl, by omega⟩
      case round =>
        obtain ⟨q, hq, hco, hfr, hwid, hk⟩ := hrel
        have HW : Hid (widC 3 q = codeC s lo hi t) := hwid
        have HF : Hid (Fr B w wr) := hfr
        have HC : Hid (CoAt B g q wr) := hco
        have HHq : Hid q.Half := hq
        obtain ⟨c0, c1, f0, f1⟩ := hco.cells
        have hqr := hq.hi
        have hql := hq.low
        clear hwid hfr hco hq HQ FQ HH
        by_cases hr : 16777216 ≤ q.rng
        · go_wp2_with (go_at_call 57; refine (widen_no g q.rng _ c0 hqr hr).mono ?_; rintro e w' ⟨rfl, rfl⟩)
          go_end0
          exact ⟨rfl, by rw [← HW.out, widC_no hr]; exact HC.out, HF.out⟩
        · have hr' : q.rng < 16777216 := by omega
          obtain ⟨set', sm', last', beh', t1, kk⟩ := HC.out
          have hql' : q.T.length ≤ 2002 := by
            have e1 := wid_len_ge HHq.out
            have e2 := code_len OK.out PP.out
            rw [HW.out] at e1
            omega
          have TW : ToAt B g (lacks (q.rng * 256)) (.int .i64 (q.low : Int)) set' sm' last' beh' ((wr.setCell ⟨g, 0, none⟩ (lacks (q.rng * 256))).drew) := BuAt.drewN (BuAt.set0 t1 _) 1
          have FW : Fr B w ((wr.setCell ⟨g, 0, none⟩ (lacks (q.rng * 256))).drew) := (BuAt.fr t1 HF.out _ _).drew
          have HT : Hid (Calls Tryd.prog 59 #[.pointer (some ⟨g, 2, none⟩), .int .u8 ((q.low : Int) / 16777216)] ((wr.setCell ⟨g, 0, none⟩ (lacks (q.rng * 256))).drew) fun e w' => e = .returned (.tuple #[]) ∧
              w'.cell? ⟨g, 1, none⟩ = some (.int .i64 (q.low : Int)) ∧ w'.frozen? ⟨g, 1, none⟩ = false ∧ Hid ((∃ set'' last'' beh'', ToAt B g (lacks (q.rng * 256)) (.int .i64 (q.low : Int)) set'' true last'' beh'' w' ∧ Kept (wid1 q) set'' true last'' beh'') ∧ Fr B w w')) := by
            show Calls _ _ _ _ _
            rw [show (q.low : Int) / 16777216 = ((q.low / 16777216 : Nat) : Int) by omega]
            refine (tell_any B g q (q.rng * 256) _ set' sm' last' beh' TW kk (Nat.le_trans hB FW.below.size) (by omega) hql).mono ?_
            rintro e w' ⟨rfl, ⟨s2, l2, b2, u1, u2⟩, u3⟩
            exact ⟨rfl, (BuAt.cell u1).2.1, BuAt.frozen u1 1, ⟨s2, l2, b2, u1, u2⟩, FW.trans u3⟩
          have hqi : (q.low : Int) ≤ 4294967295 := by omega
          have HAND : Hid (bits .and .i64 ((q.low : Int) * 256) 4294967295 = (((wid1 q).low : Nat) : Int)) := and_low q.low hql
          have hwu : IntKind.u8.wrap ((q.low : Int) / 16777216) = (q.low : Int) / 16777216 := wrap_top q.low hql
          have cw : (wr.setCell ⟨g, 0, none⟩ (lacks (q.rng * 256))).cell? ⟨g, 1, none⟩ = some (.int .i64 (q.low : Int)) := (BuAt.cell (BuAt.set0 t1 (lacks (q.rng * 256)))).2.1
          clear TW FW t1 kk
          go_wp2_with (go_at_call 57; refine (widen_yes g q.rng _ c0 f0 hr').mono ?_; rintro e w' ⟨rfl, rfl⟩)
          go_region_held3 (fun w' => w'.cell? ⟨g, 1, none⟩ = some (.int .i64 (q.low : Int))) (go_keep)
            (first | (go_at_call 59; refine HT.out.mono ?_; rintro e w2 ⟨rfl, d1, e1, hp2⟩))
          have HP2 := hp2
          clear hp2 cw HT
          go_wp2_with (rw [HAND.out])
          go_roundg (16777216 - q.rng * 256)
          case measure => have := HHq.out.lo; omega
          case rel =>
            obtain ⟨⟨s2, l2, b2, u1, u2⟩, u3⟩ := HP2.out
            obtain ⟨ws1, ws2⟩ := wid_step HHq.out hr'
            exact ⟨wid1 q, ws2, ⟨s2, true, l2, b2, BuAt.set1 u1 _, u2⟩, BuAt.fr u1 u3 _ _, by rw [← ws1]; exact HW.out, Nat.le_refl _⟩
end Go.Proofs.YtdfpmhdgebajfaaDoor
