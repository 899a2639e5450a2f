/-
  The contracts of fft's small functions: countFits, places, turnBits, within; the table of math/bits, as it is laid.
-/
import Derived.Test.YtfhcfdepjhdhfaaDoorZE
import Derived.Test.YtfhcfdepjhdhfaaDoorZB
import Derived.Lib.LaidU8
import Derived.MakeChecks
import Derived.Test.YtfhcfdepjhdhfaaDoorZC
import Derived.BigRegion
import Derived.BigQuiet
import Derived.Deep.RegionHeld3
import Derived.Laws.CopyOwn
import Derived.Laws.MakeOwn
import Derived.Deep.OwnRows
import Derived.Deep.AppendLies
namespace Go.Proofs.YtfhcfdepjhdhfaaDoor
open Go.ChangeShapes Go.WideShapes Go.ChangeAt Go.RowKit
set_option linter.unusedVariables false

/-- A power of two from 1 to 64. -/
def fitsF (n : Int) : Bool := if 1 ≤ n ∧ n ≤ 64 then bits .and .i64 n (n - 1) == 0 else false
theorem fits_any (n : Int) (w : World) :
    Calls Tryd.prog 68 #[.int .i64 n] w fun e w' => e = .returned (.bool (fitsF n)) ∧ w' = w := by
  by_cases h1 : 1 ≤ n
  · by_cases h2 : n ≤ 64
    · rw [fitsF, if_pos ⟨h1, h2⟩]
      generalize hb : bits BinOp.and IntKind.i64 n (n - 1) = b
      go_enter Tryd.func68, Tryd.ntmps68
      go_wp2
      go_ret
      exact ⟨by simp, rfl⟩
    · rw [fitsF, if_neg (by omega)]
      go_enter Tryd.func68, Tryd.ntmps68
      go_wp2
      go_ret
      exact ⟨rfl, rfl⟩
  · rw [fitsF, if_neg (by omega)]
    go_enter Tryd.func68, Tryd.ntmps68
    go_wp2
    go_ret
    exact ⟨rfl, rfl⟩
theorem fits_all : ∀ n, n < 65 → fitsF ((n : Nat) : Int) = true → n = 1 ∨ n = 2 ∨ n = 4 ∨ n = 8 ∨ n = 16 ∨ n = 32 ∨ n = 64 := by decide +kernel
theorem fits_pow : ∀ m : Nat, m < 7 → fitsF ((2 ^ m : Nat) : Int) = true := by decide +kernel
theorem fits_ex {n : Nat} (h : fitsF (n : Int) = true) : ∃ m, m ≤ 6 ∧ n = 2 ^ m := by
  have hn : n ≤ 64 := by
    by_cases hh : 1 ≤ (n : Int) ∧ (n : Int) ≤ 64
    · omega
    · rw [fitsF, if_neg hh] at h; cases h
  rcases fits_all n (by omega) h with e | e | e | e | e | e | e
  · exact ⟨0, by omega, e⟩
  · exact ⟨1, by omega, e⟩
  · exact ⟨2, by omega, e⟩
  · exact ⟨3, by omega, e⟩
  · exact ⟨4, by omega, e⟩
  · exact ⟨5, by omega, e⟩
  · exact ⟨6, by omega, e⟩

def dbL : List Int := [0, 1, 56, 2, 57, 49, 28, 3, 61, 58, 42, 50, 38, 29, 17, 4, 62, 47, 59, 36, 45, 43, 51, 22, 53, 39, 33, 30, 24, 18, 12, 5, 63, 55, 48, 27, 60, 41, 37, 16, 46, 35, 44, 21, 52, 32, 23, 11, 54, 26, 40, 15, 34, 20, 31, 10, 25, 14, 19, 9, 13, 8, 7, 6]
/-- The table of math/bits stands where it was laid. -/
def DTab (w : World) : Prop := ∀ j : Nat, j < 64 → w.cell? ⟨2, j, none⟩ = some (.int .u8 (dbL.getD j 0))
theorem DTab.lt {w : World} (h : DTab w) : 2 < w.heap.size := block_lt_of_cell (h 0 (by decide))
theorem DTab.frame {B : Nat} {w w' : World} (h : DTab w) (hb : Below B w w') (hB : 2 < B) : DTab w' := fun j hj => by
  rw [hb.cell (p := ⟨2, j, none⟩) hB]
  exact h j hj
theorem DTab.below {w w' : World} (h : DTab w) (hb : Below w.heap.size w w') : DTab w' := h.frame hb h.lt
theorem dtab_of_reads {w : World} (h : Lib.VarReads Tryd.prog w "math/bits.deBruijn64tab" Rows.laid_math_bits_deBruijn64tab) : DTab w := by
  obtain ⟨g, t, cs, fuel, p, hg, hty, hvar, hd⟩ := h
  obtain rfl := Option.some.inj ((show Tryd.prog.globalNamed "math/bits.deBruijn64tab" = some 2 by kernel_rfl).symm.trans hg)
  obtain rfl := Option.some.inj ((show (Tryd.prog.globals[2]?).map (·.type) = some 96 by kernel_rfl).symm.trans hty)
  have hcs := Lib.cells_of_tab (zs := dbL) (k := .u8) Tryd.underlying96 Tryd.underlying5 (by kernel_rfl) (by kernel_rfl) hd
  intro j hj
  have := World.var?_cell hg hvar j
  rw [this, ← Array.getElem?_toList, hcs]
  have hl : j < dbL.length := hj
  simp [List.getD_eq_getElem?_getD, List.getElem?_eq_getElem hl]
theorem dtab_of_laid {w : World} {l : List (String × DataW Unit)} (hp : (l.all fun x => x.2.handleName?.isNone) = true) (h : laidMetH Tryd.prog l w) (hm : ("math/bits.deBruijn64tab", Rows.laid_math_bits_deBruijn64tab) ∈ l) : DTab w := by
  rw [MakeChecks.laidMetH_plain _ _ _ hp] at h
  exact dtab_of_reads (Lib.laidMet.reads h hm)
theorem tz64g (x a b v : Int) (j : Nat) (h0 : (x == 0) = false) (h1 : bits .and .u64 x (IntKind.u64.wrap (-x)) = a) (h2 : IntKind.u64.wrap (a * 285870213051353865) = b) (h3 : b / 288230376151711744 = (j : Int)) (hj : j < 64)
    (w : World) (hc : w.cell? ⟨2, j, none⟩ = some (.int .u8 v)) (hv : wrap64 v = v) :
    Calls Tryd.prog 89 #[.int .u64 x] w fun e w' => e = .returned (.int .i64 v) ∧ w' = w := by
  have hlo : 0 ≤ (j : Int) := by omega
  have hhi : (j : Int) < 64 := by omega
  go_enter Tryd.func89, Tryd.ntmps89
  go_wp2
  go_ret
  exact ⟨congrArg (fun z => Ending.returned (.int .i64 z)) hv, rfl⟩
theorem tz64_at : ∀ m : Nat, m < 7 → ((((2 ^ m : Nat) : Int) == 0) = false) ∧ bits .and .u64 ((2 ^ m : Nat) : Int) (IntKind.u64.wrap (-((2 ^ m : Nat) : Int))) = ((2 ^ m : Nat) : Int) ∧
    dbL.getD (IntKind.u64.wrap (((2 ^ m : Nat) : Int) * 285870213051353865) / 288230376151711744).toNat 0 = (m : Int) ∧ 0 ≤ IntKind.u64.wrap (((2 ^ m : Nat) : Int) * 285870213051353865) / 288230376151711744 ∧
    (IntKind.u64.wrap (((2 ^ m : Nat) : Int) * 285870213051353865) / 288230376151711744).toNat < 64 ∧ IntKind.u64.wrap ((2 ^ m : Nat) : Int) = ((2 ^ m : Nat) : Int) := by decide +kernel
theorem tz64 {m : Nat} (hm : m ≤ 6) (w : World) (ht : DTab w) :
    Calls Tryd.prog 89 #[.int .u64 ((2 ^ m : Nat) : Int)] w fun e w' => e = .returned (.int .i64 (m : Int)) ∧ w' = w := by
  obtain ⟨h0, h1, h2, h3, h4, _⟩ := tz64_at m (by omega)
  have hc := ht _ h4
  rw [h2] at hc
  exact tz64g _ _ _ _ _ h0 h1 rfl (by omega) h4 w hc (by unfold wrap64; omega)
theorem tz_any {m : Nat} (hm : m ≤ 6) (w : World) (ht : DTab w) :
    Calls Tryd.prog 84 #[.int .u64 ((2 ^ m : Nat) : Int)] w fun e w' => e = .returned (.int .i64 (m : Int)) ∧ w' = w := by
  have H : Hid (Calls Tryd.prog 89 #[.int .u64 ((2 ^ m : Nat) : Int)] w fun e w' => e = .returned (.int .i64 (m : Int)) ∧ w' = w) := tz64 hm w ht
  generalize ((2 ^ m : Nat) : Int) = x at *
  go_enter Tryd.func84, Tryd.ntmps84
  go_wp2_with (go_at_call 89; refine H.out.mono ?_; rintro e w1 ⟨rfl, rfl⟩)
  go_ret
  exact ⟨rfl, rfl⟩
theorem places_any {m : Nat} (hm : m ≤ 6) (w : World) (ht : DTab w) :
    Calls Tryd.prog 71 #[.int .i64 ((2 ^ m : Nat) : Int)] w fun e w' => e = .returned (.int .i64 (m : Int)) ∧ w' = w := by
  have H : Hid (Calls Tryd.prog 84 #[.int .u64 ((2 ^ m : Nat) : Int)] w fun e w' => e = .returned (.int .i64 (m : Int)) ∧ w' = w) := tz_any hm w ht
  obtain ⟨_, _, _, _, _, h6⟩ := tz64_at m (by omega)
  generalize ((2 ^ m : Nat) : Int) = x at *
  go_enter Tryd.func71, Tryd.ntmps71
  go_wp2_with (go_at_call 84; refine H.out.mono ?_; rintro e w1 ⟨rfl, rfl⟩)
  go_ret
  exact ⟨rfl, rfl⟩
theorem bit_and : ∀ c : Nat, c < 64 → bits .and .i64 (c : Int) 1 = ((c % 2 : Nat) : Int) := by decide +kernel
theorem bit_or : ∀ t : Nat, t < 64 → ∀ b : Nat, b < 2 → bits .or .i64 ((2 * t : Nat) : Int) (b : Int) = ((2 * t + b : Nat) : Int) := by decide +kernel
theorem turnBits_any {m i : Nat} (hm : m ≤ 6) (hi : i < 64) (w : World) :
    Calls Tryd.prog 83 #[.int .i64 i, .int .i64 m] w fun e w' => e = .returned (.int .i64 (rev m i : Nat)) ∧ w' = w := by
  go_enter Tryd.func83, Tryd.ntmps83
  go_wp2
  go_loop [0, 5, 7] (fun c t k => ∃ q : Nat, q ≤ m ∧ c = .int .i64 (i / 2 ^ q : Nat) ∧ t = .int .i64 (rev q i : Nat) ∧ k = .int .i64 q) (fun _ _ k => m - (intOf k).toNat)
  case atStart => exact ⟨0, Nat.zero_le _, by simp, by simp [rev], rfl⟩
  case round =>
    obtain ⟨q, hq, rfl, rfl, rfl⟩ := hrel
    by_cases hlt : q < m
    · have h1 : i / 2 ^ q < 64 := Nat.lt_of_le_of_lt (Nat.div_le_self _ _) hi
      have h2 : rev q i < 64 := Nat.lt_of_lt_of_le (rev_lt q i) (show 2 ^ q ≤ 2 ^ 6 from Nat.pow_le_pow_right (by omega) (by omega))
      have b1 := bit_and _ h1
      have b2 := bit_or _ h2 (i / 2 ^ q % 2) (by omega)
      have HB : Hid (bits .or .i64 ((rev q i : Int) * 2) (((i / 2 ^ q : Nat) : Int) % 2) = ((rev (q + 1) i : Nat) : Int)) := by
        show _ = _
        rw [rev_snoc, ← b2]
        congr 1 <;> omega
      have HD : Hid (i / 2 ^ (q + 1) = i / 2 ^ q / 2) := by show _ = _; rw [Nat.pow_succ, Nat.div_div_eq_div_mul]
      clear b2
      generalize rev q i = t at *
      generalize i / 2 ^ q = c at *
      go_wp2
      refine ⟨⟨q + 1, by omega, ?_, ?_, by go_num⟩, by simp [intOf]; omega⟩
      · rw [HD.out]; rfl
      · rw [HB.out]
    · obtain rfl : q = m := by omega
      go_wp2
      go_ret
      exact ⟨rfl, rfl⟩
end Go.Proofs.YtfhcfdepjhdhfaaDoor
/-
  Slices of ints; the contracts of fft.within and of the document's Within, Same and Right.
-/
namespace Go.Proofs.YtfhcfdepjhdhfaaDoor
open Go.ChangeShapes Go.WideShapes Go.ChangeAt Go.RowKit
set_option linter.unusedVariables false

abbrev okL (X : Nat → Int) (len : Nat) : Bool := allIn (-1048576) 1048576 X len
theorem fwithin_any (a : Option Addr) (len cap : Nat) (X : Nat → Int) (hl : len ≤ 64) (w : World) (h : IsInts w a len cap X) :
    Calls Tryd.prog 69 #[.slice a len cap] w fun e w' => e = .returned (.bool (okL X len)) ∧ w' = w := by
  rcases h with rfl | ⟨b, off, rfl, h1, h2, h3, hc⟩
  · go_enter Tryd.func69, Tryd.ntmps69
    go_wp2
    go_loop [7] (fun i => i = .int .i64 0) (fun i => 0)
    case atStart => rfl
    case round =>
      subst hrel
      go_wp2
      go_ret
      exact ⟨rfl, rfl⟩
  · clear h1 h2 h3
    go_enter Tryd.func69, Tryd.ntmps69
    go_wp2
    go_loop [7] (fun i => ∃ k : Nat, k ≤ len ∧ i = .int .i64 k ∧ okL X k = true) (fun i => len - (intOf i).toNat)
    case atStart => exact ⟨0, Nat.zero_le _, rfl, rfl⟩
    case round =>
      obtain ⟨k, hk, rfl, hall⟩ := hrel
      have HA : Hid (okL X k = true) := hall
      clear hall
      by_cases hlt : k < len
      · have hck := hc k hlt
        clear hc
        by_cases h1 : X k < -1048576
        · go_wp2
          go_ret
          exact ⟨ret_bool (allIn_no hlt (by omega)).symm, rfl⟩
        · by_cases h2 : 1048576 < X k
          · go_wp2
            go_ret
            exact ⟨ret_bool (allIn_no hlt (by omega)).symm, rfl⟩
          · go_wp2
            go_round
            case rel => exact ⟨k + 1, by omega, by go_num, by simp [allIn, HA.out]; omega⟩
            case measure => simp [intOf]; omega
      · clear hc
        go_wp2
        go_ret
        obtain rfl : k = len := by omega
        exact ⟨ret_bool HA.out.symm, rfl⟩
theorem rwithin_any (a : Option Addr) (len cap : Nat) (X : Nat → Int) (hl : len ≤ 64) (w : World) (h : IsInts w a len cap X) :
    Calls Tryd.prog 29 #[.slice a len cap, .int .i64 (-1048576), .int .i64 1048576] w fun e w' => e = .returned (.bool (okL X len)) ∧ w' = w :=
  rwithin_g (-1048576) 1048576 a len cap X (by omega) w h
end Go.Proofs.YtfhcfdepjhdhfaaDoor
/-
  Lists of ints of one's own in the heap; the contract of fft.turnPlaces.
-/
namespace Go.Proofs.YtfhcfdepjhdhfaaDoor
open Go.ChangeShapes Go.WideShapes Go.ChangeAt Go.RowKit
set_option linter.unusedVariables false

/-- Two lists of one's own, those that X and Y tell; all that was there at first is as it was. -/
structure Two (B r q n : Nat) (X Y : Nat → Int) (w0 w : World) : Prop where
  rB : B ≤ r
  qB : B ≤ q
  ne : r ≠ q
  a : RowAt r n X w
  b : RowAt q n Y w
  bel : Below B w0 w
theorem Two.congr {B r q n : Nat} {X Y X' Y' : Nat → Int} {w0 w : World} (h : Two B r q n X Y w0 w) (e1 : ∀ i, i < n → X i = X' i) (e2 : ∀ i, i < n → Y i = Y' i) : Two B r q n X' Y' w0 w :=
  ⟨h.rB, h.qB, h.ne, h.a.congr e1, h.b.congr e2, h.bel⟩
theorem Two.setA {B r q n : Nat} {X Y : Nat → Int} {w0 w : World} (h : Two B r q n X Y w0 w) {j : Nat} (hj : j < n) (v : Int) : Two B r q n (upd X j v) Y w0 (w.setCell ⟨r, j, none⟩ (.int .i64 v)) :=
  ⟨h.rB, h.qB, h.ne, h.a.set hj v, IsAt.other h.b (fun e => h.ne e.symm) _, h.bel.setCell (show B ≤ (Addr.mk r j none).block from h.rB) _⟩
theorem Two.setB {B r q n : Nat} {X Y : Nat → Int} {w0 w : World} (h : Two B r q n X Y w0 w) {j : Nat} (hj : j < n) (v : Int) : Two B r q n X (upd Y j v) w0 (w.setCell ⟨q, j, none⟩ (.int .i64 v)) :=
  ⟨h.rB, h.qB, h.ne, IsAt.other h.a h.ne _, h.b.set hj v, h.bel.setCell (show B ≤ (Addr.mk q j none).block from h.qB) _⟩
theorem Two.drew {B r q n : Nat} {X Y : Nat → Int} {w0 w : World} (h : Two B r q n X Y w0 w) : Two B r q n X Y w0 w.drew :=
  ⟨h.rB, h.qB, h.ne, h.a, h.b, h.bel.drew⟩
theorem Two.below {B r q n : Nat} {X Y : Nat → Int} {w0 w w' : World} (h : Two B r q n X Y w0 w) (hb : Below w.heap.size w w') : Two B r q n X Y w0 w' :=
  ⟨h.rB, h.qB, h.ne, h.a.below hb, h.b.below hb, h.bel.trans (hb.mono (by have := h.a.lt; have := h.rB; omega))⟩

/-- Places behind k rounds. -/
def plc (m k : Nat) (X : Nat → Int) : Nat → Int := fun x => if x < k ∨ rev m x < k then X (rev m x) else X x
theorem plc_at {m k : Nat} (X : Nat → Int) (h : k ≤ rev m k) : plc m k X k = X k := if_neg (by omega)
theorem plc_far {m k : Nat} (hm : m ≤ 6) (hk : k < 2 ^ m) (X : Nat → Int) (h : k < rev m k) : plc m k X (rev m k) = X (rev m k) := by
  have := rev_back hm hk
  exact if_neg (by omega)
theorem plc_swap {m k : Nat} (hm : m ≤ 6) (hk : k < 2 ^ m) (X : Nat → Int) (h : k < rev m k) (x : Nat) (hx : x < 2 ^ m) :
    upd (upd (plc m k X) k (X (rev m k))) (rev m k) (X k) x = plc m (k + 1) X x := by
  have h1 := rev_back hm hk
  have h2 := rev_back hm hx
  unfold upd
  by_cases e1 : x = rev m k
  · subst e1
    rw [if_pos rfl, plc, if_pos (by omega), h1]
  · rw [if_neg e1]
    by_cases e2 : x = k
    · subst e2
      rw [if_pos rfl, plc, if_pos (by omega)]
    · rw [if_neg e2, plc, plc]
      have e3 : rev m x ≠ k := fun e => e1 (by rw [← e, h2])
      by_cases c : x < k ∨ rev m x < k
      · rw [if_pos c, if_pos (by omega)]
      · rw [if_neg c, if_neg (by omega)]
theorem plc_swap' {m k : Nat} (hm : m ≤ 6) (hk : k < 2 ^ m) (X : Nat → Int) (h : k < rev m k) (x : Nat) (hx : x < 2 ^ m) :
    upd (upd (plc m k X) (rev m k) (X k)) k (X (rev m k)) x = plc m (k + 1) X x := by
  rw [← plc_swap hm hk X h x hx]
  unfold upd
  by_cases e1 : x = rev m k
  · rw [if_neg (by omega), if_pos e1, if_pos e1]
  · rw [if_neg e1, if_neg e1]
theorem plc_stay {m k : Nat} (hm : m ≤ 6) (hk : k < 2 ^ m) (X : Nat → Int) (h : ¬ k < rev m k) (x : Nat) (hx : x < 2 ^ m) : plc m k X x = plc m (k + 1) X x := by
  have h1 := rev_back hm hk
  have h2 := rev_back hm hx
  rw [plc, plc]
  by_cases c : x < k ∨ rev m x < k
  · rw [if_pos c, if_pos (by omega)]
  · rw [if_neg c]
    by_cases c2 : x < k + 1 ∨ rev m x < k + 1
    · rw [if_pos c2]
      have : x = k ∨ rev m x = k := by omega
      rcases this with rfl | e
      · congr 1; omega
      · have : x = rev m k := by rw [← e, h2]
        congr 1; omega
    · rw [if_neg c2]
theorem plc_all {m : Nat} (X : Nat → Int) (x : Nat) (hx : x < 2 ^ m) : plc m (2 ^ m) X x = X (rev m x) := if_pos (.inl hx)

theorem turnPlaces_any {m : Nat} (hm : m ≤ 6) (B r q n : Nat) (hn : n = 2 ^ m) (X Y : Nat → Int) (w : World) (ht : DTab w) (hv : 2 < B) (h : Two B r q n X Y w w) :
    Calls Tryd.prog 70 #[.slice (some ⟨r, 0, none⟩) n n, .slice (some ⟨q, 0, none⟩) n n] w fun e w' => e = .returned (.tuple #[]) ∧ Two B r q n (fun x => X (rev m x)) (fun x => Y (rev m x)) w w' := by
  have H64 : n ≤ 64 := by rw [hn]; exact Nat.pow_le_pow_right (by omega) (show m ≤ 6 from hm)
  have HP : Hid (∀ wr, Below B w wr → Calls Tryd.prog 71 #[.int .i64 (n : Int)] wr fun e w' => e = .returned (.int .i64 (m : Int)) ∧ w' = wr) := fun wr hb => by
    rw [hn]; exact places_any hm wr (ht.frame hb hv)
  have HT : Hid (∀ (k : Nat), k < n → ∀ wr, Calls Tryd.prog 83 #[.int .i64 k, .int .i64 m] wr fun e w' => e = .returned (.int .i64 (rev m k : Nat)) ∧ w' = wr) := fun k hk wr =>
    turnBits_any hm (by omega) wr
  have HN : Hid (n = 2 ^ m) := hn
  have H0 : Hid (Two B r q n (plc m 0 X) (plc m 0 Y) w w) := h
  clear ht hv h hn
  go_enter Tryd.func70, Tryd.ntmps70
  go_wp2
  go_loopw [8] (fun i wr => ∃ k : Nat, k ≤ n ∧ i = .int .i64 k ∧ Hid (Two B r q n (plc m k X) (plc m k Y) w wr)) (fun i _ => n - (intOf i).toNat)
  case atStart => exact ⟨0, Nat.zero_le _, rfl, H0⟩
  case round =>
    clear H0
    obtain ⟨k, hk, rfl, HW⟩ := hrel
    by_cases hlt : k < n
    · by_cases hj : k < rev m k
      · have hjn : rev m k < n := by rw [HN.out]; exact rev_lt m k
        have ca : wr.cell? ⟨r, k, none⟩ = some (.int .i64 (X k)) := by rw [HW.out.a.get hlt, plc_at X (by omega)]
        have cb : wr.cell? ⟨r, rev m k, none⟩ = some (.int .i64 (X (rev m k))) := by rw [HW.out.a.get hjn, plc_far hm (by rw [← HN.out]; exact hlt) X hj]
        have cc : wr.cell? ⟨q, k, none⟩ = some (.int .i64 (Y k)) := by rw [HW.out.b.get hlt, plc_at Y (by omega)]
        have cd : wr.cell? ⟨q, rev m k, none⟩ = some (.int .i64 (Y (rev m k))) := by rw [HW.out.b.get hjn, plc_far hm (by rw [← HN.out]; exact hlt) Y hj]
        have fa := IsAt.frozen HW.out.a k
        have fb := IsAt.frozen HW.out.a (rev m k)
        have fc := IsAt.frozen HW.out.b k
        have fd := IsAt.frozen HW.out.b (rev m k)
        have HJ : Hid (∀ Z : Nat → Int, ∀ x, x < n → upd (upd (plc m k Z) k (Z (rev m k))) (rev m k) (Z k) x = plc m (k + 1) Z x) := fun Z x hx => plc_swap hm (by rw [← HN.out]; exact hlt) Z hj x (by rw [← HN.out]; exact hx)
        go_wp2_with (first
          | (go_at_call 71; refine (HP.out _ HW.out.bel).mono ?_; rintro e w1 ⟨rfl, rfl⟩)
          | (go_at_call 83; refine (HT.out k hlt _).mono ?_; rintro e w1 ⟨rfl, rfl⟩))
        go_region
        have HW2 := ((HW.out.setA hlt (X (rev m k))).setA hjn (X k)).drew
        generalize ((w1.setCell ⟨r, k, none⟩ (.int .i64 (X (rev m k)))).setCell ⟨r, rev m k, none⟩ (.int .i64 (X k))).drew = W2 at HW2 ⊢
        replace cc : W2.cell? ⟨q, k, none⟩ = some (.int .i64 (Y k)) := by rw [HW2.b.get hlt, plc_at Y (by omega)]
        replace cd : W2.cell? ⟨q, rev m k, none⟩ = some (.int .i64 (Y (rev m k))) := by rw [HW2.b.get hjn, plc_far hm (by rw [← HN.out]; exact hlt) Y hj]
        replace fc := IsAt.frozen HW2.b k
        replace fd := IsAt.frozen HW2.b (rev m k)
        have HW3 : Hid _ := HW2
        clear HW HW2 ca cb fa fb
        go_wp2
        go_region
        have HW4 := (((HW3.out.setB hlt (Y (rev m k))).setB hjn (Y k)).drew).congr (HJ.out X) (HJ.out Y)
        go_wp2
        refine ⟨⟨k + 1, by omega, by go_num, HW4⟩, by simp [intOf]; omega⟩
      · have HJ : Hid (∀ Z : Nat → Int, ∀ x, x < n → plc m k Z x = plc m (k + 1) Z x) := fun Z x hx => plc_stay hm (by rw [← HN.out]; exact hlt) Z hj x (by rw [← HN.out]; exact hx)
        go_wp2_with (first
          | (go_at_call 71; refine (HP.out _ HW.out.bel).mono ?_; rintro e w1 ⟨rfl, rfl⟩)
          | (go_at_call 83; refine (HT.out k hlt _).mono ?_; rintro e w1 ⟨rfl, rfl⟩))
        refine ⟨⟨k + 1, by omega, by go_num, HW.out.congr (HJ.out X) (HJ.out Y)⟩, by simp [intOf]; omega⟩
    · obtain rfl : k = n := by omega
      go_wp2
      go_end0
      refine ⟨rfl, HW.out.congr (fun i hi => ?_) (fun i hi => ?_)⟩
      · rw [HN.out, plc_all X i (by rw [← HN.out]; exact hi)]
      · rw [HN.out, plc_all Y i (by rw [← HN.out]; exact hi)]
end Go.Proofs.YtfhcfdepjhdhfaaDoor
/-
  The contract of fft.merge: a stage.
-/
namespace Go.Proofs.YtfhcfdepjhdhfaaDoor
open Go.ChangeShapes Go.WideShapes Go.ChangeAt Go.RowKit
set_option linter.unusedVariables false

/-- A stage behind p pairs and k places of the next one. -/
def mg (s p k : Nat) (F : Nat → P2) (x : Nat) : P2 := if x / (2 * 2 ^ s) < p ∨ (x / (2 * 2 ^ s) = p ∧ x % 2 ^ s < k) then bfly (2 ^ s) s F x else F x
theorem six {s : Nat} (h : s ≤ 5) : s = 0 ∨ s = 1 ∨ s = 2 ∨ s = 3 ∨ s = 4 ∨ s = 5 := by omega
theorem mg_even {s p k : Nat} (hs : s ≤ 5) (hk : k < 2 ^ s) (F : Nat → P2) : mg s p k F (p * (2 * 2 ^ s) + k) = F (p * (2 * 2 ^ s) + k) := by
  refine if_neg ?_
  rcases six hs with rfl | rfl | rfl | rfl | rfl | rfl <;> simp only [Nat.reducePow, Nat.reduceMul] at * <;> omega
theorem mg_odd {s p k : Nat} (hs : s ≤ 5) (hk : k < 2 ^ s) (F : Nat → P2) : mg s p k F (p * (2 * 2 ^ s) + k + 2 ^ s) = F (p * (2 * 2 ^ s) + k + 2 ^ s) := by
  refine if_neg ?_
  rcases six hs with rfl | rfl | rfl | rfl | rfl | rfl <;> simp only [Nat.reducePow, Nat.reduceMul] at * <;> omega
theorem mg_iff {s p k x : Nat} (hs : s ≤ 5) (hk : k < 2 ^ s) : (x / (2 * 2 ^ s) < p ∨ (x / (2 * 2 ^ s) = p ∧ x % 2 ^ s < k + 1)) ↔
    ((x / (2 * 2 ^ s) < p ∨ (x / (2 * 2 ^ s) = p ∧ x % 2 ^ s < k)) ∨ x = p * (2 * 2 ^ s) + k ∨ x = p * (2 * 2 ^ s) + k + 2 ^ s) := by
  rcases six hs with rfl | rfl | rfl | rfl | rfl | rfl <;> simp only [Nat.reducePow, Nat.reduceMul] at * <;> omega
theorem mg_mod {s p k : Nat} (hs : s ≤ 5) (hk : k < 2 ^ s) : (p * (2 * 2 ^ s) + k) % (2 * 2 ^ s) = k ∧ (p * (2 * 2 ^ s) + k + 2 ^ s) % (2 * 2 ^ s) = k + 2 ^ s := by
  rcases six hs with rfl | rfl | rfl | rfl | rfl | rfl <;> simp only [Nat.reducePow, Nat.reduceMul] at * <;> omega
theorem mg_step {s p k : Nat} (hs : s ≤ 5) (hk : k < 2 ^ s) (F : Nat → P2) (x : Nat) : mg s p (k + 1) F x =
    if x = p * (2 * 2 ^ s) + k + 2 ^ s then subP (F (p * (2 * 2 ^ s) + k)) (twd (F (p * (2 * 2 ^ s) + k + 2 ^ s)) (ang s k))
    else if x = p * (2 * 2 ^ s) + k then addP (F (p * (2 * 2 ^ s) + k)) (twd (F (p * (2 * 2 ^ s) + k + 2 ^ s)) (ang s k)) else mg s p k F x := by
  obtain ⟨m1, m2⟩ := mg_mod (p := p) hs hk
  have hi := mg_iff (p := p) (x := x) hs hk
  by_cases e1 : x = p * (2 * 2 ^ s) + k + 2 ^ s
  · rw [if_pos e1, mg, if_pos (hi.2 (.inr (.inr e1))), bfly, e1, m2, if_neg (by omega), Nat.add_sub_cancel, Nat.add_sub_cancel]
  · rw [if_neg e1]
    by_cases e2 : x = p * (2 * 2 ^ s) + k
    · rw [if_pos e2, mg, if_pos (hi.2 (.inr (.inl e2))), bfly, e2, m1, if_pos hk]
    · rw [if_neg e2, mg, mg]
      by_cases c : x / (2 * 2 ^ s) < p ∨ (x / (2 * 2 ^ s) = p ∧ x % 2 ^ s < k)
      · rw [if_pos c, if_pos (hi.2 (.inl c))]
      · rw [if_neg c, if_neg (fun h => (hi.1 h).elim c (fun h => h.elim e2 e1))]
theorem mg_next (s p : Nat) (F : Nat → P2) (x : Nat) : mg s p (2 ^ s) F x = mg s (p + 1) 0 F x := by
  have hm : x % 2 ^ s < 2 ^ s := Nat.mod_lt _ (Nat.two_pow_pos s)
  rw [mg, mg]
  by_cases c : x / (2 * 2 ^ s) < p + 1
  · rw [if_pos (by omega), if_pos (.inl c)]
  · rw [if_neg (by omega), if_neg (by omega)]
theorem mg_zero (s : Nat) (F : Nat → P2) (x : Nat) : mg s 0 0 F x = F x := if_neg (fun h => h.elim (Nat.not_lt_zero _) (fun h => Nat.not_lt_zero _ h.2))
theorem mg_all {s m : Nat} (hm : m ≤ 6) (hs : s < m) (F : Nat → P2) (x : Nat) (hx : x < 2 ^ m) : mg s (2 ^ m / (2 * 2 ^ s)) 0 F x = bfly (2 ^ s) s F x := by
  refine if_pos (.inl ?_)
  rw [← Nat.pow_succ'] at *
  have h : 2 ^ m = 2 ^ (s + 1) * 2 ^ (m - (s + 1)) := by rw [← Nat.pow_add]; congr 1; omega
  rw [h, Nat.mul_div_cancel_left _ (Nat.two_pow_pos _)]
  rw [h] at hx
  exact Nat.div_lt_of_lt_mul hx
theorem tdiv512 {s : Nat} (h : s ≤ 5) : (512 : Int).tdiv (2 * ((2 ^ s : Nat) : Int)) = ((2 ^ (8 - s) : Nat) : Int) := by
  rcases six h with rfl | rfl | rfl | rfl | rfl | rfl <;> rfl
theorem ang_le {s k : Nat} (h : s ≤ 5) (hk : k < 2 ^ s) : 2 ^ (8 - s) ≤ 256 ∧ 2 ^ (8 - s) * k ≤ 256 := by
  rcases six h with rfl | rfl | rfl | rfl | rfl | rfl <;> simp only [Nat.reducePow, Nat.reduceSub] at * <;> omega
theorem mround {s p k n h P : Nat} {F : Nat → P2} (hs : s ≤ 5) (hh : h = 2 ^ s) (hP : P * (2 * h) ≤ n) (hp : p < P) (hk : k < h) (hn : n ≤ 64) :
    ∃ (b ev o c : Nat) (th : Int), wrap64 ((p : Int) * (2 * (h : Int))) = (b : Int) ∧ wrap64 ((b : Int) + (k : Int)) = (ev : Int) ∧ wrap64 ((ev : Int) + (h : Int)) = (o : Int) ∧ (ev : Int) + (h : Int) = (o : Int) ∧
      (512 : Int).tdiv (2 * (h : Int)) = (c : Int) ∧ wrap64 (c : Int) = (c : Int) ∧ wrap64 ((c : Int) * (k : Int)) = th ∧ ev < n ∧ o < n ∧ ev ≠ o ∧ 0 ≤ th ∧ th ≤ 256 ∧
      Hid (mg s p k F ev = F ev) ∧ Hid (mg s p k F o = F o) ∧
      Hid (∀ x, mg s p (k + 1) F x = if x = o then subP (F ev) (twd (F o) th) else if x = ev then addP (F ev) (twd (F o) th) else mg s p k F x) := by
  have hn' : p * (2 * h) + k + h < n := by
    have h1 : (p + 1) * (2 * h) ≤ P * (2 * h) := Nat.mul_le_mul_right _ (by omega)
    rw [Nat.add_mul] at h1
    omega
  have hk' : k < 2 ^ s := by rw [← hh]; exact hk
  obtain ⟨al1, al2⟩ := ang_le hs hk'
  have c0 : (p : Int) * (2 * (h : Int)) = ((p * (2 * h) : Nat) : Int) := by simp
  have c1 : ((2 ^ (8 - s) : Nat) : Int) * (k : Int) = ((2 ^ (8 - s) * k : Nat) : Int) := by rw [Int.natCast_mul]
  have ha : ang s k = ((2 ^ (8 - s) * k : Nat) : Int) := rfl
  refine ⟨p * (2 * h), p * (2 * h) + k, p * (2 * h) + k + h, 2 ^ (8 - s), ang s k, ?_, ?_, ?_, ?_, ?_, ?_, ?_, ?_, ?_, ?_, ?_, ?_, ?_, ?_, ?_⟩
  · rw [c0]; generalize p * (2 * h) = z at *; unfold wrap64; omega
  · generalize p * (2 * h) = z at *; unfold wrap64; omega
  · generalize p * (2 * h) = z at *; unfold wrap64; omega
  · omega
  · rw [hh]; exact tdiv512 hs
  · generalize 2 ^ (8 - s) = z at *; unfold wrap64; omega
  · rw [c1, ha]; generalize 2 ^ (8 - s) * k = z at *; unfold wrap64; omega
  · omega
  · omega
  · omega
  · rw [ha]; omega
  · rw [ha]; omega
  · show _ = _; subst hh; exact mg_even hs hk F
  · show _ = _; subst hh; exact mg_odd hs hk F
  · show ∀ x, _ = _; subst hh; exact mg_step hs hk F
abbrev fst (F : Nat → P2) : Nat → Int := fun x => (F x).1
abbrev snd (F : Nat → P2) : Nat → Int := fun x => (F x).2
set_option maxRecDepth 100000 in
set_option maxHeartbeats 1000000 in
theorem merge_any {m s : Nat} (hm : m ≤ 6) (hs : s < m) (B r q t n h : Nat) (hn : n = 2 ^ m) (hh : h = 2 ^ s) (F : Nat → P2) (bd : ∀ x, Bd 764411904 (F x)) (w : World) (ht : Tab t w) (htB : t < B)
    (hw : Two B r q n (fst F) (snd F) w w) :
    Calls Tryd.prog 72 #[.pointer (some ⟨t, 0, none⟩), .slice (some ⟨r, 0, none⟩) n n, .slice (some ⟨q, 0, none⟩) n n, .int .i64 h] w fun e w' => e = .returned (.tuple #[]) ∧ Two B r q n (fst (bfly (2 ^ s) s F)) (snd (bfly (2 ^ s) s F)) w w' := by
  have H64 : n ≤ 64 := by rw [hn]; exact Nat.pow_le_pow_right (by omega) (show m ≤ 6 from hm)
  have h32 : h ≤ 32 := by rw [hh]; exact Nat.pow_le_pow_right (n := 2) (by omega) (show s ≤ 5 by omega)
  have h1 : 1 ≤ h := by rw [hh]; exact Nat.two_pow_pos s
  have hz : (2 * (h : Int) == 0) = false := by simp; omega
  have hP : (n : Int).tdiv (2 * (h : Int)) = ((n / (2 * h) : Nat) : Int) := by rw [show (2 * (h : Int)) = ((2 * h : Nat) : Int) by simp, Int.ofNat_tdiv]
  have hP64 : n / (2 * h) ≤ 64 := Nat.le_trans (Nat.div_le_self _ _) H64
  have hs5 : s ≤ 5 := by omega
  have HN : Hid (n = 2 ^ m) := hn
  have HH : Hid (h = 2 ^ s) := hh
  have HPE : Hid (n / (2 * h) = 2 ^ m / (2 * 2 ^ s)) := by show _ = _; rw [hn, hh]
  have HW0 : Hid (Two B r q n (fst (mg s 0 0 F)) (snd (mg s 0 0 F)) w w) := hw.congr (fun i _ => by show _ = (mg s 0 0 F i).1; rw [mg_zero]) (fun i _ => by show _ = (mg s 0 0 F i).2; rw [mg_zero])
  have HPn : Hid (n / (2 * h) * (2 * h) ≤ n) := Nat.div_mul_le_self _ _
  have HT : Hid (∀ W, Below B w W → Tab t W) := fun W hb => ht.below htB hb
  clear hn hh hw ht htB
  generalize n / (2 * h) = P at *
  go_enter Tryd.func72, Tryd.ntmps72
  go_wp2
  go_loopw [21] (fun i wr => ∃ p : Nat, p ≤ P ∧ i = .int .i64 p ∧ Hid (Two B r q n (fst (mg s p 0 F)) (snd (mg s p 0 F)) w wr)) (fun i _ => P - (intOf i).toNat)
  case atStart => exact ⟨0, Nat.zero_le _, rfl, HW0⟩
  case round =>
    clear HW0
    obtain ⟨p, hp, rfl, HW⟩ := hrel
    by_cases hlt : p < P
    · go_wp2
      go_loopw [25] (fun i wr => ∃ k : Nat, k ≤ h ∧ i = .int .i64 k ∧ Hid (Two B r q n (fst (mg s p k F)) (snd (mg s p k F)) w wr)) (fun i _ => h - (intOf i).toNat)
      case atStart => exact ⟨0, Nat.zero_le _, rfl, HW⟩
      case round =>
        clear HW
        obtain ⟨k, hk, rfl, HW⟩ := hrel
        by_cases hlt2 : k < h
        · obtain ⟨b, ev, o, c, th, e0, e1, e2, e5, e3, e6, e4, hev, ho, hee, th0, th1, HE, HO, HF⟩ := mround (F := F) hs5 HH.out HPn.out hlt hlt2 H64
          have b1 := bd ev
          have b2 := bd o
          have b3 := b2.twd th
          have ca : ∀ W, Below wr.heap.size wr W → W.cell? ⟨r, o, none⟩ = some (.int .i64 (F o).1) := fun W hq => by
            rw [(HW.out.below hq).a.get (by omega)]; show some (Value.int _ (mg s p k F o).1) = _; rw [HO.out]
          have cb : ∀ W, Below wr.heap.size wr W → W.cell? ⟨q, o, none⟩ = some (.int .i64 (F o).2) := fun W hq => by
            rw [(HW.out.below hq).b.get (by omega)]; show some (Value.int _ (mg s p k F o).2) = _; rw [HO.out]
          have HC : Hid (∀ W, Below wr.heap.size wr W → Calls Tryd.prog 66 #[.pointer (some ⟨t, 0, none⟩), .int .i64 (F o).1, .int .i64 (F o).2, .int .i64 th] W fun e w' => e = .returned (.tuple #[.int .i64 (twd (F o) th).1, .int .i64 (twd (F o) th).2]) ∧ Below wr.heap.size wr w') := fun W hq => by
            have hT : Tab t W := HT.out _ (HW.out.below hq).bel
            refine (turn_yes t (F o).1 (F o).2 th (by omega) (by obtain ⟨z1, z2⟩ := b2; omega) (by obtain ⟨z1, z2⟩ := b2; omega) W hT).mono ?_
            rintro e w2 ⟨he, hb⟩
            have hb2 := below_then hq hb
            exact ⟨he, hb2⟩
          have ho1 : 0 ≤ (o : Int) := by omega
          have ho2 : (o : Int) < (n : Int) := by omega
          generalize hX : twd (F o) th = xy at *
          obtain ⟨⟨x1, x2⟩, ⟨x3, x4⟩⟩ := b1
          obtain ⟨⟨y1, y2⟩, ⟨y3, y4⟩⟩ := b3
          clear b2
          go_wp2
          simp only [e0, e1]
          refine region_below (by kernel_rfl) (by kernel_rfl) ?_
          repeat (go_big_quiet_step (first
            | (intro hq; rfl)
            | (intro hq; rw [ca _ hq]; exact ⟨rfl, rfl⟩)
            | (intro hq; rw [cb _ hq]; exact ⟨rfl, rfl⟩)
            | (intro hq; go_at_call 66; exact HC.out _ hq)))
          refine wpQuiet_nil ?_
          intro w1 hq
          have HW1 := HW.out.below hq
          have g1 : w1.cell? ⟨r, ev, none⟩ = some (.int .i64 (F ev).1) := by
            rw [HW1.a.get hev]; show some (Value.int _ (mg s p k F ev).1) = _; rw [HE.out]
          have g2 : w1.cell? ⟨q, ev, none⟩ = some (.int .i64 (F ev).2) := by
            rw [HW1.b.get hev]; show some (Value.int _ (mg s p k F ev).2) = _; rw [HE.out]
          obtain ⟨v1, g3⟩ : ∃ v, w1.cell? ⟨r, o, none⟩ = some v := ⟨_, HW1.a.get ho⟩
          obtain ⟨v2, g4⟩ : ∃ v, w1.cell? ⟨q, o, none⟩ = some v := ⟨_, HW1.b.get ho⟩
          have f1 := IsAt.frozen HW1.a ev
          have f2 := IsAt.frozen HW1.a o
          have f3 := IsAt.frozen HW1.b ev
          have f4 := IsAt.frozen HW1.b o
          have HW2 : Hid _ := HW1
          clear HW1 HW HC ca cb hq
          go_wp2
          go_region
          have HW3 := ((HW2.out.setA hev ((F ev).1 + xy.1)).setA ho ((F ev).1 - xy.1)).drew
          generalize ((w1.setCell ⟨r, ev, none⟩ (.int .i64 ((F ev).1 + xy.1))).setCell ⟨r, o, none⟩ (.int .i64 ((F ev).1 - xy.1))).drew = W2 at HW3 ⊢
          clear g1 g2 g3 g4 f1 f2 f3 f4 HW2
          have g2 : W2.cell? ⟨q, ev, none⟩ = some (.int .i64 (F ev).2) := by
            rw [HW3.b.get hev]; show some (Value.int _ (mg s p k F ev).2) = _; rw [HE.out]
          obtain ⟨v3, g4⟩ : ∃ v, W2.cell? ⟨q, o, none⟩ = some v := ⟨_, HW3.b.get ho⟩
          have f3 := IsAt.frozen HW3.b ev
          have f4 := IsAt.frozen HW3.b o
          have HW4 : Hid _ := HW3
          clear HW3
          go_wp2
          go_region
          have HW5 := (((HW4.out.setB hev ((F ev).2 + xy.2)).setB ho ((F ev).2 - xy.2)).drew).congr
            (fun i hi => show upd (upd (fst (mg s p k F)) ev ((F ev).1 + xy.1)) o ((F ev).1 - xy.1) i = (mg s p (k + 1) F i).1 by
              rw [HF.out i]; unfold upd; by_cases u1 : i = o
              · rw [if_pos u1, if_pos u1]; rfl
              · rw [if_neg u1, if_neg u1]; by_cases u2 : i = ev
                · rw [if_pos u2, if_pos u2]; rfl
                · rw [if_neg u2, if_neg u2])
            (fun i hi => show upd (upd (snd (mg s p k F)) ev ((F ev).2 + xy.2)) o ((F ev).2 - xy.2) i = (mg s p (k + 1) F i).2 by
              rw [HF.out i]; unfold upd; by_cases u1 : i = o
              · rw [if_pos u1, if_pos u1]; rfl
              · rw [if_neg u1, if_neg u1]; by_cases u2 : i = ev
                · rw [if_pos u2, if_pos u2]; rfl
                · rw [if_neg u2, if_neg u2])
          go_wp2
          refine ⟨⟨k + 1, by omega, by go_num, HW5⟩, by simp [intOf]; omega⟩
        · have HK : Hid (k = h) := by show _ = _; omega
          clear bd hP
          go_wp2
          refine ⟨⟨p + 1, by omega, by go_num, HW.out.congr (fun i hi => ?_) (fun i hi => ?_)⟩, by simp [intOf]; omega⟩
          · show (mg s p k F i).1 = (mg s (p + 1) 0 F i).1; rw [HK.out, HH.out, mg_next]
          · show (mg s p k F i).2 = (mg s (p + 1) 0 F i).2; rw [HK.out, HH.out, mg_next]
    · obtain rfl : p = P := by omega
      go_wp2
      go_end0
      refine ⟨rfl, HW.out.congr (fun i hi => ?_) (fun i hi => ?_)⟩
      · show (mg s p 0 F i).1 = (bfly (2 ^ s) s F i).1; rw [HPE.out, mg_all hm hs F i (by rw [← HN.out]; exact hi)]
      · show (mg s p 0 F i).2 = (bfly (2 ^ s) s F i).2; rw [HPE.out, mg_all hm hs F i (by rw [← HN.out]; exact hi)]
end Go.Proofs.YtfhcfdepjhdhfaaDoor
/-
  The contract of the document's Right.
-/
namespace Go.Proofs.YtfhcfdepjhdhfaaDoor
open Go.ChangeShapes Go.WideShapes Go.ChangeAt Go.RowKit
set_option linter.unusedVariables false

def rightB (X Y : Nat → Int) (la lb : Nat) : Bool := decide (la = lb) && fitsF la && okL X la && okL Y lb
theorem half_all2 : ∀ j : Nat, j < 7 → ∀ c : Nat, c < 65 → 2 ^ j * c < 65 → c % 2 = 1 → (decide ((c : Int) = 1)) = fitsF ((2 ^ j * c : Nat) : Int) := by decide +kernel
theorem half_end {n j c : Nat} (hn : n ≤ 64) (e : n = 2 ^ j * c) (h : c % 2 = 1) : (decide ((c : Int) = 1)) = fitsF (n : Int) := by
  have h1 : 2 ^ j ≤ n := by rw [e]; exact Nat.le_mul_of_pos_right _ (by omega)
  have h2 : j < 7 := by
    apply Decidable.byContradiction
    intro hj
    have : 2 ^ 7 ≤ 2 ^ j := Nat.pow_le_pow_right (by omega) (by omega)
    omega
  have h3 : c ≤ n := by rw [e]; exact Nat.le_mul_of_pos_left _ (Nat.two_pow_pos j)
  rw [half_all2 j h2 c (by omega) (by omega) h, ← e]
theorem rright_any (a c : Option Addr) (la ca lb cb : Nat) (X Y : Nat → Int) (w : World) (h : la ≤ 64 → IsInts w a la ca X) (h' : lb ≤ 64 → IsInts w c lb cb Y) (ml : la ≤ maxLen) (ml' : lb ≤ maxLen) :
    Calls Tryd.prog 75 #[.slice a la ca, .slice c lb cb] w fun e w' => e = .returned (.bool (rightB X Y la lb)) ∧ w' = w := by
  have hM : la ≤ 9223372036854775807 := Nat.le_trans ml (by decide)
  have hM' : lb ≤ 9223372036854775807 := Nat.le_trans ml' (by decide)
  by_cases h1 : ¬ la = lb
  · have hne : ((la : Int) == (lb : Int)) = false := by simp; omega
    have hr : rightB X Y la lb = false := by simp [rightB, h1]
    rw [hr]
    clear h h' ml ml' hr
    go_enter Tryd.func75, Tryd.ntmps75
    go_wp2
    go_ret
    exact ⟨rfl, rfl⟩
  have h1 := Decidable.not_not.1 h1
  subst h1
  by_cases h2 : la < 1
  · have hr : rightB X Y la la = false := by
      have : fitsF (la : Int) = false := if_neg (by omega)
      simp [rightB, this]
    rw [hr]
    clear h h' ml ml' hr
    go_enter Tryd.func75, Tryd.ntmps75
    go_wp2
    go_ret
    exact ⟨rfl, rfl⟩
  by_cases h3 : 64 < la
  · have hr : rightB X Y la la = false := by
      have : fitsF (la : Int) = false := if_neg (by omega)
      simp [rightB, this]
    rw [hr]
    clear h h' ml ml' hr
    go_enter Tryd.func75, Tryd.ntmps75
    go_wp2
    go_ret
    exact ⟨rfl, rfl⟩
  have H1 : Hid (Calls Tryd.prog 29 #[.slice a la ca, .int .i64 (-1048576), .int .i64 1048576] w fun e w' => e = .returned (.bool (okL X la)) ∧ w' = w) := rwithin_any a la ca X (by omega) w (h (by omega))
  have H2 : Hid (Calls Tryd.prog 29 #[.slice c la cb, .int .i64 (-1048576), .int .i64 1048576] w fun e w' => e = .returned (.bool (okL Y la)) ∧ w' = w) := rwithin_any c la cb Y (by omega) w (h' (by omega))
  have HR : Hid (rightB X Y la la = (fitsF la && okL X la && okL Y la)) := by show _ = _; simp [rightB]
  rw [HR.out]
  clear HR h h' ml ml'
  generalize okL X la = b1 at *
  generalize okL Y la = b2 at *
  cases b1
  · rw [Bool.and_false, Bool.false_and]
    go_enter Tryd.func75, Tryd.ntmps75
    go_wp2_with (go_at_call 29; refine H1.out.mono ?_; rintro e w1 ⟨rfl, rfl⟩)
    go_ret
    exact ⟨rfl, rfl⟩
  cases b2
  · rw [Bool.and_false]
    go_enter Tryd.func75, Tryd.ntmps75
    go_wp2_with (first
      | (go_at_call 29; (with_reducible refine H1.out.mono ?_); rintro e w1 ⟨rfl, rfl⟩)
      | (go_at_call 29; (with_reducible refine H2.out.mono ?_); rintro e w1 ⟨rfl, rfl⟩))
    go_ret
    exact ⟨rfl, rfl⟩
  rw [Bool.and_true, Bool.and_true]
  have HE : Hid (∀ j c : Nat, la = 2 ^ j * c → c % 2 = 1 → (decide ((c : Int) = 1)) = fitsF (la : Int)) := fun j c e h => half_end (by omega) e h
  have H0 : Hid (la = 2 ^ 0 * la) := by show _ = _; simp
  generalize fitsF (la : Int) = fb at *
  go_enter Tryd.func75, Tryd.ntmps75
  go_wp2_with (first
    | (go_at_call 29; (with_reducible refine H1.out.mono ?_); rintro e w1 ⟨rfl, rfl⟩)
    | (go_at_call 29; (with_reducible refine H2.out.mono ?_); rintro e w1 ⟨rfl, rfl⟩))
  go_loop [5] (fun i => ∃ c : Nat, 1 ≤ c ∧ c ≤ 64 ∧ i = .int .i64 c ∧ Hid (∃ j, la = 2 ^ j * c)) (fun i => (intOf i).toNat)
  case atStart => exact ⟨la, by omega, by omega, rfl, ⟨0, H0.out⟩⟩
  case round =>
    obtain ⟨c, hc1, hc2, rfl, HJ⟩ := hrel
    by_cases he : c % 2 = 0
    · have t1 : (c : Int).tmod 2 = 0 := by rw [Int.tmod_eq_emod_of_nonneg (by omega)]; omega
      have t2 : (c : Int).tdiv 2 = ((c / 2 : Nat) : Int) := by rw [Int.tdiv_eq_ediv_of_nonneg (by omega)]; omega
      go_wp2
      refine ⟨⟨c / 2, by omega, by omega, by go_num, ?_⟩, by simp [intOf]; omega⟩
      obtain ⟨j, hj⟩ := HJ.out
      refine ⟨j + 1, ?_⟩
      rw [hj, Nat.pow_succ, Nat.mul_assoc]
      congr 1; omega
    · have t1 : (c : Int).tmod 2 = 1 := by rw [Int.tmod_eq_emod_of_nonneg (by omega)]; omega
      go_wp2
      go_ret
      obtain ⟨j, hj⟩ := HJ.out
      refine ⟨?_, rfl⟩
      rw [← HE.out j c hj (by omega)]
      rfl
end Go.Proofs.YtfhcfdepjhdhfaaDoor
/-
  The contract of fft.Waves.
-/
namespace Go.Proofs.YtfhcfdepjhdhfaaDoor
open Go.ChangeShapes Go.WideShapes Go.ChangeAt Go.RowKit
set_option linter.unusedVariables false

theorem okL_yes {X : Nat → Int} (h : ∀ i, -1048576 ≤ X i ∧ X i ≤ 1048576) : ∀ len, okL X len = true
  | 0 => rfl
  | len + 1 => by
    have := okL_yes h len
    have := h len
    simp [okL, allIn] at *
    simp [*]
theorem Two.re {B r q n : Nat} {X Y : Nat → Int} {w0 w : World} (h : Two B r q n X Y w0 w) : Two B r q n X Y w w := ⟨h.rB, h.qB, h.ne, h.a, h.b, Below.refl _ _⟩
theorem Two.tr {B r q n : Nat} {X Y X' Y' : Nat → Int} {w0 w w' : World} (h : Two B r q n X Y w0 w) (h' : Two B r q n X' Y' w w') : Two B r q n X' Y' w0 w' := ⟨h.rB, h.qB, h.ne, h'.a, h'.b, h.bel.trans h'.bel⟩
theorem Two.copyA {B r q n : Nat} {X Y : Nat → Int} {w0 w : World} (h : Two B r q n X Y w0 w) (X' : Nat → Int) : Two B r q n X' Y w0 (w.setRow r (rowA n X')) :=
  ⟨h.rB, h.qB, h.ne, setRow_heap w r _ _ _ _ h.a, (setRow_other w r q _ (fun e => h.ne e.symm)).trans h.b, below_setRow h.bel h.rB _⟩
theorem Two.copyB {B r q n : Nat} {X Y : Nat → Int} {w0 w : World} (h : Two B r q n X Y w0 w) (Y' : Nat → Int) : Two B r q n X Y' w0 (w.setRow q (rowA n Y')) :=
  ⟨h.rB, h.qB, h.ne, (setRow_other w q r _ h.ne).trans h.a, setRow_heap w q _ _ _ _ h.b, below_setRow h.bel h.qB _⟩
theorem made_rows (n : Nat) (w : World) : RowAt w.heap.size n (fun _ => 0) ((w.alloc (.cells (rowA n (fun _ => 0)) 3)).alloc (.cells (rowA n (fun _ => 0)) 3)).drew ∧
    RowAt (w.heap.size + 1) n (fun _ => 0) ((w.alloc (.cells (rowA n (fun _ => 0)) 3)).alloc (.cells (rowA n (fun _ => 0)) 3)).drew ∧
    Below w.heap.size w ((w.alloc (.cells (rowA n (fun _ => 0)) 3)).alloc (.cells (rowA n (fun _ => 0)) 3)).drew := by
  refine ⟨?_, ?_, ?_⟩
  · have h1 := al_new w (.cells (rowA n (fun _ => 0)) 3)
    exact (al_old (w := w.alloc (.cells (rowA n (fun _ => 0)) 3)) _ (by rw [al_size]; omega)).trans h1
  · have h1 := al_new (w.alloc (.cells (rowA n (fun _ => 0)) 3)) (.cells (rowA n (fun _ => 0)) 3)
    rw [al_size] at h1
    exact h1
  · exact (((Below.refl _ w).alloc (Nat.le_refl _) _).alloc (by rw [al_size]; omega) _).drew
theorem made_two (n : Nat) (w : World) : Two w.heap.size w.heap.size (w.heap.size + 1) n (fun _ => 0) (fun _ => 0) w ((w.alloc (.cells (rowA n (fun _ => 0)) 3)).alloc (.cells (rowA n (fun _ => 0)) 3)).drew :=
  ⟨Nat.le_refl _, by omega, by omega, (made_rows n w).1, (made_rows n w).2.1, (made_rows n w).2.2⟩
theorem made_owt (n : Nat) (w : World) : Two w.heap.size (w.heap.size + 1) w.heap.size n (fun _ => 0) (fun _ => 0) w ((w.alloc (.cells (rowA n (fun _ => 0)) 3)).alloc (.cells (rowA n (fun _ => 0)) 3)).drew :=
  ⟨by omega, Nat.le_refl _, by omega, (made_rows n w).2.1, (made_rows n w).1, (made_rows n w).2.2⟩
/-- What fft.Waves gives: two new lists. -/
def WPost (m n : Nat) (G : Nat → P2) (w : World) (e : Ending) (w' : World) : Prop := ∃ r q, e = .returned (.tuple #[.slice (some ⟨r, 0, none⟩) n n, .slice (some ⟨q, 0, none⟩) n n]) ∧ Two w.heap.size r q n (fst G) (snd G) w w'
set_option maxRecDepth 100000 in
theorem waves_yes {m : Nat} (hm : m ≤ 6) (n : Nat) (hn : n = 2 ^ m) (t : Nat) (a c : Option Addr) (ca cb : Nat) (F : Nat → P2) (bd : ∀ x, Bd 1048576 (F x)) (w : World) (ht : Tab t w) (hd : DTab w)
    (h : IsInts w a n ca (fst F)) (h' : IsInts w c n cb (snd F)) :
    Calls Tryd.prog 57 #[.pointer (some ⟨t, 0, none⟩), .slice a n ca, .slice c n cb] w (WPost m n (wav m F) w) := by
  have H64 : n ≤ 64 := by rw [hn]; exact Nat.pow_le_pow_right (by omega) (show m ≤ 6 from hm)
  have H1 : 1 ≤ n := by rw [hn]; exact Nat.two_pow_pos m
  have HF : Hid (Calls Tryd.prog 68 #[.int .i64 n] w fun e w' => e = .returned (.bool true) ∧ w' = w) := by
    have := fits_any (n : Int) w
    rw [show fitsF (n : Int) = true by rw [hn]; exact fits_pow m (by omega)] at this
    exact this
  have HA : Hid (Calls Tryd.prog 69 #[.slice a n ca] w fun e w' => e = .returned (.bool true) ∧ w' = w) := by
    have := fwithin_any a n ca (fst F) H64 w h
    rw [okL_yes (fun i => (bd i).1) n] at this
    exact this
  have HB : Hid (Calls Tryd.prog 69 #[.slice c n cb] w fun e w' => e = .returned (.bool true) ∧ w' = w) := by
    have := fwithin_any c n cb (snd F) H64 w h'
    rw [okL_yes (fun i => (bd i).2) n] at this
    exact this
  have HT : Hid (Tab t w) := ht
  have HD : Hid (DTab w) := hd
  have HN : Hid (n = 2 ^ m) := hn
  rcases h with h | ⟨b, off, rfl, hb, _, _, hc⟩
  · omega
  rcases h' with h' | ⟨b', off', rfl, hb', _, _, hc'⟩
  · omega
  have HC : Hid (∀ W, Below w.heap.size w W → (∀ i, i < n → W.cell? ⟨b, off + i, none⟩ = some (.int .i64 (fst F i))) ∧ (∀ i, i < n → W.cell? ⟨b', off' + i, none⟩ = some (.int .i64 (snd F i)))) := fun W h =>
    ⟨fun i hi => by rw [h.cell (p := ⟨b, off + i, none⟩) hb]; exact hc i hi, fun i hi => by rw [h.cell (p := ⟨b', off' + i, none⟩) hb']; exact hc' i hi⟩
  have HM : Hid (∀ s, s ≤ 6 → ∀ x, Bd 764411904 (stg m F s x)) := fun s hs x => by
    have h1 := stg_bd (m := m) bd s x
    have h2 := bnd_le hs
    obtain ⟨⟨u1, u2⟩, ⟨u3, u4⟩⟩ := h1
    exact ⟨⟨by omega, by omega⟩, ⟨by omega, by omega⟩⟩
  have hmk := make_ints H64
  clear hc hc' hb hb' ht hd hn bd
  go_enter Tryd.func57, Tryd.ntmps57
  go_wp2_with (first
    | (go_at_call 68; refine HF.out.mono ?_; rintro e w1 ⟨rfl, rfl⟩)
    | (go_at_call 69; (with_reducible refine HA.out.mono ?_); rintro e w1 ⟨rfl, rfl⟩)
    | (go_at_call 69; (with_reducible refine HB.out.mono ?_); rintro e w1 ⟨rfl, rfl⟩))
  go_region
  · obtain ⟨B, hB, HW⟩ : ∃ B, B = w1.heap.size ∧ Two B w1.heap.size (w1.heap.size + 1) n (fun _ => 0) (fun _ => 0) w1 _ := ⟨_, rfl, made_two n w1⟩
    rw [← hB] at HC
    generalize ((w1.alloc (.cells (rowA n (fun _ => 0)) 3)).alloc (.cells (rowA n (fun _ => 0)) 3)).drew = W at HW ⊢
    generalize w1.heap.size + 1 = q at HW ⊢
    generalize w1.heap.size = r at HW ⊢
    have HBE : Hid (B = w1.heap.size) := hB
    have htB : Hid (t < B) := by show _ < _; rw [hB]; exact HT.out.1
    have hvB : Hid (2 < B) := by show _ < _; rw [hB]; exact HD.out.lt
    have cp1 := fun ty => copy_row (ca := ca) HW.a (HC.out W HW.bel).1 ty
    have HW1 := HW.copyA (fst F)
    have cp2 := fun ty => copy_row (ca := cb) HW1.b (HC.out _ HW1.bel).2 ty
    have HW2 : Hid _ := HW1.copyB (snd F)
    generalize W.setRow r (rowA n (fst F)) = W1 at cp1 cp2 HW2
    generalize W1.setRow q (rowA n (snd F)) = W2 at cp2 HW2
    have HP : Hid (Calls Tryd.prog 70 #[.slice (some ⟨r, 0, none⟩) n n, .slice (some ⟨q, 0, none⟩) n n] W2 fun e w' => e = .returned (.tuple #[]) ∧ Two B r q n (fst (stg m F 0)) (snd (stg m F 0)) w1 w') := by
      refine (turnPlaces_any hm B r q n HN.out _ _ W2 (HD.out.frame HW2.out.bel hvB.out) hvB.out HW2.out.re).mono ?_
      rintro e w2 ⟨he, h2⟩
      exact ⟨he, HW2.out.tr h2⟩
    have HL : Hid (∀ W', Below B w1 W' → Calls Tryd.prog 71 #[.int .i64 (n : Int)] W' fun e w' => e = .returned (.int .i64 (m : Int)) ∧ w' = W') := fun W' hb => by
      rw [HN.out]; exact places_any hm W' (HD.out.frame hb hvB.out)
    have HG : Hid (∀ s, s < m → ∀ W', Two B r q n (fst (stg m F s)) (snd (stg m F s)) w1 W' →
        Calls Tryd.prog 72 #[.pointer (some ⟨t, 0, none⟩), .slice (some ⟨r, 0, none⟩) n n, .slice (some ⟨q, 0, none⟩) n n, .int .i64 ((2 ^ s : Nat) : Int)] W' fun e w' => e = .returned (.tuple #[]) ∧ Two B r q n (fst (stg m F (s + 1))) (snd (stg m F (s + 1))) w1 w') := fun s hs W' h2 => by
      refine (merge_any hm hs B r q t n (2 ^ s) HN.out rfl (stg m F s) (HM.out s (by omega)) W' (HT.out.below htB.out h2.bel) htB.out h2.re).mono ?_
      rintro e w2 ⟨he, h3⟩
      exact ⟨he, h2.tr h3⟩
    have HE : Hid (∀ W', Two B r q n (fst (stg m F m)) (snd (stg m F m)) w1 W' → Two w1.heap.size r q n (fst (wav m F)) (snd (wav m F)) w1 W') := fun W' h2 => by
      rw [← HBE.out]
      exact h2.congr (fun i hi => by show (stg m F m i).1 = _; rw [stg_all m F (by rw [← HN.out]; exact hi)]) (fun i hi => by show (stg m F m i).2 = _; rw [stg_all m F (by rw [← HN.out]; exact hi)])
    clear HW HW1 HW2 hB hmk HF HA HB HC HT HD HM htB hvB
    go_wp2_with (first
      | (go_at_call 70; refine HP.out.mono ?_; rintro e w3 ⟨rfl, H3⟩; replace H3 : Hid _ := H3)
      | (go_at_call 71; refine (HL.out _ H3.out.bel).mono ?_; rintro e w4 ⟨rfl, rfl⟩))
    go_loopw [54] (fun i wr => ∃ s : Nat, s ≤ m ∧ i = .int .i64 s ∧ Hid (Two B r q n (fst (stg m F s)) (snd (stg m F s)) w1 wr)) (fun i _ => m - (intOf i).toNat)
    case atStart => exact ⟨0, Nat.zero_le _, rfl, H3⟩
    case round =>
      clear H3
      obtain ⟨s, hs, rfl, H3⟩ := hrel
      by_cases hlt : s < m
      · have HGs : Hid (Calls Tryd.prog 72 #[.pointer (some ⟨t, 0, none⟩), .slice (some ⟨r, 0, none⟩) n n, .slice (some ⟨q, 0, none⟩) n n, .int .i64 ((2 ^ s : Nat) : Int)] wr fun e w' => e = .returned (.tuple #[]) ∧ Two B r q n (fst (stg m F (s + 1))) (snd (stg m F (s + 1))) w1 w') := HG.out s hlt wr H3.out
        have hp : 2 ^ s ≤ 32 := Nat.pow_le_pow_right (n := 2) (by omega) (show s ≤ 5 by omega)
        have hp' : wrap64 (((2 ^ s : Nat) : Int)) = ((2 ^ s : Nat) : Int) := by generalize 2 ^ s = z at *; unfold wrap64; omega
        have hp2 : wrap64 ((2 : Int) ^ s) = ((2 ^ s : Nat) : Int) := by rw [← hp']; congr 1
        go_wp2_with (go_at_call 72; refine HGs.out.mono ?_; rintro e w5 ⟨rfl, H5⟩; replace H5 : Hid _ := H5)
        refine ⟨⟨s + 1, by omega, by go_num, H5⟩, by simp [intOf]; omega⟩
      · obtain rfl : s = m := by omega
        go_wp2
        go_ret2
        exact ⟨_, _, rfl, HE.out _ H3.out⟩
  · obtain ⟨B, hB, HW⟩ : ∃ B, B = w1.heap.size ∧ Two B (w1.heap.size + 1) w1.heap.size n (fun _ => 0) (fun _ => 0) w1 _ := ⟨_, rfl, made_owt n w1⟩
    rw [← hB] at HC
    generalize ((w1.alloc (.cells (rowA n (fun _ => 0)) 3)).alloc (.cells (rowA n (fun _ => 0)) 3)).drew = W at HW ⊢
    generalize w1.heap.size + 1 = r at HW ⊢
    generalize w1.heap.size = q at HW ⊢
    have HBE : Hid (B = w1.heap.size) := hB
    have htB : Hid (t < B) := by show _ < _; rw [hB]; exact HT.out.1
    have hvB : Hid (2 < B) := by show _ < _; rw [hB]; exact HD.out.lt
    have cp1 := fun ty => copy_row (ca := ca) HW.a (HC.out W HW.bel).1 ty
    have HW1 := HW.copyA (fst F)
    have cp2 := fun ty => copy_row (ca := cb) HW1.b (HC.out _ HW1.bel).2 ty
    have HW2 : Hid _ := HW1.copyB (snd F)
    generalize W.setRow r (rowA n (fst F)) = W1 at cp1 cp2 HW2
    generalize W1.setRow q (rowA n (snd F)) = W2 at cp2 HW2
    have HP : Hid (Calls Tryd.prog 70 #[.slice (some ⟨r, 0, none⟩) n n, .slice (some ⟨q, 0, none⟩) n n] W2 fun e w' => e = .returned (.tuple #[]) ∧ Two B r q n (fst (stg m F 0)) (snd (stg m F 0)) w1 w') := by
      refine (turnPlaces_any hm B r q n HN.out _ _ W2 (HD.out.frame HW2.out.bel hvB.out) hvB.out HW2.out.re).mono ?_
      rintro e w2 ⟨he, h2⟩
      exact ⟨he, HW2.out.tr h2⟩
    have HL : Hid (∀ W', Below B w1 W' → Calls Tryd.prog 71 #[.int .i64 (n : Int)] W' fun e w' => e = .returned (.int .i64 (m : Int)) ∧ w' = W') := fun W' hb => by
      rw [HN.out]; exact places_any hm W' (HD.out.frame hb hvB.out)
    have HG : Hid (∀ s, s < m → ∀ W', Two B r q n (fst (stg m F s)) (snd (stg m F s)) w1 W' →
        Calls Tryd.prog 72 #[.pointer (some ⟨t, 0, none⟩), .slice (some ⟨r, 0, none⟩) n n, .slice (some ⟨q, 0, none⟩) n n, .int .i64 ((2 ^ s : Nat) : Int)] W' fun e w' => e = .returned (.tuple #[]) ∧ Two B r q n (fst (stg m F (s + 1))) (snd (stg m F (s + 1))) w1 w') := fun s hs W' h2 => by
      refine (merge_any hm hs B r q t n (2 ^ s) HN.out rfl (stg m F s) (HM.out s (by omega)) W' (HT.out.below htB.out h2.bel) htB.out h2.re).mono ?_
      rintro e w2 ⟨he, h3⟩
      exact ⟨he, h2.tr h3⟩
    have HE : Hid (∀ W', Two B r q n (fst (stg m F m)) (snd (stg m F m)) w1 W' → Two w1.heap.size r q n (fst (wav m F)) (snd (wav m F)) w1 W') := fun W' h2 => by
      rw [← HBE.out]
      exact h2.congr (fun i hi => by show (stg m F m i).1 = _; rw [stg_all m F (by rw [← HN.out]; exact hi)]) (fun i hi => by show (stg m F m i).2 = _; rw [stg_all m F (by rw [← HN.out]; exact hi)])
    clear HW HW1 HW2 hB hmk HF HA HB HC HT HD HM htB hvB
    go_wp2_with (first
      | (go_at_call 70; refine HP.out.mono ?_; rintro e w3 ⟨rfl, H3⟩; replace H3 : Hid _ := H3)
      | (go_at_call 71; refine (HL.out _ H3.out.bel).mono ?_; rintro e w4 ⟨rfl, rfl⟩))
    go_loopw [54] (fun i wr => ∃ s : Nat, s ≤ m ∧ i = .int .i64 s ∧ Hid (Two B r q n (fst (stg m F s)) (snd (stg m F s)) w1 wr)) (fun i _ => m - (intOf i).toNat)
    case atStart => exact ⟨0, Nat.zero_le _, rfl, H3⟩
    case round =>
      clear H3
      obtain ⟨s, hs, rfl, H3⟩ := hrel
      by_cases hlt : s < m
      · have HGs : Hid (Calls Tryd.prog 72 #[.pointer (some ⟨t, 0, none⟩), .slice (some ⟨r, 0, none⟩) n n, .slice (some ⟨q, 0, none⟩) n n, .int .i64 ((2 ^ s : Nat) : Int)] wr fun e w' => e = .returned (.tuple #[]) ∧ Two B r q n (fst (stg m F (s + 1))) (snd (stg m F (s + 1))) w1 w') := HG.out s hlt wr H3.out
        have hp : 2 ^ s ≤ 32 := Nat.pow_le_pow_right (n := 2) (by omega) (show s ≤ 5 by omega)
        have hp' : wrap64 (((2 ^ s : Nat) : Int)) = ((2 ^ s : Nat) : Int) := by generalize 2 ^ s = z at *; unfold wrap64; omega
        have hp2 : wrap64 ((2 : Int) ^ s) = ((2 ^ s : Nat) : Int) := by rw [← hp']; congr 1
        go_wp2_with (go_at_call 72; refine HGs.out.mono ?_; rintro e w5 ⟨rfl, H5⟩; replace H5 : Hid _ := H5)
        refine ⟨⟨s + 1, by omega, by go_num, H5⟩, by simp [intOf]; omega⟩
      · obtain rfl : s = m := by omega
        go_wp2
        go_ret2
        exact ⟨_, _, rfl, HE.out _ H3.out⟩
end Go.Proofs.YtfhcfdepjhdhfaaDoor
/-
  The contract of the document's parts: those at even places, and those at odd ones.
-/
namespace Go.Proofs.YtfhcfdepjhdhfaaDoor
open Go.ChangeShapes Go.WideShapes Go.ChangeAt Go.RowKit
set_option linter.unusedVariables false

/-- Two rows of the call's own: ca numbers of even places, cb of odd ones. -/
structure Par (B : Nat) (u v : Value) (ca cb : Nat) (X : Nat → Int) (w0 w : World) : Prop where
  a : w.ownsRow B 3 1 u ca (intL ca fun i => X (2 * i))
  b : w.ownsRow B 3 1 v cb (intL cb fun i => X (2 * i + 1))
  ne : u.ownBlock = none ∨ u.ownBlock ≠ v.ownBlock
  bel : Below B w0 w
  sz : B ≤ w.heap.size
theorem par_a {B : Nat} {u v : Value} {ca cb : Nat} {X : Nat → Int} {w0 w w3 : World} {g cap : Nat} {o : Obj} (h : Par B u v ca cb X w0 w)
    (hown : w3.ownsRow B 3 1 (.slice (some ⟨g, 0, none⟩) (ca + 1) cap) (ca + 1) ((intL ca fun i => X (2 * i)) ++ [.int .i64 (X (2 * ca))])) (hg : (w.alloc o).grownBy w3 u.ownBlock)
    (hor : u.ownBlock = some g ∨ g = w.heap.size + 1) : Par B (.slice (some ⟨g, 0, none⟩) (ca + 1) cap) v (ca + 1) cb X w0 w3 := by
  have hs : (w.alloc o).heap.size = w.heap.size + 1 := by show (w.heap.push o).size = _; simp
  refine ⟨?_, (h.b.alloc _).kept hg ?_, .inr ?_, Below.grown (h.bel.alloc h.sz _) hg (by have := h.sz; omega) (fun j hj => (h.a.lt j hj).1), by have := hg.size; have := h.sz; omega⟩
  · rw [intL_snoc]; exact hown
  · rcases h.ne with e | e
    · rw [e]; cases hv : v.ownBlock with
      | none => exact .inl rfl
      | some x => exact .inr (by simp)
    · exact .inr (fun e' => e e'.symm)
  · intro e
    have e : some g = v.ownBlock := e
    rcases hor with e2 | e2
    · rcases h.ne with e3 | e3
      · rw [e2] at e3; cases e3
      · exact e3 (e2.trans e)
    · have := (h.b.lt g e.symm).2
      omega
theorem par_b {B : Nat} {u v : Value} {ca cb : Nat} {X : Nat → Int} {w0 w w3 : World} {g cap : Nat} {o : Obj} (h : Par B u v ca cb X w0 w)
    (hown : w3.ownsRow B 3 1 (.slice (some ⟨g, 0, none⟩) (cb + 1) cap) (cb + 1) ((intL cb fun i => X (2 * i + 1)) ++ [.int .i64 (X (2 * cb + 1))])) (hg : (w.alloc o).grownBy w3 v.ownBlock)
    (hor : v.ownBlock = some g ∨ g = w.heap.size + 1) : Par B u (.slice (some ⟨g, 0, none⟩) (cb + 1) cap) ca (cb + 1) X w0 w3 := by
  have hs : (w.alloc o).heap.size = w.heap.size + 1 := by show (w.heap.push o).size = _; simp
  refine ⟨(h.a.alloc _).kept hg h.ne, ?_, ?_, Below.grown (h.bel.alloc h.sz _) hg (by have := h.sz; omega) (fun j hj => (h.b.lt j hj).1), by have := hg.size; have := h.sz; omega⟩
  · rw [intL_snoc]; exact hown
  · rcases h.ne with e | e
    · exact .inl e
    · refine .inr (fun e1 => ?_)
      have e1 : u.ownBlock = some g := e1
      rcases hor with e2 | e2
      · exact e (e1.trans e2.symm)
      · have := (h.a.lt g e1).2
        omega
/-- What parts gives. -/
def PPost (p : Nat) (X : Nat → Int) (w : World) (e : Ending) (w' : World) : Prop := ∃ a1 c1 a2 c2, e = .returned (.tuple #[.slice a1 p c1, .slice a2 p c2]) ∧ IsInts w' a1 p c1 (fun i => X (2 * i)) ∧ IsInts w' a2 p c2 (fun i => X (2 * i + 1)) ∧ Below w.heap.size w w'
set_option maxRecDepth 100000 in
theorem rparts_any (a : Option Addr) (n p cap : Nat) (hn : n = 2 * p) (h1 : 1 ≤ n) (h64 : n ≤ 64) (X : Nat → Int) (w : World) (h : IsInts w a n cap X) :
    Calls Tryd.prog 85 #[.slice a n cap] w (PPost p X w) := by
  rcases h with h | ⟨b, off, rfl, hb, _, _, hc⟩
  · omega
  obtain ⟨i0, hi, hz0, hz1, hz2⟩ := infoI
  have HI : Hid (Tryd.prog.info? 3 = some i0) := hi
  have HC : Hid (∀ W, Below w.heap.size w W → ∀ i, i < n → W.cell? ⟨b, off + i, none⟩ = some (.int .i64 (X i))) := fun W h i hi => by
    rw [h.cell (p := ⟨b, off + i, none⟩) hb]; exact hc i hi
  have HE : Hid (∀ u v wr, Par w.heap.size u v p p X w wr → PPost p X w (.returned (.tuple #[u, v])) wr) := fun u v wr h => by
    obtain ⟨a1, c1, rfl, i1⟩ := own_ints h.a
    obtain ⟨a2, c2, rfl, i2⟩ := own_ints h.b
    exact ⟨a1, c1, a2, c2, rfl, i1, i2, h.bel⟩
  have H0 : Hid (Par w.heap.size (.slice none 0 0) (.slice none 0 0) 0 0 X w w) := ⟨World.ownsRow_nil _ _ _ _, World.ownsRow_nil _ _ _ _, .inl rfl, Below.refl _ _, Nat.le_refl _⟩
  have HNP : Hid (n = 2 * p) := hn
  clear hi hc hb hn
  obtain ⟨B, hB⟩ : ∃ B, B = w.heap.size := ⟨_, rfl⟩
  rw [← hB] at HC HE H0
  clear hB
  go_enter Tryd.func85, Tryd.ntmps85
  go_wp2
  go_loopw [4, 5, 6] (fun u v i wr => ∃ k ca cb : Nat, k ≤ n ∧ i = .int .i64 k ∧ k = ca + cb ∧ (ca = cb ∨ ca = cb + 1) ∧ Hid (Par B u v ca cb X w wr)) (fun _ _ i _ => n - (intOf i).toNat)
  case atStart => exact ⟨0, 0, 0, by omega, rfl, rfl, .inl rfl, H0⟩
  case round =>
    clear H0
    obtain ⟨k, ca, cb, hk, rfl, hkc, hpar, HP⟩ := hrel
    have HKC : Hid (k = ca + cb ∧ (ca = cb ∨ ca = cb + 1)) := ⟨hkc, hpar⟩
    have hca : ca ≤ 64 := by omega
    have hcb : cb ≤ 64 := by omega
    have hev' : k % 2 = 0 ∨ k % 2 = 1 := by omega
    clear hkc hpar
    by_cases hlt : k < n
    · have hck := HC.out _ HP.out.bel k hlt
      have HZ : Hid (∀ c : Int, B ≤ (wr.alloc (.cells #[.int .i64 c] 3)).heap.size) := fun c => Nat.le_trans HP.out.sz (by simp)
      rcases hev' with hev | hev
      · have t1 : (k : Int).tmod 2 = 0 := by rw [Int.tmod_eq_emod_of_nonneg (by omega)]; omega
        have HK : Hid (X k = X (2 * ca)) := by obtain ⟨z1, z2⟩ := HKC.out; show _ = _; congr 1; omega
        have HN : Hid (∀ g cap w3, Par B (.slice (some ⟨g, 0, none⟩) (ca + 1) cap) u5 (ca + 1) cb X w w3 → ∃ ca' cb' : Nat, k + 1 = ca' + cb' ∧ (ca' = cb' ∨ ca' = cb' + 1) ∧ Par B (.slice (some ⟨g, 0, none⟩) (ca + 1) cap) u5 ca' cb' X w w3) := fun g cap w3 h => by
          obtain ⟨z1, z2⟩ := HKC.out
          exact ⟨ca + 1, cb, by omega, by omega, h⟩
        have HA : Hid (∀ c : Int, (wr.alloc (.cells #[.int .i64 c] 3)).ownsRow B 3 1 u4 ca (intL ca fun i => X (2 * i))) := fun c => HP.out.a.alloc _
        rw [HK.out] at hck
        obtain ⟨xk, hxk⟩ : ∃ x, x = X (2 * ca) := ⟨_, rfl⟩
        rw [← hxk] at hck
        have HX : Hid (xk = X (2 * ca)) := hxk
        clear hxk
        go_wp2_with (at_builtin; refine wpList_append_lies _ rfl _ _ _ rfl B 3 i0 (.int .i64 0) 1 8 Tryd.underlying23 HI.out hz0 hz1 hz2 rfl (by omega) _ _ _ rfl (HA.out _) ⟨wr.heap.size, 0, none⟩ 1 1 [.int .i64 xk] rfl rfl (World.news_of_block (cs := #[.int .i64 xk]) (heap_alloc_new wr _)) (by intro u hu; simp at hu; subst hu; rfl) (by omega) (by unfold maxLen; omega) (by omega) (HZ.out _) _ rfl ?_)
        intro g cap w3 hown hgr hor _
        rw [HX.out] at hown hgr
        obtain ⟨ca', cb', z1, z2, hp3⟩ := HN.out _ _ _ (par_a HP.out hown hgr hor)
        have Z : Hid (k + 1 = ca' + cb' ∧ (ca' = cb' ∨ ca' = cb' + 1)) := ⟨z1, z2⟩
        have P3 : Hid _ := hp3
        clear hown hgr hor HA HN HP hck HC hp3 z1 z2
        go_wp2
        go_round
        case rel => exact ⟨k + 1, ca', cb', by omega, by go_num, Z.out.1, Z.out.2, P3⟩
        case measure => simp [intOf]; omega
      · have t1 : (k : Int).tmod 2 = 1 := by rw [Int.tmod_eq_emod_of_nonneg (by omega)]; omega
        have HK : Hid (X k = X (2 * cb + 1)) := by obtain ⟨z1, z2⟩ := HKC.out; show _ = _; congr 1; omega
        have HN : Hid (∀ g cap w3, Par B u4 (.slice (some ⟨g, 0, none⟩) (cb + 1) cap) ca (cb + 1) X w w3 → ∃ ca' cb' : Nat, k + 1 = ca' + cb' ∧ (ca' = cb' ∨ ca' = cb' + 1) ∧ Par B u4 (.slice (some ⟨g, 0, none⟩) (cb + 1) cap) ca' cb' X w w3) := fun g cap w3 h => by
          obtain ⟨z1, z2⟩ := HKC.out
          exact ⟨ca, cb + 1, by omega, by omega, h⟩
        have HA : Hid (∀ c : Int, (wr.alloc (.cells #[.int .i64 c] 3)).ownsRow B 3 1 u5 cb (intL cb fun i => X (2 * i + 1))) := fun c => HP.out.b.alloc _
        rw [HK.out] at hck
        obtain ⟨xk, hxk⟩ : ∃ x, x = X (2 * cb + 1) := ⟨_, rfl⟩
        rw [← hxk] at hck
        have HX : Hid (xk = X (2 * cb + 1)) := hxk
        clear hxk
        go_wp2_with (at_builtin; refine wpList_append_lies _ rfl _ _ _ rfl B 3 i0 (.int .i64 0) 1 8 Tryd.underlying23 HI.out hz0 hz1 hz2 rfl (by omega) _ _ _ rfl (HA.out _) ⟨wr.heap.size, 0, none⟩ 1 1 [.int .i64 xk] rfl rfl (World.news_of_block (cs := #[.int .i64 xk]) (heap_alloc_new wr _)) (by intro u hu; simp at hu; subst hu; rfl) (by omega) (by unfold maxLen; omega) (by omega) (HZ.out _) _ rfl ?_)
        intro g cap w3 hown hgr hor _
        rw [HX.out] at hown hgr
        obtain ⟨ca', cb', z1, z2, hp3⟩ := HN.out _ _ _ (par_b HP.out hown hgr hor)
        have Z : Hid (k + 1 = ca' + cb' ∧ (ca' = cb' ∨ ca' = cb' + 1)) := ⟨z1, z2⟩
        have P3 : Hid _ := hp3
        clear hown hgr hor HA HN HP hck HC hp3 z1 z2
        go_wp2
        go_round
        case rel => exact ⟨k + 1, ca', cb', by omega, by go_num, Z.out.1, Z.out.2, P3⟩
        case measure => simp [intOf]; omega
    · obtain rfl : k = n := by omega
      have HQ : Hid (ca = p ∧ cb = p) := by obtain ⟨z1, z2⟩ := HKC.out; have := HNP.out; exact ⟨by omega, by omega⟩
      go_wp2
      go_ret2
      obtain ⟨rfl, rfl⟩ := HQ.out
      exact HE.out _ _ _ HP.out
end Go.Proofs.YtfhcfdepjhdhfaaDoor
