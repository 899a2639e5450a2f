/-
  Proved: for any list of up to 40 numbers of any sorts (above that the law answers by the chapter's example alone), those that were coded are told again, in order, by a decoder of what the coder told. Conditions: none beside the row's own (the listed tables read as the program's text lays them, sym's small differences among them; the card ties them to the pruned copy).
-/
import Derived.Test.YtdfpmhdgebajfaaDoorCards
import Derived.Test.YtdfpmhdgebajfaaDoorTie
import Derived.Test.YtdfpmhdgebajfaaDoorW5
import Derived.Test.YtdfpmhdgebajfaaDoorW7
import Derived.WalkKit
import Derived.ProofKit
import Derived.OpenShut
import Derived.ShutString
import Derived.ChangeOld
import Derived.Below
import Derived.Lay
import Derived.LaidOnce
import Derived.SevenTiedAt
namespace Go.Proofs.YtdfpmhdgebajfaaDoor.symBack
open Go.ChangeShapes Go.WideShapes Go.ChangeAt Go.RowKit
open Go.ChangeMaps (open_string shut_string)
set_option linter.unusedVariables false

theorem own : ownKnob Tryd.prog.godebug = none := by kernel_rfl
theorem laidOut : laidOutB Tryd.prog = true := by kernel_rfl

set_option maxRecDepth 100000
theorem walkBig (w : World) (ht : Tab w) (a : Option Addr) (len cap : Nat) (hl : len ≤ maxLen) (h : 40 < len) :
    Calls Tryd.prog 5 #[.slice a len cap] w fun e w' => e = .returned (.bool true) ∧ Below w.heap.size w w' := by
  unfold maxLen at hl
  have hj : decide ((len : Int) > 40) = true := decide_eq_true (by omega)
  go_enter Tryd.func5, Tryd.ntmps5
  go_wp2_with (go_at_call 6; refine (awake_any _ ht).mono ?_; rintro e w7 ⟨rfl, hb7⟩)
  go_ret
  exact ⟨rfl, hb7⟩
theorem sb_new (w : World) : Sb w [] (.slice none 0 0) (w.alloc (.cells #[.int .i64 0, .int .i64 0, .pointer none, .int .i64 0, .bool false, .int .u8 0, .int .i64 0] 33)) :=
  ⟨fun X hX => by simp at hX, co_new w w.heap.size (Nat.le_refl _), World.ownsRow_nil _ _ _ _, (Below.refl _ w).alloc (Nat.le_refl _) _⟩
/-- What stands in the second loop: d and some. -/
structure Sd (w : World) (q : Items) (v : Value) (r i : Nat) (wr : World) : Prop where
  dd : IsAt r 65 (dc (endC (codQ q)) (decQ q i)) wr
  own : wr.ownsRow w.heap.size 40 3 v q.length (cellsQ q)
  bel : Below w.heap.size w wr
  ge : w.heap.size ≤ r
theorem Sd.below {w : World} {q : Items} {v : Value} {r i : Nat} {wr w' : World} (h : Sd w q v r i wr) (hb : Below wr.heap.size wr w') : Sd w q v r i w' :=
  ⟨h.dd.below hb, owns_below h.own hb, h.bel.trans (hb.mono h.bel.size), h.ge⟩
theorem Sd.next {w : World} {q : Items} {v : Value} {r i : Nat} {wr w' : World} (h : Sd w q v r i wr) (hd : IsAt r 65 (dc (endC (codQ q)) (decQ q (i + 1))) w') (hb : But r wr w') : Sd w q v r (i + 1) w' :=
  ⟨hd, owns_but h.own h.dd (by decide) hb, h.bel.trans (hb.below h.ge h.bel.size), h.ge⟩
theorem but_cell {r b o : Nat} {w w' : World} {v : Value} (h : But r w w') (hb : b ≠ r) (hc : w.cell? ⟨b, o, none⟩ = some v) : w'.cell? ⟨b, o, none⟩ = some v := by
  rw [← hc]
  simp [World.cell?, h.block b (block_lt_of_cell hc) hb]
theorem back_bits {q : Items} (ok : AllOk q) (hq : q.length ≤ 40) {j : Nat} {v n : Int} (h : q[j]? = some (0, v, n)) (r : Nat) (w : World) (hi : IsAt r 65 (dc (endC (codQ q)) (decQ q j)) w) :
    Calls Tryd.prog 13 #[.pointer (some ⟨r, 0, none⟩), .int .i64 n] w fun e w' => e = .returned (.int .i64 v) ∧ IsAt r 65 (dc (endC (codQ q)) (decQ q (j + 1))) w' ∧ But r w w' := by
  have hok : okB v n = true := ok _ (List.mem_of_getElem? h)
  have hf := decQ_fits ok h
  have hn := decQ_next h
  obtain ⟨a, b, rfl, rfl, b31, ab⟩ := okB_nat hok
  have ep : partsI (0, (a : Int), (b : Int)) = bitsP a b := rfl
  rw [ep] at hf hn
  have hg := getB_fits (endC (codQ q)) a b (decQ q j) ab hf
  have := getbits_at r (endC (codQ q)) (decQ q j) b w hi (decQ_ok ok j) b31 (by have := endQ_len ok hq; omega)
  rw [hg, hn] at this
  exact this
theorem back_below {q : Items} (ok : AllOk q) (hq : q.length ≤ 40) {j : Nat} {v n : Int} (h : q[j]? = some (1, v, n)) (r : Nat) (w : World) (hi : IsAt r 65 (dc (endC (codQ q)) (decQ q j)) w) :
    Calls Tryd.prog 15 #[.pointer (some ⟨r, 0, none⟩), .int .i64 n] w fun e w' => e = .returned (.tuple #[.int .i64 v, .bool true]) ∧ IsAt r 65 (dc (endC (codQ q)) (decQ q (j + 1))) w' ∧ But r w w' := by
  have hok : okW v n = true := ok _ (List.mem_of_getElem? h)
  have hf := decQ_fits ok h
  have hn := decQ_next h
  obtain ⟨a, b, rfl, rfl, b1, b2, ab⟩ := okW_nat hok
  have ep : partsI (1, (a : Int), (b : Int)) = belowP a b := rfl
  rw [ep] at hf hn
  have hg := getW_fits (endC (codQ q)) a b (decQ q j) ab hf
  have := getbelow_at r (endC (codQ q)) (decQ q j) b w hi (decQ_ok ok j) b1 b2 (by have := endQ_len ok hq; omega)
  rw [hg, hn] at this
  exact this
theorem back_delta {q : Items} (ok : AllOk q) (hq : q.length ≤ 40) {j : Nat} {K v n : Int} (h0 : ¬ K = 0) (h1 : ¬ K = 1) (h : q[j]? = some (K, v, n)) (r : Nat) (w : World) (ht : Tab w) (hi : IsAt r 65 (dc (endC (codQ q)) (decQ q j)) w) :
    Calls Tryd.prog 17 #[.pointer (some ⟨r, 0, none⟩)] w fun e w' => e = .returned (.int .i64 v) ∧ IsAt r 65 (dc (endC (codQ q)) (decQ q (j + 1))) w' ∧ But r w w' := by
  have hok : okI (K, v, n) = true := ok _ (List.mem_of_getElem? h)
  have EI : okI (K, v, n) = okD v := by show (if K = 0 then _ else if K = 1 then _ else _) = _; rw [if_neg h0, if_neg h1]
  have EP : partsI (K, v, n) = deltaP v := by show (if K = 0 then _ else if K = 1 then _ else _) = _; rw [if_neg h0, if_neg h1]
  have hf := decQ_fits ok h
  have hn := decQ_next h
  rw [EI] at hok
  rw [EP] at hf hn
  obtain ⟨v1, v2⟩ := okD_bd hok
  have hg := getD_fits (endC (codQ q)) v (decQ q j) v1 v2 hf
  have := getdelta_at r (endC (codQ q)) (decQ q j) w hi (decQ_ok ok j) ht (by have := endQ_len ok hq; omega)
  rw [hg, hn] at this
  exact this
set_option maxHeartbeats 4000000 in
theorem walkN (w : World) (ht : Tab w) (a : Option Addr) (b off len cap : Nat) (X : Nat → Int × Int × Int) (hA : len ≠ 0 → a = some ⟨b, off, none⟩) (hb : len ≠ 0 → b < w.heap.size) (hl : len ≤ 40) (hX : ∀ i, i < len → ItemAt w b (off + i * 3) (X i)) :
    Calls Tryd.prog 5 #[.slice a len cap] w fun e w' => e = .returned (.bool true) ∧ Below w.heap.size w w' := by
  have hz : 0 < w.heap.size := block_lt_of_cell (ht 0 (by decide))
  have HT : Hid (Tab w) := ht
  have HX : Hid (∀ i, i < len → ItemAt w b (off + i * 3) (X i)) := hX
  have HS0 : Hid (Sb w [] (.slice none 0 0) (w.alloc (.cells #[.int .i64 0, .int .i64 0, .pointer none, .int .i64 0, .bool false, .int .u8 0, .int .i64 0] 33))) := sb_new w
  clear hX ht
  have hj : decide ((len : Int) > 40) = false := decide_eq_false (by omega)
  have hli : (len : Int) ≤ 40 := by omega
  obtain ⟨i0, hi, hz0, hz1, hz2⟩ := info_parts infoI
  go_enter Tryd.func5, Tryd.ntmps5
  go_wp2
  generalize w.alloc (.cells #[.int .i64 0, .int .i64 0, .pointer none, .int .i64 0, .bool false, .int .u8 0, .int .i64 0] 33) = W at *
  go_loopw [4, 5] (fun vv i wr => ∃ (k : Nat) (q : Items), k ≤ len ∧ i = .int .i64 k ∧ q.length ≤ k ∧ Sb w q vv wr) (fun _ i _ => len - (intOf i).toNat)
  case atStart => exact ⟨0, [], by omega, rfl, Nat.le_refl _, HS0.out⟩
  case round =>
    obtain ⟨k, q, hk, rfl, hq, hst⟩ := hrel
    have HS : Hid (Sb w q u4 wr) := hst
    have hbel := hst.bel
    clear hst HS0
    by_cases hlt : k < len
    · obtain rfl := hA (by omega)
      have hb' := hb (by omega)
      have h3' := (HX.out k hlt).below hbel hb'
      have hki : (k : Int) < (len : Int) := by omega
      have HTr : Hid (Tab wr) := HT.out.frame hbel hz
      clear hbel
      generalize hXk : X k = Y at *
      obtain ⟨K, v, n⟩ := Y
      have okc := codQ_ok q HS.out.okq
      have HG1 : Hid (Calls Tryd.prog 7 #[.pointer (some ⟨w.heap.size, 0, none⟩), .agg #[.int .i64 K, .int .i64 v, .int .i64 n]] wr fun e' w' => e' = .returned (.bool (okI (K, v, n))) ∧ ItemAt w' b (off + k * 3) (K, v, n) ∧ CoAt w.heap.size w.heap.size (stI (codQ q) (K, v, n)) w' ∧ Fr w.heap.size wr w') :=
        (iput_at w.heap.size w.heap.size (codQ q) (K, v, n) wr HS.out.co okc.1 HTr.out HS.out.bel.size (by omega)).mono fun e' w' ⟨q1, q2, q3⟩ => ⟨q1, h3'.below q3.below hb', q2, q3⟩
      obtain ⟨c0, c1, c2⟩ := h3'
      clear HTr okc
      cases hU : okI (K, v, n) with
      | false =>
        rw [hU] at HG1
        go_wp2_with (fail)
        refine HG1.out.mono ?_
        rintro e1 w2 ⟨rfl, x2, i2, f2⟩
        have HS2 : Hid (Sb w q u4 w2) := HS.out.drop hU i2 f2
        clear x2 i2 f2 HS HG1 c0 c1 c2 hU
        go_wp2
        exact ⟨⟨k + 1, q, by omega, by go_num, by omega, HS2.out⟩, by simp [intOf]; omega⟩
      | true =>
        rw [hU] at HG1
        go_wp2_with (fail)
        refine HG1.out.mono ?_
        rintro e1 w2 ⟨rfl, ⟨x20, x21, x22⟩, i2, f2⟩
        have I2 : Hid (CoAt w.heap.size w.heap.size (stI (codQ q) (K, v, n)) w2) := i2
        have F2 : Hid (Fr w.heap.size wr w2) := f2
        have OW : Hid ((w2.alloc (.cells #[.int .i64 K, .int .i64 v, .int .i64 n] 40)).ownsRow w.heap.size 40 3 u4 q.length (cellsQ q)) := (owns_fr HS.out.own f2).alloc _
        have HW : Hid (IsAt w2.heap.size 40 #[.int .i64 K, .int .i64 v, .int .i64 n] (w2.alloc (.cells #[.int .i64 K, .int .i64 v, .int .i64 n] 40))) := heap_alloc_new w2 _
        have HU : Hid (okI (K, v, n) = true) := hU
        have HZ : Hid (w.heap.size ≤ (w2.alloc (.cells #[.int .i64 K, .int .i64 v, .int .i64 n] 40)).heap.size) := by
          have := Nat.le_trans HS.out.bel.size f2.below.size
          show _ ≤ (w2.alloc _).heap.size
          simp; omega
        clear i2 f2 HG1 c0 c1 c2 hU
        go_wp2_with (first
          | (at_builtin; refine wpList_append_lies _ rfl _ _ 22 rfl w.heap.size 40 i0 (.agg #[.int .i64 0, .int .i64 0, .int .i64 0]) 3 24 Tryd.underlying22 hi hz0 hz1 hz2 rfl (by decide) _ _ _ rfl OW.out ⟨w2.heap.size, 0, none⟩ 1 1 [.int .i64 K, .int .i64 v, .int .i64 n] rfl rfl ?c1 ?c2 (by decide) ?c3 ?c4 HZ.out _ rfl ?_))
        case c1 =>
          intro j u hj
          have hadd : ∀ m : Nat, (⟨w2.heap.size, 0, none⟩ : Addr).add m = ⟨w2.heap.size, m, none⟩ := fun m => by unfold Addr.add; split <;> simp_all
          rw [hadd, HW.out.cell j]
          simpa using hj
        case c2 =>
          intro u hu
          simp at hu
          rcases hu with rfl | rfl | rfl <;> rfl
        case c3 => unfold maxLen; omega
        case c4 => omega
        · intro g cap' w3 hown hgr _ _
          have HS3 : Hid (Sb w (q ++ [(K, v, n)]) (.slice (some ⟨g, 0, none⟩) (q.length + 1) cap') w3) := HS.out.keep HU.out I2.out F2.out hown hgr
          have hql : (q ++ [(K, v, n)]).length = q.length + 1 := by simp
          clear hown hgr HS I2 F2 OW HW HZ HU x20 x21 x22
          generalize q ++ [(K, v, n)] = q' at *
          go_wp2
          exact ⟨⟨k + 1, q', by omega, by go_num, by omega, HS3.out⟩, by simp [intOf]; omega⟩
    · obtain rfl : k = len := by omega
      clear hbel
      obtain ⟨ad, cap', rfl, hform⟩ := owns_form HS.out.own
      have okc := codQ_ok q HS.out.okq
      have hlen := endQ_len HS.out.okq (by omega)
      go_wp2_with (fail)
      refine (end_at w.heap.size w.heap.size (codQ q) wr HS.out.co okc.1.low HS.out.bel.size (by omega)).mono ?_
      rintro e w7 ⟨rfl, h7, f7⟩
      have OW7 : Hid (w7.ownsRow w.heap.size 40 3 (.slice ad q.length cap') q.length (cellsQ q)) := owns_fr HS.out.own f7
      have F7 : Hid (Below w.heap.size w w7) := HS.out.bel.trans f7.below
      have OKQ : Hid (AllOk q) := HS.out.okq
      clear h7 f7 HS okc
      go_wp2_with (fail)
      refine (new_any (endC (codQ q)) w7 (by omega)).mono ?_
      rintro e w8 ⟨rfl, h8, f8⟩
      have HD : Hid (Sd w q (.slice ad q.length cap') w7.heap.size 0 w8) := ⟨h8, owns_below OW7.out f8, F7.out.trans (f8.mono F7.out.size), F7.out.size⟩
      clear h8 f8 OW7 F7
      generalize w7.heap.size = r at *
      have hql : (q.length : Int) ≤ 40 := by omega
      go_wp2
      go_loopw [7] (fun i wr => ∃ k : Nat, k ≤ q.length ∧ i = .int .i64 k ∧ Sd w q (.slice ad q.length cap') r k wr) (fun i _ => q.length - (intOf i).toNat)
      case atStart => exact ⟨0, Nat.zero_le _, rfl, HD.out⟩
      case round =>
        obtain ⟨j, hj2, rfl, hsd⟩ := hrel
        have HS : Hid (Sd w q (.slice ad q.length cap') r j wr) := hsd
        clear hsd HD
        by_cases hlt2 : j < q.length
        · obtain ⟨g, rfl⟩ := hform (by omega)
          obtain ⟨Y, hY⟩ : ∃ Y, q[j]? = some Y := ⟨q[j], List.getElem?_eq_getElem hlt2⟩
          obtain ⟨K, v, n⟩ := Y
          have cq := cellsQ_get q j _ hY
          have HTr : Hid (Tab wr) := HT.out.frame HS.out.bel hz
          have c0 : wr.cell? ⟨g, j * 3, none⟩ = some (.int .i64 K) := by rw [HS.out.own.cellAt _ (by omega)]; exact cq.1
          have c1 : wr.cell? ⟨g, j * 3 + 1, none⟩ = some (.int .i64 v) := by rw [HS.out.own.cellAt _ (by omega)]; exact cq.2.1
          have c2 : wr.cell? ⟨g, j * 3 + 2, none⟩ = some (.int .i64 n) := by rw [HS.out.own.cellAt _ (by omega)]; exact cq.2.2
          have hji : (j : Int) < (q.length : Int) := by omega
          clear cq
          have HP : Hid (IsAt wr.heap.size 40 #[.int .i64 K, .int .i64 v, .int .i64 n] (wr.alloc (.cells #[.int .i64 K, .int .i64 v, .int .i64 n] 40))) := heap_alloc_new wr _
          have HS1 : Hid (Sd w q (.slice (some ⟨g, 0, none⟩) q.length cap') r j (wr.alloc (.cells #[.int .i64 K, .int .i64 v, .int .i64 n] 40))) := HS.out.below ((Below.refl _ wr).alloc (Nat.le_refl _) _)
          have HT1 : Hid (Tab (wr.alloc (.cells #[.int .i64 K, .int .i64 v, .int .i64 n] 40))) := HTr.out.below ((Below.refl _ wr).alloc (Nat.le_refl _) _)
          have hpr : wr.heap.size ≠ r := by have := HS.out.dd.lt; omega
          clear HTr
          by_cases h0 : K = 0
          · subst h0
            have HG : Hid (∀ w1, w1.cell? ⟨wr.heap.size, 1, none⟩ = some (.int .i64 v) → w1.cell? ⟨wr.heap.size, 2, none⟩ = some (.int .i64 n) → IsAt r 65 (dc (endC (codQ q)) (decQ q j)) w1 → Calls Tryd.prog 13 #[.pointer (some ⟨r, 0, none⟩), .int .i64 n] w1 fun e' w' => e' = .returned (.int .i64 v) ∧ w'.cell? ⟨wr.heap.size, 1, none⟩ = some (.int .i64 v) ∧ w'.cell? ⟨wr.heap.size, 2, none⟩ = some (.int .i64 n) ∧ IsAt r 65 (dc (endC (codQ q)) (decQ q (j + 1))) w' ∧ But r w1 w') :=
              fun w1 k1 k2 k3 => (back_bits OKQ.out (by omega) hY r w1 k3).mono fun e' w' ⟨q1, q2, q3⟩ => ⟨q1, but_cell q3 hpr k1, but_cell q3 hpr k2, q2, q3⟩
            clear HT1
            go_wp2
            generalize wr.alloc (.cells #[.int .i64 0, .int .i64 v, .int .i64 n] 40) = W1 at *
            generalize wr.heap.size = P at *
            have p1 : W1.cell? ⟨P, 1, none⟩ = some (.int .i64 v) := HP.out.cell 1
            have p2 : W1.cell? ⟨P, 2, none⟩ = some (.int .i64 n) := HP.out.cell 2
            have HSd : Hid (Sd w q (.slice (some ⟨g, 0, none⟩) q.length cap') r j W1.drew) := HS1.out.below (below_drewN (Below.refl _ W1) 1)
            clear HP HS1 HS c0 c1 c2
            go_region_held3 (fun w' => w'.cell? ⟨P, 1, none⟩ = some (.int .i64 v) ∧ w'.cell? ⟨P, 2, none⟩ = some (.int .i64 n)) (go_keep)
              (first | (go_at_call 13; refine (HG.out _ ?_ ?_ HSd.out.dd).mono ?_; go_keep; go_keep; rintro e1 w2 ⟨rfl, x21, x22, i2, b2⟩))
            have HS4 : Hid (Sd w q (.slice (some ⟨g, 0, none⟩) q.length cap') r (j + 1) w2) := HSd.out.next i2 b2
            clear i2 b2 x21 x22 HSd HG p1 p2
            go_wp2
            exact ⟨⟨j + 1, by omega, by go_num, HS4.out⟩, by simp [intOf]; omega⟩
          · by_cases h1 : K = 1
            · subst h1
              have HG : Hid (∀ w1, IsAt r 65 (dc (endC (codQ q)) (decQ q j)) w1 → Calls Tryd.prog 15 #[.pointer (some ⟨r, 0, none⟩), .int .i64 n] w1 fun e' w' => e' = .returned (.tuple #[.int .i64 v, .bool true]) ∧ IsAt r 65 (dc (endC (codQ q)) (decQ q (j + 1))) w' ∧ But r w1 w') := fun w1 k3 => back_below OKQ.out (by omega) hY r w1 k3
              clear HT1
              go_wp2_with (fail)
              refine (HG.out _ HS1.out.dd).mono ?_
              rintro e1 w2 ⟨rfl, i2, b2⟩
              have HS4 : Hid (Sd w q (.slice (some ⟨g, 0, none⟩) q.length cap') r (j + 1) w2) := HS1.out.next i2 b2
              have x21 : w2.cell? ⟨wr.heap.size, 1, none⟩ = some (.int .i64 v) := but_cell b2 hpr (HP.out.cell 1)
              clear i2 b2 HG c0 c1 c2 HS1 HS HP
              go_wp2
              exact ⟨⟨j + 1, by omega, by go_num, HS4.out⟩, by simp [intOf]; omega⟩
            · have HG : Hid (∀ w1, w1.cell? ⟨wr.heap.size, 1, none⟩ = some (.int .i64 v) → Tab w1 → IsAt r 65 (dc (endC (codQ q)) (decQ q j)) w1 → Calls Tryd.prog 17 #[.pointer (some ⟨r, 0, none⟩)] w1 fun e' w' => e' = .returned (.int .i64 v) ∧ w'.cell? ⟨wr.heap.size, 1, none⟩ = some (.int .i64 v) ∧ IsAt r 65 (dc (endC (codQ q)) (decQ q (j + 1))) w' ∧ But r w1 w') :=
                fun w1 k1 k2 k3 => (back_delta OKQ.out (by omega) h0 h1 hY r w1 k2 k3).mono fun e' w' ⟨q1, q2, q3⟩ => ⟨q1, but_cell q3 hpr k1, q2, q3⟩
              go_wp2
              generalize wr.alloc (.cells #[.int .i64 K, .int .i64 v, .int .i64 n] 40) = W1 at *
              generalize wr.heap.size = P at *
              have p1 : W1.cell? ⟨P, 1, none⟩ = some (.int .i64 v) := HP.out.cell 1
              have HSd : Hid (Sd w q (.slice (some ⟨g, 0, none⟩) q.length cap') r j W1.drew) := HS1.out.below (below_drewN (Below.refl _ W1) 1)
              have HTd : Hid (Tab W1.drew) := HT1.out.drewN 1
              clear HP HS1 HS c0 c1 c2 HT1
              go_region_held3 (fun w' => w'.cell? ⟨P, 1, none⟩ = some (.int .i64 v)) (go_keep)
                (first | (go_at_call 17; refine (HG.out _ ?_ HTd.out HSd.out.dd).mono ?_; go_keep; rintro e1 w2 ⟨rfl, x21, i2, b2⟩))
              have HS4 : Hid (Sd w q (.slice (some ⟨g, 0, none⟩) q.length cap') r (j + 1) w2) := HSd.out.next i2 b2
              clear i2 b2 x21 HSd HG p1 HTd
              go_wp2
              exact ⟨⟨j + 1, by omega, by go_num, HS4.out⟩, by simp [intOf]; omega⟩
        · obtain rfl : j = q.length := by omega
          have T8 : Hid (Tab wr) := HT.out.frame HS.out.bel hz
          have HB : Hid (Below w.heap.size w wr) := HS.out.bel
          clear HS
          go_wp2_with (go_at_call 6; refine (awake_any _ T8.out).mono ?_; rintro e w9 ⟨rfl, hb9⟩)
          go_ret
          exact ⟨rfl, HB.out.trans (hb9.mono HB.out.size)⟩
theorem walk (w : World) (ht : Tab w) (a : Option Addr) (len cap : Nat) (X : Nat → Int × Int × Int) (h : IsItems w a len cap X) :
    Calls Tryd.prog 5 #[.slice a len cap] w fun e w' => e = .returned (.bool true) ∧ Below w.heap.size w w' := by
  obtain ⟨hl, h⟩ := h
  by_cases hbig : 40 < len
  · exact walkBig w ht a len cap hl hbig
  rcases h with rfl | ⟨b, off, rfl, hb, hlc, hc, hx⟩
  · exact walkN w ht a 0 0 0 cap X (fun h => absurd rfl h) (fun h => absurd rfl h) (by omega) (fun i hi => absurd hi (Nat.not_lt_zero i))
  · exact walkN w ht _ b off len cap X (fun _ => rfl) (fun _ => hb) (by omega) hx

set_option maxRecDepth 100000 in
theorem lifted (os : Os) (started : os.Started) (H : Type) (enc : TypeId × Value → H) :
    ReturnsInHanded {} Tryd.checked os 5 .any (fun w args => (Rows.symBackSpec.pre enc Tryd.prog Tryd.f5 [] false w args ∧ laidMetH Tryd.prog Rows.symBackRow.laid w) ∧ sizedMet enc Tryd.prog Tryd.f5 (OpenSpec.ofChange Rows.symBackSpec) false w args)
      (Rows.symBackSpec.post enc Tryd.prog Tryd.f5 false true false false) := by
  refine returnsInHanded_of_change_and (C := Tryd.checked) (X := fun w _ => laidMetH Tryd.prog Rows.symBackRow.laid w) (fun _ _ _ hh h => h.of_heap hh) own started (by kernel_rfl) Tryd.func5
    (ChangeSpec.witness_shaped (enc := enc) (C := Tryd.checked) (os := os) (X := fun w _ => laidMetH Tryd.prog Rows.symBackRow.laid w) false (World.laidAll Tryd.prog os Rows.symBackRow.laid) #[.slice none 0 0] 8 (World.laidAll_os _ _ _)
      (World.shaped_of_ZipB (by kernel_rfl) (by kernel_rfl)) (by kernel_rfl) (by kernel_rfl) (by kernel_rfl)
      (by rw [MakeChecks.laidMetH_plain _ _ _ (by kernel_rfl)]; exact laidMet_laidAll _ (by kernel_rfl) (by kernel_rfl))) ?_
  intro W base args ds gs before hval0 hW _ _ hL _
  have hval : ∀ (j : Nat) t v, Tryd.f5.params[j]? = some t → args[j]? = some v → Value.okWide Tryd.prog W .any base t v := hval0
  have hW' := hW
  obtain ⟨p, q, hA0, hV, rfl, hfz, hnd⟩ := hW
  have hA : DataW.TrodAll enc Tryd.prog W 0 (fun _ => true) true Tryd.f5.params.toList args.toList ds p := hA0
  rw [Tryd.params5] at hA hval
  obtain ⟨v0, vs0, d0, ds0, p0, q0, hargs, rfl, rfl, h0, r0⟩ := trodAll_cons hA
  obtain ⟨rfl, rfl, rfl⟩ := trodAll_nil r0
  obtain rfl : args = #[v0] := by cases args; simp_all
  obtain ⟨rfl, rfl⟩ := trodVars_none hV
  obtain ⟨a0, len0, cap0, rfl⟩ := okWide_slice Tryd.underlying22 (hval 0 22 v0 rfl rfl)
  have k0 := h0
  have lt0 : ∀ x ∈ p0, x.block < W.heap.size := by obtain ⟨m, hm⟩ := k0; exact DataW.trod_lt m _ _ _ hm
  obtain ⟨x0, w0⟩ : ∃ X : Nat → Int × Int × Int, IsItems W a0 len0 cap0 X := by
    obtain ⟨fuel, hf⟩ := h0
    exact open_items Tryd.underlying22 Tryd.underlying40 Tryd.underlying3 Tryd.underlying3 Tryd.underlying3 (by kernel_rfl) rfl rfl rfl (by kernel_rfl) (by kernel_rfl) (by kernel_rfl) hf
  clear hA0 hval0
  refine (walk W (tab_of_laid (by kernel_rfl) hL (by simp [Rows.symBackRow])) a0 len0 cap0 x0 w0).mono fun e W' ⟨he, bel⟩ => ?_
  subst he
  exact ⟨_, rfl, _, _, _, [], _, [], hW', trodAll_mk1 (shut_bool Tryd.underlying4 _), (trodAll_cons_mk (Below.trod laidOut (by kernel_rfl) (of_decide_eq_true (by kernel_rfl)) k0 bel lt0) trodAll_mk0), rfl, bel.frame _, fun h => by cases h⟩

theorem over : Rows.symBackRow.holds Tryd.pinned (OpenSpec.ofChange Rows.symBackSpec) :=
  OpenClaim.holds_of_wide 5 Tryd.f5 rfl rfl rfl rfl rfl rfl rfl ⟨rfl, rfl, rfl, rfl, rfl⟩ rfl rfl rfl rfl rfl (by kernel_rfl) Tryd.func5 (by kernel_rfl)
    (of_decide_eq_true (by kernel_rfl)) (by unfold Func.isWrapper; first | (rw [if_pos (by decide +kernel)]; kernel_rfl) | (rw [if_neg (by decide +kernel)]; exact ⟨rfl, rfl⟩))
    (fun os started H enc _ => lifted os started H enc)

theorem plain (f : FuncId) (fn : Func) (hf : Tryd.pinned.checked.prog.funcNamed "splicer/splicerlaw05.SymBack" = some f) (hfn : Tryd.pinned.checked.prog.funcs[f]? = some fn) :
    false = Tryd.pinned.checked.prog.looks [] ∧ ∀ (j : Nat) t, fn.params[j]? = some t → Tryd.pinned.checked.prog.wantsStandIn t = false := by
  obtain rfl : f = 5 := Option.some.inj ((show Tryd.prog.funcNamed "splicer/splicerlaw05.SymBack" = some 5 by kernel_rfl).symm.trans hf) |>.symm
  obtain rfl : fn = Tryd.f5 := (Option.some.inj (Tryd.func5.symm.trans hfn)).symm
  refine ⟨by kernel_rfl, fun j t ht => ?_⟩
  rw [Tryd.params5] at ht
  have hm : t ∈ [22] := by simpa using Array.mem_of_getElem? ht
  have hall : ([22].all fun u => !Tryd.prog.wantsStandIn u) = true := by kernel_rfl
  exact (show Tryd.prog.wantsStandIn t = false by simpa using List.all_eq_true.1 hall t hm)

/-- The statement. -/
theorem proved : Rows.SymBackCardSaid :=
  Claim7.holds_tied_plain_at .later [] _ _ _ _ over (fun _ h => by cases h) (by kernel_rfl) (fun _ h => by cases h) symBack_row_tie rfl ⟨rfl, rfl⟩ (by kernel_rfl) rfl plain (by kernel_rfl)
#print axioms proved
end Go.Proofs.YtdfpmhdgebajfaaDoor.symBack
