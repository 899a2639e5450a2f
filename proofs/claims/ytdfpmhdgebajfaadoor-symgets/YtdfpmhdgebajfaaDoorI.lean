/-
  The contract of rc.Coder.End.
-/
import Derived.Test.YtdfpmhdgebajfaaDoorH
namespace Go.Proofs.YtdfpmhdgebajfaaDoor
open Go.ChangeShapes Go.WideShapes Go.ChangeAt Go.RowKit
set_option linter.unusedVariables false
set_option maxRecDepth 100000

theorem end_none (w : World) : Calls Tryd.prog 9 #[.pointer none] w fun e w' => e = .returned (.string ⟨#[]⟩) ∧ w' = w := by
  go_enter Tryd.func9, Tryd.ntmps9
  go_wp2
  go_ret
  exact ⟨rfl, rfl⟩
theorem wrap_u8a (n : Nat) (h : n < 4294967296) : IntKind.u8.wrap ((n : Int) / 65536) = (n : Int) / 65536 % 256 := by
  simp [IntKind.wrap, IntKind.signed, IntKind.bits]
theorem wrap_u8b (n : Nat) (h : n < 4294967296) : IntKind.u8.wrap ((n : Int) / 256) = (n : Int) / 256 % 256 := by
  simp [IntKind.wrap, IntKind.signed, IntKind.bits]
theorem wrap_u8c (n : Nat) (h : n < 4294967296) : IntKind.u8.wrap (n : Int) = (n : Int) % 256 := by
  simp [IntKind.wrap, IntKind.signed, IntKind.bits]
theorem conv4 (w : World) (r : Nat) (n : Nat) (hn : n < 4294967296) (h0 : w.cell? ⟨r, 0, none⟩ = some (.int .u8 ((n : Int) / 16777216))) (h1 : w.cell? ⟨r, 1, none⟩ = some (.int .u8 ((n : Int) / 65536 % 256)))
    (h2 : w.cell? ⟨r, 2, none⟩ = some (.int .u8 ((n : Int) / 256 % 256))) (h3 : w.cell? ⟨r, 3, none⟩ = some (.int .u8 ((n : Int) % 256))) :
    (convert 62 9 (.slice (some ⟨r, 0, none⟩) 4 4)).run Tryd.prog w = .ok (.string ⟨(low4 n).toArray⟩) w := by
  have h := run_convert_bytes_arg (P := Tryd.prog) w 62 5 Tryd.underlying62 Tryd.underlying5 r 0 4 4 [(n : Int) / 16777216, (n : Int) / 65536 % 256, (n : Int) / 256 % 256, (n : Int) % 256] rfl (by
    intro i hi
    rcases i with _ | _ | _ | _ | i
    · simpa using h0
    · simpa using h1
    · simpa using h2
    · simpa using h3
    · omega) 9 Tryd.underlying9
  rw [h]
  have e0 : UInt8.ofNat ((n : Int) / 16777216).toNat = UInt8.ofNat (n / 16777216) := by congr 1
  have e1 : UInt8.ofNat ((n : Int) / 65536 % 256).toNat = UInt8.ofNat (n / 65536) := by
    apply UInt8.toNat_inj.1; rw [ofNat_toNat, ofNat_toNat]; omega
  have e2 : UInt8.ofNat ((n : Int) / 256 % 256).toNat = UInt8.ofNat (n / 256) := by
    apply UInt8.toNat_inj.1; rw [ofNat_toNat, ofNat_toNat]; omega
  have e3 : UInt8.ofNat ((n : Int) % 256).toNat = UInt8.ofNat n := by
    apply UInt8.toNat_inj.1; rw [ofNat_toNat, ofNat_toNat]; omega
  show Result.ok (Value.string ⟨#[UInt8.ofNat ((n : Int) / 16777216).toNat, UInt8.ofNat ((n : Int) / 65536 % 256).toNat, UInt8.ofNat ((n : Int) / 256 % 256).toNat, UInt8.ofNat ((n : Int) % 256).toNat]⟩) w = _
  rw [e0, e1, e2, e3]
  rfl
/-- A world in End's last statement. -/
def EndC (B g : Nat) (s : Co) (set : List UInt8) (sm : Bool) (last : UInt8) (beh : Nat) (w W w' : World) : Prop :=
  ToAt B g (lacks s.rng) (.int .i64 (s.low : Int)) set sm last beh w' ∧ Fr B w w' ∧ Cells W w'
theorem end_at (B g : Nat) (s : Co) (w : World) (h : CoAt B g s w) (hlow : s.low < 4294967296) (hB : B ≤ w.heap.size) (hl : s.T.length ≤ 2500) :
    Calls Tryd.prog 9 #[.pointer (some ⟨g, 0, none⟩)] w fun e w' => e = .returned (.string ⟨(endC s).toArray⟩) ∧ CoAt B g s w' ∧ Fr B w w' := by
  obtain ⟨set, sm, last, beh, t1, kk⟩ := h
  have hlen := kept_len kk
  obtain ⟨c0, c1, c4, c5, c6⟩ := BuAt.cell t1
  have T1 : Hid (ToAt B g (lacks s.rng) (.int .i64 (s.low : Int)) set sm last beh w) := t1
  have KK : Hid (Kept s set sm last beh) := kk
  have w24 := wrap_top s.low hlow
  have w16 := wrap_u8a s.low hlow
  have w8 := wrap_u8b s.low hlow
  have w0 := wrap_u8c s.low hlow
  have hbel : Below w.heap.size w ((w.alloc (.cells #[.int .u8 ((s.low : Int) / 16777216), .int .u8 ((s.low : Int) / 65536 % 256), .int .u8 ((s.low : Int) / 256 % 256), .int .u8 ((s.low : Int) % 256)] 5)).drew) := (((Below.refl _ w).alloc (Nat.le_refl _) _).drew)
  have HT1 : Hid (ToAt B g (lacks s.rng) (.int .i64 (s.low : Int)) set sm last beh ((w.alloc (.cells #[.int .u8 ((s.low : Int) / 16777216), .int .u8 ((s.low : Int) / 65536 % 256), .int .u8 ((s.low : Int) / 256 % 256), .int .u8 ((s.low : Int) % 256)] 5)).drew)) := BuAt.below t1 hbel
  have HF1 : Hid (Fr B w ((w.alloc (.cells #[.int .u8 ((s.low : Int) / 16777216), .int .u8 ((s.low : Int) / 65536 % 256), .int .u8 ((s.low : Int) / 256 % 256), .int .u8 ((s.low : Int) % 256)] 5)).drew)) := Fr.of_below hbel hB
  have HV1 : Hid (∀ w', Cells ((w.alloc (.cells #[.int .u8 ((s.low : Int) / 16777216), .int .u8 ((s.low : Int) / 65536 % 256), .int .u8 ((s.low : Int) / 256 % 256), .int .u8 ((s.low : Int) % 256)] 5)).drew) w' → (convert 62 9 (.slice (some ⟨w.heap.size, 0, none⟩) 4 4)).run Tryd.prog w' = .ok (.string ⟨(low4 s.low).toArray⟩) w') := fun w' hc =>
    conv4 w' w.heap.size s.low hlow (hc _ _ (by go_simp)) (hc _ _ (by go_simp)) (hc _ _ (by go_simp)) (hc _ _ (by go_simp))
  have hEnd : (⟨(set ++ openL sm last beh).toArray⟩ ++ ⟨(low4 s.low).toArray⟩ : ByteArray) = ⟨(fullC s).toArray⟩ := by
    rw [append_str, ← kk.told]; rfl
  have hsz : ¬ 9223372036854775807 < set.length + (openL sm last beh).length + (low4 s.low).length := by
    have e := congrArg List.length kk.told
    rw [List.length_append] at e
    have e4 : (low4 s.low).length = 4 := rfl
    omega
  have hfl := full_len s
  clear t1 kk c0 c4 c5 c6 hbel
  go_enter Tryd.func9, Tryd.ntmps9
  go_wp2
  go_region_held3 (fun w' => w'.cell? ⟨g, 1, none⟩ = some (.int .i64 (s.low : Int))) (go_keep) (fail)
  go_wp2_with (fail)
  have HC : Hid (∀ w', EndC B g s set sm last beh w ((w.alloc (.cells #[.int .u8 ((s.low : Int) / 16777216), .int .u8 ((s.low : Int) / 65536 % 256), .int .u8 ((s.low : Int) / 256 % 256), .int .u8 ((s.low : Int) % 256)] 5)).drew) w' →
      Calls Tryd.prog 28 #[.pointer (some ⟨g, 2, none⟩)] w' fun e w'' => e = .returned (.string ⟨(set ++ openL sm last beh).toArray⟩) ∧ EndC B g s set sm last beh w ((w.alloc (.cells #[.int .u8 ((s.low : Int) / 16777216), .int .u8 ((s.low : Int) / 65536 % 256), .int .u8 ((s.low : Int) / 256 % 256), .int .u8 ((s.low : Int) % 256)] 5)).drew) w'') := by
    rintro w' ⟨q1, q2, q3⟩
    refine (text_at B g _ _ set sm last beh w' q1 (Nat.le_trans hB q2.below.size) (by omega)).mono ?_
    rintro e w'' ⟨rfl, r1, r2, r3⟩
    exact ⟨rfl, r1, q2.trans r2, fun a v h => r3 a v (q3 a v h)⟩
  have HR : Hid (∀ w', EndC B g s set sm last beh w ((w.alloc (.cells #[.int .u8 ((s.low : Int) / 16777216), .int .u8 ((s.low : Int) / 65536 % 256), .int .u8 ((s.low : Int) / 256 % 256), .int .u8 ((s.low : Int) % 256)] 5)).drew) w' →
      Calls Tryd.prog 27 #[.string ⟨(fullC s).toArray⟩, .string ⟨#[0]⟩] w' fun e w'' => e = .returned (.string ⟨(endC s).toArray⟩) ∧ EndC B g s set sm last beh w ((w.alloc (.cells #[.int .u8 ((s.low : Int) / 16777216), .int .u8 ((s.low : Int) / 65536 % 256), .int .u8 ((s.low : Int) / 256 % 256), .int .u8 ((s.low : Int) % 256)] 5)).drew) w'') := by
    rintro w' q
    refine (trim_any ⟨(fullC s).toArray⟩ w' (by show (fullC s).toArray.size ≤ _; simp; omega)).mono ?_
    rintro e w'' ⟨rfl, rfl⟩
    exact ⟨rfl, q⟩
  refine region_class (EndC B g s set sm last beh w ((w.alloc (.cells #[.int .u8 ((s.low : Int) / 16777216), .int .u8 ((s.low : Int) / 65536 % 256), .int .u8 ((s.low : Int) / 256 % 256), .int .u8 ((s.low : Int) % 256)] 5)).drew)) (by kernel_rfl) (by kernel_rfl) ⟨BuAt.drewN HT1.out 1, HF1.out.drew, fun _ _ h => h⟩ ?_
  repeat (go_big_quiet_step (first | (intro hq; rfl) | (intro hq; rw [HV1.out _ hq.2.2]; exact ⟨rfl, rfl⟩) | (intro hq; go_at_call 28; exact HC.out _ hq) | (intro hq; go_at_call 27; exact HR.out _ hq)))
  refine wpQuiet_nil ?_
  rintro w' ⟨q1, q2, q3⟩
  have HQ1 : Hid (ToAt B g (lacks s.rng) (.int .i64 (s.low : Int)) set sm last beh w') := q1
  have HQ2 : Hid (Fr B w w') := q2
  clear q1 q2 q3
  go_wp2
  go_ret
  exact ⟨rfl, ⟨set, sm, last, beh, HQ1.out, KK.out⟩, HQ2.out⟩
end Go.Proofs.YtdfpmhdgebajfaaDoor
