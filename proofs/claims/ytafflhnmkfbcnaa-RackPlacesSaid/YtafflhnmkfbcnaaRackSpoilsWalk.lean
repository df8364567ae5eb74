/-
  The walk of 'RackSpoils': rot changes one byte of one sector, and comes undone by the same rot. Conditions: what the reading of the argument gives.
-/
import Derived.Test.YtafflhnmkfbcnaaLawArgs
import Derived.Test.YtafflhnmkfbcnaaRackSays
import Derived.Test.YtafflhnmkfbcnaaRackRot
namespace Go.Proofs.Ytafflhnmkfbcnaa
open Go Go.RowKit
set_option linter.unusedVariables false

theorem newIn_putW (W : Nat → Wt) (i : Nat) (X : Nat → Nat) (d a k : Nat) : newIn (putW W i X) d a k = newIn W d a k :=
  newIn_congr fun j _ => by
    unfold putW
    by_cases e : j = i
    · rw [if_pos e, e]; exact ⟨rfl, rfl⟩
    · rw [if_neg e]; exact ⟨rfl, rfl⟩
theorem holds_rotted (s : RS) (d a n d' a' : Nat) : (s.rotted d a n).holds d' a' = if d' = d ∧ a' = a then rotF (s.holds d a) n else s.holds d' a' := by
  cases hi : newIn s.W d a s.nw with
  | some i =>
    rw [rotted_some hi]
    unfold RS.holds
    show (match newIn (putW s.W i _) d' a' s.nw with | some k => (putW s.W i _ k).x | none => s.last d' a') = _
    rw [newIn_putW, hi]
    by_cases e : d' = d ∧ a' = a
    · obtain ⟨rfl, rfl⟩ := e
      rw [if_pos ⟨rfl, rfl⟩, hi]
      show (putW s.W i _ i).x = _
      unfold putW
      rw [if_pos rfl]
    · rw [if_neg e]
      cases hk : newIn s.W d' a' s.nw with
      | none => rfl
      | some k =>
        have h1 := newIn_lt hi
        have h2 := newIn_lt hk
        show (putW s.W i _ k).x = (s.W k).x
        unfold putW
        rw [if_neg (fun x => e (by rw [x] at h2; exact ⟨h2.2.1.symm.trans h1.2.1, h2.2.2.symm.trans h1.2.2⟩))]
  | none =>
    rw [rotted_none hi]
    unfold RS.holds
    show (match newIn s.W d' a' s.nw with | some k => (s.W k).x | none => (if d' = d ∧ a' = a then rotF (s.last d a) n else s.last d' a')) = _
    rw [hi]
    by_cases e : d' = d ∧ a' = a
    · obtain ⟨rfl, rfl⟩ := e
      rw [if_pos ⟨rfl, rfl⟩, hi, if_pos ⟨rfl, rfl⟩]
    · cases hk : newIn s.W d' a' s.nw with
      | none => simp only [if_neg e]
      | some k => simp only [if_neg e]
theorem rotted_same (s : RS) (d a n : Nat) : (s.rotted d a n).nd = s.nd ∧ (s.rotted d a n).ns = s.ns ∧ (s.rotted d a n).gone = s.gone ∧ (s.rotted d a n).off = s.off ∧ (s.rotted d a n).armed = s.armed ∧ (s.rotted d a n).cost = s.cost + 1 ∧ (s.rotted d a n).left = s.left := by
  cases hi : newIn s.W d a s.nw with
  | some i => rw [rotted_some hi]; exact ⟨rfl, rfl, rfl, rfl, rfl, rfl, rfl⟩
  | none => rw [rotted_none hi]; exact ⟨rfl, rfl, rfl, rfl, rfl, rfl, rfl⟩
theorem xor_ne {a t : Nat} (ht : t ≠ 0) : a ^^^ t ≠ a := fun h => by
  have h1 : a ^^^ (a ^^^ t) = a ^^^ a := by rw [h]
  rw [← Nat.xor_assoc, Nat.xor_self, Nat.zero_xor] at h1
  exact ht h1
theorem rot_back (X : Nat → Nat) (n : Nat) : rotF (rotF X n) n = X := by
  funext j
  unfold rotF
  by_cases e : j = n % 128
  · rw [if_pos e, if_pos e, Nat.xor_assoc, Nat.xor_self, Nat.xor_zero]
  · rw [if_neg e, if_neg e]
theorem rot_neg {B : Nat} (w : World) (r : Nat) (s : RS) (D A N : Int) (hN : N < 0) :
    Calls Try.prog 27 #[.pointer (some ⟨r, 0, none⟩), .int .i64 D, .int .i64 A, .int .i64 N] w fun e w' => e = .returned (.int .i64 1) ∧ w' = w := by
  go_enter Try.func27, Try.ntmps27
  go_wp2_with fail
  go_ret
  exact ⟨rfl, rfl⟩
theorem neq_u8 (w : World) {a b : Nat} (h : a ≠ b) : (binOp .neq 5 (.int .u8 (a : Int)) (.int .u8 (b : Int))).run Try.prog w = .ok (.bool true) w := by
  have e : ((a : Int) != (b : Int)) = true := by simp; omega
  rw [show binOp .neq 5 (.int .u8 (a : Int)) (.int .u8 (b : Int)) = pure (.bool ((a : Int) != (b : Int))) from rfl, e]
  rfl
theorem neq_u8_same (w : World) {a b : Nat} (h : a = b) : (binOp .neq 5 (.int .u8 (a : Int)) (.int .u8 (b : Int))).run Try.prog w = .ok (.bool false) w := by
  have e : ((a : Int) != (b : Int)) = false := by simp; omega
  rw [show binOp .neq 5 (.int .u8 (a : Int)) (.int .u8 (b : Int)) = pure (.bool ((a : Int) != (b : Int))) from rfl, e]
  rfl
namespace rackSpoils
structure SInv (s : RS) (at_ c : Nat) (X : Nat → Nat) : Prop where
  nd : s.nd = 2
  ns : s.ns = 6
  calm : s.calm
  gone : ∀ d, s.gone d = false
  cost : s.cost ≤ c
  one : s.holds 1 at_ = X
  zero : s.holds 0 at_ = zeros
theorem SInv.rotted {s : RS} {at_ c : Nat} {X : Nat → Nat} (h : SInv s at_ c X) (n : Nat) : SInv (s.rotted 1 at_ n) at_ (c + 1) (rotF X n) := by
  obtain ⟨e1, e2, e3, e4, e5, e6, e7⟩ := rotted_same s 1 at_ n
  refine ⟨by rw [e1]; exact h.nd, by rw [e2]; exact h.ns, ⟨by rw [e4]; exact h.calm.1, by rw [e5]; exact h.calm.2⟩, fun d => by rw [e3]; exact h.gone d, by rw [e6]; have := h.cost; omega, ?_, ?_⟩
  · rw [holds_rotted, if_pos ⟨rfl, rfl⟩, h.one]
  · rw [holds_rotted, if_neg (by omega)]; exact h.zero
theorem SInv.flushed {s : RS} {at_ c : Nat} {X : Nat → Nat} (h : SInv s at_ c X) : SInv s.flushed at_ c X :=
  ⟨h.nd, h.ns, h.calm, h.gone, h.cost, by rw [holds_flushed]; exact h.one, by rw [holds_flushed]; exact h.zero⟩
theorem SInv.start (at_ : Nat) (X : Nat → Nat) : SInv ((RS.new 2 6).wrote 1 at_ X) at_ 1 X :=
  ⟨rfl, rfl, ⟨rfl, rfl⟩, fun _ => rfl, Nat.le_refl _, by rw [holds_wrote, if_pos ⟨rfl, rfl⟩], by rw [holds_wrote, if_neg (by omega)]; rfl⟩
theorem ushr (a : Int) : ∃ n : Nat, wrap64 (IntKind.u64.wrap a / 2) = (n : Int) ∧ n ≤ 9223372036854775807 := by
  have h0 : 0 ≤ IntKind.u64.wrap a ∧ IntKind.u64.wrap a < 18446744073709551616 := by rw [IntKind.wrap_u64]; omega
  generalize IntKind.u64.wrap a = y at *
  refine ⟨(y / 2).toNat, ?_, by omega⟩
  unfold wrap64
  omega
theorem umod (a k : Int) (hk : 0 < k) (hk2 : k ≤ 1000000) : ∃ n : Nat, wrap64 ((IntKind.u64.wrap a).tmod k) = (n : Int) ∧ (n : Int) < k := by
  have h0 : 0 ≤ IntKind.u64.wrap a := by rw [IntKind.wrap_u64]; omega
  have h1 := Int.tmod_nonneg k h0
  have h2 := Int.tmod_lt_of_pos (IntKind.u64.wrap a) hk
  refine ⟨((IntKind.u64.wrap a).tmod k).toNat, ?_, by omega⟩
  generalize (IntKind.u64.wrap a).tmod k = y at *
  unfold wrap64
  omega

set_option maxRecDepth 100000 in
set_option maxHeartbeats 1600000 in
theorem walk (f a0 n0 : Int) (b : Bool) (w : World) (w0 : (Lit.int .i64 f).wf = true) (w1 : (Lit.int .i64 a0).wf = true) (w2 : (Lit.int .i64 n0).wf = true) :
    Calls Try.prog 6 #[.agg #[.int .i64 f, .int .i64 a0, .int .i64 n0, .bool b]] w fun e w' => e = .returned (.bool true) ∧ Below w.heap.size w w' := by
  have HF := Lib.hid (bounds_i64 w0)
  obtain ⟨at_, hat, hat6⟩ := umod a0 6 (by omega) (by omega)
  obtain ⟨n, hn, hn63⟩ := ushr n0
  clear w0 w1 w2
  have L0 : Hid (Below w.heap.size w (w.alloc (.cells #[.int .i64 f, .int .i64 a0, .int .i64 n0, .bool b] 53))) := Lib.hid ((Below.refl _ _).alloc (Nat.le_refl _) _)
  have X0 := Lib.hid (Blk.new w 53 #[.int .i64 f, .int .i64 a0, .int .i64 n0, .bool b])
  go_enter Try.func6, Try.ntmps6
  go_wp2_with fail
  generalize w.alloc (.cells #[.int .i64 f, .int .i64 a0, .int .i64 n0, .bool b] 53) = wa at *
  refine (known_any wa).mono ?_
  rintro e wb ⟨rfl, b1⟩
  have L1 := Lib.hid (L0.out.trans (b1.mono L0.out.size))
  have X1 := Lib.hid (X0.out.new_ b1)
  clear b1 L0 X0
  go_wp2_with fail
  refine (new_any wb 2 6 (by omega) (by omega) (by omega) (by omega)).mono ?_
  rintro e wc ⟨⟨r, rfl, h2⟩, k2⟩
  have R2 := Lib.hid h2
  have L2 := Lib.hid (L1.out.trans (k2.below.mono L1.out.size))
  have X2 := Lib.hid (k2.block X1.out rfl)
  have hB : Hid (w.heap.size ≤ wb.heap.size) := L1.out.size
  clear h2 k2 L1 X1
  generalize wb.heap.size = B at *
  have c0 : wc.cell? ⟨w.heap.size, 0, none⟩ = some (.int .i64 f) := X2.out.cell 0
  have c1 : wc.cell? ⟨w.heap.size, 1, none⟩ = some (.int .i64 a0) := X2.out.cell 1
  have c2 : wc.cell? ⟨w.heap.size, 2, none⟩ = some (.int .i64 n0) := X2.out.cell 2
  go_wp2_with fail
  refine (bytes_calm f _ HF.out).mono ?_
  rintro e wd ⟨vd, rfl, rd, bd⟩
  have R3 := Lib.hid (R2.out.below bd)
  have V3 := Lib.hid rd
  have X3 := Lib.hid (X2.out.new_ bd)
  have L3 := Lib.hid (L2.out.trans (bd.mono L2.out.size))
  clear rd bd R2 L2 X2 c0 c1 c2
  go_wp2_with fail
  refine (write_calm _ r _ 1 (at_ : Int) 1 at_ vd _ R3.out ⟨rfl, rfl⟩ rfl rfl (by decide) (by show at_ < 6; omega) rfl V3.out (fun j _ => bv_lt 128 _ j) (by decide)).mono ?_
  rintro e we ⟨rfl, h4, k4⟩
  have R4 := Lib.hid h4
  have X4 := Lib.hid (k4.block X3.out rfl)
  have L4 := Lib.hid (L3.out.trans (k4.below.mono hB.out))
  have N4 : Hid (SInv ((RS.new 2 6).wrote 1 at_ (bv 128 f)) at_ 1 (bv 128 f)) := Lib.hid (SInv.start at_ _)
  clear h4 k4 R3 L3 V3 X3
  generalize (RS.new 2 6).wrote 1 at_ (bv 128 f) = s4 at *
  have c3 : we.cell? ⟨w.heap.size, 3, none⟩ = some (.bool b) := X4.out.cell 3
  cases b with
  | true =>
    have R5 := R4
    have X5 := X4
    have L5 := L4
    have N5 := N4
    clear R4 X4 L4 N4
    generalize s4 = s5 at *
    go_wp2_with fail
    clear c3
    refine (rot_ok _ r s5 1 at_ n R5.out (by rw [N5.out.nd]; omega) (by rw [N5.out.ns]; omega) (N5.out.gone 1) hn63 (by have := N5.out.cost; omega)).mono ?_
    rintro e wg ⟨rfl, h6, k6⟩
    have R6 := Lib.hid h6
    have X6 := Lib.hid (k6.block X5.out rfl)
    have L6 := Lib.hid (L5.out.trans (k6.below.mono hB.out))
    have N6 := Lib.hid (N5.out.rotted n)
    clear h6 k6 R5 L5 X5 N5
    generalize s5.rotted 1 at_ n = s6 at *
    go_wp2_with fail
    refine (read_calm _ r s6 1 (at_ : Int) 1 at_ R6.out N6.out.calm rfl rfl (by rw [N6.out.nd]; omega) (by rw [N6.out.ns]; omega) (N6.out.gone 1)).mono ?_
    rintro e w7 ⟨v7, rfl, r7, h7, k7⟩
    have R7 := Lib.hid h7
    rw [N6.out.one] at r7
    have V7 := Lib.hid r7
    have X7 := Lib.hid (k7.block X6.out rfl)
    have L7 := Lib.hid (L6.out.trans (k7.below.mono hB.out))
    clear h7 k7 r7 R6 L6 X6
    go_wp2_with fail
    refine (read_calm _ r s6 0 (at_ : Int) 0 at_ R7.out N6.out.calm rfl rfl (by rw [N6.out.nd]; omega) (by rw [N6.out.ns]; omega) (N6.out.gone 0)).mono ?_
    rintro e w8 ⟨v8, rfl, r8, h8, k8⟩
    have R8 := Lib.hid h8
    rw [N6.out.zero] at r8
    have V8 := Lib.hid r8
    have Y8 := Lib.hid (V7.out.keep k8)
    have X8 := Lib.hid (k8.block X7.out rfl)
    have L8 := Lib.hid (L7.out.trans (k8.below.mono hB.out))
    have c0 : w8.cell? ⟨w.heap.size, 0, none⟩ = some (.int .i64 f) := X8.out.cell 0
    clear h8 k8 r8 R7 L7 X7 V7
    go_wp2_with fail
    refine (bytes_calm f _ HF.out).mono ?_
    rintro e w9 ⟨v9, rfl, r9, b9⟩
    have R9 := Lib.hid (R8.out.below b9)
    have V9 := Lib.hid r9
    have Y9 := Lib.hid (Y8.out.new_ b9)
    have Z9 := Lib.hid (V8.out.new_ b9)
    have L9 := Lib.hid (L8.out.trans (b9.mono L8.out.size))
    clear r9 b9 R8 L8 X8 Y8 V8 c0
    obtain ⟨g7, p7, cs7, rfl, hb7, hx7⟩ := Y9.out
    obtain ⟨gx, px, csx, rfl, hbx, hxx⟩ := V9.out
    have C7 : Hid (∀ k, k < 128 → w9.cell? ⟨g7, 0 + k, none⟩ = some (.int .u8 ((rotF (bv 128 f) n k : Nat) : Int))) := Lib.hid (fun k hk => (hb7.cell _).trans (hx7 k hk))
    have CX : Hid (∀ k, k < 128 → w9.cell? ⟨gx, 0 + k, none⟩ = some (.int .u8 ((bv 128 f k : Nat) : Int))) := Lib.hid (fun k hk => (hbx.cell _).trans (hxx k hk))
    clear hb7 hx7 hbx hxx
    have D9 : Hid (∃ q, w9 = w9.drewN q) := Lib.hid ⟨0, rfl⟩
    go_wp2_with fail
    go_loopw [11, 12] (fun y x wr => ∃ k : Nat, k ≤ 128 ∧ x = .int .i64 k ∧ y = .int .i64 ((if n % 128 < k then 1 else 0 : Nat) : Int) ∧ Hid (∃ q, wr = w9.drewN q)) (fun _ x _ => 128 - (intOf x).toNat)
    case atStart => exact ⟨0, by omega, rfl, rfl, D9⟩
    case round =>
      obtain ⟨k, hk128, rfl, rfl, DK⟩ := hrel
      clear D9
      obtain ⟨q, rfl⟩ := DK.out
      by_cases hk : k < 128
      · have i2 : decide ((k : Int) < 128) = true := by simp; omega
        have i3 : (k : Int) < 128 := by omega
        have i4 : (0 : Int) ≤ (k : Int) := by omega
        have HS15 : Hid ((fun w : World => w.cell? ⟨g7, 0 + k, none⟩ = some (.int .u8 ((rotF (bv 128 f) n k : Nat) : Int)) ∧ w.cell? ⟨gx, 0 + k, none⟩ = some (.int .u8 ((bv 128 f k : Nat) : Int))) (w9.drewN q)) := Lib.hid ⟨C7.out k hk, CX.out k hk⟩
        have D10 : Hid (∃ q', (w9.drewN q).drew = w9.drewN q') := Lib.hid ⟨q + 1, rfl⟩
        by_cases hkn : k = n % 128
        · have e1 : (if n % 128 < k then (1 : Nat) else 0) = 0 := if_neg (by omega)
          have CN : Hid (Value.int .i64 ((0 : Int) + 1) = .int .i64 ((if n % 128 < k + 1 then 1 else 0 : Nat) : Int)) := Lib.hid (by rw [if_pos (by omega)]; rfl)
          have NE15 : Hid (∀ w : World, (binOp .neq 5 (.int .u8 ((rotF (bv 128 f) n k : Nat) : Int)) (.int .u8 ((bv 128 f k : Nat) : Int))).run Try.prog w = .ok (.bool true) w) := Lib.hid (fun w => neq_u8 w (by
            unfold rotF
            rw [if_pos hkn]
            exact xor_ne (by omega)))
          rw [e1]
          clear e1 hkn
          go_wp2_with fail
          refine region_anyZ (fun w => w.cell? ⟨g7, 0 + k, none⟩ = some (.int .u8 ((rotF (bv 128 f) n k : Nat) : Int)) ∧ w.cell? ⟨gx, 0 + k, none⟩ = some (.int .u8 ((bv 128 f k : Nat) : Int))) 9 (by kernel_rfl) ?_
          refine takeG 0 (.move (.tmp 7)) (some 87) none (.slice (some ⟨g7, 0, none⟩) 128 p7) (by kernel_rfl) (by kernel_rfl) (by kernel_rfl) (fun _ _ _ h => h) (fun o w e hS => exec_move w e (by kernel_rfl)) HS15.out ?_
          refine takeG 1 (.move (.tmp 12)) (some 88) none (.int .i64 (k : Int)) (by kernel_rfl) (by kernel_rfl) (by kernel_rfl) (fun _ _ _ h => h) (fun o w e hS => exec_move w e (by kernel_rfl)) HS15.out ?_
          refine takeG 2 (.indexAddr 44 (.tmp 87) (.tmp 88)) (some 89) none (.pointer (some ⟨g7, 0 + k, none⟩)) (by kernel_rfl) (by kernel_rfl) (by kernel_rfl) (fun _ _ _ h => h) (fun o w e hS => exec_index (u1 := .slice (some ⟨g7, 0, none⟩) 128 p7) (u2 := .int .i64 (k : Int)) w e (by kernel_rfl) (by kernel_rfl) (index_slice Try.underlying44 (by kernel_rfl) g7 0 128 p7 k hk w)) HS15.out ?_
          refine takeG 3 (.load 5 (.tmp 89)) (some 90) none (.int .u8 ((rotF (bv 128 f) n k : Nat) : Int)) (by kernel_rfl) (by kernel_rfl) (by kernel_rfl) (fun _ _ _ h => h) (fun o w e hS => exec_load (x := (.tmp 89)) e (by kernel_rfl) (load_one Try.underlying5 rfl hS.1)) HS15.out ?_
          refine takeG 4 (.move (.tmp 10)) (some 91) none (.slice (some ⟨gx, 0, none⟩) 128 px) (by kernel_rfl) (by kernel_rfl) (by kernel_rfl) (fun _ _ _ h => h) (fun o w e hS => exec_move w e (by kernel_rfl)) HS15.out ?_
          refine takeG 5 (.move (.tmp 12)) (some 92) none (.int .i64 (k : Int)) (by kernel_rfl) (by kernel_rfl) (by kernel_rfl) (fun _ _ _ h => h) (fun o w e hS => exec_move w e (by kernel_rfl)) HS15.out ?_
          refine takeG 6 (.indexAddr 44 (.tmp 91) (.tmp 92)) (some 93) none (.pointer (some ⟨gx, 0 + k, none⟩)) (by kernel_rfl) (by kernel_rfl) (by kernel_rfl) (fun _ _ _ h => h) (fun o w e hS => exec_index (u1 := .slice (some ⟨gx, 0, none⟩) 128 px) (u2 := .int .i64 (k : Int)) w e (by kernel_rfl) (by kernel_rfl) (index_slice Try.underlying44 (by kernel_rfl) gx 0 128 px k hk w)) HS15.out ?_
          refine takeG 7 (.load 5 (.tmp 93)) (some 94) none (.int .u8 ((bv 128 f k : Nat) : Int)) (by kernel_rfl) (by kernel_rfl) (by kernel_rfl) (fun _ _ _ h => h) (fun o w e hS => exec_load (x := (.tmp 93)) e (by kernel_rfl) (load_one Try.underlying5 rfl hS.2)) HS15.out ?_
          refine lastS 8 (.binOp .neq 5 (.tmp 90) (.tmp 94) 5) (some 95) (.bool true) (by kernel_rfl) (by kernel_rfl) (by kernel_rfl) HS15.out (fun o e => exec_bin (u1 := .int .u8 ((rotF (bv 128 f) n k : Nat) : Int)) (u2 := .int .u8 ((bv 128 f k : Nat) : Int)) _ e (by kernel_rfl) (by kernel_rfl) (eqG_int ..) (NE15.out _)) ?_
          simp only [put_some, put_none, List.setIfInBounds_toArray, List.set_cons_succ, List.set_cons_zero]
          clear NE15
          go_wp2_with fail
          go_roundw
          case rel => exact ⟨k + 1, by omega, by go_num, CN.out, D10⟩
          case measure => simp [intOf]; omega
        · have CN : Hid (Value.int .i64 ((if n % 128 < k then 1 else 0 : Nat) : Int) = .int .i64 ((if n % 128 < k + 1 then 1 else 0 : Nat) : Int)) := Lib.hid (by
            by_cases h : n % 128 < k
            · rw [if_pos h, if_pos (by omega)]
            · rw [if_neg h, if_neg (by omega)])
          have NE15 : Hid (∀ w : World, (binOp .neq 5 (.int .u8 ((rotF (bv 128 f) n k : Nat) : Int)) (.int .u8 ((bv 128 f k : Nat) : Int))).run Try.prog w = .ok (.bool false) w) := Lib.hid (fun w => neq_u8_same w (by
            unfold rotF
            rw [if_neg hkn]))
          generalize (if n % 128 < k then (1 : Nat) else 0) = y11 at *
          clear hkn
          go_wp2_with fail
          refine region_anyZ (fun w => w.cell? ⟨g7, 0 + k, none⟩ = some (.int .u8 ((rotF (bv 128 f) n k : Nat) : Int)) ∧ w.cell? ⟨gx, 0 + k, none⟩ = some (.int .u8 ((bv 128 f k : Nat) : Int))) 9 (by kernel_rfl) ?_
          refine takeG 0 (.move (.tmp 7)) (some 87) none (.slice (some ⟨g7, 0, none⟩) 128 p7) (by kernel_rfl) (by kernel_rfl) (by kernel_rfl) (fun _ _ _ h => h) (fun o w e hS => exec_move w e (by kernel_rfl)) HS15.out ?_
          refine takeG 1 (.move (.tmp 12)) (some 88) none (.int .i64 (k : Int)) (by kernel_rfl) (by kernel_rfl) (by kernel_rfl) (fun _ _ _ h => h) (fun o w e hS => exec_move w e (by kernel_rfl)) HS15.out ?_
          refine takeG 2 (.indexAddr 44 (.tmp 87) (.tmp 88)) (some 89) none (.pointer (some ⟨g7, 0 + k, none⟩)) (by kernel_rfl) (by kernel_rfl) (by kernel_rfl) (fun _ _ _ h => h) (fun o w e hS => exec_index (u1 := .slice (some ⟨g7, 0, none⟩) 128 p7) (u2 := .int .i64 (k : Int)) w e (by kernel_rfl) (by kernel_rfl) (index_slice Try.underlying44 (by kernel_rfl) g7 0 128 p7 k hk w)) HS15.out ?_
          refine takeG 3 (.load 5 (.tmp 89)) (some 90) none (.int .u8 ((rotF (bv 128 f) n k : Nat) : Int)) (by kernel_rfl) (by kernel_rfl) (by kernel_rfl) (fun _ _ _ h => h) (fun o w e hS => exec_load (x := (.tmp 89)) e (by kernel_rfl) (load_one Try.underlying5 rfl hS.1)) HS15.out ?_
          refine takeG 4 (.move (.tmp 10)) (some 91) none (.slice (some ⟨gx, 0, none⟩) 128 px) (by kernel_rfl) (by kernel_rfl) (by kernel_rfl) (fun _ _ _ h => h) (fun o w e hS => exec_move w e (by kernel_rfl)) HS15.out ?_
          refine takeG 5 (.move (.tmp 12)) (some 92) none (.int .i64 (k : Int)) (by kernel_rfl) (by kernel_rfl) (by kernel_rfl) (fun _ _ _ h => h) (fun o w e hS => exec_move w e (by kernel_rfl)) HS15.out ?_
          refine takeG 6 (.indexAddr 44 (.tmp 91) (.tmp 92)) (some 93) none (.pointer (some ⟨gx, 0 + k, none⟩)) (by kernel_rfl) (by kernel_rfl) (by kernel_rfl) (fun _ _ _ h => h) (fun o w e hS => exec_index (u1 := .slice (some ⟨gx, 0, none⟩) 128 px) (u2 := .int .i64 (k : Int)) w e (by kernel_rfl) (by kernel_rfl) (index_slice Try.underlying44 (by kernel_rfl) gx 0 128 px k hk w)) HS15.out ?_
          refine takeG 7 (.load 5 (.tmp 93)) (some 94) none (.int .u8 ((bv 128 f k : Nat) : Int)) (by kernel_rfl) (by kernel_rfl) (by kernel_rfl) (fun _ _ _ h => h) (fun o w e hS => exec_load (x := (.tmp 93)) e (by kernel_rfl) (load_one Try.underlying5 rfl hS.2)) HS15.out ?_
          refine lastS 8 (.binOp .neq 5 (.tmp 90) (.tmp 94) 5) (some 95) (.bool false) (by kernel_rfl) (by kernel_rfl) (by kernel_rfl) HS15.out (fun o e => exec_bin (u1 := .int .u8 ((rotF (bv 128 f) n k : Nat) : Int)) (u2 := .int .u8 ((bv 128 f k : Nat) : Int)) _ e (by kernel_rfl) (by kernel_rfl) (eqG_int ..) (NE15.out _)) ?_
          simp only [put_some, put_none, List.setIfInBounds_toArray, List.set_cons_succ, List.set_cons_zero]
          clear NE15
          go_wp2_with fail
          go_roundw
          case rel => exact ⟨k + 1, by omega, by go_num, CN.out, D10⟩
          case measure => simp [intOf]; omega
      · have e : k = 128 := by omega
        subst e
        have e1 : (if n % 128 < 128 then (1 : Nat) else 0) = 1 := if_pos (by omega)
        rw [e1]
        have R10 := Lib.hid (R9.out.drewN q)
        have HS17 : Hid (Row8 (w9.drewN q) v8 128 zeros) := Lib.hid Z9.out
        have V10 : Hid (Row8 (w9.drewN q) (.slice (some ⟨gx, 0, none⟩) 128 px) 128 (bv 128 f)) := Lib.hid V9.out
        have L10 : Hid (Below w.heap.size w (w9.drewN q)) := Lib.hid (below_drewN L9.out q)
        clear e1 R9 V9 L9 Y9 Z9 DK C7 CX
        generalize w9.drewN q = wr at *
        have hq : decide ((128 : Int) < 128) = false := by decide
        go_wp2_with fail
        refine region_anyZ (fun w => Row8 w v8 128 zeros) 28 (by kernel_rfl) ?_
        refine takeG 0 (.move (.tmp 4)) (some 98) none (.int .i64 0) (by kernel_rfl) (by kernel_rfl) (by kernel_rfl) (fun _ _ _ h => h) (fun o w e hS => exec_move w e (by kernel_rfl)) HS17.out ?_
        refine takeG 1 (.binOp .neq 24 (.tmp 98) (.const (.int .i64 0)) 24) (some 99) none (.bool false) (by kernel_rfl) (by kernel_rfl) (by kernel_rfl) (fun _ _ _ h => h) (fun o w e hS => exec_bin (u1 := .int .i64 0) (u2 := (.int .i64 0)) w e (by kernel_rfl) (by kernel_rfl) (eqG_int ..) (by kernel_rfl)) HS17.out ?_
        refine takeG 2 (.move (.tmp 99)) (some 100) none (.bool false) (by kernel_rfl) (by kernel_rfl) (by kernel_rfl) (fun _ _ _ h => h) (fun o w e hS => exec_move w e (by kernel_rfl)) HS17.out ?_
        refine takeG 3 (.move (.tmp 9)) (some 101) (some (2, false)) (.int .i64 0) (by kernel_rfl) (by kernel_rfl) (by kernel_rfl) (fun _ _ _ h => h) (fun o w e hS => exec_move w e (by kernel_rfl)) HS17.out ?_
        refine takeG 4 (.binOp .neq 24 (.tmp 101) (.const (.int .i64 0)) 24) (some 102) (some (2, false)) (.bool false) (by kernel_rfl) (by kernel_rfl) (by kernel_rfl) (fun _ _ _ h => h) (fun o w e hS => exec_bin (u1 := .int .i64 0) (u2 := (.int .i64 0)) w e (by kernel_rfl) (by kernel_rfl) (eqG_int ..) (by kernel_rfl)) HS17.out ?_
        refine takeG 5 (.pick (.tmp 100) (.const (Value.bool true)) (.tmp 102)) (some 103) none (.bool false) (by kernel_rfl) (by kernel_rfl) (by kernel_rfl) (fun _ _ _ h => h) (fun o w e hS => exec_pick (b := false) w e (by kernel_rfl) (by kernel_rfl)) HS17.out ?_
        refine takeG 6 (.move (.tmp 103)) (some 104) none (.bool false) (by kernel_rfl) (by kernel_rfl) (by kernel_rfl) (fun _ _ _ h => h) (fun o w e hS => exec_move w e (by kernel_rfl)) HS17.out ?_
        refine takeG 7 (.move (.tmp 7)) (some 105) (some (6, false)) (.slice (some ⟨g7, 0, none⟩) 128 p7) (by kernel_rfl) (by kernel_rfl) (by kernel_rfl) (fun _ _ _ h => h) (fun o w e hS => exec_move w e (by kernel_rfl)) HS17.out ?_
        refine loneG 8 (.call ⟨.builtin .len, #[(.tmp 105)], #[44]⟩) (some 106) (some (6, false)) (by kernel_rfl) (by kernel_rfl) (by kernel_rfl) ?_
        intro o ho hod
        refine wp_val (v := .int .i64 128) (w' := wr.drew) (by cases o; cases ho; kernel_rfl) ?_
        rw [hod]
        clear hod ho
        refine ⟨fun _ => HS17.out, ?_⟩
        refine takeG 9 (.binOp .neq 3 (.tmp 106) (.const (.int .i64 128)) 3) (some 107) (some (6, false)) (.bool false) (by kernel_rfl) (by kernel_rfl) (by kernel_rfl) (fun _ _ _ h => h) (fun o w e hS => exec_bin (u1 := .int .i64 128) (u2 := (.int .i64 128)) w e (by kernel_rfl) (by kernel_rfl) (eqG_int ..) (by kernel_rfl)) HS17.out ?_
        refine takeG 10 (.pick (.tmp 104) (.const (Value.bool true)) (.tmp 107)) (some 108) none (.bool false) (by kernel_rfl) (by kernel_rfl) (by kernel_rfl) (fun _ _ _ h => h) (fun o w e hS => exec_pick (b := false) w e (by kernel_rfl) (by kernel_rfl)) HS17.out ?_
        refine takeG 11 (.move (.tmp 108)) (some 109) none (.bool false) (by kernel_rfl) (by kernel_rfl) (by kernel_rfl) (fun _ _ _ h => h) (fun o w e hS => exec_move w e (by kernel_rfl)) HS17.out ?_
        refine takeG 12 (.move (.tmp 11)) (some 110) (some (11, false)) (.int .i64 1) (by kernel_rfl) (by kernel_rfl) (by kernel_rfl) (fun _ _ _ h => h) (fun o w e hS => exec_move w e (by kernel_rfl)) HS17.out ?_
        refine takeG 13 (.binOp .neq 3 (.tmp 110) (.const (.int .i64 1)) 3) (some 111) (some (11, false)) (.bool false) (by kernel_rfl) (by kernel_rfl) (by kernel_rfl) (fun _ _ _ h => h) (fun o w e hS => exec_bin (u1 := .int .i64 1) (u2 := (.int .i64 1)) w e (by kernel_rfl) (by kernel_rfl) (eqG_int ..) (by kernel_rfl)) HS17.out ?_
        refine takeG 14 (.pick (.tmp 109) (.const (Value.bool true)) (.tmp 111)) (some 112) none (.bool false) (by kernel_rfl) (by kernel_rfl) (by kernel_rfl) (fun _ _ _ h => h) (fun o w e hS => exec_pick (b := false) w e (by kernel_rfl) (by kernel_rfl)) HS17.out ?_
        refine takeG 15 (.move (.tmp 112)) (some 113) none (.bool false) (by kernel_rfl) (by kernel_rfl) (by kernel_rfl) (fun _ _ _ h => h) (fun o w e hS => exec_move w e (by kernel_rfl)) HS17.out ?_
        refine takeG 16 (.move (.tmp 8)) (some 114) (some (15, false)) (v8) (by kernel_rfl) (by kernel_rfl) (by kernel_rfl) (fun _ _ _ h => h) (fun o w e hS => exec_move w e (by kernel_rfl)) HS17.out ?_
        refine takeG 17 (.convert 44 9 (.tmp 114)) (some 115) (some (15, false)) (.string (strB 128 zeros)) (by kernel_rfl) (by kernel_rfl) (by kernel_rfl) (fun _ _ _ h => h) (fun o w e hS => exec_conv (u := v8) w e (by kernel_rfl) hS.conv) HS17.out ?_
        refine loneG 18 (.makeSlice 44 (.const (.int .i64 128)) (.const (.int .i64 128))) (some 116) (some (15, false)) (by kernel_rfl) (by kernel_rfl) (by kernel_rfl) ?_
        intro o ho hod
        refine wp_val (exec_make ho (by kernel_rfl) (by kernel_rfl) (make_bytes 128 (by omega) wr.drew 128 rfl)) ?_
        rw [hod]
        clear hod ho
        have HSm : Hid (Row8 (wr.drew.alloc (.cells (rowArr 128 fun _ => 0) 5)) v8 128 zeros ∧ Row8 (wr.drew.alloc (.cells (rowArr 128 fun _ => 0) 5)) (.slice (some ⟨wr.drew.heap.size, 0, none⟩) 128 128) 128 zeros) := Lib.hid ⟨HS17.out.drew.new_ ((Below.refl _ _).alloc (Nat.le_refl _) _), Row8.of_blk (Blk.new wr.drew _ _)⟩
        have HS17b : Hid (Row8 (wr.drew.alloc (.cells (rowArr 128 fun _ => 0) 5)) v8 128 zeros) := Lib.hid HSm.out.1
        refine ⟨fun _ => HS17b.out, ?_⟩
        refine loneG 19 (.convert 44 9 (.tmp 116)) (some 117) (some (15, false)) (by kernel_rfl) (by kernel_rfl) (by kernel_rfl) ?_
        intro o ho hod
        refine wp_val (v := .string (strB 128 zeros)) (exec_conv (u := .slice (some ⟨wr.drew.heap.size, 0, none⟩) 128 128) _ ho (by kernel_rfl) HSm.out.2.conv) ?_
        rw [hod]
        clear hod ho
        refine ⟨fun _ => HS17b.out, ?_⟩
        refine loneG 20 (.binOp .neq 9 (.tmp 115) (.tmp 117) 9) (some 118) (some (15, false)) (by kernel_rfl) (by kernel_rfl) (by kernel_rfl) ?_
        intro o ho hod
        refine wp_val (v := .bool false) (exec_bin (u1 := .string (strB 128 zeros)) (u2 := .string (strB 128 zeros)) _ ho (by kernel_rfl) (by kernel_rfl) (eqG_str ..) (by rw [ne_str, beq_self_eq_true]; rfl)) ?_
        rw [hod]
        clear hod ho
        refine ⟨fun _ => HS17b.out, ?_⟩
        refine loneG 21 (.pick (.tmp 113) (.const (Value.bool true)) (.tmp 118)) (some 119) none (by kernel_rfl) (by kernel_rfl) (by kernel_rfl) ?_
        intro o ho hod
        refine wp_val (v := .bool false) (exec_pick (b := false) _ ho (by kernel_rfl) (by kernel_rfl)) ?_
        rw [hod]
        clear hod ho
        refine ⟨fun _ => HS17b.out, ?_⟩
        refine loneG 22 (.move (.tmp 119)) (some 120) none (by kernel_rfl) (by kernel_rfl) (by kernel_rfl) ?_
        intro o ho hod
        refine wp_val (v := .bool false) (exec_move _ ho (by kernel_rfl)) ?_
        rw [hod]
        clear hod ho
        refine ⟨fun _ => HS17b.out, ?_⟩
        refine takeG 23 (.move (.tmp 3)) (some 121) (some (22, false)) (.pointer (some ⟨r, 0, none⟩)) (by kernel_rfl) (by kernel_rfl) (by kernel_rfl) (fun _ _ _ h => h) (fun o w e hS => exec_move w e (by kernel_rfl)) HS17b.out ?_
        refine takeG 24 (.move (.tmp 5)) (some 122) (some (22, false)) (.int .i64 (at_ : Int)) (by kernel_rfl) (by kernel_rfl) (by kernel_rfl) (fun _ _ _ h => h) (fun o w e hS => exec_move w e (by kernel_rfl)) HS17b.out ?_
        refine loneG 25 (.call ⟨.value (.func 27), #[(.tmp 121), (.const (.int .i64 1)), (.tmp 122), (.const (Value.int .i64 (-1)))], #[25, 3, 3, 3]⟩) (some 123) (some (22, false)) (by kernel_rfl) (by kernel_rfl) (by kernel_rfl) ?_
        intro o ho hod
        refine wp_callC (f := 27) (args := #[.pointer (some ⟨r, 0, none⟩), .int .i64 1, .int .i64 (at_ : Int), .int .i64 (-1)]) (by cases o; cases ho; kernel_rfl) (rot_neg (B := B) _ r s6 1 (at_ : Int) (-1) (by omega)) ?_
        rintro e w' ⟨rfl, rfl⟩
        refine ⟨.int .i64 1, rfl, ?_⟩
        rw [hod]
        clear hod ho
        skip
        refine ⟨fun _ => HS17b.out, ?_⟩
        refine loneG 26 (.binOp .neq 24 (.tmp 123) (.const (.int .i64 1)) 24) (some 124) (some (22, false)) (by kernel_rfl) (by kernel_rfl) (by kernel_rfl) ?_
        intro o ho hod
        refine wp_val (v := .bool false) (exec_bin (u1 := .int .i64 1) (u2 := (.int .i64 1)) _ ho (by kernel_rfl) (by kernel_rfl) (eqG_int ..) (by kernel_rfl)) ?_
        rw [hod]
        clear hod ho
        refine ⟨fun _ => HS17b.out, ?_⟩
        refine lastS 27 (.pick (.tmp 120) (.const (Value.bool true)) (.tmp 124)) (some 125) (.bool false) (by kernel_rfl) (by kernel_rfl) (by kernel_rfl) HS17b.out (fun o e => exec_pick (b := false) _ e (by kernel_rfl) (by kernel_rfl)) ?_
        simp only [put_some, put_none, List.setIfInBounds_toArray, List.set_cons_succ, List.set_cons_zero]
        have n11 : Below wr.heap.size wr (wr.drew.alloc (.cells (rowArr 128 fun _ => 0) 5)) := ((Below.refl wr.heap.size wr).drew).alloc (Nat.le_refl _) _
        have R11 := Lib.hid (R10.out.below n11)
        have V11 := Lib.hid (V10.out.new_ n11)
        have L11 := Lib.hid (L10.out.trans (n11.mono L10.out.size))
        clear n11 R10 V10 L10 HS17 HSm HS17b
        generalize wr.drew.alloc (.cells (rowArr 128 fun _ => 0) 5) = w11 at *
        go_wp2_with fail
        refine (rot_ok _ r s6 1 at_ n R11.out (by rw [N6.out.nd]; omega) (by rw [N6.out.ns]; omega) (N6.out.gone 1) hn63 (by have := N6.out.cost; omega)).mono ?_
        rintro e w12 ⟨rfl, h12, k12⟩
        have R12 := Lib.hid h12
        have V12 := Lib.hid (V11.out.keep k12)
        have L12 := Lib.hid (L11.out.trans (k12.below.mono hB.out))
        have N12 := Lib.hid (N6.out.rotted n)
        clear h12 k12 R11 L11 V11 N6
        generalize s6.rotted 1 at_ n = s12 at *
        go_wp2_with fail
        refine (read_calm _ r s12 1 (at_ : Int) 1 at_ R12.out N12.out.calm rfl rfl (by rw [N12.out.nd]; omega) (by rw [N12.out.ns]; omega) (N12.out.gone 1)).mono ?_
        rintro e w13 ⟨v13, rfl, r13, h13, k13⟩
        rw [N12.out.one, rot_back] at r13
        have L13 := Lib.hid (L12.out.trans (k13.below.mono hB.out))
        have q1 := r13.conv
        have q2 := (V12.out.keep k13).conv
        generalize strB 128 (bv 128 f) = S at *
        clear h13 k13 r13 R12 L12 V12
        go_wp2_with fail
        go_ret
        exact ⟨rfl, L13.out⟩
  | false =>
    go_wp2_with fail
    refine (flush_calm _ r s4 R4.out N4.out.calm).mono ?_
    rintro e wf ⟨rfl, h5, k5⟩
    have R5 := Lib.hid h5
    have X5 := Lib.hid (k5.block X4.out rfl)
    have L5 := Lib.hid (L4.out.trans (k5.below.mono hB.out))
    have N5 := Lib.hid N4.out.flushed
    clear h5 k5 R4 L4 X4 N4 c3
    generalize s4.flushed = s5 at *
    go_wp2_with fail
    refine (rot_ok _ r s5 1 at_ n R5.out (by rw [N5.out.nd]; omega) (by rw [N5.out.ns]; omega) (N5.out.gone 1) hn63 (by have := N5.out.cost; omega)).mono ?_
    rintro e wg ⟨rfl, h6, k6⟩
    have R6 := Lib.hid h6
    have X6 := Lib.hid (k6.block X5.out rfl)
    have L6 := Lib.hid (L5.out.trans (k6.below.mono hB.out))
    have N6 := Lib.hid (N5.out.rotted n)
    clear h6 k6 R5 L5 X5 N5
    generalize s5.rotted 1 at_ n = s6 at *
    go_wp2_with fail
    refine (read_calm _ r s6 1 (at_ : Int) 1 at_ R6.out N6.out.calm rfl rfl (by rw [N6.out.nd]; omega) (by rw [N6.out.ns]; omega) (N6.out.gone 1)).mono ?_
    rintro e w7 ⟨v7, rfl, r7, h7, k7⟩
    have R7 := Lib.hid h7
    rw [N6.out.one] at r7
    have V7 := Lib.hid r7
    have X7 := Lib.hid (k7.block X6.out rfl)
    have L7 := Lib.hid (L6.out.trans (k7.below.mono hB.out))
    clear h7 k7 r7 R6 L6 X6
    go_wp2_with fail
    refine (read_calm _ r s6 0 (at_ : Int) 0 at_ R7.out N6.out.calm rfl rfl (by rw [N6.out.nd]; omega) (by rw [N6.out.ns]; omega) (N6.out.gone 0)).mono ?_
    rintro e w8 ⟨v8, rfl, r8, h8, k8⟩
    have R8 := Lib.hid h8
    rw [N6.out.zero] at r8
    have V8 := Lib.hid r8
    have Y8 := Lib.hid (V7.out.keep k8)
    have X8 := Lib.hid (k8.block X7.out rfl)
    have L8 := Lib.hid (L7.out.trans (k8.below.mono hB.out))
    have c0 : w8.cell? ⟨w.heap.size, 0, none⟩ = some (.int .i64 f) := X8.out.cell 0
    clear h8 k8 r8 R7 L7 X7 V7
    go_wp2_with fail
    refine (bytes_calm f _ HF.out).mono ?_
    rintro e w9 ⟨v9, rfl, r9, b9⟩
    have R9 := Lib.hid (R8.out.below b9)
    have V9 := Lib.hid r9
    have Y9 := Lib.hid (Y8.out.new_ b9)
    have Z9 := Lib.hid (V8.out.new_ b9)
    have L9 := Lib.hid (L8.out.trans (b9.mono L8.out.size))
    clear r9 b9 R8 L8 X8 Y8 V8 c0
    obtain ⟨g7, p7, cs7, rfl, hb7, hx7⟩ := Y9.out
    obtain ⟨gx, px, csx, rfl, hbx, hxx⟩ := V9.out
    have C7 : Hid (∀ k, k < 128 → w9.cell? ⟨g7, 0 + k, none⟩ = some (.int .u8 ((rotF (bv 128 f) n k : Nat) : Int))) := Lib.hid (fun k hk => (hb7.cell _).trans (hx7 k hk))
    have CX : Hid (∀ k, k < 128 → w9.cell? ⟨gx, 0 + k, none⟩ = some (.int .u8 ((bv 128 f k : Nat) : Int))) := Lib.hid (fun k hk => (hbx.cell _).trans (hxx k hk))
    clear hb7 hx7 hbx hxx
    have D9 : Hid (∃ q, w9 = w9.drewN q) := Lib.hid ⟨0, rfl⟩
    go_wp2_with fail
    go_loopw [11, 12] (fun y x wr => ∃ k : Nat, k ≤ 128 ∧ x = .int .i64 k ∧ y = .int .i64 ((if n % 128 < k then 1 else 0 : Nat) : Int) ∧ Hid (∃ q, wr = w9.drewN q)) (fun _ x _ => 128 - (intOf x).toNat)
    case atStart => exact ⟨0, by omega, rfl, rfl, D9⟩
    case round =>
      obtain ⟨k, hk128, rfl, rfl, DK⟩ := hrel
      clear D9
      obtain ⟨q, rfl⟩ := DK.out
      by_cases hk : k < 128
      · have i2 : decide ((k : Int) < 128) = true := by simp; omega
        have i3 : (k : Int) < 128 := by omega
        have i4 : (0 : Int) ≤ (k : Int) := by omega
        have HS15 : Hid ((fun w : World => w.cell? ⟨g7, 0 + k, none⟩ = some (.int .u8 ((rotF (bv 128 f) n k : Nat) : Int)) ∧ w.cell? ⟨gx, 0 + k, none⟩ = some (.int .u8 ((bv 128 f k : Nat) : Int))) (w9.drewN q)) := Lib.hid ⟨C7.out k hk, CX.out k hk⟩
        have D10 : Hid (∃ q', (w9.drewN q).drew = w9.drewN q') := Lib.hid ⟨q + 1, rfl⟩
        by_cases hkn : k = n % 128
        · have e1 : (if n % 128 < k then (1 : Nat) else 0) = 0 := if_neg (by omega)
          have CN : Hid (Value.int .i64 ((0 : Int) + 1) = .int .i64 ((if n % 128 < k + 1 then 1 else 0 : Nat) : Int)) := Lib.hid (by rw [if_pos (by omega)]; rfl)
          have NE15 : Hid (∀ w : World, (binOp .neq 5 (.int .u8 ((rotF (bv 128 f) n k : Nat) : Int)) (.int .u8 ((bv 128 f k : Nat) : Int))).run Try.prog w = .ok (.bool true) w) := Lib.hid (fun w => neq_u8 w (by
            unfold rotF
            rw [if_pos hkn]
            exact xor_ne (by omega)))
          rw [e1]
          clear e1 hkn
          go_wp2_with fail
          refine region_anyZ (fun w => w.cell? ⟨g7, 0 + k, none⟩ = some (.int .u8 ((rotF (bv 128 f) n k : Nat) : Int)) ∧ w.cell? ⟨gx, 0 + k, none⟩ = some (.int .u8 ((bv 128 f k : Nat) : Int))) 9 (by kernel_rfl) ?_
          refine takeG 0 (.move (.tmp 7)) (some 87) none (.slice (some ⟨g7, 0, none⟩) 128 p7) (by kernel_rfl) (by kernel_rfl) (by kernel_rfl) (fun _ _ _ h => h) (fun o w e hS => exec_move w e (by kernel_rfl)) HS15.out ?_
          refine takeG 1 (.move (.tmp 12)) (some 88) none (.int .i64 (k : Int)) (by kernel_rfl) (by kernel_rfl) (by kernel_rfl) (fun _ _ _ h => h) (fun o w e hS => exec_move w e (by kernel_rfl)) HS15.out ?_
          refine takeG 2 (.indexAddr 44 (.tmp 87) (.tmp 88)) (some 89) none (.pointer (some ⟨g7, 0 + k, none⟩)) (by kernel_rfl) (by kernel_rfl) (by kernel_rfl) (fun _ _ _ h => h) (fun o w e hS => exec_index (u1 := .slice (some ⟨g7, 0, none⟩) 128 p7) (u2 := .int .i64 (k : Int)) w e (by kernel_rfl) (by kernel_rfl) (index_slice Try.underlying44 (by kernel_rfl) g7 0 128 p7 k hk w)) HS15.out ?_
          refine takeG 3 (.load 5 (.tmp 89)) (some 90) none (.int .u8 ((rotF (bv 128 f) n k : Nat) : Int)) (by kernel_rfl) (by kernel_rfl) (by kernel_rfl) (fun _ _ _ h => h) (fun o w e hS => exec_load (x := (.tmp 89)) e (by kernel_rfl) (load_one Try.underlying5 rfl hS.1)) HS15.out ?_
          refine takeG 4 (.move (.tmp 10)) (some 91) none (.slice (some ⟨gx, 0, none⟩) 128 px) (by kernel_rfl) (by kernel_rfl) (by kernel_rfl) (fun _ _ _ h => h) (fun o w e hS => exec_move w e (by kernel_rfl)) HS15.out ?_
          refine takeG 5 (.move (.tmp 12)) (some 92) none (.int .i64 (k : Int)) (by kernel_rfl) (by kernel_rfl) (by kernel_rfl) (fun _ _ _ h => h) (fun o w e hS => exec_move w e (by kernel_rfl)) HS15.out ?_
          refine takeG 6 (.indexAddr 44 (.tmp 91) (.tmp 92)) (some 93) none (.pointer (some ⟨gx, 0 + k, none⟩)) (by kernel_rfl) (by kernel_rfl) (by kernel_rfl) (fun _ _ _ h => h) (fun o w e hS => exec_index (u1 := .slice (some ⟨gx, 0, none⟩) 128 px) (u2 := .int .i64 (k : Int)) w e (by kernel_rfl) (by kernel_rfl) (index_slice Try.underlying44 (by kernel_rfl) gx 0 128 px k hk w)) HS15.out ?_
          refine takeG 7 (.load 5 (.tmp 93)) (some 94) none (.int .u8 ((bv 128 f k : Nat) : Int)) (by kernel_rfl) (by kernel_rfl) (by kernel_rfl) (fun _ _ _ h => h) (fun o w e hS => exec_load (x := (.tmp 93)) e (by kernel_rfl) (load_one Try.underlying5 rfl hS.2)) HS15.out ?_
          refine lastS 8 (.binOp .neq 5 (.tmp 90) (.tmp 94) 5) (some 95) (.bool true) (by kernel_rfl) (by kernel_rfl) (by kernel_rfl) HS15.out (fun o e => exec_bin (u1 := .int .u8 ((rotF (bv 128 f) n k : Nat) : Int)) (u2 := .int .u8 ((bv 128 f k : Nat) : Int)) _ e (by kernel_rfl) (by kernel_rfl) (eqG_int ..) (NE15.out _)) ?_
          simp only [put_some, put_none, List.setIfInBounds_toArray, List.set_cons_succ, List.set_cons_zero]
          clear NE15
          go_wp2_with fail
          go_roundw
          case rel => exact ⟨k + 1, by omega, by go_num, CN.out, D10⟩
          case measure => simp [intOf]; omega
        · have CN : Hid (Value.int .i64 ((if n % 128 < k then 1 else 0 : Nat) : Int) = .int .i64 ((if n % 128 < k + 1 then 1 else 0 : Nat) : Int)) := Lib.hid (by
            by_cases h : n % 128 < k
            · rw [if_pos h, if_pos (by omega)]
            · rw [if_neg h, if_neg (by omega)])
          have NE15 : Hid (∀ w : World, (binOp .neq 5 (.int .u8 ((rotF (bv 128 f) n k : Nat) : Int)) (.int .u8 ((bv 128 f k : Nat) : Int))).run Try.prog w = .ok (.bool false) w) := Lib.hid (fun w => neq_u8_same w (by
            unfold rotF
            rw [if_neg hkn]))
          generalize (if n % 128 < k then (1 : Nat) else 0) = y11 at *
          clear hkn
          go_wp2_with fail
          refine region_anyZ (fun w => w.cell? ⟨g7, 0 + k, none⟩ = some (.int .u8 ((rotF (bv 128 f) n k : Nat) : Int)) ∧ w.cell? ⟨gx, 0 + k, none⟩ = some (.int .u8 ((bv 128 f k : Nat) : Int))) 9 (by kernel_rfl) ?_
          refine takeG 0 (.move (.tmp 7)) (some 87) none (.slice (some ⟨g7, 0, none⟩) 128 p7) (by kernel_rfl) (by kernel_rfl) (by kernel_rfl) (fun _ _ _ h => h) (fun o w e hS => exec_move w e (by kernel_rfl)) HS15.out ?_
          refine takeG 1 (.move (.tmp 12)) (some 88) none (.int .i64 (k : Int)) (by kernel_rfl) (by kernel_rfl) (by kernel_rfl) (fun _ _ _ h => h) (fun o w e hS => exec_move w e (by kernel_rfl)) HS15.out ?_
          refine takeG 2 (.indexAddr 44 (.tmp 87) (.tmp 88)) (some 89) none (.pointer (some ⟨g7, 0 + k, none⟩)) (by kernel_rfl) (by kernel_rfl) (by kernel_rfl) (fun _ _ _ h => h) (fun o w e hS => exec_index (u1 := .slice (some ⟨g7, 0, none⟩) 128 p7) (u2 := .int .i64 (k : Int)) w e (by kernel_rfl) (by kernel_rfl) (index_slice Try.underlying44 (by kernel_rfl) g7 0 128 p7 k hk w)) HS15.out ?_
          refine takeG 3 (.load 5 (.tmp 89)) (some 90) none (.int .u8 ((rotF (bv 128 f) n k : Nat) : Int)) (by kernel_rfl) (by kernel_rfl) (by kernel_rfl) (fun _ _ _ h => h) (fun o w e hS => exec_load (x := (.tmp 89)) e (by kernel_rfl) (load_one Try.underlying5 rfl hS.1)) HS15.out ?_
          refine takeG 4 (.move (.tmp 10)) (some 91) none (.slice (some ⟨gx, 0, none⟩) 128 px) (by kernel_rfl) (by kernel_rfl) (by kernel_rfl) (fun _ _ _ h => h) (fun o w e hS => exec_move w e (by kernel_rfl)) HS15.out ?_
          refine takeG 5 (.move (.tmp 12)) (some 92) none (.int .i64 (k : Int)) (by kernel_rfl) (by kernel_rfl) (by kernel_rfl) (fun _ _ _ h => h) (fun o w e hS => exec_move w e (by kernel_rfl)) HS15.out ?_
          refine takeG 6 (.indexAddr 44 (.tmp 91) (.tmp 92)) (some 93) none (.pointer (some ⟨gx, 0 + k, none⟩)) (by kernel_rfl) (by kernel_rfl) (by kernel_rfl) (fun _ _ _ h => h) (fun o w e hS => exec_index (u1 := .slice (some ⟨gx, 0, none⟩) 128 px) (u2 := .int .i64 (k : Int)) w e (by kernel_rfl) (by kernel_rfl) (index_slice Try.underlying44 (by kernel_rfl) gx 0 128 px k hk w)) HS15.out ?_
          refine takeG 7 (.load 5 (.tmp 93)) (some 94) none (.int .u8 ((bv 128 f k : Nat) : Int)) (by kernel_rfl) (by kernel_rfl) (by kernel_rfl) (fun _ _ _ h => h) (fun o w e hS => exec_load (x := (.tmp 93)) e (by kernel_rfl) (load_one Try.underlying5 rfl hS.2)) HS15.out ?_
          refine lastS 8 (.binOp .neq 5 (.tmp 90) (.tmp 94) 5) (some 95) (.bool false) (by kernel_rfl) (by kernel_rfl) (by kernel_rfl) HS15.out (fun o e => exec_bin (u1 := .int .u8 ((rotF (bv 128 f) n k : Nat) : Int)) (u2 := .int .u8 ((bv 128 f k : Nat) : Int)) _ e (by kernel_rfl) (by kernel_rfl) (eqG_int ..) (NE15.out _)) ?_
          simp only [put_some, put_none, List.setIfInBounds_toArray, List.set_cons_succ, List.set_cons_zero]
          clear NE15
          go_wp2_with fail
          go_roundw
          case rel => exact ⟨k + 1, by omega, by go_num, CN.out, D10⟩
          case measure => simp [intOf]; omega
      · have e : k = 128 := by omega
        subst e
        have e1 : (if n % 128 < 128 then (1 : Nat) else 0) = 1 := if_pos (by omega)
        rw [e1]
        have R10 := Lib.hid (R9.out.drewN q)
        have HS17 : Hid (Row8 (w9.drewN q) v8 128 zeros) := Lib.hid Z9.out
        have V10 : Hid (Row8 (w9.drewN q) (.slice (some ⟨gx, 0, none⟩) 128 px) 128 (bv 128 f)) := Lib.hid V9.out
        have L10 : Hid (Below w.heap.size w (w9.drewN q)) := Lib.hid (below_drewN L9.out q)
        clear e1 R9 V9 L9 Y9 Z9 DK C7 CX
        generalize w9.drewN q = wr at *
        have hq : decide ((128 : Int) < 128) = false := by decide
        go_wp2_with fail
        refine region_anyZ (fun w => Row8 w v8 128 zeros) 28 (by kernel_rfl) ?_
        refine takeG 0 (.move (.tmp 4)) (some 98) none (.int .i64 0) (by kernel_rfl) (by kernel_rfl) (by kernel_rfl) (fun _ _ _ h => h) (fun o w e hS => exec_move w e (by kernel_rfl)) HS17.out ?_
        refine takeG 1 (.binOp .neq 24 (.tmp 98) (.const (.int .i64 0)) 24) (some 99) none (.bool false) (by kernel_rfl) (by kernel_rfl) (by kernel_rfl) (fun _ _ _ h => h) (fun o w e hS => exec_bin (u1 := .int .i64 0) (u2 := (.int .i64 0)) w e (by kernel_rfl) (by kernel_rfl) (eqG_int ..) (by kernel_rfl)) HS17.out ?_
        refine takeG 2 (.move (.tmp 99)) (some 100) none (.bool false) (by kernel_rfl) (by kernel_rfl) (by kernel_rfl) (fun _ _ _ h => h) (fun o w e hS => exec_move w e (by kernel_rfl)) HS17.out ?_
        refine takeG 3 (.move (.tmp 9)) (some 101) (some (2, false)) (.int .i64 0) (by kernel_rfl) (by kernel_rfl) (by kernel_rfl) (fun _ _ _ h => h) (fun o w e hS => exec_move w e (by kernel_rfl)) HS17.out ?_
        refine takeG 4 (.binOp .neq 24 (.tmp 101) (.const (.int .i64 0)) 24) (some 102) (some (2, false)) (.bool false) (by kernel_rfl) (by kernel_rfl) (by kernel_rfl) (fun _ _ _ h => h) (fun o w e hS => exec_bin (u1 := .int .i64 0) (u2 := (.int .i64 0)) w e (by kernel_rfl) (by kernel_rfl) (eqG_int ..) (by kernel_rfl)) HS17.out ?_
        refine takeG 5 (.pick (.tmp 100) (.const (Value.bool true)) (.tmp 102)) (some 103) none (.bool false) (by kernel_rfl) (by kernel_rfl) (by kernel_rfl) (fun _ _ _ h => h) (fun o w e hS => exec_pick (b := false) w e (by kernel_rfl) (by kernel_rfl)) HS17.out ?_
        refine takeG 6 (.move (.tmp 103)) (some 104) none (.bool false) (by kernel_rfl) (by kernel_rfl) (by kernel_rfl) (fun _ _ _ h => h) (fun o w e hS => exec_move w e (by kernel_rfl)) HS17.out ?_
        refine takeG 7 (.move (.tmp 7)) (some 105) (some (6, false)) (.slice (some ⟨g7, 0, none⟩) 128 p7) (by kernel_rfl) (by kernel_rfl) (by kernel_rfl) (fun _ _ _ h => h) (fun o w e hS => exec_move w e (by kernel_rfl)) HS17.out ?_
        refine loneG 8 (.call ⟨.builtin .len, #[(.tmp 105)], #[44]⟩) (some 106) (some (6, false)) (by kernel_rfl) (by kernel_rfl) (by kernel_rfl) ?_
        intro o ho hod
        refine wp_val (v := .int .i64 128) (w' := wr.drew) (by cases o; cases ho; kernel_rfl) ?_
        rw [hod]
        clear hod ho
        refine ⟨fun _ => HS17.out, ?_⟩
        refine takeG 9 (.binOp .neq 3 (.tmp 106) (.const (.int .i64 128)) 3) (some 107) (some (6, false)) (.bool false) (by kernel_rfl) (by kernel_rfl) (by kernel_rfl) (fun _ _ _ h => h) (fun o w e hS => exec_bin (u1 := .int .i64 128) (u2 := (.int .i64 128)) w e (by kernel_rfl) (by kernel_rfl) (eqG_int ..) (by kernel_rfl)) HS17.out ?_
        refine takeG 10 (.pick (.tmp 104) (.const (Value.bool true)) (.tmp 107)) (some 108) none (.bool false) (by kernel_rfl) (by kernel_rfl) (by kernel_rfl) (fun _ _ _ h => h) (fun o w e hS => exec_pick (b := false) w e (by kernel_rfl) (by kernel_rfl)) HS17.out ?_
        refine takeG 11 (.move (.tmp 108)) (some 109) none (.bool false) (by kernel_rfl) (by kernel_rfl) (by kernel_rfl) (fun _ _ _ h => h) (fun o w e hS => exec_move w e (by kernel_rfl)) HS17.out ?_
        refine takeG 12 (.move (.tmp 11)) (some 110) (some (11, false)) (.int .i64 1) (by kernel_rfl) (by kernel_rfl) (by kernel_rfl) (fun _ _ _ h => h) (fun o w e hS => exec_move w e (by kernel_rfl)) HS17.out ?_
        refine takeG 13 (.binOp .neq 3 (.tmp 110) (.const (.int .i64 1)) 3) (some 111) (some (11, false)) (.bool false) (by kernel_rfl) (by kernel_rfl) (by kernel_rfl) (fun _ _ _ h => h) (fun o w e hS => exec_bin (u1 := .int .i64 1) (u2 := (.int .i64 1)) w e (by kernel_rfl) (by kernel_rfl) (eqG_int ..) (by kernel_rfl)) HS17.out ?_
        refine takeG 14 (.pick (.tmp 109) (.const (Value.bool true)) (.tmp 111)) (some 112) none (.bool false) (by kernel_rfl) (by kernel_rfl) (by kernel_rfl) (fun _ _ _ h => h) (fun o w e hS => exec_pick (b := false) w e (by kernel_rfl) (by kernel_rfl)) HS17.out ?_
        refine takeG 15 (.move (.tmp 112)) (some 113) none (.bool false) (by kernel_rfl) (by kernel_rfl) (by kernel_rfl) (fun _ _ _ h => h) (fun o w e hS => exec_move w e (by kernel_rfl)) HS17.out ?_
        refine takeG 16 (.move (.tmp 8)) (some 114) (some (15, false)) (v8) (by kernel_rfl) (by kernel_rfl) (by kernel_rfl) (fun _ _ _ h => h) (fun o w e hS => exec_move w e (by kernel_rfl)) HS17.out ?_
        refine takeG 17 (.convert 44 9 (.tmp 114)) (some 115) (some (15, false)) (.string (strB 128 zeros)) (by kernel_rfl) (by kernel_rfl) (by kernel_rfl) (fun _ _ _ h => h) (fun o w e hS => exec_conv (u := v8) w e (by kernel_rfl) hS.conv) HS17.out ?_
        refine loneG 18 (.makeSlice 44 (.const (.int .i64 128)) (.const (.int .i64 128))) (some 116) (some (15, false)) (by kernel_rfl) (by kernel_rfl) (by kernel_rfl) ?_
        intro o ho hod
        refine wp_val (exec_make ho (by kernel_rfl) (by kernel_rfl) (make_bytes 128 (by omega) wr.drew 128 rfl)) ?_
        rw [hod]
        clear hod ho
        have HSm : Hid (Row8 (wr.drew.alloc (.cells (rowArr 128 fun _ => 0) 5)) v8 128 zeros ∧ Row8 (wr.drew.alloc (.cells (rowArr 128 fun _ => 0) 5)) (.slice (some ⟨wr.drew.heap.size, 0, none⟩) 128 128) 128 zeros) := Lib.hid ⟨HS17.out.drew.new_ ((Below.refl _ _).alloc (Nat.le_refl _) _), Row8.of_blk (Blk.new wr.drew _ _)⟩
        have HS17b : Hid (Row8 (wr.drew.alloc (.cells (rowArr 128 fun _ => 0) 5)) v8 128 zeros) := Lib.hid HSm.out.1
        refine ⟨fun _ => HS17b.out, ?_⟩
        refine loneG 19 (.convert 44 9 (.tmp 116)) (some 117) (some (15, false)) (by kernel_rfl) (by kernel_rfl) (by kernel_rfl) ?_
        intro o ho hod
        refine wp_val (v := .string (strB 128 zeros)) (exec_conv (u := .slice (some ⟨wr.drew.heap.size, 0, none⟩) 128 128) _ ho (by kernel_rfl) HSm.out.2.conv) ?_
        rw [hod]
        clear hod ho
        refine ⟨fun _ => HS17b.out, ?_⟩
        refine loneG 20 (.binOp .neq 9 (.tmp 115) (.tmp 117) 9) (some 118) (some (15, false)) (by kernel_rfl) (by kernel_rfl) (by kernel_rfl) ?_
        intro o ho hod
        refine wp_val (v := .bool false) (exec_bin (u1 := .string (strB 128 zeros)) (u2 := .string (strB 128 zeros)) _ ho (by kernel_rfl) (by kernel_rfl) (eqG_str ..) (by rw [ne_str, beq_self_eq_true]; rfl)) ?_
        rw [hod]
        clear hod ho
        refine ⟨fun _ => HS17b.out, ?_⟩
        refine loneG 21 (.pick (.tmp 113) (.const (Value.bool true)) (.tmp 118)) (some 119) none (by kernel_rfl) (by kernel_rfl) (by kernel_rfl) ?_
        intro o ho hod
        refine wp_val (v := .bool false) (exec_pick (b := false) _ ho (by kernel_rfl) (by kernel_rfl)) ?_
        rw [hod]
        clear hod ho
        refine ⟨fun _ => HS17b.out, ?_⟩
        refine loneG 22 (.move (.tmp 119)) (some 120) none (by kernel_rfl) (by kernel_rfl) (by kernel_rfl) ?_
        intro o ho hod
        refine wp_val (v := .bool false) (exec_move _ ho (by kernel_rfl)) ?_
        rw [hod]
        clear hod ho
        refine ⟨fun _ => HS17b.out, ?_⟩
        refine takeG 23 (.move (.tmp 3)) (some 121) (some (22, false)) (.pointer (some ⟨r, 0, none⟩)) (by kernel_rfl) (by kernel_rfl) (by kernel_rfl) (fun _ _ _ h => h) (fun o w e hS => exec_move w e (by kernel_rfl)) HS17b.out ?_
        refine takeG 24 (.move (.tmp 5)) (some 122) (some (22, false)) (.int .i64 (at_ : Int)) (by kernel_rfl) (by kernel_rfl) (by kernel_rfl) (fun _ _ _ h => h) (fun o w e hS => exec_move w e (by kernel_rfl)) HS17b.out ?_
        refine loneG 25 (.call ⟨.value (.func 27), #[(.tmp 121), (.const (.int .i64 1)), (.tmp 122), (.const (Value.int .i64 (-1)))], #[25, 3, 3, 3]⟩) (some 123) (some (22, false)) (by kernel_rfl) (by kernel_rfl) (by kernel_rfl) ?_
        intro o ho hod
        refine wp_callC (f := 27) (args := #[.pointer (some ⟨r, 0, none⟩), .int .i64 1, .int .i64 (at_ : Int), .int .i64 (-1)]) (by cases o; cases ho; kernel_rfl) (rot_neg (B := B) _ r s6 1 (at_ : Int) (-1) (by omega)) ?_
        rintro e w' ⟨rfl, rfl⟩
        refine ⟨.int .i64 1, rfl, ?_⟩
        rw [hod]
        clear hod ho
        skip
        refine ⟨fun _ => HS17b.out, ?_⟩
        refine loneG 26 (.binOp .neq 24 (.tmp 123) (.const (.int .i64 1)) 24) (some 124) (some (22, false)) (by kernel_rfl) (by kernel_rfl) (by kernel_rfl) ?_
        intro o ho hod
        refine wp_val (v := .bool false) (exec_bin (u1 := .int .i64 1) (u2 := (.int .i64 1)) _ ho (by kernel_rfl) (by kernel_rfl) (eqG_int ..) (by kernel_rfl)) ?_
        rw [hod]
        clear hod ho
        refine ⟨fun _ => HS17b.out, ?_⟩
        refine lastS 27 (.pick (.tmp 120) (.const (Value.bool true)) (.tmp 124)) (some 125) (.bool false) (by kernel_rfl) (by kernel_rfl) (by kernel_rfl) HS17b.out (fun o e => exec_pick (b := false) _ e (by kernel_rfl) (by kernel_rfl)) ?_
        simp only [put_some, put_none, List.setIfInBounds_toArray, List.set_cons_succ, List.set_cons_zero]
        have n11 : Below wr.heap.size wr (wr.drew.alloc (.cells (rowArr 128 fun _ => 0) 5)) := ((Below.refl wr.heap.size wr).drew).alloc (Nat.le_refl _) _
        have R11 := Lib.hid (R10.out.below n11)
        have V11 := Lib.hid (V10.out.new_ n11)
        have L11 := Lib.hid (L10.out.trans (n11.mono L10.out.size))
        clear n11 R10 V10 L10 HS17 HSm HS17b
        generalize wr.drew.alloc (.cells (rowArr 128 fun _ => 0) 5) = w11 at *
        go_wp2_with fail
        refine (rot_ok _ r s6 1 at_ n R11.out (by rw [N6.out.nd]; omega) (by rw [N6.out.ns]; omega) (N6.out.gone 1) hn63 (by have := N6.out.cost; omega)).mono ?_
        rintro e w12 ⟨rfl, h12, k12⟩
        have R12 := Lib.hid h12
        have V12 := Lib.hid (V11.out.keep k12)
        have L12 := Lib.hid (L11.out.trans (k12.below.mono hB.out))
        have N12 := Lib.hid (N6.out.rotted n)
        clear h12 k12 R11 L11 V11 N6
        generalize s6.rotted 1 at_ n = s12 at *
        go_wp2_with fail
        refine (read_calm _ r s12 1 (at_ : Int) 1 at_ R12.out N12.out.calm rfl rfl (by rw [N12.out.nd]; omega) (by rw [N12.out.ns]; omega) (N12.out.gone 1)).mono ?_
        rintro e w13 ⟨v13, rfl, r13, h13, k13⟩
        rw [N12.out.one, rot_back] at r13
        have L13 := Lib.hid (L12.out.trans (k13.below.mono hB.out))
        have q1 := r13.conv
        have q2 := (V12.out.keep k13).conv
        generalize strB 128 (bv 128 f) = S at *
        clear h13 k13 r13 R12 L12 V12
        go_wp2_with fail
        go_ret
        exact ⟨rfl, L13.out⟩
end rackSpoils
end Go.Proofs.Ytafflhnmkfbcnaa
