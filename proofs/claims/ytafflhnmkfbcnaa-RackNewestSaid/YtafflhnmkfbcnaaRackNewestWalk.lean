/-
  The walk of 'RackNewest': what was written last is read. Conditions: what the reading of the arguments gives.
-/
import Derived.Test.YtafflhnmkfbcnaaLawArgs
import Derived.Test.YtafflhnmkfbcnaaRackSays
namespace Go.Proofs.Ytafflhnmkfbcnaa
open Go Go.RowKit
set_option linter.unusedVariables false
namespace rackNewest

structure NInv (s : RS) (i : Nat) : Prop where
  nd : s.nd = 2
  ns : s.ns = 3
  calm : s.calm
  gone : ∀ d, s.gone d = false
  cost : s.cost ≤ i
  zero : s.holds 0 2 = zeros
theorem NInv.wrote {s : RS} {i : Nat} (h : NInv s i) (X : Nat → Nat) : NInv (s.wrote 1 2 X) (i + 1) :=
  ⟨h.nd, h.ns, h.calm, h.gone, by have := h.cost; show s.cost + 1 ≤ i + 1; omega, by rw [holds_wrote, if_neg (by omega)]; exact h.zero⟩
theorem NInv.flushed {s : RS} {i : Nat} (h : NInv s i) : NInv s.flushed i :=
  ⟨h.nd, h.ns, h.calm, h.gone, h.cost, by rw [holds_flushed]; exact h.zero⟩

set_option maxRecDepth 100000 in
set_option maxHeartbeats 1600000 in
theorem walk (a0 : Option Addr) (len0 cap0 : Nat) (x0 : Nat → Int) (a1 : Option Addr) (len1 cap1 : Nat) (x1 : Nat → Bool) (w : World) (h0 : RdI w w.heap.size a0 len0 x0) (l0 : len0 ≤ cap0) (m0 : cap0 ≤ maxLen) (h1 : RdO w w.heap.size a1 len1 x1) (l1 : len1 ≤ cap1) (m1 : cap1 ≤ maxLen) :
    Calls Try.prog 7 #[.slice a0 len0 cap0, .slice a1 len1 cap1] w fun e w' => e = .returned (.bool true) ∧ Below w.heap.size w w' := by
  unfold maxLen at m0 m1
  have H0 := Lib.hid h0
  have H1 := Lib.hid h1
  clear h0 h1
  go_enter Try.func7, Try.ntmps7
  go_wp2_with fail
  refine (known_any _).mono ?_
  rintro e w1 ⟨rfl, b1⟩
  have L1 := Lib.hid b1
  clear b1
  go_wp2_with fail
  refine (new_any w1 2 3 (by omega) (by omega) (by omega) (by omega)).mono ?_
  rintro e w2 ⟨⟨r, rfl, h2⟩, k2⟩
  have R2 := Lib.hid h2
  have N2 : Hid (NInv (RS.new 2 3) 0) := Lib.hid ⟨rfl, rfl, ⟨rfl, rfl⟩, fun _ => rfl, Nat.le_refl _, rfl⟩
  have L2 := Lib.hid (L1.out.trans (k2.below.mono L1.out.size))
  have hB : Hid (w.heap.size ≤ w1.heap.size) := L1.out.size
  clear h2 k2 L1
  generalize RS.new 2 3 = s2 at *
  generalize w1.heap.size = B at *
  go_wp2_with fail
  go_loopw [7] (fun x wr => ∃ (i : Nat) (s : RS), i ≤ 40 ∧ i ≤ len0 ∧ x = .int .i64 i ∧ Hid (NInv s i) ∧ Hid (RackAt B wr r s) ∧ Hid (Below w.heap.size w wr)) (fun x _ => 40 - (intOf x).toNat)
  case atStart => exact ⟨0, s2, by omega, by omega, rfl, N2, R2, L2⟩
  case round =>
    obtain ⟨i, s, hi40, hi, rfl, N3, R3, L3⟩ := hrel
    clear N2 R2 L2
    by_cases hi0 : i < len0
    rotate_left
    · have t1 : decide (i < len0) = false := by simp; omega
      go_wp2_with fail
      go_ret
      exact ⟨rfl, L3.out⟩
    have t1 : decide (i < len0) = true := by simp; omega
    by_cases hi4 : i < 40
    rotate_left
    · have t2 : decide ((i : Int) < 40) = false := by simp; omega
      go_wp2_with fail
      go_ret
      exact ⟨rfl, L3.out⟩
    have t2 : decide ((i : Int) < 40) = true := by simp; omega
    obtain ⟨fb, fo, hfa, hfB, hfc, hxi⟩ := H0.out i hi0
    subst hfa
    have fc := (L3.out.cell (p := ⟨fb, fo + i, none⟩) hfB).trans hfc
    have i1 : (0 : Int) ≤ (i : Int) := by omega
    have i2 : (i : Int) < (len0 : Int) := by omega
    have HX := Lib.hid hxi
    have HF := Lib.hid hfc
    clear hxi hfc
    go_wp2_with fail
    refine (bytes_calm (x0 i) _ HX.out).mono ?_
    rintro e w4 ⟨v4, rfl, r4, b4⟩
    have R4 := Lib.hid (R3.out.below b4)
    have V4 := Lib.hid r4
    have L4 := Lib.hid (L3.out.trans (b4.mono L3.out.size))
    clear r4 b4 R3 L3 fc
    go_wp2_with fail
    refine (write_calm _ r s 1 2 1 2 v4 _ R4.out N3.out.calm rfl rfl (by rw [N3.out.nd]; omega) (by rw [N3.out.ns]; omega) (N3.out.gone 1) V4.out (fun j _ => bv_lt 128 _ j) (by have := N3.out.cost; omega)).mono ?_
    rintro e w5 ⟨rfl, h5, k5⟩
    have R5 := Lib.hid h5
    have N5 := Lib.hid (N3.out.wrote (bv 128 (x0 i)))
    have E5 : Hid ((s.wrote 1 2 (bv 128 (x0 i))).holds 1 2 = bv 128 (x0 i)) := Lib.hid (by rw [holds_wrote, if_pos ⟨rfl, rfl⟩])
    have L5 := Lib.hid (L4.out.trans (k5.below.mono hB.out))
    clear h5 k5 R4 L4 N3 V4
    generalize s.wrote 1 2 (bv 128 (x0 i)) = s5 at *
    by_cases hl1 : i < len1
    rotate_left
    · have t3 : decide (i < len1) = false := by simp; omega
      have R6 := R5
      have N6 := N5
      have E6 := E5
      have L6 := L5
      clear R5 N5 E5 L5
      generalize s5 = s6 at *
      go_wp2_with fail
      refine (read_calm _ r s6 1 2 1 2 R6.out N6.out.calm rfl rfl (by rw [N6.out.nd]; omega) (by rw [N6.out.ns]; omega) (N6.out.gone 1)).mono ?_
      rintro e w8 ⟨v8, rfl, r8, h8, k8⟩
      have R8 := Lib.hid h8
      have V8 := Lib.hid r8
      rw [E6.out] at V8
      have L8 := Lib.hid (L6.out.trans (k8.below.mono hB.out))
      clear h8 r8 k8 R6 L6
      go_wp2_with fail
      refine (read_calm _ r s6 0 2 0 2 R8.out N6.out.calm rfl rfl (by rw [N6.out.nd]; omega) (by rw [N6.out.ns]; omega) (N6.out.gone 0)).mono ?_
      rintro e w10 ⟨v10, rfl, r10, h10, k10⟩
      have H6 := Lib.hid h10
      have L6 := Lib.hid (L8.out.trans (k10.below.mono hB.out))
      rw [N6.out.zero] at r10
      have HS6 : Hid (Row8 w10 v8 128 (bv 128 (x0 i)) ∧ Row8 w10 v10 128 zeros ∧ w10.cell? ⟨fb, fo + i, none⟩ = some (.int .i64 (x0 i))) := Lib.hid ⟨V8.out.keep k10, r10, (L6.out.cell (p := ⟨fb, fo + i, none⟩) hfB).trans HF.out⟩
      have hxi := HX.out
      clear h10 r10 k10 V8 R8 L8 hxi
      have hxi : I64 (x0 i) := HX.out
      go_wp2_with fail
      refine region_anyZ (fun w => Row8 w v8 128 (bv 128 (x0 i)) ∧ Row8 w v10 128 zeros ∧ w.cell? ⟨fb, fo + i, none⟩ = some (.int .i64 (x0 i))) 24 (by kernel_rfl) ?_
      refine takeG 0 (.move (.tmp 9)) (some 65) none (.int .i64 0) (by kernel_rfl) (by kernel_rfl) (by kernel_rfl) (fun _ _ _ h => h) (fun o w e hS => exec_move w e (by kernel_rfl)) HS6.out ?_
      refine takeG 1 (.binOp .neq 24 (.tmp 65) (.const (.int .i64 0)) 24) (some 66) none (.bool false) (by kernel_rfl) (by kernel_rfl) (by kernel_rfl) (fun _ _ _ h => h) (fun o w e hS => exec_bin (u1 := .int .i64 0) (u2 := (.int .i64 0)) w e (by kernel_rfl) (by kernel_rfl) (eqG_int ..) (by kernel_rfl)) HS6.out ?_
      refine takeG 2 (.move (.tmp 66)) (some 67) none (.bool false) (by kernel_rfl) (by kernel_rfl) (by kernel_rfl) (fun _ _ _ h => h) (fun o w e hS => exec_move w e (by kernel_rfl)) HS6.out ?_
      refine takeG 3 (.move (.tmp 11)) (some 68) (some (2, false)) (.int .i64 0) (by kernel_rfl) (by kernel_rfl) (by kernel_rfl) (fun _ _ _ h => h) (fun o w e hS => exec_move w e (by kernel_rfl)) HS6.out ?_
      refine takeG 4 (.binOp .neq 24 (.tmp 68) (.const (.int .i64 0)) 24) (some 69) (some (2, false)) (.bool false) (by kernel_rfl) (by kernel_rfl) (by kernel_rfl) (fun _ _ _ h => h) (fun o w e hS => exec_bin (u1 := .int .i64 0) (u2 := (.int .i64 0)) w e (by kernel_rfl) (by kernel_rfl) (eqG_int ..) (by kernel_rfl)) HS6.out ?_
      refine takeG 5 (.pick (.tmp 67) (.const (Value.bool true)) (.tmp 69)) (some 70) none (.bool false) (by kernel_rfl) (by kernel_rfl) (by kernel_rfl) (fun _ _ _ h => h) (fun o w e hS => exec_pick (b := false) w e (by kernel_rfl) (by kernel_rfl)) HS6.out ?_
      refine takeG 6 (.move (.tmp 70)) (some 71) none (.bool false) (by kernel_rfl) (by kernel_rfl) (by kernel_rfl) (fun _ _ _ h => h) (fun o w e hS => exec_move w e (by kernel_rfl)) HS6.out ?_
      refine takeG 7 (.move (.tmp 8)) (some 72) (some (6, false)) (v8) (by kernel_rfl) (by kernel_rfl) (by kernel_rfl) (fun _ _ _ h => h) (fun o w e hS => exec_move w e (by kernel_rfl)) HS6.out ?_
      refine takeG 8 (.convert 44 9 (.tmp 72)) (some 73) (some (6, false)) (.string (strB 128 (bv 128 (x0 i)))) (by kernel_rfl) (by kernel_rfl) (by kernel_rfl) (fun _ _ _ h => h) (fun o w e hS => exec_conv (u := v8) w e (by kernel_rfl) hS.1.conv) HS6.out ?_
      refine takeG 9 (.move (.tmp 0)) (some 74) (some (6, false)) (.slice (some ⟨fb, fo, none⟩) len0 cap0) (by kernel_rfl) (by kernel_rfl) (by kernel_rfl) (fun _ _ _ h => h) (fun o w e hS => exec_move w e (by kernel_rfl)) HS6.out ?_
      refine takeG 10 (.move (.tmp 7)) (some 75) (some (6, false)) (.int .i64 (i : Int)) (by kernel_rfl) (by kernel_rfl) (by kernel_rfl) (fun _ _ _ h => h) (fun o w e hS => exec_move w e (by kernel_rfl)) HS6.out ?_
      refine takeG 11 (.indexAddr 37 (.tmp 74) (.tmp 75)) (some 76) (some (6, false)) (.pointer (some ⟨fb, fo + i, none⟩)) (by kernel_rfl) (by kernel_rfl) (by kernel_rfl) (fun _ _ _ h => h) (fun o w e hS => exec_index (u1 := .slice (some ⟨fb, fo, none⟩) len0 cap0) (u2 := .int .i64 (i : Int)) w e (by kernel_rfl) (by kernel_rfl) (index_slice Try.underlying37 (by kernel_rfl) fb fo len0 cap0 i hi0 w)) HS6.out ?_
      refine takeG 12 (.load 3 (.tmp 76)) (some 77) (some (6, false)) (.int .i64 (x0 i)) (by kernel_rfl) (by kernel_rfl) (by kernel_rfl) (fun _ _ _ h => h) (fun o w e hS => exec_load (x := (.tmp 76)) e (by kernel_rfl) (load_one Try.underlying3 rfl hS.2.2)) HS6.out ?_
      refine loneG 13 (.call ⟨.value (.func 23), #[(.tmp 77), (.const (.int .i64 0))], #[3, 3]⟩) (some 78) (some (6, false)) (by kernel_rfl) (by kernel_rfl) (by kernel_rfl) ?_
      intro o ho hod
      refine wp_callC (f := 23) (args := #[.int .i64 (x0 i), .int .i64 0]) (by cases o; cases ho; kernel_rfl) (bytes_calm (x0 i) _ hxi) ?_
      rintro e w7 ⟨v7, rfl, r7, b7⟩
      refine ⟨v7, rfl, ?_⟩
      rw [hod]
      clear hod ho
      have HS6b := Lib.hid (⟨HS6.out.1.drew.new_ b7, HS6.out.2.1.drew.new_ b7, (b7.cell (p := ⟨fb, fo + i, none⟩) (block_lt_of_cell (w := w10.drew) HS6.out.2.2)).trans HS6.out.2.2⟩ : (fun w => Row8 w v8 128 (bv 128 (x0 i)) ∧ Row8 w v10 128 zeros ∧ w.cell? ⟨fb, fo + i, none⟩ = some (.int .i64 (x0 i))) w7)
      have HS7 : Hid (Row8 w7 v8 128 (bv 128 (x0 i)) ∧ Row8 w7 v7 128 (bv 128 (x0 i))) := Lib.hid ⟨HS6b.out.1, r7⟩
      have L7 := Lib.hid ((L6.out.drew).trans (b7.mono (by have := L6.out.size; exact this)))
      have H7 := Lib.hid (H6.out.drew.below b7)
      clear r7 b7 L6 H6 HS6
      refine ⟨fun _ => HS6b.out, ?_⟩
      refine loneG 14 (.convert 44 9 (.tmp 78)) (some 79) (some (6, false)) (by kernel_rfl) (by kernel_rfl) (by kernel_rfl) ?_
      intro o ho hod
      refine wp_val (v := .string (strB 128 (bv 128 (x0 i)))) (exec_conv (u := v7) _ ho (by kernel_rfl) HS7.out.2.conv) ?_
      rw [hod]
      clear hod ho
      refine ⟨fun _ => HS6b.out, ?_⟩
      refine loneG 15 (.binOp .neq 9 (.tmp 73) (.tmp 79) 9) (some 80) (some (6, false)) (by kernel_rfl) (by kernel_rfl) (by kernel_rfl) ?_
      intro o ho hod
      refine wp_val (v := .bool false) (exec_bin (u1 := .string (strB 128 (bv 128 (x0 i)))) (u2 := .string (strB 128 (bv 128 (x0 i)))) _ ho (by kernel_rfl) (by kernel_rfl) (eqG_str ..) (by rw [ne_str, beq_self_eq_true]; rfl)) ?_
      rw [hod]
      clear hod ho
      refine ⟨fun _ => HS6b.out, ?_⟩
      refine loneG 16 (.pick (.tmp 71) (.const (Value.bool true)) (.tmp 80)) (some 81) none (by kernel_rfl) (by kernel_rfl) (by kernel_rfl) ?_
      intro o ho hod
      refine wp_val (v := .bool false) (exec_pick (b := false) _ ho (by kernel_rfl) (by kernel_rfl)) ?_
      rw [hod]
      clear hod ho
      refine ⟨fun _ => HS6b.out, ?_⟩
      refine loneG 17 (.move (.tmp 81)) (some 82) none (by kernel_rfl) (by kernel_rfl) (by kernel_rfl) ?_
      intro o ho hod
      refine wp_val (v := .bool false) (exec_move _ ho (by kernel_rfl)) ?_
      rw [hod]
      clear hod ho
      refine ⟨fun _ => HS6b.out, ?_⟩
      refine takeG 18 (.move (.tmp 10)) (some 83) (some (17, false)) (v10) (by kernel_rfl) (by kernel_rfl) (by kernel_rfl) (fun _ _ _ h => h) (fun o w e hS => exec_move w e (by kernel_rfl)) HS6b.out ?_
      refine takeG 19 (.convert 44 9 (.tmp 83)) (some 84) (some (17, false)) (.string (strB 128 zeros)) (by kernel_rfl) (by kernel_rfl) (by kernel_rfl) (fun _ _ _ h => h) (fun o w e hS => exec_conv (u := v10) w e (by kernel_rfl) hS.2.1.conv) HS6b.out ?_
      refine loneG 20 (.makeSlice 44 (.const (.int .i64 128)) (.const (.int .i64 128))) (some 85) (some (17, false)) (by kernel_rfl) (by kernel_rfl) (by kernel_rfl) ?_
      intro o ho hod
      refine wp_val (exec_make ho (by kernel_rfl) (by kernel_rfl) (make_bytes 128 (by omega) w7 128 rfl)) ?_
      rw [hod]
      clear hod ho
      have HS8 : Hid (Row8 (w7.alloc (.cells (rowArr 128 fun _ => 0) 5)) (.slice (some ⟨w7.heap.size, 0, none⟩) 128 128) 128 zeros ∧ Row8 (w7.alloc (.cells (rowArr 128 fun _ => 0) 5)) (.slice (some ⟨w7.heap.size, 0, none⟩) 128 128) 128 zeros) := Lib.hid ⟨Row8.of_blk (Blk.new w7 _ _), Row8.of_blk (Blk.new w7 _ _)⟩
      have HS6c : Hid ((fun w => Row8 w v8 128 (bv 128 (x0 i)) ∧ Row8 w v10 128 zeros ∧ w.cell? ⟨fb, fo + i, none⟩ = some (.int .i64 (x0 i))) (w7.alloc (.cells (rowArr 128 fun _ => 0) 5))) := Lib.hid ⟨HS6b.out.1.new_ ((Below.refl _ _).alloc (Nat.le_refl _) _), HS6b.out.2.1.new_ ((Below.refl _ _).alloc (Nat.le_refl _) _), (((Below.refl w7.heap.size w7).alloc (Nat.le_refl _) (.cells (rowArr 128 fun _ => 0) 5)).cell (p := ⟨fb, fo + i, none⟩) (block_lt_of_cell HS6b.out.2.2)).trans HS6b.out.2.2⟩
      have L8 := Lib.hid (L7.out.alloc L7.out.size (.cells (rowArr 128 fun _ => 0) 5))
      have H8 := Lib.hid (H7.out.alloc (.cells (rowArr 128 fun _ => 0) 5))
      clear L7 H7
      refine ⟨fun _ => HS6c.out, ?_⟩
      refine loneG 21 (.convert 44 9 (.tmp 85)) (some 86) (some (17, false)) (by kernel_rfl) (by kernel_rfl) (by kernel_rfl) ?_
      intro o ho hod
      refine wp_val (v := .string (strB 128 zeros)) (exec_conv (u := .slice (some ⟨w7.heap.size, 0, none⟩) 128 128) _ ho (by kernel_rfl) HS8.out.2.conv) ?_
      rw [hod]
      clear hod ho
      refine ⟨fun _ => HS6c.out, ?_⟩
      refine loneG 22 (.binOp .neq 9 (.tmp 84) (.tmp 86) 9) (some 87) (some (17, false)) (by kernel_rfl) (by kernel_rfl) (by kernel_rfl) ?_
      intro o ho hod
      refine wp_val (v := .bool false) (exec_bin (u1 := .string (strB 128 zeros)) (u2 := .string (strB 128 zeros)) _ ho (by kernel_rfl) (by kernel_rfl) (eqG_str ..) (by rw [ne_str, beq_self_eq_true]; rfl)) ?_
      rw [hod]
      clear hod ho
      refine ⟨fun _ => HS6c.out, ?_⟩
      refine lastS 23 (.pick (.tmp 82) (.const (Value.bool true)) (.tmp 87)) (some 88) (.bool false) (by kernel_rfl) (by kernel_rfl) (by kernel_rfl) HS6c.out (fun o e => exec_pick (b := false) _ e (by kernel_rfl) (by kernel_rfl)) ?_
      simp only [put_some, List.setIfInBounds_toArray, List.set_cons_succ, List.set_cons_zero]
      go_wp2_with fail
      go_roundw
      case rel => exact ⟨i + 1, s6, by omega, by omega, by go_num, N6, H8, L8⟩
      case measure => simp [intOf]; omega
    have t3 : decide (i < len1) = true := by simp; omega
    obtain ⟨gb, go_, hga, hgB, hgc⟩ := H1.out i hl1
    subst hga
    have gc := (L5.out.cell (p := ⟨gb, go_ + i, none⟩) hgB).trans hgc
    have i3 : (i : Int) < (len1 : Int) := by omega
    clear hgc
    cases hx1 : x1 i with
    | false =>
      rw [hx1] at gc
      have R6 := R5
      have N6 := N5
      have E6 := E5
      have L6 := L5
      clear R5 N5 E5 L5
      generalize s5 = s6 at *
      go_wp2_with fail
      refine (read_calm _ r s6 1 2 1 2 R6.out N6.out.calm rfl rfl (by rw [N6.out.nd]; omega) (by rw [N6.out.ns]; omega) (N6.out.gone 1)).mono ?_
      rintro e w8 ⟨v8, rfl, r8, h8, k8⟩
      have R8 := Lib.hid h8
      have V8 := Lib.hid r8
      rw [E6.out] at V8
      have L8 := Lib.hid (L6.out.trans (k8.below.mono hB.out))
      clear h8 r8 k8 R6 L6
      go_wp2_with fail
      refine (read_calm _ r s6 0 2 0 2 R8.out N6.out.calm rfl rfl (by rw [N6.out.nd]; omega) (by rw [N6.out.ns]; omega) (N6.out.gone 0)).mono ?_
      rintro e w10 ⟨v10, rfl, r10, h10, k10⟩
      have H6 := Lib.hid h10
      have L6 := Lib.hid (L8.out.trans (k10.below.mono hB.out))
      rw [N6.out.zero] at r10
      have HS6 : Hid (Row8 w10 v8 128 (bv 128 (x0 i)) ∧ Row8 w10 v10 128 zeros ∧ w10.cell? ⟨fb, fo + i, none⟩ = some (.int .i64 (x0 i))) := Lib.hid ⟨V8.out.keep k10, r10, (L6.out.cell (p := ⟨fb, fo + i, none⟩) hfB).trans HF.out⟩
      have hxi := HX.out
      clear h10 r10 k10 V8 R8 L8 hxi
      have hxi : I64 (x0 i) := HX.out
      go_wp2_with fail
      refine region_anyZ (fun w => Row8 w v8 128 (bv 128 (x0 i)) ∧ Row8 w v10 128 zeros ∧ w.cell? ⟨fb, fo + i, none⟩ = some (.int .i64 (x0 i))) 24 (by kernel_rfl) ?_
      refine takeG 0 (.move (.tmp 9)) (some 65) none (.int .i64 0) (by kernel_rfl) (by kernel_rfl) (by kernel_rfl) (fun _ _ _ h => h) (fun o w e hS => exec_move w e (by kernel_rfl)) HS6.out ?_
      refine takeG 1 (.binOp .neq 24 (.tmp 65) (.const (.int .i64 0)) 24) (some 66) none (.bool false) (by kernel_rfl) (by kernel_rfl) (by kernel_rfl) (fun _ _ _ h => h) (fun o w e hS => exec_bin (u1 := .int .i64 0) (u2 := (.int .i64 0)) w e (by kernel_rfl) (by kernel_rfl) (eqG_int ..) (by kernel_rfl)) HS6.out ?_
      refine takeG 2 (.move (.tmp 66)) (some 67) none (.bool false) (by kernel_rfl) (by kernel_rfl) (by kernel_rfl) (fun _ _ _ h => h) (fun o w e hS => exec_move w e (by kernel_rfl)) HS6.out ?_
      refine takeG 3 (.move (.tmp 11)) (some 68) (some (2, false)) (.int .i64 0) (by kernel_rfl) (by kernel_rfl) (by kernel_rfl) (fun _ _ _ h => h) (fun o w e hS => exec_move w e (by kernel_rfl)) HS6.out ?_
      refine takeG 4 (.binOp .neq 24 (.tmp 68) (.const (.int .i64 0)) 24) (some 69) (some (2, false)) (.bool false) (by kernel_rfl) (by kernel_rfl) (by kernel_rfl) (fun _ _ _ h => h) (fun o w e hS => exec_bin (u1 := .int .i64 0) (u2 := (.int .i64 0)) w e (by kernel_rfl) (by kernel_rfl) (eqG_int ..) (by kernel_rfl)) HS6.out ?_
      refine takeG 5 (.pick (.tmp 67) (.const (Value.bool true)) (.tmp 69)) (some 70) none (.bool false) (by kernel_rfl) (by kernel_rfl) (by kernel_rfl) (fun _ _ _ h => h) (fun o w e hS => exec_pick (b := false) w e (by kernel_rfl) (by kernel_rfl)) HS6.out ?_
      refine takeG 6 (.move (.tmp 70)) (some 71) none (.bool false) (by kernel_rfl) (by kernel_rfl) (by kernel_rfl) (fun _ _ _ h => h) (fun o w e hS => exec_move w e (by kernel_rfl)) HS6.out ?_
      refine takeG 7 (.move (.tmp 8)) (some 72) (some (6, false)) (v8) (by kernel_rfl) (by kernel_rfl) (by kernel_rfl) (fun _ _ _ h => h) (fun o w e hS => exec_move w e (by kernel_rfl)) HS6.out ?_
      refine takeG 8 (.convert 44 9 (.tmp 72)) (some 73) (some (6, false)) (.string (strB 128 (bv 128 (x0 i)))) (by kernel_rfl) (by kernel_rfl) (by kernel_rfl) (fun _ _ _ h => h) (fun o w e hS => exec_conv (u := v8) w e (by kernel_rfl) hS.1.conv) HS6.out ?_
      refine takeG 9 (.move (.tmp 0)) (some 74) (some (6, false)) (.slice (some ⟨fb, fo, none⟩) len0 cap0) (by kernel_rfl) (by kernel_rfl) (by kernel_rfl) (fun _ _ _ h => h) (fun o w e hS => exec_move w e (by kernel_rfl)) HS6.out ?_
      refine takeG 10 (.move (.tmp 7)) (some 75) (some (6, false)) (.int .i64 (i : Int)) (by kernel_rfl) (by kernel_rfl) (by kernel_rfl) (fun _ _ _ h => h) (fun o w e hS => exec_move w e (by kernel_rfl)) HS6.out ?_
      refine takeG 11 (.indexAddr 37 (.tmp 74) (.tmp 75)) (some 76) (some (6, false)) (.pointer (some ⟨fb, fo + i, none⟩)) (by kernel_rfl) (by kernel_rfl) (by kernel_rfl) (fun _ _ _ h => h) (fun o w e hS => exec_index (u1 := .slice (some ⟨fb, fo, none⟩) len0 cap0) (u2 := .int .i64 (i : Int)) w e (by kernel_rfl) (by kernel_rfl) (index_slice Try.underlying37 (by kernel_rfl) fb fo len0 cap0 i hi0 w)) HS6.out ?_
      refine takeG 12 (.load 3 (.tmp 76)) (some 77) (some (6, false)) (.int .i64 (x0 i)) (by kernel_rfl) (by kernel_rfl) (by kernel_rfl) (fun _ _ _ h => h) (fun o w e hS => exec_load (x := (.tmp 76)) e (by kernel_rfl) (load_one Try.underlying3 rfl hS.2.2)) HS6.out ?_
      refine loneG 13 (.call ⟨.value (.func 23), #[(.tmp 77), (.const (.int .i64 0))], #[3, 3]⟩) (some 78) (some (6, false)) (by kernel_rfl) (by kernel_rfl) (by kernel_rfl) ?_
      intro o ho hod
      refine wp_callC (f := 23) (args := #[.int .i64 (x0 i), .int .i64 0]) (by cases o; cases ho; kernel_rfl) (bytes_calm (x0 i) _ hxi) ?_
      rintro e w7 ⟨v7, rfl, r7, b7⟩
      refine ⟨v7, rfl, ?_⟩
      rw [hod]
      clear hod ho
      have HS6b := Lib.hid (⟨HS6.out.1.drew.new_ b7, HS6.out.2.1.drew.new_ b7, (b7.cell (p := ⟨fb, fo + i, none⟩) (block_lt_of_cell (w := w10.drew) HS6.out.2.2)).trans HS6.out.2.2⟩ : (fun w => Row8 w v8 128 (bv 128 (x0 i)) ∧ Row8 w v10 128 zeros ∧ w.cell? ⟨fb, fo + i, none⟩ = some (.int .i64 (x0 i))) w7)
      have HS7 : Hid (Row8 w7 v8 128 (bv 128 (x0 i)) ∧ Row8 w7 v7 128 (bv 128 (x0 i))) := Lib.hid ⟨HS6b.out.1, r7⟩
      have L7 := Lib.hid ((L6.out.drew).trans (b7.mono (by have := L6.out.size; exact this)))
      have H7 := Lib.hid (H6.out.drew.below b7)
      clear r7 b7 L6 H6 HS6
      refine ⟨fun _ => HS6b.out, ?_⟩
      refine loneG 14 (.convert 44 9 (.tmp 78)) (some 79) (some (6, false)) (by kernel_rfl) (by kernel_rfl) (by kernel_rfl) ?_
      intro o ho hod
      refine wp_val (v := .string (strB 128 (bv 128 (x0 i)))) (exec_conv (u := v7) _ ho (by kernel_rfl) HS7.out.2.conv) ?_
      rw [hod]
      clear hod ho
      refine ⟨fun _ => HS6b.out, ?_⟩
      refine loneG 15 (.binOp .neq 9 (.tmp 73) (.tmp 79) 9) (some 80) (some (6, false)) (by kernel_rfl) (by kernel_rfl) (by kernel_rfl) ?_
      intro o ho hod
      refine wp_val (v := .bool false) (exec_bin (u1 := .string (strB 128 (bv 128 (x0 i)))) (u2 := .string (strB 128 (bv 128 (x0 i)))) _ ho (by kernel_rfl) (by kernel_rfl) (eqG_str ..) (by rw [ne_str, beq_self_eq_true]; rfl)) ?_
      rw [hod]
      clear hod ho
      refine ⟨fun _ => HS6b.out, ?_⟩
      refine loneG 16 (.pick (.tmp 71) (.const (Value.bool true)) (.tmp 80)) (some 81) none (by kernel_rfl) (by kernel_rfl) (by kernel_rfl) ?_
      intro o ho hod
      refine wp_val (v := .bool false) (exec_pick (b := false) _ ho (by kernel_rfl) (by kernel_rfl)) ?_
      rw [hod]
      clear hod ho
      refine ⟨fun _ => HS6b.out, ?_⟩
      refine loneG 17 (.move (.tmp 81)) (some 82) none (by kernel_rfl) (by kernel_rfl) (by kernel_rfl) ?_
      intro o ho hod
      refine wp_val (v := .bool false) (exec_move _ ho (by kernel_rfl)) ?_
      rw [hod]
      clear hod ho
      refine ⟨fun _ => HS6b.out, ?_⟩
      refine takeG 18 (.move (.tmp 10)) (some 83) (some (17, false)) (v10) (by kernel_rfl) (by kernel_rfl) (by kernel_rfl) (fun _ _ _ h => h) (fun o w e hS => exec_move w e (by kernel_rfl)) HS6b.out ?_
      refine takeG 19 (.convert 44 9 (.tmp 83)) (some 84) (some (17, false)) (.string (strB 128 zeros)) (by kernel_rfl) (by kernel_rfl) (by kernel_rfl) (fun _ _ _ h => h) (fun o w e hS => exec_conv (u := v10) w e (by kernel_rfl) hS.2.1.conv) HS6b.out ?_
      refine loneG 20 (.makeSlice 44 (.const (.int .i64 128)) (.const (.int .i64 128))) (some 85) (some (17, false)) (by kernel_rfl) (by kernel_rfl) (by kernel_rfl) ?_
      intro o ho hod
      refine wp_val (exec_make ho (by kernel_rfl) (by kernel_rfl) (make_bytes 128 (by omega) w7 128 rfl)) ?_
      rw [hod]
      clear hod ho
      have HS8 : Hid (Row8 (w7.alloc (.cells (rowArr 128 fun _ => 0) 5)) (.slice (some ⟨w7.heap.size, 0, none⟩) 128 128) 128 zeros ∧ Row8 (w7.alloc (.cells (rowArr 128 fun _ => 0) 5)) (.slice (some ⟨w7.heap.size, 0, none⟩) 128 128) 128 zeros) := Lib.hid ⟨Row8.of_blk (Blk.new w7 _ _), Row8.of_blk (Blk.new w7 _ _)⟩
      have HS6c : Hid ((fun w => Row8 w v8 128 (bv 128 (x0 i)) ∧ Row8 w v10 128 zeros ∧ w.cell? ⟨fb, fo + i, none⟩ = some (.int .i64 (x0 i))) (w7.alloc (.cells (rowArr 128 fun _ => 0) 5))) := Lib.hid ⟨HS6b.out.1.new_ ((Below.refl _ _).alloc (Nat.le_refl _) _), HS6b.out.2.1.new_ ((Below.refl _ _).alloc (Nat.le_refl _) _), (((Below.refl w7.heap.size w7).alloc (Nat.le_refl _) (.cells (rowArr 128 fun _ => 0) 5)).cell (p := ⟨fb, fo + i, none⟩) (block_lt_of_cell HS6b.out.2.2)).trans HS6b.out.2.2⟩
      have L8 := Lib.hid (L7.out.alloc L7.out.size (.cells (rowArr 128 fun _ => 0) 5))
      have H8 := Lib.hid (H7.out.alloc (.cells (rowArr 128 fun _ => 0) 5))
      clear L7 H7
      refine ⟨fun _ => HS6c.out, ?_⟩
      refine loneG 21 (.convert 44 9 (.tmp 85)) (some 86) (some (17, false)) (by kernel_rfl) (by kernel_rfl) (by kernel_rfl) ?_
      intro o ho hod
      refine wp_val (v := .string (strB 128 zeros)) (exec_conv (u := .slice (some ⟨w7.heap.size, 0, none⟩) 128 128) _ ho (by kernel_rfl) HS8.out.2.conv) ?_
      rw [hod]
      clear hod ho
      refine ⟨fun _ => HS6c.out, ?_⟩
      refine loneG 22 (.binOp .neq 9 (.tmp 84) (.tmp 86) 9) (some 87) (some (17, false)) (by kernel_rfl) (by kernel_rfl) (by kernel_rfl) ?_
      intro o ho hod
      refine wp_val (v := .bool false) (exec_bin (u1 := .string (strB 128 zeros)) (u2 := .string (strB 128 zeros)) _ ho (by kernel_rfl) (by kernel_rfl) (eqG_str ..) (by rw [ne_str, beq_self_eq_true]; rfl)) ?_
      rw [hod]
      clear hod ho
      refine ⟨fun _ => HS6c.out, ?_⟩
      refine lastS 23 (.pick (.tmp 82) (.const (Value.bool true)) (.tmp 87)) (some 88) (.bool false) (by kernel_rfl) (by kernel_rfl) (by kernel_rfl) HS6c.out (fun o e => exec_pick (b := false) _ e (by kernel_rfl) (by kernel_rfl)) ?_
      simp only [put_some, List.setIfInBounds_toArray, List.set_cons_succ, List.set_cons_zero]
      go_wp2_with fail
      go_roundw
      case rel => exact ⟨i + 1, s6, by omega, by omega, by go_num, N6, H8, L8⟩
      case measure => simp [intOf]; omega
    | true =>
      rw [hx1] at gc
      go_wp2_with fail
      refine (flush_calm _ r s5 R5.out N5.out.calm).mono ?_
      rintro e w6 ⟨rfl, h6, k6⟩
      have R6 := Lib.hid h6
      have N6 := Lib.hid N5.out.flushed
      have E6 : Hid (s5.flushed.holds 1 2 = bv 128 (x0 i)) := Lib.hid (by rw [holds_flushed]; exact E5.out)
      have L6 := Lib.hid (L5.out.trans (k6.below.mono hB.out))
      clear h6 k6 R5 N5 E5 L5 gc
      generalize s5.flushed = s6 at *
      go_wp2_with fail
      refine (read_calm _ r s6 1 2 1 2 R6.out N6.out.calm rfl rfl (by rw [N6.out.nd]; omega) (by rw [N6.out.ns]; omega) (N6.out.gone 1)).mono ?_
      rintro e w8 ⟨v8, rfl, r8, h8, k8⟩
      have R8 := Lib.hid h8
      have V8 := Lib.hid r8
      rw [E6.out] at V8
      have L8 := Lib.hid (L6.out.trans (k8.below.mono hB.out))
      clear h8 r8 k8 R6 L6
      go_wp2_with fail
      refine (read_calm _ r s6 0 2 0 2 R8.out N6.out.calm rfl rfl (by rw [N6.out.nd]; omega) (by rw [N6.out.ns]; omega) (N6.out.gone 0)).mono ?_
      rintro e w10 ⟨v10, rfl, r10, h10, k10⟩
      have H6 := Lib.hid h10
      have L6 := Lib.hid (L8.out.trans (k10.below.mono hB.out))
      rw [N6.out.zero] at r10
      have HS6 : Hid (Row8 w10 v8 128 (bv 128 (x0 i)) ∧ Row8 w10 v10 128 zeros ∧ w10.cell? ⟨fb, fo + i, none⟩ = some (.int .i64 (x0 i))) := Lib.hid ⟨V8.out.keep k10, r10, (L6.out.cell (p := ⟨fb, fo + i, none⟩) hfB).trans HF.out⟩
      have hxi := HX.out
      clear h10 r10 k10 V8 R8 L8 hxi
      have hxi : I64 (x0 i) := HX.out
      go_wp2_with fail
      refine region_anyZ (fun w => Row8 w v8 128 (bv 128 (x0 i)) ∧ Row8 w v10 128 zeros ∧ w.cell? ⟨fb, fo + i, none⟩ = some (.int .i64 (x0 i))) 24 (by kernel_rfl) ?_
      refine takeG 0 (.move (.tmp 9)) (some 65) none (.int .i64 0) (by kernel_rfl) (by kernel_rfl) (by kernel_rfl) (fun _ _ _ h => h) (fun o w e hS => exec_move w e (by kernel_rfl)) HS6.out ?_
      refine takeG 1 (.binOp .neq 24 (.tmp 65) (.const (.int .i64 0)) 24) (some 66) none (.bool false) (by kernel_rfl) (by kernel_rfl) (by kernel_rfl) (fun _ _ _ h => h) (fun o w e hS => exec_bin (u1 := .int .i64 0) (u2 := (.int .i64 0)) w e (by kernel_rfl) (by kernel_rfl) (eqG_int ..) (by kernel_rfl)) HS6.out ?_
      refine takeG 2 (.move (.tmp 66)) (some 67) none (.bool false) (by kernel_rfl) (by kernel_rfl) (by kernel_rfl) (fun _ _ _ h => h) (fun o w e hS => exec_move w e (by kernel_rfl)) HS6.out ?_
      refine takeG 3 (.move (.tmp 11)) (some 68) (some (2, false)) (.int .i64 0) (by kernel_rfl) (by kernel_rfl) (by kernel_rfl) (fun _ _ _ h => h) (fun o w e hS => exec_move w e (by kernel_rfl)) HS6.out ?_
      refine takeG 4 (.binOp .neq 24 (.tmp 68) (.const (.int .i64 0)) 24) (some 69) (some (2, false)) (.bool false) (by kernel_rfl) (by kernel_rfl) (by kernel_rfl) (fun _ _ _ h => h) (fun o w e hS => exec_bin (u1 := .int .i64 0) (u2 := (.int .i64 0)) w e (by kernel_rfl) (by kernel_rfl) (eqG_int ..) (by kernel_rfl)) HS6.out ?_
      refine takeG 5 (.pick (.tmp 67) (.const (Value.bool true)) (.tmp 69)) (some 70) none (.bool false) (by kernel_rfl) (by kernel_rfl) (by kernel_rfl) (fun _ _ _ h => h) (fun o w e hS => exec_pick (b := false) w e (by kernel_rfl) (by kernel_rfl)) HS6.out ?_
      refine takeG 6 (.move (.tmp 70)) (some 71) none (.bool false) (by kernel_rfl) (by kernel_rfl) (by kernel_rfl) (fun _ _ _ h => h) (fun o w e hS => exec_move w e (by kernel_rfl)) HS6.out ?_
      refine takeG 7 (.move (.tmp 8)) (some 72) (some (6, false)) (v8) (by kernel_rfl) (by kernel_rfl) (by kernel_rfl) (fun _ _ _ h => h) (fun o w e hS => exec_move w e (by kernel_rfl)) HS6.out ?_
      refine takeG 8 (.convert 44 9 (.tmp 72)) (some 73) (some (6, false)) (.string (strB 128 (bv 128 (x0 i)))) (by kernel_rfl) (by kernel_rfl) (by kernel_rfl) (fun _ _ _ h => h) (fun o w e hS => exec_conv (u := v8) w e (by kernel_rfl) hS.1.conv) HS6.out ?_
      refine takeG 9 (.move (.tmp 0)) (some 74) (some (6, false)) (.slice (some ⟨fb, fo, none⟩) len0 cap0) (by kernel_rfl) (by kernel_rfl) (by kernel_rfl) (fun _ _ _ h => h) (fun o w e hS => exec_move w e (by kernel_rfl)) HS6.out ?_
      refine takeG 10 (.move (.tmp 7)) (some 75) (some (6, false)) (.int .i64 (i : Int)) (by kernel_rfl) (by kernel_rfl) (by kernel_rfl) (fun _ _ _ h => h) (fun o w e hS => exec_move w e (by kernel_rfl)) HS6.out ?_
      refine takeG 11 (.indexAddr 37 (.tmp 74) (.tmp 75)) (some 76) (some (6, false)) (.pointer (some ⟨fb, fo + i, none⟩)) (by kernel_rfl) (by kernel_rfl) (by kernel_rfl) (fun _ _ _ h => h) (fun o w e hS => exec_index (u1 := .slice (some ⟨fb, fo, none⟩) len0 cap0) (u2 := .int .i64 (i : Int)) w e (by kernel_rfl) (by kernel_rfl) (index_slice Try.underlying37 (by kernel_rfl) fb fo len0 cap0 i hi0 w)) HS6.out ?_
      refine takeG 12 (.load 3 (.tmp 76)) (some 77) (some (6, false)) (.int .i64 (x0 i)) (by kernel_rfl) (by kernel_rfl) (by kernel_rfl) (fun _ _ _ h => h) (fun o w e hS => exec_load (x := (.tmp 76)) e (by kernel_rfl) (load_one Try.underlying3 rfl hS.2.2)) HS6.out ?_
      refine loneG 13 (.call ⟨.value (.func 23), #[(.tmp 77), (.const (.int .i64 0))], #[3, 3]⟩) (some 78) (some (6, false)) (by kernel_rfl) (by kernel_rfl) (by kernel_rfl) ?_
      intro o ho hod
      refine wp_callC (f := 23) (args := #[.int .i64 (x0 i), .int .i64 0]) (by cases o; cases ho; kernel_rfl) (bytes_calm (x0 i) _ hxi) ?_
      rintro e w7 ⟨v7, rfl, r7, b7⟩
      refine ⟨v7, rfl, ?_⟩
      rw [hod]
      clear hod ho
      have HS6b := Lib.hid (⟨HS6.out.1.drew.new_ b7, HS6.out.2.1.drew.new_ b7, (b7.cell (p := ⟨fb, fo + i, none⟩) (block_lt_of_cell (w := w10.drew) HS6.out.2.2)).trans HS6.out.2.2⟩ : (fun w => Row8 w v8 128 (bv 128 (x0 i)) ∧ Row8 w v10 128 zeros ∧ w.cell? ⟨fb, fo + i, none⟩ = some (.int .i64 (x0 i))) w7)
      have HS7 : Hid (Row8 w7 v8 128 (bv 128 (x0 i)) ∧ Row8 w7 v7 128 (bv 128 (x0 i))) := Lib.hid ⟨HS6b.out.1, r7⟩
      have L7 := Lib.hid ((L6.out.drew).trans (b7.mono (by have := L6.out.size; exact this)))
      have H7 := Lib.hid (H6.out.drew.below b7)
      clear r7 b7 L6 H6 HS6
      refine ⟨fun _ => HS6b.out, ?_⟩
      refine loneG 14 (.convert 44 9 (.tmp 78)) (some 79) (some (6, false)) (by kernel_rfl) (by kernel_rfl) (by kernel_rfl) ?_
      intro o ho hod
      refine wp_val (v := .string (strB 128 (bv 128 (x0 i)))) (exec_conv (u := v7) _ ho (by kernel_rfl) HS7.out.2.conv) ?_
      rw [hod]
      clear hod ho
      refine ⟨fun _ => HS6b.out, ?_⟩
      refine loneG 15 (.binOp .neq 9 (.tmp 73) (.tmp 79) 9) (some 80) (some (6, false)) (by kernel_rfl) (by kernel_rfl) (by kernel_rfl) ?_
      intro o ho hod
      refine wp_val (v := .bool false) (exec_bin (u1 := .string (strB 128 (bv 128 (x0 i)))) (u2 := .string (strB 128 (bv 128 (x0 i)))) _ ho (by kernel_rfl) (by kernel_rfl) (eqG_str ..) (by rw [ne_str, beq_self_eq_true]; rfl)) ?_
      rw [hod]
      clear hod ho
      refine ⟨fun _ => HS6b.out, ?_⟩
      refine loneG 16 (.pick (.tmp 71) (.const (Value.bool true)) (.tmp 80)) (some 81) none (by kernel_rfl) (by kernel_rfl) (by kernel_rfl) ?_
      intro o ho hod
      refine wp_val (v := .bool false) (exec_pick (b := false) _ ho (by kernel_rfl) (by kernel_rfl)) ?_
      rw [hod]
      clear hod ho
      refine ⟨fun _ => HS6b.out, ?_⟩
      refine loneG 17 (.move (.tmp 81)) (some 82) none (by kernel_rfl) (by kernel_rfl) (by kernel_rfl) ?_
      intro o ho hod
      refine wp_val (v := .bool false) (exec_move _ ho (by kernel_rfl)) ?_
      rw [hod]
      clear hod ho
      refine ⟨fun _ => HS6b.out, ?_⟩
      refine takeG 18 (.move (.tmp 10)) (some 83) (some (17, false)) (v10) (by kernel_rfl) (by kernel_rfl) (by kernel_rfl) (fun _ _ _ h => h) (fun o w e hS => exec_move w e (by kernel_rfl)) HS6b.out ?_
      refine takeG 19 (.convert 44 9 (.tmp 83)) (some 84) (some (17, false)) (.string (strB 128 zeros)) (by kernel_rfl) (by kernel_rfl) (by kernel_rfl) (fun _ _ _ h => h) (fun o w e hS => exec_conv (u := v10) w e (by kernel_rfl) hS.2.1.conv) HS6b.out ?_
      refine loneG 20 (.makeSlice 44 (.const (.int .i64 128)) (.const (.int .i64 128))) (some 85) (some (17, false)) (by kernel_rfl) (by kernel_rfl) (by kernel_rfl) ?_
      intro o ho hod
      refine wp_val (exec_make ho (by kernel_rfl) (by kernel_rfl) (make_bytes 128 (by omega) w7 128 rfl)) ?_
      rw [hod]
      clear hod ho
      have HS8 : Hid (Row8 (w7.alloc (.cells (rowArr 128 fun _ => 0) 5)) (.slice (some ⟨w7.heap.size, 0, none⟩) 128 128) 128 zeros ∧ Row8 (w7.alloc (.cells (rowArr 128 fun _ => 0) 5)) (.slice (some ⟨w7.heap.size, 0, none⟩) 128 128) 128 zeros) := Lib.hid ⟨Row8.of_blk (Blk.new w7 _ _), Row8.of_blk (Blk.new w7 _ _)⟩
      have HS6c : Hid ((fun w => Row8 w v8 128 (bv 128 (x0 i)) ∧ Row8 w v10 128 zeros ∧ w.cell? ⟨fb, fo + i, none⟩ = some (.int .i64 (x0 i))) (w7.alloc (.cells (rowArr 128 fun _ => 0) 5))) := Lib.hid ⟨HS6b.out.1.new_ ((Below.refl _ _).alloc (Nat.le_refl _) _), HS6b.out.2.1.new_ ((Below.refl _ _).alloc (Nat.le_refl _) _), (((Below.refl w7.heap.size w7).alloc (Nat.le_refl _) (.cells (rowArr 128 fun _ => 0) 5)).cell (p := ⟨fb, fo + i, none⟩) (block_lt_of_cell HS6b.out.2.2)).trans HS6b.out.2.2⟩
      have L8 := Lib.hid (L7.out.alloc L7.out.size (.cells (rowArr 128 fun _ => 0) 5))
      have H8 := Lib.hid (H7.out.alloc (.cells (rowArr 128 fun _ => 0) 5))
      clear L7 H7
      refine ⟨fun _ => HS6c.out, ?_⟩
      refine loneG 21 (.convert 44 9 (.tmp 85)) (some 86) (some (17, false)) (by kernel_rfl) (by kernel_rfl) (by kernel_rfl) ?_
      intro o ho hod
      refine wp_val (v := .string (strB 128 zeros)) (exec_conv (u := .slice (some ⟨w7.heap.size, 0, none⟩) 128 128) _ ho (by kernel_rfl) HS8.out.2.conv) ?_
      rw [hod]
      clear hod ho
      refine ⟨fun _ => HS6c.out, ?_⟩
      refine loneG 22 (.binOp .neq 9 (.tmp 84) (.tmp 86) 9) (some 87) (some (17, false)) (by kernel_rfl) (by kernel_rfl) (by kernel_rfl) ?_
      intro o ho hod
      refine wp_val (v := .bool false) (exec_bin (u1 := .string (strB 128 zeros)) (u2 := .string (strB 128 zeros)) _ ho (by kernel_rfl) (by kernel_rfl) (eqG_str ..) (by rw [ne_str, beq_self_eq_true]; rfl)) ?_
      rw [hod]
      clear hod ho
      refine ⟨fun _ => HS6c.out, ?_⟩
      refine lastS 23 (.pick (.tmp 82) (.const (Value.bool true)) (.tmp 87)) (some 88) (.bool false) (by kernel_rfl) (by kernel_rfl) (by kernel_rfl) HS6c.out (fun o e => exec_pick (b := false) _ e (by kernel_rfl) (by kernel_rfl)) ?_
      simp only [put_some, List.setIfInBounds_toArray, List.set_cons_succ, List.set_cons_zero]
      go_wp2_with fail
      go_roundw
      case rel => exact ⟨i + 1, s6, by omega, by omega, by go_num, N6, H8, L8⟩
      case measure => simp [intOf]; omega
end rackNewest
end Go.Proofs.Ytafflhnmkfbcnaa
