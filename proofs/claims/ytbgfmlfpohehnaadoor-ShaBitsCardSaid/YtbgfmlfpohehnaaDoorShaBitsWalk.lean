/-
  The walk of 'ShaBits': bytes that differ, in one bit or in their count, have unlike sums, just where the document's sums of them are unlike.
-/
import Derived.Test.YtbgfmlfpohehnaaDoorShaGen
namespace Go.Proofs.YtbgfmlfpohehnaaDoor
open Go Go.RowKit
set_option linter.unusedVariables false
namespace shaBits
set_option maxRecDepth 100000 in
set_option maxHeartbeats 3200000 in
theorem walk (A : Option Addr) (n c : Nat) (X : Nat → Nat) (a1 : Int) (w : World) (hx0 : RdB w w.heap.size A n X) (hnc : n ≤ c) (hcm : c ≤ maxLen) (h0 : A = none → c = 0) (w1 : (Lit.int .i64 a1).wf = true) (hl : Laid w) :
    Calls Tryd.prog 7 #[.slice A n c, .int .i64 a1] w fun e w' => e = .returned (.bool true) ∧ Below w.heap.size w w' := by
  obtain ⟨p1, p2⟩ := bounds_i64 w1
  clear w1
  obtain ⟨Y, hx, hX⟩ := hx0.cut
  have HX := Lib.hid hx
  have HL := Lib.hid hl
  have hpos := hl.pos
  have HC := Lib.hid hcm
  have H0 := Lib.hid h0
  have hcm' := hcm
  unfold maxLen at hcm'
  clear hx0 hx hl hcm h0
  by_cases hbig : 3000 < n
  · have t1 : (3000 : Int) < (n : Int) := by omega
    go_enter Tryd.func7, Tryd.ntmps7
    go_wp2_with fail
    refine (known_any _ HL.out).mono ?_
    rintro e w2 ⟨rfl, hl2⟩
    have L2 := Lib.hid hl2
    clear hl2
    go_wp2_with fail
    refine (known_any _ (HL.out.below L2.out hpos)).mono ?_
    rintro e w3 ⟨rfl, hl3⟩
    have L3 := Lib.hid (L2.out.trans (hl3.mono L2.out.size))
    clear hl3 L2
    go_wp2_with fail
    go_ret
    exact ⟨rfl, L3.out⟩
  have t1 : (n : Int) ≤ 3000 := by omega
  have hn : n ≤ 1099511627776 := by omega
  have hn2 : n ≤ 3000 := by omega
  clear hbig
  go_enter Tryd.func7, Tryd.ntmps7
  go_wp2_with fail
  refine (known_any _ HL.out).mono ?_
  rintro e w2 ⟨rfl, hl2⟩
  have L2 := Lib.hid hl2
  clear hl2
  go_wp2_with fail
  refine (sum_any A n c w.heap.size Y _ (HX.out.below L2.out (Nat.le_refl _)) hX L2.out.size hnc HC.out hn (HL.out.below L2.out hpos)).mono ?_
  rintro e w3 ⟨rfl, hl3⟩
  have L3 := Lib.hid (L2.out.trans (hl3.mono L2.out.size))
  clear hl3
  have sA3 : Hid (w.heap.size ≤ (w3.alloc (.cells #[] 5)).heap.size) := Lib.hid (by have := L3.out.size; simp; omega)
  have LA3 := Lib.hid (L3.out.alloc L3.out.size (.cells #[] 5))
  have OA3 := Lib.hid (own_empty8 (w := w3) (base := w.heap.size) L3.out.size)
  have RA3 := Lib.hid (HX.out.below LA3.out (Nat.le_refl _))
  have QK0 : Hid (0 + n ≤ 70368744177664) := Lib.hid (by omega)
  go_wp2_with ((with_reducible refine wpList_append_rd rfl (.tmp 19) (.tmp 20) rfl rfl rfl OA3.out RA3.out H0.out hnc QK0.out sA3.out ?_); intro v4 w4 ho4 hg4 hat4; refine of_hid ?_)
  refine Lib.hid ?_
  have L4 := Lib.hid (own_grownR LA3.out OA3.out hg4 sA3.out)
  have O4 := Lib.hid (own_cat0 ho4)
  clear ho4 hg4 hat4 LA3 OA3 RA3 sA3 L3 L2
  have s4 := L4.out.size
  have sA4 : Hid (w.heap.size ≤ (w4.alloc (.cells #[.int .u8 0] 5)).heap.size) := Lib.hid (by simp; omega)
  have LA4 := Lib.hid (L4.out.alloc s4 (.cells #[.int .u8 0] 5))
  have OA4 := Lib.hid (O4.out.below ((Below.refl w4.heap.size w4).alloc (Nat.le_refl _) (.cells #[.int .u8 0] 5)) (Nat.le_refl _))
  have rz := rdb_oneS w4 0 (by omega)
  rw [show ((0 : Nat) : Int) = 0 from rfl] at rz
  have RA4 := Lib.hid rz
  have QK1 : Hid (n + 1 ≤ 70368744177664) := Lib.hid (by omega)
  clear rz s4
  go_wp2_with ((with_reducible refine wpList_append_rd rfl (.tmp 21) (.tmp 22) rfl rfl rfl OA4.out RA4.out (fun e => by cases e) (Nat.le_refl _) QK1.out sA4.out ?_); intro v5 w5 ho5 hg5 hat5; refine of_hid ?_)
  refine Lib.hid ?_
  have L5 := Lib.hid (own_grownR LA4.out OA4.out hg5 sA4.out)
  obtain ⟨g2, c2, rfl, hg2, hr2, hc2, hc2m⟩ := ho5.row (by omega)
  have hZ1 : ∀ j, cat n Y (fun _ => 0) j < 256 := fun j => by
    unfold cat
    split
    · exact hX j
    · show (0 : Nat) < 256
      omega
  generalize cat n Y (fun _ => 0) = Z1 at *
  have HZ1 := Lib.hid hZ1
  have HQ : Hid (∀ W, Below w5.heap.size w5 W → RdB W w.heap.size A n Y ∧ RowG W g2 (n + 1) Z1) := Lib.hid fun W hW => ⟨HX.out.below (L5.out.trans (hW.mono L5.out.size)) (Nat.le_refl _), hr2.below hW hr2.lt⟩
  have HLW : Hid (∀ W, Below w5.heap.size w5 W → Laid W) := Lib.hid fun W hW => HL.out.below (L5.out.trans (hW.mono L5.out.size)) hpos
  have HM2 := Lib.hid hc2m
  obtain ⟨bq, hbq⟩ : ∃ bq, bq = ((strB 32 (M.sum (n + 1) Z1)).toList == (strB 32 (M.sum n Y)).toList) := ⟨_, rfl⟩
  have BQ := Lib.hid hbq
  have hn1 : n + 1 ≤ 1099511627776 := by omega
  clear ho5 hg5 hat5 LA4 OA4 RA4 sA4 L4 O4 hr2 hc2m hbq hZ1 hg2
  have LB0 : Hid (Below w5.heap.size w5 w5.drew) := Lib.hid (Below.refl _ _).drew
  have HS0 := Lib.hid (HQ.out _ LB0.out)
  go_wp2_with fail
  refine region_anyZ (fun W : World => RdB W w.heap.size A n Y ∧ RowG W g2 (n + 1) Z1) 20 (by kernel_rfl) ?_
  refine takeG 0 (.move (.tmp 6)) (some 24) none (.slice (some ⟨g2, 0, none⟩) (n + 1) c2) (by kernel_rfl) (by kernel_rfl) (by kernel_rfl) (fun _ _ _ h => h) (fun o w e hS => exec_move w e (by kernel_rfl)) HS0.out ?_
  refine takeG 2 (.move (.tmp 5)) (some 26) none (.string (strB 32 (M.sum n Y))) (by kernel_rfl) (by kernel_rfl) (by kernel_rfl) (fun _ _ _ h => h) (fun o w e hS => exec_move w e (by kernel_rfl)) HS0.out ?_
  refine takeG 4 (.move (.tmp 6)) (some 28) none (.slice (some ⟨g2, 0, none⟩) (n + 1) c2) (by kernel_rfl) (by kernel_rfl) (by kernel_rfl) (fun _ _ _ h => h) (fun o w e hS => exec_move w e (by kernel_rfl)) HS0.out ?_
  refine takeG 5 (.convert 22 9 (.tmp 28)) (some 29) none (.string (strB (n + 1) Z1)) (by kernel_rfl) (by kernel_rfl) (by kernel_rfl) (fun _ _ _ h => h) (fun o w e hS => exec_conv (u := .slice (some ⟨g2, 0, none⟩) (n + 1) c2) w e (by kernel_rfl) (hS.2.conv (fun j _ => HZ1.out j) c2)) HS0.out ?_
  refine takeG 7 (.move (.tmp 0)) (some 31) none (.slice A n c) (by kernel_rfl) (by kernel_rfl) (by kernel_rfl) (fun _ _ _ h => h) (fun o w e hS => exec_move w e (by kernel_rfl)) HS0.out ?_
  refine takeG 8 (.convert 22 9 (.tmp 31)) (some 32) none (.string (strB n Y)) (by kernel_rfl) (by kernel_rfl) (by kernel_rfl) (fun _ _ _ h => h) (fun o w e hS => exec_conv (u := .slice A n c) w e (by kernel_rfl) (conv_rd hS.1)) HS0.out ?_
  refine loneG 1 (.call ⟨.value (.func 12), #[(.tmp 24)], #[22]⟩) (some 25) none (by kernel_rfl) (by kernel_rfl) (by kernel_rfl) ?_
  intro o ho hod
  refine wp_callC (f := 12) (args := #[.slice (some ⟨g2, 0, none⟩) (n + 1) c2]) (by cases o; cases ho; kernel_rfl) (sum_any (some ⟨g2, 0, none⟩) (n + 1) c2 (g2 + 1) Z1 _ (HS0.out.2.rdb (fun j _ => HZ1.out j) (Nat.lt_succ_self g2)) HZ1.out HS0.out.2.lt hc2 HM2.out hn1 (HLW.out _ LB0.out)) ?_
  rintro e w6 ⟨rfl, hlq⟩
  refine ⟨.string (strB 32 (M.sum (n + 1) Z1)), rfl, ?_⟩
  rw [hod]
  clear hod ho
  have LB1 := Lib.hid (LB0.out.trans (hlq.mono LB0.out.size))
  clear hlq
  have HS1 := Lib.hid (HQ.out w6 LB1.out)
  refine ⟨fun _ => HS1.out, ?_⟩
  refine takeG 3 (.binOp .eql 9 (.tmp 25) (.tmp 26) 9) (some 27) none (.bool bq) (by kernel_rfl) (by kernel_rfl) (by kernel_rfl) (fun _ _ _ h => h) (fun o w e hS => exec_bin (u1 := .string (strB 32 (M.sum (n + 1) Z1))) (u2 := .string (strB 32 (M.sum n Y))) w e (by kernel_rfl) (by kernel_rfl) (eqG_str ..) (eq_str_e _ _ _ BQ.out _)) HS1.out ?_
  refine loneG 6 (.call ⟨.value (.func 13), #[(.tmp 29)], #[9]⟩) (some 30) none (by kernel_rfl) (by kernel_rfl) (by kernel_rfl) ?_
  intro o ho hod
  refine wp_callC (f := 13) (args := #[.string (strB (n + 1) Z1)]) (by cases o; cases ho; kernel_rfl) (rsum_any (n + 1) Z1 _ HZ1.out hn1) ?_
  rintro e w7 ⟨rfl, hlq⟩
  refine ⟨.string (strB 32 (M.sum (n + 1) Z1)), rfl, ?_⟩
  rw [hod]
  clear hod ho
  have LB2 := Lib.hid (LB1.out.trans (hlq.mono LB1.out.size))
  clear hlq
  have HS2 := Lib.hid (HQ.out w7 LB2.out)
  refine ⟨fun _ => HS2.out, ?_⟩
  refine loneG 9 (.call ⟨.value (.func 13), #[(.tmp 32)], #[9]⟩) (some 33) none (by kernel_rfl) (by kernel_rfl) (by kernel_rfl) ?_
  intro o ho hod
  refine wp_callC (f := 13) (args := #[.string (strB n Y)]) (by cases o; cases ho; kernel_rfl) (rsum_any n Y _ hX hn) ?_
  rintro e w8 ⟨rfl, hlq⟩
  refine ⟨.string (strB 32 (M.sum n Y)), rfl, ?_⟩
  rw [hod]
  clear hod ho
  have LB3 := Lib.hid (LB2.out.trans (hlq.mono LB2.out.size))
  clear hlq
  have HS3 := Lib.hid (HQ.out w8 LB3.out)
  refine ⟨fun _ => HS3.out, ?_⟩
  refine takeG 10 (.binOp .eql 9 (.tmp 30) (.tmp 33) 9) (some 34) none (.bool bq) (by kernel_rfl) (by kernel_rfl) (by kernel_rfl) (fun _ _ _ h => h) (fun o w e hS => exec_bin (u1 := .string (strB 32 (M.sum (n + 1) Z1))) (u2 := .string (strB 32 (M.sum n Y))) w e (by kernel_rfl) (by kernel_rfl) (eqG_str ..) (eq_str_e _ _ _ BQ.out _)) HS3.out ?_
  refine takeG 11 (.binOp .neq 4 (.tmp 27) (.tmp 34) 4) (some 35) none (.bool false) (by kernel_rfl) (by kernel_rfl) (by kernel_rfl) (fun _ _ _ h => h) (fun o w e hS => exec_bin (u1 := .bool bq) (u2 := .bool bq) w e (by kernel_rfl) (by kernel_rfl) (eqG_bool ..) (neq_bool_same _ _)) HS3.out ?_
  refine takeG 12 (.move (.tmp 35)) (some 36) none (.bool false) (by kernel_rfl) (by kernel_rfl) (by kernel_rfl) (fun _ _ _ h => h) (fun o w e hS => exec_move w e (by kernel_rfl)) HS3.out ?_
  refine takeG 14 (.move (.tmp 0)) (some 38) (some (12, false)) (.slice A n c) (by kernel_rfl) (by kernel_rfl) (by kernel_rfl) (fun _ _ _ h => h) (fun o w e hS => exec_move w e (by kernel_rfl)) HS3.out ?_
  refine takeG 17 (.move (.tmp 5)) (some 41) (some (12, false)) (.string (strB 32 (M.sum n Y))) (by kernel_rfl) (by kernel_rfl) (by kernel_rfl) (fun _ _ _ h => h) (fun o w e hS => exec_move w e (by kernel_rfl)) HS3.out ?_
  refine loneG 13 (.buildSlice 22 0 #[]) (some 37) (some (12, false)) (by kernel_rfl) (by kernel_rfl) (by kernel_rfl) ?_
  intro o ho hod
  refine wp_val (exec_build0S ho (bs_bytes0S _)) ?_
  rw [hod]
  clear hod ho
  have LB4 := Lib.hid (LB3.out.alloc LB3.out.size (.cells #[] 5))
  have OA := Lib.hid (own_empty8 (w := w8) (base := w5.heap.size) LB3.out.size)
  have HS4 := Lib.hid (HQ.out _ LB4.out)
  refine ⟨fun _ => HS4.out, ?_⟩
  refine loneG 15 (.call ⟨.builtin .append, #[(.tmp 37), (.tmp 38)], #[22, 22]⟩) (some 39) (some (12, false)) (by kernel_rfl) (by kernel_rfl) (by kernel_rfl) ?_
  intro o ho hod
  refine wp_append8 (.tmp 37) (.tmp 38) ho (by kernel_rfl) (by kernel_rfl) OA.out HS4.out.1 H0.out hnc QK0.out LB4.out.size ?_
  intro v9 w9 ho9 hg9 hat9
  rw [hod]
  clear hod ho
  have LB5 : Hid (Below w5.heap.size w5 w9) := Lib.hid (own_grownR LB4.out OA.out hg9 LB4.out.size)
  obtain ⟨A9, c9, rfl, hr9, hc9, hm9, _, _⟩ := (own_cat0 ho9).shape (fun j _ => hX j)
  have R9 := Lib.hid hr9
  have HM9 := Lib.hid hm9
  clear ho9 hg9 hat9 OA hr9 hm9
  have HS5 := Lib.hid (HQ.out w9 LB5.out)
  refine ⟨fun _ => HS5.out, ?_⟩
  refine loneG 16 (.call ⟨.value (.func 12), #[(.tmp 39)], #[22]⟩) (some 40) (some (12, false)) (by kernel_rfl) (by kernel_rfl) (by kernel_rfl) ?_
  intro o ho hod
  refine wp_callC (f := 12) (args := #[.slice A9 n c9]) (by cases o; cases ho; kernel_rfl) (sum_any A9 n c9 w9.heap.size Y _ R9.out hX (Nat.le_refl _) hc9 HM9.out hn (HLW.out _ LB5.out)) ?_
  rintro e w10 ⟨rfl, hlq⟩
  refine ⟨.string (strB 32 (M.sum n Y)), rfl, ?_⟩
  rw [hod]
  clear hod ho
  have LB6 := Lib.hid (LB5.out.trans (hlq.mono LB5.out.size))
  clear hlq
  have HS6 := Lib.hid (HQ.out w10 LB6.out)
  refine ⟨fun _ => HS6.out, ?_⟩
  refine takeG 18 (.binOp .neq 9 (.tmp 40) (.tmp 41) 9) (some 42) (some (12, false)) (.bool false) (by kernel_rfl) (by kernel_rfl) (by kernel_rfl) (fun _ _ _ h => h) (fun o w e hS => exec_bin (u1 := .string (strB 32 (M.sum n Y))) (u2 := .string (strB 32 (M.sum n Y))) w e (by kernel_rfl) (by kernel_rfl) (eqG_str ..) (neq_str_s _ _ rfl _)) HS6.out ?_
  refine lastS 19 (.pick (.tmp 36) (.const (Value.bool true)) (.tmp 42)) (some 43) (.bool false) (by kernel_rfl) (by kernel_rfl) (by kernel_rfl) HS6.out (fun o e => exec_pick (b := false) _ e (by kernel_rfl) (by kernel_rfl)) ?_
  simp only [put_some, put_none, List.setIfInBounds_toArray, List.set_cons_succ, List.set_cons_zero]
  have L10 := Lib.hid (L5.out.trans (LB6.out.mono L5.out.size))
  clear HS0 HS1 HS2 HS3 HS4 HS5 HS6 LB0 LB1 LB2 LB3 LB4 LB5 LB6 R9 HM9 HQ HLW BQ HM2 L5 HZ1
  by_cases h00 : n = 0
  · subst h00
    go_wp2_with fail
    go_ret
    exact ⟨rfl, L10.out⟩
  have hz : ((n : Int) == 0) = false := by simp; exact h00
  obtain ⟨m, hm, hm8⟩ : ∃ m : Nat, (IntKind.u64.wrap a1).tmod (8 * (n : Int)) = (m : Int) ∧ m < 8 * n := by
    have hw : 0 ≤ IntKind.u64.wrap a1 := by simp [IntKind.wrap, IntKind.bits, IntKind.signed]; omega
    refine ⟨((IntKind.u64.wrap a1) % (8 * (n : Int))).toNat, ?_, ?_⟩
    · rw [Int.tmod_eq_emod_of_nonneg hw]
      have := Int.emod_nonneg (IntKind.u64.wrap a1) (show 8 * (n : Int) ≠ 0 by omega)
      omega
    · have h1 := Int.emod_nonneg (IntKind.u64.wrap a1) (show 8 * (n : Int) ≠ 0 by omega)
      have h2 := Int.emod_lt_of_pos (IntKind.u64.wrap a1) (show (0 : Int) < 8 * (n : Int) by omega)
      omega
  have sA : Hid (w.heap.size ≤ (w10.alloc (.cells #[] 5)).heap.size) := Lib.hid (by have := L10.out.size; simp; omega)
  have LA := Lib.hid (L10.out.alloc L10.out.size (.cells #[] 5))
  have OA := Lib.hid (own_empty8 (w := w10) (base := w.heap.size) L10.out.size)
  have RA := Lib.hid (HX.out.below LA.out (Nat.le_refl _))
  go_wp2_with ((with_reducible refine wpList_append_rd rfl (.tmp 55) (.tmp 56) rfl rfl rfl OA.out RA.out H0.out hnc QK0.out sA.out ?_); intro v11 w11 ho11 hg11 hat11; refine of_hid ?_)
  refine Lib.hid ?_
  have L11 := Lib.hid (own_grownR LA.out OA.out hg11 sA.out)
  obtain ⟨g8, c8, rfl, hg8, hr8, hc8, hc8m⟩ := (own_cat0 ho11).row (by omega)
  have R11 := Lib.hid hr8
  have HM8 := Lib.hid hc8m
  obtain ⟨q, hq⟩ : ∃ q, q = m / 8 := ⟨_, rfl⟩
  obtain ⟨r, hr⟩ : ∃ r, r = m % 8 := ⟨_, rfl⟩
  have hqn : q < n := by omega
  have hr8' : r < 8 := by omega
  have hmm : m ≤ 9223372036854775807 := by omega
  have QD : Hid (∀ W, (binOp .quo 3 (.int .i64 (m : Int)) (.int .i64 8)).run Tryd.prog W = .ok (.int .i64 ((q : Nat) : Int)) W) := Lib.hid fun W => by rw [hq]; exact quo_i64S m hmm W
  have QR : Hid (∀ W, (binOp .rem 3 (.int .i64 (m : Int)) (.int .i64 8)).run Tryd.prog W = .ok (.int .i64 ((r : Nat) : Int)) W) := Lib.hid fun W => by rw [hr]; exact rem_i64S m W
  have hyq := hX q
  have h2r : 2 ^ r < 256 := Nat.lt_of_lt_of_le (Nat.pow_lt_pow_right (by omega) hr8') (by decide)
  obtain ⟨zv, hzv⟩ : ∃ zv, zv = Y q ^^^ 2 ^ r := ⟨_, rfl⟩
  have hzl : zv < 256 := by rw [hzv]; exact Nat.xor_lt_two_pow (n := 8) hyq h2r
  have QX : Hid (∀ W, (binOp .xor 5 (.int .u8 ((Y q : Nat) : Int)) (.int .u8 ((2 ^ r : Nat) : Int))).run Tryd.prog W = .ok (.int .u8 ((zv : Nat) : Int)) W) := Lib.hid fun W => by rw [hzv]; exact xor_u8S W _ _ hyq h2r
  have HS := Lib.hid ((show RowG w11.drew g8 n Y from R11.out).cell hqn)
  have HF := Lib.hid ((show RowG w11.drew g8 n Y from R11.out).frozen hqn)
  have R12 := Lib.hid ((show RowG w11.drew g8 n Y from R11.out).set (v := zv) hqn)
  have L12 := Lib.hid (L11.out.drew.setCell (p := ⟨g8, q, none⟩) hg8 (.int .u8 ((zv : Nat) : Int)))
  have hZ2 : ∀ j, upd Y q zv j < 256 := upd_lt hX hzl
  have HZ2 := Lib.hid hZ2
  clear ho11 hg11 hat11 LA OA RA sA hr8 hc8m L10 hz h00 hZ2 R11 L11 hq hr hzv hm8
  go_wp2_with fail
  refine region_anyZ (fun W : World => W.cell? ⟨g8, q, none⟩ = some (.int .u8 ((Y q : Nat) : Int))) 13 (by kernel_rfl) ?_
  refine takeG 0 (.move (.tmp 8)) (some 58) none (.slice (some ⟨g8, 0, none⟩) n c8) (by kernel_rfl) (by kernel_rfl) (by kernel_rfl) (fun _ _ _ h => h) (fun o w e hS => exec_move w e (by kernel_rfl)) HS.out ?_
  refine takeG 1 (.move (.tmp 7)) (some 59) none (.int .i64 (m : Int)) (by kernel_rfl) (by kernel_rfl) (by kernel_rfl) (fun _ _ _ h => h) (fun o w e hS => exec_move w e (by kernel_rfl)) HS.out ?_
  refine takeG 2 (.binOp .quo 3 (.tmp 59) (.const (.int .i64 8)) 3) (some 60) none (.int .i64 ((q : Nat) : Int)) (by kernel_rfl) (by kernel_rfl) (by kernel_rfl) (fun _ _ _ h => h) (fun o w e hS => exec_bin (u1 := .int .i64 (m : Int)) (u2 := (.int .i64 8)) w e (by kernel_rfl) (by kernel_rfl) (eqG_int ..) (QD.out _)) HS.out ?_
  refine takeG 3 (.move (.tmp 8)) (some 61) none (.slice (some ⟨g8, 0, none⟩) n c8) (by kernel_rfl) (by kernel_rfl) (by kernel_rfl) (fun _ _ _ h => h) (fun o w e hS => exec_move w e (by kernel_rfl)) HS.out ?_
  refine takeG 4 (.move (.tmp 7)) (some 62) none (.int .i64 (m : Int)) (by kernel_rfl) (by kernel_rfl) (by kernel_rfl) (fun _ _ _ h => h) (fun o w e hS => exec_move w e (by kernel_rfl)) HS.out ?_
  refine takeG 5 (.binOp .quo 3 (.tmp 62) (.const (.int .i64 8)) 3) (some 63) none (.int .i64 ((q : Nat) : Int)) (by kernel_rfl) (by kernel_rfl) (by kernel_rfl) (fun _ _ _ h => h) (fun o w e hS => exec_bin (u1 := .int .i64 (m : Int)) (u2 := (.int .i64 8)) w e (by kernel_rfl) (by kernel_rfl) (eqG_int ..) (QD.out _)) HS.out ?_
  refine takeG 6 (.indexAddr 22 (.tmp 61) (.tmp 63)) (some 64) none (.pointer (some ⟨g8, q, none⟩)) (by kernel_rfl) (by kernel_rfl) (by kernel_rfl) (fun _ _ _ h => h) (fun o w e hS => exec_index (u1 := .slice (some ⟨g8, 0, none⟩) n c8) (u2 := .int .i64 ((q : Nat) : Int)) w e (by kernel_rfl) (by kernel_rfl) (index_bytes0S g8 n c8 q hqn _)) HS.out ?_
  refine takeG 7 (.load 5 (.tmp 64)) (some 65) none (.int .u8 ((Y q : Nat) : Int)) (by kernel_rfl) (by kernel_rfl) (by kernel_rfl) (fun _ _ _ h => h) (fun o w e hS => exec_load (x := (.tmp 64)) e (by kernel_rfl) (load_one Tryd.underlying5 (by kernel_rfl) hS)) HS.out ?_
  refine takeG 8 (.move (.tmp 7)) (some 66) none (.int .i64 (m : Int)) (by kernel_rfl) (by kernel_rfl) (by kernel_rfl) (fun _ _ _ h => h) (fun o w e hS => exec_move w e (by kernel_rfl)) HS.out ?_
  refine takeG 9 (.binOp .rem 3 (.tmp 66) (.const (.int .i64 8)) 3) (some 67) none (.int .i64 ((r : Nat) : Int)) (by kernel_rfl) (by kernel_rfl) (by kernel_rfl) (fun _ _ _ h => h) (fun o w e hS => exec_bin (u1 := .int .i64 (m : Int)) (u2 := (.int .i64 8)) w e (by kernel_rfl) (by kernel_rfl) (eqG_int ..) (QR.out _)) HS.out ?_
  refine takeG 10 (.binOp .shl 5 (.const (.int .u8 1)) (.tmp 67) 3) (some 68) none (.int .u8 ((2 ^ r : Nat) : Int)) (by kernel_rfl) (by kernel_rfl) (by kernel_rfl) (fun _ _ _ h => h) (fun o w e hS => exec_bin (u1 := (.int .u8 1)) (u2 := .int .i64 ((r : Nat) : Int)) w e (by kernel_rfl) (by kernel_rfl) (eqG_int ..) (shl_u8S r hr8' _)) HS.out ?_
  refine takeG 11 (.binOp .xor 5 (.tmp 65) (.tmp 68) 5) (some 69) none (.int .u8 ((zv : Nat) : Int)) (by kernel_rfl) (by kernel_rfl) (by kernel_rfl) (fun _ _ _ h => h) (fun o w e hS => exec_bin (u1 := .int .u8 ((Y q : Nat) : Int)) (u2 := .int .u8 ((2 ^ r : Nat) : Int)) w e (by kernel_rfl) (by kernel_rfl) (eqG_int ..) (QX.out _)) HS.out ?_
  refine takeG 12 (.indexAddr 22 (.tmp 58) (.tmp 60)) (some 70) none (.pointer (some ⟨g8, q, none⟩)) (by kernel_rfl) (by kernel_rfl) (by kernel_rfl) (fun _ _ _ h => h) (fun o w e hS => exec_index (u1 := .slice (some ⟨g8, 0, none⟩) n c8) (u2 := .int .i64 ((q : Nat) : Int)) w e (by kernel_rfl) (by kernel_rfl) (index_bytes0S g8 n c8 q hqn _)) HS.out ?_
  refine lastStore 13 5 (.tmp 70) (.tmp 69) (.pointer (some ⟨g8, q, none⟩)) (.int .u8 ((zv : Nat) : Int)) _ (by kernel_rfl) (by kernel_rfl) (by kernel_rfl) rfl (by kernel_rfl) (by kernel_rfl) (store_one size_u8 rfl rfl (by rw [HS.out]; rfl) HF.out (by rw [add_plain]; rfl)) ?_
  simp only [put_some, put_none, List.setIfInBounds_toArray, List.set_cons_succ, List.set_cons_zero]
  clear HS HF QD QR QX
  generalize upd Y q zv = Z2 at *
  generalize w11.drew.setCell ⟨g8, q, none⟩ (.int .u8 ((zv : Nat) : Int)) = w12 at *
  have HQ2 : Hid (∀ W, Below w12.heap.size w12 W → RdB W w.heap.size A n Y ∧ RowG W g8 n Z2) := Lib.hid fun W hW => ⟨HX.out.below (L12.out.trans (hW.mono L12.out.size)) (Nat.le_refl _), R12.out.below hW R12.out.lt⟩
  have HLW2 : Hid (∀ W, Below w12.heap.size w12 W → Laid W) := Lib.hid fun W hW => HL.out.below (L12.out.trans (hW.mono L12.out.size)) hpos
  obtain ⟨bq, hbq⟩ : ∃ bq, bq = ((strB 32 (M.sum n Z2)).toList == (strB 32 (M.sum n Y)).toList) := ⟨_, rfl⟩
  have BQ := Lib.hid hbq
  clear hbq R12 hzl hyq h2r
  have LB0 : Hid (Below w12.heap.size w12 w12.drew) := Lib.hid (Below.refl _ _).drew
  have HS0 := Lib.hid (HQ2.out _ LB0.out)
  go_wp2_with fail
  refine region_anyZ (fun W : World => RdB W w.heap.size A n Y ∧ RowG W g8 n Z2) 13 (by kernel_rfl) ?_
  refine takeG 0 (.move (.tmp 8)) (some 71) none (.slice (some ⟨g8, 0, none⟩) n c8) (by kernel_rfl) (by kernel_rfl) (by kernel_rfl) (fun _ _ _ h => h) (fun o w e hS => exec_move w e (by kernel_rfl)) HS0.out ?_
  refine takeG 2 (.move (.tmp 5)) (some 73) none (.string (strB 32 (M.sum n Y))) (by kernel_rfl) (by kernel_rfl) (by kernel_rfl) (fun _ _ _ h => h) (fun o w e hS => exec_move w e (by kernel_rfl)) HS0.out ?_
  refine takeG 4 (.move (.tmp 8)) (some 75) none (.slice (some ⟨g8, 0, none⟩) n c8) (by kernel_rfl) (by kernel_rfl) (by kernel_rfl) (fun _ _ _ h => h) (fun o w e hS => exec_move w e (by kernel_rfl)) HS0.out ?_
  refine takeG 5 (.convert 22 9 (.tmp 75)) (some 76) none (.string (strB n Z2)) (by kernel_rfl) (by kernel_rfl) (by kernel_rfl) (fun _ _ _ h => h) (fun o w e hS => exec_conv (u := .slice (some ⟨g8, 0, none⟩) n c8) w e (by kernel_rfl) (hS.2.conv (fun j _ => HZ2.out j) c8)) HS0.out ?_
  refine takeG 7 (.move (.tmp 0)) (some 78) none (.slice A n c) (by kernel_rfl) (by kernel_rfl) (by kernel_rfl) (fun _ _ _ h => h) (fun o w e hS => exec_move w e (by kernel_rfl)) HS0.out ?_
  refine takeG 8 (.convert 22 9 (.tmp 78)) (some 79) none (.string (strB n Y)) (by kernel_rfl) (by kernel_rfl) (by kernel_rfl) (fun _ _ _ h => h) (fun o w e hS => exec_conv (u := .slice A n c) w e (by kernel_rfl) (conv_rd hS.1)) HS0.out ?_
  refine loneG 1 (.call ⟨.value (.func 12), #[(.tmp 71)], #[22]⟩) (some 72) none (by kernel_rfl) (by kernel_rfl) (by kernel_rfl) ?_
  intro o ho hod
  refine wp_callC (f := 12) (args := #[.slice (some ⟨g8, 0, none⟩) n c8]) (by cases o; cases ho; kernel_rfl) (sum_any (some ⟨g8, 0, none⟩) n c8 (g8 + 1) Z2 _ (HS0.out.2.rdb (fun j _ => HZ2.out j) (Nat.lt_succ_self g8)) HZ2.out HS0.out.2.lt hc8 HM8.out hn (HLW2.out _ LB0.out)) ?_
  rintro e w13 ⟨rfl, hlq⟩
  refine ⟨.string (strB 32 (M.sum n Z2)), rfl, ?_⟩
  rw [hod]
  clear hod ho
  have LB1 := Lib.hid (LB0.out.trans (hlq.mono LB0.out.size))
  clear hlq
  have HS1 := Lib.hid (HQ2.out w13 LB1.out)
  refine ⟨fun _ => HS1.out, ?_⟩
  refine takeG 3 (.binOp .eql 9 (.tmp 72) (.tmp 73) 9) (some 74) none (.bool bq) (by kernel_rfl) (by kernel_rfl) (by kernel_rfl) (fun _ _ _ h => h) (fun o w e hS => exec_bin (u1 := .string (strB 32 (M.sum n Z2))) (u2 := .string (strB 32 (M.sum n Y))) w e (by kernel_rfl) (by kernel_rfl) (eqG_str ..) (eq_str_e _ _ _ BQ.out _)) HS1.out ?_
  refine loneG 6 (.call ⟨.value (.func 13), #[(.tmp 76)], #[9]⟩) (some 77) none (by kernel_rfl) (by kernel_rfl) (by kernel_rfl) ?_
  intro o ho hod
  refine wp_callC (f := 13) (args := #[.string (strB n Z2)]) (by cases o; cases ho; kernel_rfl) (rsum_any n Z2 _ HZ2.out hn) ?_
  rintro e w14 ⟨rfl, hlq⟩
  refine ⟨.string (strB 32 (M.sum n Z2)), rfl, ?_⟩
  rw [hod]
  clear hod ho
  have LB2 := Lib.hid (LB1.out.trans (hlq.mono LB1.out.size))
  clear hlq
  have HS2 := Lib.hid (HQ2.out w14 LB2.out)
  refine ⟨fun _ => HS2.out, ?_⟩
  refine loneG 9 (.call ⟨.value (.func 13), #[(.tmp 79)], #[9]⟩) (some 80) none (by kernel_rfl) (by kernel_rfl) (by kernel_rfl) ?_
  intro o ho hod
  refine wp_callC (f := 13) (args := #[.string (strB n Y)]) (by cases o; cases ho; kernel_rfl) (rsum_any n Y _ hX hn) ?_
  rintro e w15 ⟨rfl, hlq⟩
  refine ⟨.string (strB 32 (M.sum n Y)), rfl, ?_⟩
  rw [hod]
  clear hod ho
  have LB3 := Lib.hid (LB2.out.trans (hlq.mono LB2.out.size))
  clear hlq
  have HS3 := Lib.hid (HQ2.out w15 LB3.out)
  refine ⟨fun _ => HS3.out, ?_⟩
  refine takeG 10 (.binOp .eql 9 (.tmp 77) (.tmp 80) 9) (some 81) none (.bool bq) (by kernel_rfl) (by kernel_rfl) (by kernel_rfl) (fun _ _ _ h => h) (fun o w e hS => exec_bin (u1 := .string (strB 32 (M.sum n Z2))) (u2 := .string (strB 32 (M.sum n Y))) w e (by kernel_rfl) (by kernel_rfl) (eqG_str ..) (eq_str_e _ _ _ BQ.out _)) HS3.out ?_
  refine takeG 11 (.binOp .eql 4 (.tmp 74) (.tmp 81) 4) (some 82) none (.bool true) (by kernel_rfl) (by kernel_rfl) (by kernel_rfl) (fun _ _ _ h => h) (fun o w e hS => exec_bin (u1 := .bool bq) (u2 := .bool bq) w e (by kernel_rfl) (by kernel_rfl) (eqG_bool ..) (eq_bool_same _ _)) HS3.out ?_
  refine lastS 12 (.assign (.tmp 82)) (some 4) (.bool true) (by kernel_rfl) (by kernel_rfl) (by kernel_rfl) HS3.out (fun o e => exec_assign _ e (by kernel_rfl)) ?_
  simp only [put_some, put_none, List.setIfInBounds_toArray, List.set_cons_succ, List.set_cons_zero]
  have L15 := Lib.hid (L12.out.trans (LB3.out.mono L12.out.size))
  clear HS0 HS1 HS2 HS3 HQ2 HLW2 BQ
  go_wp2_with fail
  go_ret
  exact ⟨rfl, L15.out⟩
end shaBits
end Go.Proofs.YtbgfmlfpohehnaaDoor
