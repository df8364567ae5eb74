/-
  The walk of 'ShaSums': for all bytes Sum and Digits answer what the document says.
-/
import Derived.Test.YtbgfmlfpohehnaaDoorShaGen
namespace Go.Proofs.YtbgfmlfpohehnaaDoor
open Go Go.RowKit
set_option linter.unusedVariables false
namespace shaSums
set_option maxRecDepth 100000 in
set_option maxHeartbeats 3200000 in
theorem walk (A : Option Addr) (n c : Nat) (X : Nat → Nat) (s : ByteArray) (w : World) (hx0 : RdB w w.heap.size A n X) (hnc : n ≤ c) (hcm : c ≤ maxLen) (h0 : A = none → c = 0) (hs : s.size ≤ maxLen) (hl : Laid w) :
    Calls Tryd.prog 3 #[.slice A n c, .string s] w fun e w' => e = .returned (.bool true) ∧ Below w.heap.size w w' := by
  have HSZ := Lib.hid hs
  clear hs
  obtain ⟨Y, hx, hX⟩ := hx0.cut
  have HX := Lib.hid hx
  have HL := Lib.hid hl
  have hpos := hl.pos
  have HC := Lib.hid hcm
  have H0 := Lib.hid h0
  have hcm' := hcm
  unfold maxLen at hcm'
  clear hx0 hx hl hcm h0
  by_cases hbig : 3000 < n
  · have t1 : (3000 : Int) < (n : Int) := by omega
    go_enter Tryd.func3, Tryd.ntmps3
    go_wp2_with fail
    refine (known_any _ HL.out).mono ?_
    rintro e w2 ⟨rfl, hl2⟩
    have L2 := Lib.hid hl2
    clear hl2
    go_wp2_with fail
    refine (known_any _ (HL.out.below L2.out hpos)).mono ?_
    rintro e w3 ⟨rfl, hl3⟩
    have L3 := Lib.hid (L2.out.trans (hl3.mono L2.out.size))
    clear hl3 L2
    go_wp2_with fail
    go_ret
    exact ⟨rfl, L3.out⟩
  have t1 : (n : Int) ≤ 3000 := by omega
  have hn : n ≤ 1099511627776 := by omega
  have hn2 : n ≤ 3000 := by omega
  clear hbig
  go_enter Tryd.func3, Tryd.ntmps3
  go_wp2_with fail
  refine (known_any _ HL.out).mono ?_
  rintro e w2 ⟨rfl, hl2⟩
  have L2 := Lib.hid hl2
  clear hl2
  go_wp2_with fail
  refine (docDigits_gen s _ HSZ.out).mono ?_
  rintro e w3 ⟨rfl, hl3⟩
  have L3 := Lib.hid (L2.out.trans (hl3.mono L2.out.size))
  clear hl3
  go_wp2_with fail
  refine (digits_gen s _ HSZ.out).mono ?_
  rintro e w4 ⟨rfl, hl4⟩
  have L4 := Lib.hid (L3.out.trans (hl4.mono L3.out.size))
  clear hl4
  generalize dgX s = dx at *
  generalize dgE s = de at *
  have HS0 := Lib.hid (HX.out.below L4.out.drew (Nat.le_refl _))
  have L5 := Lib.hid L4.out.drew
  go_wp2_with fail
  refine region_anyZ (fun W : World => RdB W w.heap.size A n Y) 17 (by kernel_rfl) ?_
  refine takeG 0 (.move (.tmp 0)) (some 27) none (.slice A n c) (by kernel_rfl) (by kernel_rfl) (by kernel_rfl) (fun _ _ _ h => h) (fun o w e hS => exec_move w e (by kernel_rfl)) HS0.out ?_
  refine takeG 2 (.move (.tmp 0)) (some 29) none (.slice A n c) (by kernel_rfl) (by kernel_rfl) (by kernel_rfl) (fun _ _ _ h => h) (fun o w e hS => exec_move w e (by kernel_rfl)) HS0.out ?_
  refine takeG 3 (.convert 22 9 (.tmp 29)) (some 30) none (.string (strB n Y)) (by kernel_rfl) (by kernel_rfl) (by kernel_rfl) (fun _ _ _ h => h) (fun o w e hS => exec_conv (u := .slice A n c) w e (by kernel_rfl) (conv_rd hS)) HS0.out ?_
  refine loneG 1 (.call ⟨.value (.func 12), #[(.tmp 27)], #[22]⟩) (some 28) none (by kernel_rfl) (by kernel_rfl) (by kernel_rfl) ?_
  intro o ho hod
  refine wp_callC (f := 12) (args := #[.slice A n c]) (by cases o; cases ho; kernel_rfl) (sum_any A n c w.heap.size Y _ HS0.out hX L5.out.size hnc HC.out hn (HL.out.below L5.out hpos)) ?_
  rintro e w6 ⟨rfl, hlq⟩
  refine ⟨.string (strB 32 (M.sum n Y)), rfl, ?_⟩
  rw [hod]
  clear hod ho
  have L6 := Lib.hid (L5.out.trans (hlq.mono L5.out.size))
  clear hlq
  have HS1 := Lib.hid (HX.out.below L6.out (Nat.le_refl _))
  refine ⟨fun _ => HS1.out, ?_⟩
  refine loneG 4 (.call ⟨.value (.func 13), #[(.tmp 30)], #[9]⟩) (some 31) none (by kernel_rfl) (by kernel_rfl) (by kernel_rfl) ?_
  intro o ho hod
  refine wp_callC (f := 13) (args := #[.string (strB n Y)]) (by cases o; cases ho; kernel_rfl) (rsum_any n Y _ hX hn) ?_
  rintro e w7 ⟨rfl, hlq⟩
  refine ⟨.string (strB 32 (M.sum n Y)), rfl, ?_⟩
  rw [hod]
  clear hod ho
  have L7 := Lib.hid (L6.out.trans (hlq.mono L6.out.size))
  clear hlq
  have HS2 := Lib.hid (HX.out.below L7.out (Nat.le_refl _))
  refine ⟨fun _ => HS2.out, ?_⟩
  refine takeG 5 (.binOp .eql 9 (.tmp 28) (.tmp 31) 9) (some 32) none (.bool true) (by kernel_rfl) (by kernel_rfl) (by kernel_rfl) (fun _ _ _ h => h) (fun o w e hS => exec_bin (u1 := .string (strB 32 (M.sum n Y))) (u2 := .string (strB 32 (M.sum n Y))) w e (by kernel_rfl) (by kernel_rfl) (eqG_str ..) (eq_str_t _ _ rfl _)) HS2.out ?_
  refine takeG 6 (.move (.tmp 32)) (some 33) none (.bool true) (by kernel_rfl) (by kernel_rfl) (by kernel_rfl) (fun _ _ _ h => h) (fun o w e hS => exec_move w e (by kernel_rfl)) HS2.out ?_
  refine takeG 7 (.move (.tmp 5)) (some 34) (some (6, true)) (.string dx) (by kernel_rfl) (by kernel_rfl) (by kernel_rfl) (fun _ _ _ h => h) (fun o w e hS => exec_move w e (by kernel_rfl)) HS2.out ?_
  refine takeG 8 (.move (.tmp 7)) (some 35) (some (6, true)) (.string dx) (by kernel_rfl) (by kernel_rfl) (by kernel_rfl) (fun _ _ _ h => h) (fun o w e hS => exec_move w e (by kernel_rfl)) HS2.out ?_
  refine takeG 9 (.binOp .eql 9 (.tmp 34) (.tmp 35) 9) (some 36) (some (6, true)) (.bool true) (by kernel_rfl) (by kernel_rfl) (by kernel_rfl) (fun _ _ _ h => h) (fun o w e hS => exec_bin (u1 := .string dx) (u2 := .string dx) w e (by kernel_rfl) (by kernel_rfl) (eqG_str ..) (eq_str_t _ _ rfl _)) HS2.out ?_
  refine takeG 10 (.pick (.tmp 33) (.tmp 36) (.const (Value.bool false))) (some 37) none (.bool true) (by kernel_rfl) (by kernel_rfl) (by kernel_rfl) (fun _ _ _ h => h) (fun o w e hS => exec_pick (b := true) w e (by kernel_rfl) (by kernel_rfl)) HS2.out ?_
  refine takeG 11 (.move (.tmp 37)) (some 38) none (.bool true) (by kernel_rfl) (by kernel_rfl) (by kernel_rfl) (fun _ _ _ h => h) (fun o w e hS => exec_move w e (by kernel_rfl)) HS2.out ?_
  refine takeG 12 (.move (.tmp 6)) (some 39) (some (11, true)) (.int .i64 de) (by kernel_rfl) (by kernel_rfl) (by kernel_rfl) (fun _ _ _ h => h) (fun o w e hS => exec_move w e (by kernel_rfl)) HS2.out ?_
  refine takeG 13 (.move (.tmp 8)) (some 40) (some (11, true)) (.int .i64 de) (by kernel_rfl) (by kernel_rfl) (by kernel_rfl) (fun _ _ _ h => h) (fun o w e hS => exec_move w e (by kernel_rfl)) HS2.out ?_
  refine takeG 14 (.binOp .eql 24 (.tmp 39) (.tmp 40) 24) (some 41) (some (11, true)) (.bool true) (by kernel_rfl) (by kernel_rfl) (by kernel_rfl) (fun _ _ _ h => h) (fun o w e hS => exec_bin (u1 := .int .i64 de) (u2 := .int .i64 de) w e (by kernel_rfl) (by kernel_rfl) (eqG_int ..) (eq_err_t _ _)) HS2.out ?_
  refine takeG 15 (.pick (.tmp 38) (.tmp 41) (.const (Value.bool false))) (some 42) none (.bool true) (by kernel_rfl) (by kernel_rfl) (by kernel_rfl) (fun _ _ _ h => h) (fun o w e hS => exec_pick (b := true) w e (by kernel_rfl) (by kernel_rfl)) HS2.out ?_
  refine lastS 16 (.assign (.tmp 42)) (some 4) (.bool true) (by kernel_rfl) (by kernel_rfl) (by kernel_rfl) HS2.out (fun o e => exec_assign _ e (by kernel_rfl)) ?_
  simp only [put_some, put_none, List.setIfInBounds_toArray, List.set_cons_succ, List.set_cons_zero]
  go_wp2_with fail
  go_ret
  exact ⟨rfl, L7.out⟩
end shaSums
end Go.Proofs.YtbgfmlfpohehnaaDoor
