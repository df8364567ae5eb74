/-
  The walk of 'ShaSeals': for all bytes Seal and Open answer what the document says; what is sealed is opened.
-/
import Derived.Test.YtbgfmlfpohehnaaDoorShaGen
namespace Go.Proofs.YtbgfmlfpohehnaaDoor
open Go Go.RowKit
set_option linter.unusedVariables false
namespace shaSeals
set_option maxRecDepth 100000 in
set_option maxHeartbeats 3200000 in
theorem walk (A : Option Addr) (n c : Nat) (X : Nat → Nat) (w : World) (hx0 : RdB w w.heap.size A n X) (hnc : n ≤ c) (hcm : c ≤ maxLen) (h0 : A = none → c = 0) (hl : Laid w) :
    Calls Tryd.prog 4 #[.slice A n c] w fun e w' => e = .returned (.bool true) ∧ Below w.heap.size w w' := by
  obtain ⟨Y, hx, hX⟩ := hx0.cut
  have HX := Lib.hid hx
  have HL := Lib.hid hl
  have hpos := hl.pos
  have HC := Lib.hid hcm
  have H0 := Lib.hid h0
  have hcm' := hcm
  unfold maxLen at hcm'
  clear hx0 hx hl hcm h0
  by_cases hbig : 3000 < n
  · have t1 : (3000 : Int) < (n : Int) := by omega
    go_enter Tryd.func4, Tryd.ntmps4
    go_wp2_with fail
    refine (known_any _ HL.out).mono ?_
    rintro e w2 ⟨rfl, hl2⟩
    have L2 := Lib.hid hl2
    clear hl2
    go_wp2_with fail
    refine (known_any _ (HL.out.below L2.out hpos)).mono ?_
    rintro e w3 ⟨rfl, hl3⟩
    have L3 := Lib.hid (L2.out.trans (hl3.mono L2.out.size))
    clear hl3 L2
    go_wp2_with fail
    go_ret
    exact ⟨rfl, L3.out⟩
  have t1 : (n : Int) ≤ 3000 := by omega
  have hn : n ≤ 1099511627776 := by omega
  have hn2 : n ≤ 3000 := by omega
  clear hbig
  go_enter Tryd.func4, Tryd.ntmps4
  go_wp2_with fail
  refine (known_any _ HL.out).mono ?_
  rintro e w2 ⟨rfl, hl2⟩
  have L2 := Lib.hid hl2
  clear hl2
  go_wp2_with fail
  refine (seal_any A n c w.heap.size Y _ (HX.out.below L2.out (Nat.le_refl _)) hX L2.out.size hnc HC.out H0.out hn (HL.out.below L2.out hpos)).mono ?_
  rintro e w3 ⟨v3, rfl, ho3, hl3⟩
  have L3 := Lib.hid (L2.out.trans (hl3.mono L2.out.size))
  obtain ⟨g3, c3, rfl, hg3, hr3, hc3, hc3m⟩ := ho3.row (by omega)
  have HE1 := Lib.hid (opN_cat n Y)
  have HE2 := Lib.hid (opE_cat n Y)
  have HZL : Hid (∀ j, cat n Y (M.sum n Y) j < 256) := Lib.hid fun j => by
    unfold cat
    split
    · exact hX j
    · exact M.sum_lt n Y _
  have HZY : Hid (strB n (cat n Y (M.sum n Y)) = strB n Y) := Lib.hid (strB_congr fun j hj => by unfold cat; rw [if_pos hj])
  have HZE : Hid (strB (n + 32) (cat n Y (M.sum n Y)) = strB (n + 32) (cat n Y (M.sum n Y))) := Lib.hid rfl
  have R3 := Lib.hid hr3
  have HC3 := Lib.hid hc3m
  clear hl3 ho3 hr3 L2 hc3m
  have k1 := conv_rd (cap := c) (HX.out.below L3.out (Nat.le_refl _))
  go_wp2_with fail
  clear k1
  refine (docOpen_gen n Y _ hX (by omega)).mono ?_
  rintro e w4 ⟨rfl, hl4⟩
  have L4 := Lib.hid (L3.out.trans (hl4.mono L3.out.size))
  have R4 := Lib.hid (R3.out.new_ hl4)
  clear hl4 L3 R3
  go_wp2_with fail
  refine (open_gen8 A n c w.heap.size Y _ (HX.out.below L4.out (Nat.le_refl _)) hX L4.out.size hnc HC.out hn (HL.out.below L4.out hpos)).mono ?_
  rintro e w5 ⟨⟨v5, rfl, ho5⟩, hl5⟩
  have L5 := Lib.hid (L4.out.trans (hl5.mono L4.out.size))
  have R5 := Lib.hid (R4.out.new_ hl5)
  have O5 := Lib.hid (ho5.base L4.out.size)
  generalize opN n Y = N6 at *
  generalize opE n Y = E6 at *
  clear hl5 L4 R4 ho5
  go_wp2_with fail
  refine (open_gen8 (some ⟨g3, 0, none⟩) (n + 32) c3 (g3 + 1) (cat n Y (M.sum n Y)) _ (R5.out.rdb (fun j _ => HZL.out j) (Nat.lt_succ_self g3)) HZL.out R5.out.lt hc3 HC3.out (by omega) (HL.out.below L5.out hpos)).mono ?_
  rintro e w6 ⟨⟨v6, rfl, ho6⟩, hl6⟩
  rw [HE1.out] at ho6
  rw [HE2.out]
  have L6 := Lib.hid (L5.out.trans (hl6.mono L5.out.size))
  have R6 := Lib.hid (R5.out.new_ hl6)
  have O6 := Lib.hid (O5.out.below hl6 (Nat.le_refl _))
  have P6 := Lib.hid (ho6.base L5.out.size)
  clear hl6 L5 R5 O5 ho6 HE1 HE2
  have HS0 : Hid (RdB w6.drew w.heap.size A n Y ∧ RowG w6.drew g3 (n + 32) (cat n Y (M.sum n Y)) ∧ Own8 w6.drew w.heap.size v5 N6 Y ∧ Own8 w6.drew w.heap.size v6 n (cat n Y (M.sum n Y))) := Lib.hid ⟨HX.out.below L6.out.drew (Nat.le_refl _), R6.out, O6.out, P6.out⟩
  have L6d := Lib.hid L6.out.drew
  go_wp2_with fail
  refine region_anyZ (fun W : World => RdB W w.heap.size A n Y ∧ RowG W g3 (n + 32) (cat n Y (M.sum n Y)) ∧ Own8 W w.heap.size v5 N6 Y ∧ Own8 W w.heap.size v6 n (cat n Y (M.sum n Y))) 32 (by kernel_rfl) ?_
  refine takeG 0 (.move (.tmp 3)) (some 36) none (.slice (some ⟨g3, 0, none⟩) (n + 32) c3) (by kernel_rfl) (by kernel_rfl) (by kernel_rfl) (fun _ _ _ h => h) (fun o w e hS => exec_move w e (by kernel_rfl)) HS0.out ?_
  refine takeG 1 (.convert 22 9 (.tmp 36)) (some 37) none (.string (strB (n + 32) (cat n Y (M.sum n Y)))) (by kernel_rfl) (by kernel_rfl) (by kernel_rfl) (fun _ _ _ h => h) (fun o w e hS => exec_conv (u := .slice (some ⟨g3, 0, none⟩) (n + 32) c3) w e (by kernel_rfl) (hS.2.1.conv (fun j _ => HZL.out j) c3)) HS0.out ?_
  refine takeG 2 (.move (.tmp 0)) (some 38) none (.slice A n c) (by kernel_rfl) (by kernel_rfl) (by kernel_rfl) (fun _ _ _ h => h) (fun o w e hS => exec_move w e (by kernel_rfl)) HS0.out ?_
  refine takeG 3 (.convert 22 9 (.tmp 38)) (some 39) none (.string (strB n Y)) (by kernel_rfl) (by kernel_rfl) (by kernel_rfl) (fun _ _ _ h => h) (fun o w e hS => exec_conv (u := .slice A n c) w e (by kernel_rfl) (conv_rd hS.1)) HS0.out ?_
  refine takeG 4 (.move (.tmp 0)) (some 40) none (.slice A n c) (by kernel_rfl) (by kernel_rfl) (by kernel_rfl) (fun _ _ _ h => h) (fun o w e hS => exec_move w e (by kernel_rfl)) HS0.out ?_
  refine takeG 5 (.convert 22 9 (.tmp 40)) (some 41) none (.string (strB n Y)) (by kernel_rfl) (by kernel_rfl) (by kernel_rfl) (fun _ _ _ h => h) (fun o w e hS => exec_conv (u := .slice A n c) w e (by kernel_rfl) (conv_rd hS.1)) HS0.out ?_
  refine loneG 6 (.call ⟨.value (.func 13), #[(.tmp 41)], #[9]⟩) (some 42) none (by kernel_rfl) (by kernel_rfl) (by kernel_rfl) ?_
  intro o ho hod
  refine wp_callC (f := 13) (args := #[.string (strB n Y)]) (by cases o; cases ho; kernel_rfl) (rsum_any n Y _ hX hn) ?_
  rintro e w7 ⟨rfl, hlq⟩
  refine ⟨.string (strB 32 (M.sum n Y)), rfl, ?_⟩
  rw [hod]
  clear hod ho
  have L7 := Lib.hid (L6d.out.trans (hlq.mono L6d.out.size))
  have HS1 : Hid (RdB w7 w.heap.size A n Y ∧ RowG w7 g3 (n + 32) (cat n Y (M.sum n Y)) ∧ Own8 w7 w.heap.size v5 N6 Y ∧ Own8 w7 w.heap.size v6 n (cat n Y (M.sum n Y))) := Lib.hid ⟨HX.out.below L7.out (Nat.le_refl _), HS0.out.2.1.new_ hlq, HS0.out.2.2.1.below hlq (Nat.le_refl _), HS0.out.2.2.2.below hlq (Nat.le_refl _)⟩
  clear hlq
  refine ⟨fun _ => HS1.out, ?_⟩
  refine takeG 7 (.binOp .add 9 (.tmp 39) (.tmp 42) 9) (some 43) none (.string (strB (n + 32) (cat n Y (M.sum n Y)))) (by kernel_rfl) (by kernel_rfl) (by kernel_rfl) (fun _ _ _ h => h) (fun o w e hS => exec_bin (u1 := .string (strB n Y)) (u2 := .string (strB 32 (M.sum n Y))) w e (by kernel_rfl) (by kernel_rfl) (eqG_str ..) (add_str n 32 Y (M.sum n Y) (by omega) _)) HS1.out ?_
  refine takeG 8 (.binOp .eql 9 (.tmp 37) (.tmp 43) 9) (some 44) none (.bool true) (by kernel_rfl) (by kernel_rfl) (by kernel_rfl) (fun _ _ _ h => h) (fun o w e hS => exec_bin (u1 := .string (strB (n + 32) (cat n Y (M.sum n Y)))) (u2 := .string (strB (n + 32) (cat n Y (M.sum n Y)))) w e (by kernel_rfl) (by kernel_rfl) (eqG_str ..) (eq_str_t _ _ rfl _)) HS1.out ?_
  refine takeG 9 (.move (.tmp 44)) (some 45) none (.bool true) (by kernel_rfl) (by kernel_rfl) (by kernel_rfl) (fun _ _ _ h => h) (fun o w e hS => exec_move w e (by kernel_rfl)) HS1.out ?_
  refine takeG 10 (.move (.tmp 4)) (some 46) (some (9, true)) (.string (strB N6 Y)) (by kernel_rfl) (by kernel_rfl) (by kernel_rfl) (fun _ _ _ h => h) (fun o w e hS => exec_move w e (by kernel_rfl)) HS1.out ?_
  refine takeG 11 (.move (.tmp 6)) (some 47) (some (9, true)) (v5) (by kernel_rfl) (by kernel_rfl) (by kernel_rfl) (fun _ _ _ h => h) (fun o w e hS => exec_move w e (by kernel_rfl)) HS1.out ?_
  refine takeG 12 (.convert 22 9 (.tmp 47)) (some 48) (some (9, true)) (.string (strB N6 Y)) (by kernel_rfl) (by kernel_rfl) (by kernel_rfl) (fun _ _ _ h => h) (fun o w e hS => exec_conv (u := v5) w e (by kernel_rfl) (conv_own hS.2.2.1 hX)) HS1.out ?_
  refine takeG 13 (.binOp .eql 9 (.tmp 46) (.tmp 48) 9) (some 49) (some (9, true)) (.bool true) (by kernel_rfl) (by kernel_rfl) (by kernel_rfl) (fun _ _ _ h => h) (fun o w e hS => exec_bin (u1 := .string (strB N6 Y)) (u2 := .string (strB N6 Y)) w e (by kernel_rfl) (by kernel_rfl) (eqG_str ..) (eq_str_t _ _ rfl _)) HS1.out ?_
  refine takeG 14 (.pick (.tmp 45) (.tmp 49) (.const (Value.bool false))) (some 50) none (.bool true) (by kernel_rfl) (by kernel_rfl) (by kernel_rfl) (fun _ _ _ h => h) (fun o w e hS => exec_pick (b := true) w e (by kernel_rfl) (by kernel_rfl)) HS1.out ?_
  refine takeG 15 (.move (.tmp 50)) (some 51) none (.bool true) (by kernel_rfl) (by kernel_rfl) (by kernel_rfl) (fun _ _ _ h => h) (fun o w e hS => exec_move w e (by kernel_rfl)) HS1.out ?_
  refine takeG 16 (.move (.tmp 5)) (some 52) (some (15, true)) (.int .i64 E6) (by kernel_rfl) (by kernel_rfl) (by kernel_rfl) (fun _ _ _ h => h) (fun o w e hS => exec_move w e (by kernel_rfl)) HS1.out ?_
  refine takeG 17 (.move (.tmp 7)) (some 53) (some (15, true)) (.int .i64 E6) (by kernel_rfl) (by kernel_rfl) (by kernel_rfl) (fun _ _ _ h => h) (fun o w e hS => exec_move w e (by kernel_rfl)) HS1.out ?_
  refine takeG 18 (.binOp .eql 24 (.tmp 52) (.tmp 53) 24) (some 54) (some (15, true)) (.bool true) (by kernel_rfl) (by kernel_rfl) (by kernel_rfl) (fun _ _ _ h => h) (fun o w e hS => exec_bin (u1 := .int .i64 E6) (u2 := .int .i64 E6) w e (by kernel_rfl) (by kernel_rfl) (eqG_int ..) (eq_err_t _ _)) HS1.out ?_
  refine takeG 19 (.pick (.tmp 51) (.tmp 54) (.const (Value.bool false))) (some 55) none (.bool true) (by kernel_rfl) (by kernel_rfl) (by kernel_rfl) (fun _ _ _ h => h) (fun o w e hS => exec_pick (b := true) w e (by kernel_rfl) (by kernel_rfl)) HS1.out ?_
  refine takeG 20 (.move (.tmp 55)) (some 56) none (.bool true) (by kernel_rfl) (by kernel_rfl) (by kernel_rfl) (fun _ _ _ h => h) (fun o w e hS => exec_move w e (by kernel_rfl)) HS1.out ?_
  refine takeG 21 (.move (.tmp 9)) (some 57) (some (20, true)) (.int .i64 0) (by kernel_rfl) (by kernel_rfl) (by kernel_rfl) (fun _ _ _ h => h) (fun o w e hS => exec_move w e (by kernel_rfl)) HS1.out ?_
  refine takeG 22 (.binOp .eql 24 (.tmp 57) (.const (.int .i64 0)) 24) (some 58) (some (20, true)) (.bool true) (by kernel_rfl) (by kernel_rfl) (by kernel_rfl) (fun _ _ _ h => h) (fun o w e hS => exec_bin (u1 := .int .i64 0) (u2 := (.int .i64 0)) w e (by kernel_rfl) (by kernel_rfl) (eqG_int ..) (eq_err_t 0 _)) HS1.out ?_
  refine takeG 23 (.pick (.tmp 56) (.tmp 58) (.const (Value.bool false))) (some 59) none (.bool true) (by kernel_rfl) (by kernel_rfl) (by kernel_rfl) (fun _ _ _ h => h) (fun o w e hS => exec_pick (b := true) w e (by kernel_rfl) (by kernel_rfl)) HS1.out ?_
  refine takeG 24 (.move (.tmp 59)) (some 60) none (.bool true) (by kernel_rfl) (by kernel_rfl) (by kernel_rfl) (fun _ _ _ h => h) (fun o w e hS => exec_move w e (by kernel_rfl)) HS1.out ?_
  refine takeG 25 (.move (.tmp 8)) (some 61) (some (24, true)) (v6) (by kernel_rfl) (by kernel_rfl) (by kernel_rfl) (fun _ _ _ h => h) (fun o w e hS => exec_move w e (by kernel_rfl)) HS1.out ?_
  refine takeG 26 (.convert 22 9 (.tmp 61)) (some 62) (some (24, true)) (.string (strB n (cat n Y (M.sum n Y)))) (by kernel_rfl) (by kernel_rfl) (by kernel_rfl) (fun _ _ _ h => h) (fun o w e hS => exec_conv (u := v6) w e (by kernel_rfl) (conv_own hS.2.2.2 HZL.out)) HS1.out ?_
  refine takeG 27 (.move (.tmp 0)) (some 63) (some (24, true)) (.slice A n c) (by kernel_rfl) (by kernel_rfl) (by kernel_rfl) (fun _ _ _ h => h) (fun o w e hS => exec_move w e (by kernel_rfl)) HS1.out ?_
  refine takeG 28 (.convert 22 9 (.tmp 63)) (some 64) (some (24, true)) (.string (strB n Y)) (by kernel_rfl) (by kernel_rfl) (by kernel_rfl) (fun _ _ _ h => h) (fun o w e hS => exec_conv (u := .slice A n c) w e (by kernel_rfl) (conv_rd hS.1)) HS1.out ?_
  refine takeG 29 (.binOp .eql 9 (.tmp 62) (.tmp 64) 9) (some 65) (some (24, true)) (.bool true) (by kernel_rfl) (by kernel_rfl) (by kernel_rfl) (fun _ _ _ h => h) (fun o w e hS => exec_bin (u1 := .string (strB n (cat n Y (M.sum n Y)))) (u2 := .string (strB n Y)) w e (by kernel_rfl) (by kernel_rfl) (eqG_str ..) (eq_str_t _ _ HZY.out _)) HS1.out ?_
  refine takeG 30 (.pick (.tmp 60) (.tmp 65) (.const (Value.bool false))) (some 66) none (.bool true) (by kernel_rfl) (by kernel_rfl) (by kernel_rfl) (fun _ _ _ h => h) (fun o w e hS => exec_pick (b := true) w e (by kernel_rfl) (by kernel_rfl)) HS1.out ?_
  refine lastS 31 (.assign (.tmp 66)) (some 2) (.bool true) (by kernel_rfl) (by kernel_rfl) (by kernel_rfl) HS1.out (fun o e => exec_assign _ e (by kernel_rfl)) ?_
  simp only [put_some, put_none, List.setIfInBounds_toArray, List.set_cons_succ, List.set_cons_zero]
  go_wp2_with fail
  go_ret
  exact ⟨rfl, L7.out⟩
end shaSeals
end Go.Proofs.YtbgfmlfpohehnaaDoor
