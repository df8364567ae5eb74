/-
  'hoardref04.DocOpen' by a contract. Conditions: bytes are bytes; not too long.
-/
import Derived.Test.YthioanenljpclaaGreatDoorShaRefSum
import Derived.Test.YthioanenljpclaaGreatDoorShaOpenM
namespace Go.Proofs.YthioanenljpclaaGreatDoor
open Go Go.RowKit
set_option maxRecDepth 100000
set_option linter.unusedVariables false

theorem strB_extract (n : Nat) (X : Nat → Nat) (i j : Nat) (hij : i ≤ j) (h : j ≤ n) : (strB n X).extract i j = strB (j - i) (fun t => X (i + t)) := by
  apply ByteArray.ext
  apply Array.toList_inj.1
  rw [ByteArray.data_extract, Array.toList_extract, strB_data, strB_data, List.extract_eq_take_drop]
  apply List.ext_getElem?
  intro t
  by_cases ht : t < j - i
  · rw [List.getElem?_take_of_lt ht, List.getElem?_drop, List.getElem?_map, List.getElem?_map, List.getElem?_range (by omega), List.getElem?_range ht]
    rfl
  · rw [List.getElem?_eq_none (by rw [List.length_take]; omega), List.getElem?_eq_none (by simp; omega)]
theorem slice_strTo (n : Nat) (X : Nat → Nat) (k : Nat) (L : Int) (hL : L = (k : Int)) (h : k ≤ n) (W : World) : (Instr.sliceAt 9 (.string (strB n X)) none (some (.int .i64 L)) none).run Tryz.prog W = .ok (.string (strB k X)) W := by
  subst hL
  have hs := strB_size n X
  have e := strB_extract n X 0 k (Nat.zero_le _) h
  simp only [Nat.sub_zero, Nat.zero_add] at e
  rw [← e, run_sliceAt_string (P := Tryz.prog) (w := W) (h := Tryz.underlying9)]
  simp [go_sem]
  intro h2
  omega
theorem slice_strFr (n : Nat) (X : Nat → Nat) (k : Nat) (L : Int) (hL : L = (k : Int)) (h : k ≤ n) (W : World) : (Instr.sliceAt 9 (.string (strB n X)) (some (.int .i64 L)) none none).run Tryz.prog W = .ok (.string (strB (n - k) (fun t => X (k + t)))) W := by
  subst hL
  have hs := strB_size n X
  have e := strB_extract n X k n h (Nat.le_refl _)
  rw [← e, run_sliceAt_string (P := Tryz.prog) (w := W) (h := Tryz.underlying9)]
  simp [go_sem, hs]
  intro h2
  omega
theorem slice_strFr32 (n : Nat) (X : Nat → Nat) (h : 32 ≤ n) (W : World) : (Instr.sliceAt 9 (.string (strB n X)) (some (.int .i64 ((n - 32 : Nat) : Int))) none none).run Tryz.prog W = .ok (.string (strB 32 (fun j => X (n - 32 + j)))) W := by
  have h1 := slice_strFr n X (n - 32) _ rfl (by omega) W
  rw [show n - (n - 32) = 32 by omega] at h1
  exact h1
theorem len_strB (n : Nat) (X : Nat → Nat) (ty : TypeId) (w : World) : (Builtin.len_ #[9] ty #[.string (strB n X)]).run Tryz.prog w = .ok (.int .i64 (n : Int)) w := by
  have hs := strB_size n X
  simp [Builtin.len_, Builtin.lenOf, goInt, hs]
theorem lss_i64r (x y : Int) (b : Bool) (h : decide (x < y) = b) (w : World) : (binOp .lss 3 (.int .i64 x) (.int .i64 y)).run Tryz.prog w = .ok (.bool b) w := by
  simp [binOp, Op.intCmp, h]
theorem neq_str_run (a b : ByteArray) (w : World) : (binOp .neq 9 (.string a) (.string b)).run Tryz.prog w = .ok (.bool (!(a.toList == b.toList))) w := by
  kernel_rfl
theorem neq_str_f (a b : ByteArray) (h : (a.toList == b.toList) = true) (w : World) : (binOp .neq 9 (.string a) (.string b)).run Tryz.prog w = .ok (.bool false) w := by
  rw [neq_str_run, h]; rfl
theorem neq_str_t (a b : ByteArray) (h : (a.toList == b.toList) = false) (w : World) : (binOp .neq 9 (.string a) (.string b)).run Tryz.prog w = .ok (.bool true) w := by
  rw [neq_str_run, h]; rfl
set_option maxRecDepth 100000 in
set_option maxHeartbeats 1600000 in
theorem docOpen_short (n : Nat) (X : Nat → Nat) (w : World) (hX : ∀ j, X j < 256) (hn : n ≤ 100000) (h32 : n < 32) :
    Calls Tryz.prog 91 #[.string (strB n X)] w fun e w' => e = .returned (.tuple #[.string ⟨#[]⟩, .int .i64 2]) ∧ Below w.heap.size w w' := by
  have hsz : (strB n X).size = n := strB_size n X
  have HX := Lib.hid hX
  have HT : Hid True := Lib.hid trivial
  clear hX
  go_enter Tryz.func91, Tryz.ntmps91
  go_wp2_with fail
  refine region_anyZ (fun _ : World => True) 17 (by kernel_rfl) ?_
  refine takeG 0 (.move (.tmp 0)) (some 4) none (.string (strB n X)) (by kernel_rfl) (by kernel_rfl) (by kernel_rfl) (fun _ _ _ h => h) (fun o wq e hS => exec_move wq e (by kernel_rfl)) HT.out ?_
  refine takeG 1 (.call ⟨.builtin .len, #[(.tmp 4)], #[9]⟩) (some 5) none (.int .i64 (n : Int)) (by kernel_rfl) (by kernel_rfl) (by kernel_rfl) (fun _ _ _ h => h) (fun o wq e hS => exec_len (u := .string (strB n X)) wq e (by kernel_rfl) (len_strB n X _ _)) HT.out ?_
  refine takeG 2 (.binOp .lss 3 (.tmp 5) (.const (.int .i64 32)) 3) (some 6) none (.bool true) (by kernel_rfl) (by kernel_rfl) (by kernel_rfl) (fun _ _ _ h => h) (fun o wq e hS => exec_bin (u1 := .int .i64 (n : Int)) (u2 := (.int .i64 32)) wq e (by kernel_rfl) (by kernel_rfl) (eqG_int ..) (lss_i64r (n : Int) 32 true (by simp; omega) _)) HT.out ?_
  refine takeG 3 (.move (.tmp 6)) (some 7) none (.bool true) (by kernel_rfl) (by kernel_rfl) (by kernel_rfl) (fun _ _ _ h => h) (fun o wq e hS => exec_move wq e (by kernel_rfl)) HT.out ?_
  refine takeSkip 4 (.move (.tmp 0)) (some 8) (some (3, false)) (by kernel_rfl) (by kernel_rfl) (by kernel_rfl) (fun _ _ _ h => h) HT.out ?_
  refine takeSkip 5 (.move (.tmp 0)) (some 9) (some (3, false)) (by kernel_rfl) (by kernel_rfl) (by kernel_rfl) (fun _ _ _ h => h) HT.out ?_
  refine takeSkip 6 (.call ⟨.builtin .len, #[(.tmp 9)], #[9]⟩) (some 10) (some (3, false)) (by kernel_rfl) (by kernel_rfl) (by kernel_rfl) (fun _ _ _ h => h) HT.out ?_
  refine takeSkip 7 (.binOp .sub 3 (.tmp 10) (.const (.int .i64 32)) 3) (some 11) (some (3, false)) (by kernel_rfl) (by kernel_rfl) (by kernel_rfl) (fun _ _ _ h => h) HT.out ?_
  refine takeSkip 8 (.slice 9 (.tmp 8) .none (.some (.tmp 11)) .none) (some 12) (some (3, false)) (by kernel_rfl) (by kernel_rfl) (by kernel_rfl) (fun _ _ _ h => h) HT.out ?_
  refine takeSkip 9 (.call ⟨.value (.func 63), #[(.tmp 12)], #[9]⟩) (some 13) (some (3, false)) (by kernel_rfl) (by kernel_rfl) (by kernel_rfl) (fun _ _ _ h => h) HT.out ?_
  refine takeSkip 10 (.move (.tmp 0)) (some 14) (some (3, false)) (by kernel_rfl) (by kernel_rfl) (by kernel_rfl) (fun _ _ _ h => h) HT.out ?_
  refine takeSkip 11 (.move (.tmp 0)) (some 15) (some (3, false)) (by kernel_rfl) (by kernel_rfl) (by kernel_rfl) (fun _ _ _ h => h) HT.out ?_
  refine takeSkip 12 (.call ⟨.builtin .len, #[(.tmp 15)], #[9]⟩) (some 16) (some (3, false)) (by kernel_rfl) (by kernel_rfl) (by kernel_rfl) (fun _ _ _ h => h) HT.out ?_
  refine takeSkip 13 (.binOp .sub 3 (.tmp 16) (.const (.int .i64 32)) 3) (some 17) (some (3, false)) (by kernel_rfl) (by kernel_rfl) (by kernel_rfl) (fun _ _ _ h => h) HT.out ?_
  refine takeSkip 14 (.slice 9 (.tmp 14) (.some (.tmp 17)) .none .none) (some 18) (some (3, false)) (by kernel_rfl) (by kernel_rfl) (by kernel_rfl) (fun _ _ _ h => h) HT.out ?_
  refine takeSkip 15 (.binOp .neq 9 (.tmp 13) (.tmp 18) 9) (some 19) (some (3, false)) (by kernel_rfl) (by kernel_rfl) (by kernel_rfl) (fun _ _ _ h => h) HT.out ?_
  refine lastS 16 (.pick (.tmp 7) (.const (.bool true)) (.tmp 19)) (some 20) (.bool true) (by kernel_rfl) (by kernel_rfl) (by kernel_rfl) HT.out (fun o e => exec_pick (b := true) _ e (by kernel_rfl) (by kernel_rfl)) ?_
  simp only [put_some, put_none, List.setIfInBounds_toArray, List.set_cons_succ, List.set_cons_zero]
  have L1 : Hid (Below w.heap.size w w.drew) := Lib.hid (Below.refl _ _).drew
  go_wp2_with fail
  go_ret2
  exact ⟨rfl, L1.out⟩

set_option maxRecDepth 100000 in
set_option maxHeartbeats 1600000 in
theorem docOpen_yes (n : Nat) (X : Nat → Nat) (w : World) (hX : ∀ j, X j < 256) (hn : n ≤ 100000) (h32 : 32 ≤ n) (hs : sealed n X) :
    Calls Tryz.prog 91 #[.string (strB n X)] w fun e w' => e = .returned (.tuple #[.string (strB (n - 32) X), .int .i64 0]) ∧ Below w.heap.size w w' := by
  have hsz : (strB n X).size = n := strB_size n X
  have HX := Lib.hid hX
  have HT : Hid True := Lib.hid trivial
  have HQ : Hid (((strB 32 (M.sum (n - 32) X)).toList == (strB 32 fun j => X (n - 32 + j)).toList) = true) := Lib.hid ((strB_eq_iff (fun j _ => M.sum_lt _ _ j) (fun j _ => hX _)).2 hs)
  have HSL := slice_strTo n X (n - 32) ((n : Int) - 32) (by omega) (by omega)
  clear hX hs
  go_enter Tryz.func91, Tryz.ntmps91
  go_wp2_with fail
  refine region_anyZ (fun _ : World => True) 17 (by kernel_rfl) ?_
  refine takeG 0 (.move (.tmp 0)) (some 4) none (.string (strB n X)) (by kernel_rfl) (by kernel_rfl) (by kernel_rfl) (fun _ _ _ h => h) (fun o wq e hS => exec_move wq e (by kernel_rfl)) HT.out ?_
  refine takeG 1 (.call ⟨.builtin .len, #[(.tmp 4)], #[9]⟩) (some 5) none (.int .i64 (n : Int)) (by kernel_rfl) (by kernel_rfl) (by kernel_rfl) (fun _ _ _ h => h) (fun o wq e hS => exec_len (u := .string (strB n X)) wq e (by kernel_rfl) (len_strB n X _ _)) HT.out ?_
  refine takeG 2 (.binOp .lss 3 (.tmp 5) (.const (.int .i64 32)) 3) (some 6) none (.bool false) (by kernel_rfl) (by kernel_rfl) (by kernel_rfl) (fun _ _ _ h => h) (fun o wq e hS => exec_bin (u1 := .int .i64 (n : Int)) (u2 := (.int .i64 32)) wq e (by kernel_rfl) (by kernel_rfl) (eqG_int ..) (lss_i64r (n : Int) 32 false (by simp; omega) _)) HT.out ?_
  refine takeG 3 (.move (.tmp 6)) (some 7) none (.bool false) (by kernel_rfl) (by kernel_rfl) (by kernel_rfl) (fun _ _ _ h => h) (fun o wq e hS => exec_move wq e (by kernel_rfl)) HT.out ?_
  refine takeG 4 (.move (.tmp 0)) (some 8) (some (3, false)) (.string (strB n X)) (by kernel_rfl) (by kernel_rfl) (by kernel_rfl) (fun _ _ _ h => h) (fun o wq e hS => exec_move wq e (by kernel_rfl)) HT.out ?_
  refine takeG 5 (.move (.tmp 0)) (some 9) (some (3, false)) (.string (strB n X)) (by kernel_rfl) (by kernel_rfl) (by kernel_rfl) (fun _ _ _ h => h) (fun o wq e hS => exec_move wq e (by kernel_rfl)) HT.out ?_
  refine takeG 6 (.call ⟨.builtin .len, #[(.tmp 9)], #[9]⟩) (some 10) (some (3, false)) (.int .i64 (n : Int)) (by kernel_rfl) (by kernel_rfl) (by kernel_rfl) (fun _ _ _ h => h) (fun o wq e hS => exec_len (u := .string (strB n X)) wq e (by kernel_rfl) (len_strB n X _ _)) HT.out ?_
  refine takeG 7 (.binOp .sub 3 (.tmp 10) (.const (.int .i64 32)) 3) (some 11) (some (3, false)) (.int .i64 ((n - 32 : Nat) : Int)) (by kernel_rfl) (by kernel_rfl) (by kernel_rfl) (fun _ _ _ h => h) (fun o wq e hS => exec_bin (u1 := .int .i64 (n : Int)) (u2 := (.int .i64 32)) wq e (by kernel_rfl) (by kernel_rfl) (eqG_int ..) (sub_i64r n 32 32 rfl h32 (by omega) _)) HT.out ?_
  refine takeG 8 (.slice 9 (.tmp 8) .none (.some (.tmp 11)) .none) (some 12) (some (3, false)) (.string (strB (n - 32) X)) (by kernel_rfl) (by kernel_rfl) (by kernel_rfl) (fun _ _ _ h => h) (fun o wq e hS => exec_slice (u := .string (strB n X)) wq e (by kernel_rfl) (by kernel_rfl) (by kernel_rfl) (by kernel_rfl) (slice_strTo n X (n - 32) _ rfl (by omega) _)) HT.out ?_
  refine takeG 10 (.move (.tmp 0)) (some 14) (some (3, false)) (.string (strB n X)) (by kernel_rfl) (by kernel_rfl) (by kernel_rfl) (fun _ _ _ h => h) (fun o wq e hS => exec_move wq e (by kernel_rfl)) HT.out ?_
  refine takeG 11 (.move (.tmp 0)) (some 15) (some (3, false)) (.string (strB n X)) (by kernel_rfl) (by kernel_rfl) (by kernel_rfl) (fun _ _ _ h => h) (fun o wq e hS => exec_move wq e (by kernel_rfl)) HT.out ?_
  refine takeG 12 (.call ⟨.builtin .len, #[(.tmp 15)], #[9]⟩) (some 16) (some (3, false)) (.int .i64 (n : Int)) (by kernel_rfl) (by kernel_rfl) (by kernel_rfl) (fun _ _ _ h => h) (fun o wq e hS => exec_len (u := .string (strB n X)) wq e (by kernel_rfl) (len_strB n X _ _)) HT.out ?_
  refine takeG 13 (.binOp .sub 3 (.tmp 16) (.const (.int .i64 32)) 3) (some 17) (some (3, false)) (.int .i64 ((n - 32 : Nat) : Int)) (by kernel_rfl) (by kernel_rfl) (by kernel_rfl) (fun _ _ _ h => h) (fun o wq e hS => exec_bin (u1 := .int .i64 (n : Int)) (u2 := (.int .i64 32)) wq e (by kernel_rfl) (by kernel_rfl) (eqG_int ..) (sub_i64r n 32 32 rfl h32 (by omega) _)) HT.out ?_
  refine takeG 14 (.slice 9 (.tmp 14) (.some (.tmp 17)) .none .none) (some 18) (some (3, false)) (.string (strB 32 (fun j => X (n - 32 + j)))) (by kernel_rfl) (by kernel_rfl) (by kernel_rfl) (fun _ _ _ h => h) (fun o wq e hS => exec_slice (u := .string (strB n X)) wq e (by kernel_rfl) (by kernel_rfl) (by kernel_rfl) (by kernel_rfl) (slice_strFr32 n X h32 _)) HT.out ?_
  refine loneG 9 (.call ⟨.value (.func 63), #[(.tmp 12)], #[9]⟩) (some 13) (some (3, false)) (by kernel_rfl) (by kernel_rfl) (by kernel_rfl) ?_
  intro o ho hod
  refine wp_callC (f := 63) (args := #[.string (strB (n - 32) X)]) (by cases o; cases ho; kernel_rfl) (rsum_any (n - 32) X _ HX.out (by omega)) ?_
  rintro e w1 ⟨rfl, hl1⟩
  refine ⟨.string (strB 32 (M.sum (n - 32) X)), rfl, ?_⟩
  rw [hod]
  clear hod ho
  have L1 : Hid (Below w.heap.size w w1) := Lib.hid ⟨hl1.os, hl1.tape, hl1.output, hl1.size, hl1.block⟩
  clear hl1
  refine ⟨fun _ => trivial, ?_⟩
  refine takeG 15 (.binOp .neq 9 (.tmp 13) (.tmp 18) 9) (some 19) (some (3, false)) (.bool false) (by kernel_rfl) (by kernel_rfl) (by kernel_rfl) (fun _ _ _ h => h) (fun o wq e hS => exec_bin (u1 := .string (strB 32 (M.sum (n - 32) X))) (u2 := .string (strB 32 (fun j => X (n - 32 + j)))) wq e (by kernel_rfl) (by kernel_rfl) (eqG_str ..) (neq_str_f _ _ HQ.out _)) HT.out ?_
  refine lastS 16 (.pick (.tmp 7) (.const (.bool true)) (.tmp 19)) (some 20) (.bool false) (by kernel_rfl) (by kernel_rfl) (by kernel_rfl) HT.out (fun o e => exec_pick (b := false) _ e (by kernel_rfl) (by kernel_rfl)) ?_
  simp only [put_some, put_none, List.setIfInBounds_toArray, List.set_cons_succ, List.set_cons_zero]
  go_wp2_with fail
  go_ret2
  exact ⟨rfl, L1.out⟩

set_option maxRecDepth 100000 in
set_option maxHeartbeats 1600000 in
theorem docOpen_no (n : Nat) (X : Nat → Nat) (w : World) (hX : ∀ j, X j < 256) (hn : n ≤ 100000) (h32 : 32 ≤ n) (hs : ¬ sealed n X) :
    Calls Tryz.prog 91 #[.string (strB n X)] w fun e w' => e = .returned (.tuple #[.string ⟨#[]⟩, .int .i64 2]) ∧ Below w.heap.size w w' := by
  have hsz : (strB n X).size = n := strB_size n X
  have HX := Lib.hid hX
  have HT : Hid True := Lib.hid trivial
  have HQ : Hid (((strB 32 (M.sum (n - 32) X)).toList == (strB 32 fun j => X (n - 32 + j)).toList) = false) := Lib.hid (Bool.eq_false_iff.2 fun h => hs ((strB_eq_iff (fun j _ => M.sum_lt _ _ j) (fun j _ => hX _)).1 h))
  have HSL := slice_strTo n X (n - 32) ((n : Int) - 32) (by omega) (by omega)
  clear hX hs
  go_enter Tryz.func91, Tryz.ntmps91
  go_wp2_with fail
  refine region_anyZ (fun _ : World => True) 17 (by kernel_rfl) ?_
  refine takeG 0 (.move (.tmp 0)) (some 4) none (.string (strB n X)) (by kernel_rfl) (by kernel_rfl) (by kernel_rfl) (fun _ _ _ h => h) (fun o wq e hS => exec_move wq e (by kernel_rfl)) HT.out ?_
  refine takeG 1 (.call ⟨.builtin .len, #[(.tmp 4)], #[9]⟩) (some 5) none (.int .i64 (n : Int)) (by kernel_rfl) (by kernel_rfl) (by kernel_rfl) (fun _ _ _ h => h) (fun o wq e hS => exec_len (u := .string (strB n X)) wq e (by kernel_rfl) (len_strB n X _ _)) HT.out ?_
  refine takeG 2 (.binOp .lss 3 (.tmp 5) (.const (.int .i64 32)) 3) (some 6) none (.bool false) (by kernel_rfl) (by kernel_rfl) (by kernel_rfl) (fun _ _ _ h => h) (fun o wq e hS => exec_bin (u1 := .int .i64 (n : Int)) (u2 := (.int .i64 32)) wq e (by kernel_rfl) (by kernel_rfl) (eqG_int ..) (lss_i64r (n : Int) 32 false (by simp; omega) _)) HT.out ?_
  refine takeG 3 (.move (.tmp 6)) (some 7) none (.bool false) (by kernel_rfl) (by kernel_rfl) (by kernel_rfl) (fun _ _ _ h => h) (fun o wq e hS => exec_move wq e (by kernel_rfl)) HT.out ?_
  refine takeG 4 (.move (.tmp 0)) (some 8) (some (3, false)) (.string (strB n X)) (by kernel_rfl) (by kernel_rfl) (by kernel_rfl) (fun _ _ _ h => h) (fun o wq e hS => exec_move wq e (by kernel_rfl)) HT.out ?_
  refine takeG 5 (.move (.tmp 0)) (some 9) (some (3, false)) (.string (strB n X)) (by kernel_rfl) (by kernel_rfl) (by kernel_rfl) (fun _ _ _ h => h) (fun o wq e hS => exec_move wq e (by kernel_rfl)) HT.out ?_
  refine takeG 6 (.call ⟨.builtin .len, #[(.tmp 9)], #[9]⟩) (some 10) (some (3, false)) (.int .i64 (n : Int)) (by kernel_rfl) (by kernel_rfl) (by kernel_rfl) (fun _ _ _ h => h) (fun o wq e hS => exec_len (u := .string (strB n X)) wq e (by kernel_rfl) (len_strB n X _ _)) HT.out ?_
  refine takeG 7 (.binOp .sub 3 (.tmp 10) (.const (.int .i64 32)) 3) (some 11) (some (3, false)) (.int .i64 ((n - 32 : Nat) : Int)) (by kernel_rfl) (by kernel_rfl) (by kernel_rfl) (fun _ _ _ h => h) (fun o wq e hS => exec_bin (u1 := .int .i64 (n : Int)) (u2 := (.int .i64 32)) wq e (by kernel_rfl) (by kernel_rfl) (eqG_int ..) (sub_i64r n 32 32 rfl h32 (by omega) _)) HT.out ?_
  refine takeG 8 (.slice 9 (.tmp 8) .none (.some (.tmp 11)) .none) (some 12) (some (3, false)) (.string (strB (n - 32) X)) (by kernel_rfl) (by kernel_rfl) (by kernel_rfl) (fun _ _ _ h => h) (fun o wq e hS => exec_slice (u := .string (strB n X)) wq e (by kernel_rfl) (by kernel_rfl) (by kernel_rfl) (by kernel_rfl) (slice_strTo n X (n - 32) _ rfl (by omega) _)) HT.out ?_
  refine takeG 10 (.move (.tmp 0)) (some 14) (some (3, false)) (.string (strB n X)) (by kernel_rfl) (by kernel_rfl) (by kernel_rfl) (fun _ _ _ h => h) (fun o wq e hS => exec_move wq e (by kernel_rfl)) HT.out ?_
  refine takeG 11 (.move (.tmp 0)) (some 15) (some (3, false)) (.string (strB n X)) (by kernel_rfl) (by kernel_rfl) (by kernel_rfl) (fun _ _ _ h => h) (fun o wq e hS => exec_move wq e (by kernel_rfl)) HT.out ?_
  refine takeG 12 (.call ⟨.builtin .len, #[(.tmp 15)], #[9]⟩) (some 16) (some (3, false)) (.int .i64 (n : Int)) (by kernel_rfl) (by kernel_rfl) (by kernel_rfl) (fun _ _ _ h => h) (fun o wq e hS => exec_len (u := .string (strB n X)) wq e (by kernel_rfl) (len_strB n X _ _)) HT.out ?_
  refine takeG 13 (.binOp .sub 3 (.tmp 16) (.const (.int .i64 32)) 3) (some 17) (some (3, false)) (.int .i64 ((n - 32 : Nat) : Int)) (by kernel_rfl) (by kernel_rfl) (by kernel_rfl) (fun _ _ _ h => h) (fun o wq e hS => exec_bin (u1 := .int .i64 (n : Int)) (u2 := (.int .i64 32)) wq e (by kernel_rfl) (by kernel_rfl) (eqG_int ..) (sub_i64r n 32 32 rfl h32 (by omega) _)) HT.out ?_
  refine takeG 14 (.slice 9 (.tmp 14) (.some (.tmp 17)) .none .none) (some 18) (some (3, false)) (.string (strB 32 (fun j => X (n - 32 + j)))) (by kernel_rfl) (by kernel_rfl) (by kernel_rfl) (fun _ _ _ h => h) (fun o wq e hS => exec_slice (u := .string (strB n X)) wq e (by kernel_rfl) (by kernel_rfl) (by kernel_rfl) (by kernel_rfl) (slice_strFr32 n X h32 _)) HT.out ?_
  refine loneG 9 (.call ⟨.value (.func 63), #[(.tmp 12)], #[9]⟩) (some 13) (some (3, false)) (by kernel_rfl) (by kernel_rfl) (by kernel_rfl) ?_
  intro o ho hod
  refine wp_callC (f := 63) (args := #[.string (strB (n - 32) X)]) (by cases o; cases ho; kernel_rfl) (rsum_any (n - 32) X _ HX.out (by omega)) ?_
  rintro e w1 ⟨rfl, hl1⟩
  refine ⟨.string (strB 32 (M.sum (n - 32) X)), rfl, ?_⟩
  rw [hod]
  clear hod ho
  have L1 : Hid (Below w.heap.size w w1) := Lib.hid ⟨hl1.os, hl1.tape, hl1.output, hl1.size, hl1.block⟩
  clear hl1
  refine ⟨fun _ => trivial, ?_⟩
  refine takeG 15 (.binOp .neq 9 (.tmp 13) (.tmp 18) 9) (some 19) (some (3, false)) (.bool true) (by kernel_rfl) (by kernel_rfl) (by kernel_rfl) (fun _ _ _ h => h) (fun o wq e hS => exec_bin (u1 := .string (strB 32 (M.sum (n - 32) X))) (u2 := .string (strB 32 (fun j => X (n - 32 + j)))) wq e (by kernel_rfl) (by kernel_rfl) (eqG_str ..) (neq_str_t _ _ HQ.out _)) HT.out ?_
  refine lastS 16 (.pick (.tmp 7) (.const (.bool true)) (.tmp 19)) (some 20) (.bool true) (by kernel_rfl) (by kernel_rfl) (by kernel_rfl) HT.out (fun o e => exec_pick (b := false) _ e (by kernel_rfl) (by kernel_rfl)) ?_
  simp only [put_some, put_none, List.setIfInBounds_toArray, List.set_cons_succ, List.set_cons_zero]
  go_wp2_with fail
  go_ret2
  exact ⟨rfl, L1.out⟩
end Go.Proofs.YthioanenljpclaaGreatDoor
