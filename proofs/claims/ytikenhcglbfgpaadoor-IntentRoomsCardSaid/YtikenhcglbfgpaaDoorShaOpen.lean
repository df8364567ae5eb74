/-
  'sha.Open' by contracts. Conditions: the table of roots reads as it was laid; fewer than 2^40 bytes.
-/
import Derived.Test.YtikenhcglbfgpaaDoorShaSealM
import Derived.Test.YtikenhcglbfgpaaDoorPackBothM
namespace Go.Proofs.YtikenhcglbfgpaaDoor
set_option maxRecDepth 100000
open Go Go.RowKit
set_option linter.unusedVariables false

theorem slice_to (A : Option Addr) (n c hi : Nat) (H : Int) (hH : H = (hi : Int)) (h : hi ≤ c) (w : World) :
    (Instr.sliceAt 38 (.slice A n c) none (some (.int .i64 H)) none).run Tryd.prog w = .ok (.slice (subA A c 0) hi c) w := by
  subst hH
  have hu : Tryd.prog.underlying 38 = some (.slice (Tryd.prog.elem 38)) := by kernel_rfl
  have he : Tryd.prog.elem 38 = 5 := by kernel_rfl
  rw [run_sliceAt_slice (P := Tryd.prog) (w := w) (h := hu), run_slice_h (P := Tryd.prog) (w := w) 38 A n c hu .i64 (hi : Int) (by omega) (by omega), he, sizeOf_u8]
  simp [sliced, subA]
/-- what a seal must be -/
def sealed (n : Nat) (X : Nat → Nat) : Prop := ∀ j, j < 32 → M.sum (n - 32) X j = X (n - 32 + j)
theorem strB_eq_iff {n : Nat} {X Y : Nat → Nat} (hX : ∀ j, j < n → X j < 256) (hY : ∀ j, j < n → Y j < 256) : ((strB n X).toList == (strB n Y).toList) = true ↔ ∀ j, j < n → X j = Y j := by
  rw [beq_iff_eq]
  constructor
  · intro h
    exact (strB_inj hX hY h).2
  · intro h
    rw [strB_congr h]
theorem not_bang {b : Bool} (h : ¬ b = true) : (!b) = true := by cases b <;> simp_all
set_option maxRecDepth 100000 in
set_option maxHeartbeats 1600000 in
theorem open_short (A : Option Addr) (n c : Nat) (w : World) (hn : n < 32) :
    Calls Tryd.prog 41 #[.slice A n c] w fun e w' => e = .returned (.tuple #[.slice none 0 0, .int .i64 2]) ∧ Below w.heap.size w w' := by
  have a1 : IntKind.i64.wrap ((n : Int) - 32) = (n : Int) - 32 := by rw [IntKind.wrap_i64]; omega
  have t1 : decide ((n : Int) - 32 < 0) = true := by simp; omega
  have t2 : (n : Int) < 32 := by omega
  go_enter Tryd.func41, Tryd.ntmps41
  go_wp2_with fail
  go_quiet (fail)
  have L1 : Hid (Below w.heap.size w (w.drewN nq)) := Lib.hid (below_drewN (Below.refl _ _) nq)
  go_wp2_with fail
  go_ret2
  exact ⟨rfl, L1.out⟩

set_option maxRecDepth 100000 in
set_option maxHeartbeats 1600000 in
theorem open_yes (A : Option Addr) (n c B : Nat) (X : Nat → Nat) (w : World) (hx : RdB w B A n X) (hX : ∀ j, X j < 256) (hB : B ≤ w.heap.size) (hnc : n ≤ c) (hcm : c ≤ maxLen) (hn : n ≤ 1099511627776) (hl : Laid w) (h32 : 32 ≤ n) (hs : sealed n X) :
    Calls Tryd.prog 41 #[.slice A n c] w fun e w' => (∃ v, e = .returned (.tuple #[v, .int .i64 0]) ∧ Own8 w' w.heap.size v (n - 32) X) ∧ Below w.heap.size w w' := by
  obtain ⟨m, hm⟩ : ∃ m, m = n - 32 := ⟨_, rfl⟩
  have HC := Lib.hid hcm
  have HL : Hid (Laid w.drew) := Lib.hid hl
  have HNEG : Hid (∀ w0 : World, (binOp .lss 3 (.int .i64 ((m : Nat) : Int)) (.int .i64 0)).run Tryd.prog w0 = .ok (.bool false) w0) := fun w0 => by
    have : decide (((m : Nat) : Int) < 0) = false := by simp
    simp [binOp, Op.intCmp, this]
  have HSL1 : Hid (∀ w0, (Instr.sliceAt 38 (.slice A n c) none (some (.int .i64 ((m : Nat) : Int))) none).run Tryd.prog w0 = .ok (.slice (subA A c 0) m c) w0) := fun w0 => slice_to A n c m _ rfl (by omega) w0
  have HSL2 : Hid (∀ w0, (Instr.sliceAt 38 (.slice A n c) (some (.int .i64 ((m : Nat) : Int))) none none).run Tryd.prog w0 = .ok (.slice (subA A c m) 32 (c - m)) w0) := fun w0 => by
    have := slice_from A n c m _ rfl (by omega) w0
    rw [show n - m = 32 by omega] at this
    exact this
  have hr1 := hx.sub (lo := 0) hnc
  rw [Nat.sub_zero] at hr1
  have HR1 : Hid (RdB w.drew B (subA A c 0) m X) := Lib.hid (fun j hj => by
    have := hr1 j (by omega)
    simp only [Nat.zero_add] at this
    exact this)
  have hr2 := hx.sub (lo := m) hnc
  rw [show n - m = 32 by omega] at hr2
  have HS : Hid (RdB w.drew B (subA A c m) 32 (fun j => X (m + j))) := Lib.hid hr2
  have HEQ : Hid ((!((strB 32 (M.sum m X)).toList == (strB 32 (fun j => X (m + j))).toList)) = false) := by
    have h := strB_eq_iff (n := 32) (X := M.sum m X) (Y := fun j => X (m + j)) (fun j _ => M.sum_lt m X j) (fun j _ => hX _)
    unfold sealed at hs
    rw [← hm] at hs
    show _ = _
    rw [h.2 hs]
    rfl
  have hmc : m ≤ c := by omega
  have hm40 : m ≤ 1099511627776 := by omega
  have HXA := Lib.hid hx
  have a1 : IntKind.i64.wrap ((n : Int) - 32) = ((m : Nat) : Int) := by rw [IntKind.wrap_i64]; omega
  have a2 : (n : Int) - 32 = ((m : Nat) : Int) := by omega
  have HMN : Hid (m = n - 32) := Lib.hid hm
  clear hx hl hcm hs hr1 hr2 hm
  go_enter Tryd.func41, Tryd.ntmps41
  go_wp2_with fail
  refine region_anyZ (fun w => RdB w B (subA A c m) 32 (fun j => X (m + j))) 13 (by kernel_rfl) ?_
  refine takeG 0 (.move (.tmp 4)) (some 9) none (.int .i64 ((m : Nat) : Int)) (by kernel_rfl) (by kernel_rfl) (by kernel_rfl) (fun _ _ _ h => h) (fun o w e hS => exec_move w e (by kernel_rfl)) HS.out ?_
  refine takeG 1 (.binOp .lss 3 (.tmp 9) (.const (.int .i64 0)) 3) (some 10) none (.bool false) (by kernel_rfl) (by kernel_rfl) (by kernel_rfl) (fun _ _ _ h => h) (fun o w e hS => exec_bin (u1 := .int .i64 ((m : Nat) : Int)) (u2 := (.int .i64 0)) w e (by kernel_rfl) (by kernel_rfl) (eqG_int ..) (HNEG.out _)) HS.out ?_
  refine takeG 2 (.move (.tmp 10)) (some 11) none (.bool false) (by kernel_rfl) (by kernel_rfl) (by kernel_rfl) (fun _ _ _ h => h) (fun o w e hS => exec_move w e (by kernel_rfl)) HS.out ?_
  refine takeG 3 (.move (.tmp 0)) (some 12) (some (2, false)) (.slice A n c) (by kernel_rfl) (by kernel_rfl) (by kernel_rfl) (fun _ _ _ h => h) (fun o w e hS => exec_move w e (by kernel_rfl)) HS.out ?_
  refine takeG 4 (.move (.tmp 4)) (some 13) (some (2, false)) (.int .i64 ((m : Nat) : Int)) (by kernel_rfl) (by kernel_rfl) (by kernel_rfl) (fun _ _ _ h => h) (fun o w e hS => exec_move w e (by kernel_rfl)) HS.out ?_
  refine takeG 5 (.slice 38 (.tmp 12) .none (.some (.tmp 13)) .none) (some 14) (some (2, false)) (.slice (subA A c 0) m c) (by kernel_rfl) (by kernel_rfl) (by kernel_rfl) (fun _ _ _ h => h) (fun o w e hS => exec_slice (u := .slice A n c) w e (by kernel_rfl) (by kernel_rfl) (by kernel_rfl) (by kernel_rfl) (HSL1.out _)) HS.out ?_
  refine takeG 7 (.move (.tmp 0)) (some 16) (some (2, false)) (.slice A n c) (by kernel_rfl) (by kernel_rfl) (by kernel_rfl) (fun _ _ _ h => h) (fun o w e hS => exec_move w e (by kernel_rfl)) HS.out ?_
  refine takeG 8 (.move (.tmp 4)) (some 17) (some (2, false)) (.int .i64 ((m : Nat) : Int)) (by kernel_rfl) (by kernel_rfl) (by kernel_rfl) (fun _ _ _ h => h) (fun o w e hS => exec_move w e (by kernel_rfl)) HS.out ?_
  refine takeG 9 (.slice 38 (.tmp 16) (.some (.tmp 17)) .none .none) (some 18) (some (2, false)) (.slice (subA A c m) 32 (c - m)) (by kernel_rfl) (by kernel_rfl) (by kernel_rfl) (fun _ _ _ h => h) (fun o w e hS => exec_slice (u := .slice A n c) w e (by kernel_rfl) (by kernel_rfl) (by kernel_rfl) (by kernel_rfl) (HSL2.out _)) HS.out ?_
  refine takeG 10 (.convert 38 9 (.tmp 18)) (some 19) (some (2, false)) (.string (strB 32 (fun j => X (m + j)))) (by kernel_rfl) (by kernel_rfl) (by kernel_rfl) (fun _ _ _ h => h) (fun o w e hS => exec_conv (u := .slice (subA A c m) 32 (c - m)) w e (by kernel_rfl) (conv_rd hS)) HS.out ?_
  refine loneG 6 (.call ⟨.value (.func 46), #[(.tmp 14)], #[38]⟩) (some 15) (some (2, false)) (by kernel_rfl) (by kernel_rfl) (by kernel_rfl) ?_
  intro o ho hod
  refine wp_callC (f := 46) (args := #[.slice (subA A c 0) m c]) (by cases o; cases ho; kernel_rfl) (sum_any (subA A c 0) m c B X _ HR1.out hX hB hmc HC.out hm40 HL.out) ?_
  rintro e w1 ⟨rfl, hl1⟩
  refine ⟨.string (strB 32 (M.sum m X)), rfl, ?_⟩
  rw [hod]
  clear hod ho
  have HT : Hid (RdB w1 B (subA A c m) 32 (fun j => X (m + j))) := Lib.hid (HS.out.below hl1 hB)
  have L1 : Hid (Below w.heap.size w w1) := Lib.hid ((Below.refl w.heap.size w).drew.trans hl1)
  clear hl1 HS
  refine ⟨fun _ => HT.out, ?_⟩
  refine loneG 11 (.binOp .neq 9 (.tmp 15) (.tmp 19) 9) (some 20) (some (2, false)) (by kernel_rfl) (by kernel_rfl) (by kernel_rfl) ?_
  intro o ho hod
  refine wp_val (v := .bool false) (exec_bin (u1 := .string (strB 32 (M.sum m X))) (u2 := .string (strB 32 (fun j => X (m + j)))) _ ho (by kernel_rfl) (by kernel_rfl) (eqG_str ..) (by rw [ne_str, HEQ.out])) ?_
  rw [hod]
  clear hod ho
  refine ⟨fun _ => HT.out, ?_⟩
  refine lastS 12 (.pick (.tmp 11) (.const (Value.bool true)) (.tmp 20)) (some 21) (.bool false) (by kernel_rfl) (by kernel_rfl) (by kernel_rfl) HT.out (fun o e => exec_pick (b := false) _ e (by kernel_rfl) (by kernel_rfl)) ?_
  simp only [put_some, put_none, List.setIfInBounds_toArray, List.set_cons_succ, List.set_cons_zero]
  have hmk := fun W => make_long m (by omega) W ((m : Nat) : Int) rfl
  have B2 : Hid (Blk (w1.alloc (.cells (rowArr m fun _ => 0) 5)) w1.heap.size 5 (rowArr m fun _ => 0)) := Lib.hid (Blk.new _ _ _)
  have L2 : Hid (Below w.heap.size w (w1.alloc (.cells (rowArr m fun _ => 0) 5))) := Lib.hid (L1.out.alloc L1.out.size _)
  have HXW := Lib.hid (HXA.out.below L2.out hB)
  have hz1 := L1.out.size
  go_wp2_with ((with_reducible refine wpList_copyFull rfl (.tmp 24) (.tmp 25) _ _ rfl Tryd.underlying38 w1.heap.size m n c B A rfl rfl (fun _ => 0) X B2.out HXW.out (by omega) ?_); intro w3 hb3 ho3 hs3; refine of_hid ?_)
  refine Lib.hid ?_
  have O3 : Hid (Own8 w3 w.heap.size (.slice (some ⟨w1.heap.size, 0, none⟩) m m) m X) := Lib.hid (Own8.of_blk hb3 hz1 (Nat.le_refl _) (by unfold maxLen; omega))
  have L3 := Lib.hid (L2.out.trans (ho3.below hz1 (by have := L2.out.size; simpa using this)))
  clear hb3 ho3 hs3 B2 L2
  go_wp2_with fail
  go_ret2
  rw [← HMN.out]
  exact ⟨⟨_, rfl, O3.out⟩, L3.out⟩

set_option maxRecDepth 100000 in
set_option maxHeartbeats 1600000 in
theorem open_no (A : Option Addr) (n c B : Nat) (X : Nat → Nat) (w : World) (hx : RdB w B A n X) (hX : ∀ j, X j < 256) (hB : B ≤ w.heap.size) (hnc : n ≤ c) (hcm : c ≤ maxLen) (hn : n ≤ 1099511627776) (hl : Laid w) (h32 : 32 ≤ n) (hs : ¬ sealed n X) :
    Calls Tryd.prog 41 #[.slice A n c] w fun e w' => e = .returned (.tuple #[.slice none 0 0, .int .i64 2]) ∧ Below w.heap.size w w' := by
  obtain ⟨m, hm⟩ : ∃ m, m = n - 32 := ⟨_, rfl⟩
  have HC := Lib.hid hcm
  have HL : Hid (Laid w.drew) := Lib.hid hl
  have HNEG : Hid (∀ w0 : World, (binOp .lss 3 (.int .i64 ((m : Nat) : Int)) (.int .i64 0)).run Tryd.prog w0 = .ok (.bool false) w0) := fun w0 => by
    have : decide (((m : Nat) : Int) < 0) = false := by simp
    simp [binOp, Op.intCmp, this]
  have HSL1 : Hid (∀ w0, (Instr.sliceAt 38 (.slice A n c) none (some (.int .i64 ((m : Nat) : Int))) none).run Tryd.prog w0 = .ok (.slice (subA A c 0) m c) w0) := fun w0 => slice_to A n c m _ rfl (by omega) w0
  have HSL2 : Hid (∀ w0, (Instr.sliceAt 38 (.slice A n c) (some (.int .i64 ((m : Nat) : Int))) none none).run Tryd.prog w0 = .ok (.slice (subA A c m) 32 (c - m)) w0) := fun w0 => by
    have := slice_from A n c m _ rfl (by omega) w0
    rw [show n - m = 32 by omega] at this
    exact this
  have hr1 := hx.sub (lo := 0) hnc
  rw [Nat.sub_zero] at hr1
  have HR1 : Hid (RdB w.drew B (subA A c 0) m X) := Lib.hid (fun j hj => by
    have := hr1 j (by omega)
    simp only [Nat.zero_add] at this
    exact this)
  have hr2 := hx.sub (lo := m) hnc
  rw [show n - m = 32 by omega] at hr2
  have HS : Hid (RdB w.drew B (subA A c m) 32 (fun j => X (m + j))) := Lib.hid hr2
  have HEQ : Hid ((!((strB 32 (M.sum m X)).toList == (strB 32 (fun j => X (m + j))).toList)) = true) := by
    have h := strB_eq_iff (n := 32) (X := M.sum m X) (Y := fun j => X (m + j)) (fun j _ => M.sum_lt m X j) (fun j _ => hX _)
    unfold sealed at hs
    rw [← hm] at hs
    exact Lib.hid (not_bang fun hh => hs (h.1 hh))
  have hmc : m ≤ c := by omega
  have hm40 : m ≤ 1099511627776 := by omega
  have HXA := Lib.hid hx
  have a1 : IntKind.i64.wrap ((n : Int) - 32) = ((m : Nat) : Int) := by rw [IntKind.wrap_i64]; omega
  have a2 : (n : Int) - 32 = ((m : Nat) : Int) := by omega
  have HMN : Hid (m = n - 32) := Lib.hid hm
  clear hx hl hcm hs hr1 hr2 hm
  go_enter Tryd.func41, Tryd.ntmps41
  go_wp2_with fail
  refine region_anyZ (fun w => RdB w B (subA A c m) 32 (fun j => X (m + j))) 13 (by kernel_rfl) ?_
  refine takeG 0 (.move (.tmp 4)) (some 9) none (.int .i64 ((m : Nat) : Int)) (by kernel_rfl) (by kernel_rfl) (by kernel_rfl) (fun _ _ _ h => h) (fun o w e hS => exec_move w e (by kernel_rfl)) HS.out ?_
  refine takeG 1 (.binOp .lss 3 (.tmp 9) (.const (.int .i64 0)) 3) (some 10) none (.bool false) (by kernel_rfl) (by kernel_rfl) (by kernel_rfl) (fun _ _ _ h => h) (fun o w e hS => exec_bin (u1 := .int .i64 ((m : Nat) : Int)) (u2 := (.int .i64 0)) w e (by kernel_rfl) (by kernel_rfl) (eqG_int ..) (HNEG.out _)) HS.out ?_
  refine takeG 2 (.move (.tmp 10)) (some 11) none (.bool false) (by kernel_rfl) (by kernel_rfl) (by kernel_rfl) (fun _ _ _ h => h) (fun o w e hS => exec_move w e (by kernel_rfl)) HS.out ?_
  refine takeG 3 (.move (.tmp 0)) (some 12) (some (2, false)) (.slice A n c) (by kernel_rfl) (by kernel_rfl) (by kernel_rfl) (fun _ _ _ h => h) (fun o w e hS => exec_move w e (by kernel_rfl)) HS.out ?_
  refine takeG 4 (.move (.tmp 4)) (some 13) (some (2, false)) (.int .i64 ((m : Nat) : Int)) (by kernel_rfl) (by kernel_rfl) (by kernel_rfl) (fun _ _ _ h => h) (fun o w e hS => exec_move w e (by kernel_rfl)) HS.out ?_
  refine takeG 5 (.slice 38 (.tmp 12) .none (.some (.tmp 13)) .none) (some 14) (some (2, false)) (.slice (subA A c 0) m c) (by kernel_rfl) (by kernel_rfl) (by kernel_rfl) (fun _ _ _ h => h) (fun o w e hS => exec_slice (u := .slice A n c) w e (by kernel_rfl) (by kernel_rfl) (by kernel_rfl) (by kernel_rfl) (HSL1.out _)) HS.out ?_
  refine takeG 7 (.move (.tmp 0)) (some 16) (some (2, false)) (.slice A n c) (by kernel_rfl) (by kernel_rfl) (by kernel_rfl) (fun _ _ _ h => h) (fun o w e hS => exec_move w e (by kernel_rfl)) HS.out ?_
  refine takeG 8 (.move (.tmp 4)) (some 17) (some (2, false)) (.int .i64 ((m : Nat) : Int)) (by kernel_rfl) (by kernel_rfl) (by kernel_rfl) (fun _ _ _ h => h) (fun o w e hS => exec_move w e (by kernel_rfl)) HS.out ?_
  refine takeG 9 (.slice 38 (.tmp 16) (.some (.tmp 17)) .none .none) (some 18) (some (2, false)) (.slice (subA A c m) 32 (c - m)) (by kernel_rfl) (by kernel_rfl) (by kernel_rfl) (fun _ _ _ h => h) (fun o w e hS => exec_slice (u := .slice A n c) w e (by kernel_rfl) (by kernel_rfl) (by kernel_rfl) (by kernel_rfl) (HSL2.out _)) HS.out ?_
  refine takeG 10 (.convert 38 9 (.tmp 18)) (some 19) (some (2, false)) (.string (strB 32 (fun j => X (m + j)))) (by kernel_rfl) (by kernel_rfl) (by kernel_rfl) (fun _ _ _ h => h) (fun o w e hS => exec_conv (u := .slice (subA A c m) 32 (c - m)) w e (by kernel_rfl) (conv_rd hS)) HS.out ?_
  refine loneG 6 (.call ⟨.value (.func 46), #[(.tmp 14)], #[38]⟩) (some 15) (some (2, false)) (by kernel_rfl) (by kernel_rfl) (by kernel_rfl) ?_
  intro o ho hod
  refine wp_callC (f := 46) (args := #[.slice (subA A c 0) m c]) (by cases o; cases ho; kernel_rfl) (sum_any (subA A c 0) m c B X _ HR1.out hX hB hmc HC.out hm40 HL.out) ?_
  rintro e w1 ⟨rfl, hl1⟩
  refine ⟨.string (strB 32 (M.sum m X)), rfl, ?_⟩
  rw [hod]
  clear hod ho
  have HT : Hid (RdB w1 B (subA A c m) 32 (fun j => X (m + j))) := Lib.hid (HS.out.below hl1 hB)
  have L1 : Hid (Below w.heap.size w w1) := Lib.hid ((Below.refl w.heap.size w).drew.trans hl1)
  clear hl1 HS
  refine ⟨fun _ => HT.out, ?_⟩
  refine loneG 11 (.binOp .neq 9 (.tmp 15) (.tmp 19) 9) (some 20) (some (2, false)) (by kernel_rfl) (by kernel_rfl) (by kernel_rfl) ?_
  intro o ho hod
  refine wp_val (v := .bool true) (exec_bin (u1 := .string (strB 32 (M.sum m X))) (u2 := .string (strB 32 (fun j => X (m + j)))) _ ho (by kernel_rfl) (by kernel_rfl) (eqG_str ..) (by rw [ne_str, HEQ.out])) ?_
  rw [hod]
  clear hod ho
  refine ⟨fun _ => HT.out, ?_⟩
  refine lastS 12 (.pick (.tmp 11) (.const (Value.bool true)) (.tmp 20)) (some 21) (.bool true) (by kernel_rfl) (by kernel_rfl) (by kernel_rfl) HT.out (fun o e => exec_pick (b := false) _ e (by kernel_rfl) (by kernel_rfl)) ?_
  simp only [put_some, put_none, List.setIfInBounds_toArray, List.set_cons_succ, List.set_cons_zero]
  go_wp2_with fail
  go_ret2
  exact ⟨rfl, L1.out⟩
end Go.Proofs.YtikenhcglbfgpaaDoor
