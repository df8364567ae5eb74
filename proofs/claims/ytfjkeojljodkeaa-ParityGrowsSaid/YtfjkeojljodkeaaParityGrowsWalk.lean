/-
  The walk of 'ParityGrows'. Conditions: the argument reads as rows of bytes.
-/
import Derived.Test.YtfjkeojljodkeaaParKnown
import Derived.Test.YtfjkeojljodkeaaParGrow
import Derived.Test.YtfjkeojljodkeaaFieldArgs
import Derived.Test.YtfjkeojljodkeaaTakeTail
import Derived.Test.YtfjkeojljodkeaaDrawSeq
namespace Go.Proofs.Ytfjkeojljodkeaa
open Go Go.RowKit
set_option maxRecDepth 100000
set_option linter.unusedVariables false
namespace parityGrows

set_option maxHeartbeats 1600000 in
theorem walk (A : Option Addr) (k c : Nat) (ra : Nat → Option Addr) (rl rc : Nat → Nat) (x : Nat → Nat → Nat) (w : World) (hr : RdR w w.heap.size A k ra rl rc x) (hl : k ≤ c) (hm : c ≤ maxLen) (hc : ∀ i, i < k → rl i ≤ rc i ∧ rc i ≤ maxLen) :
    Calls Try.prog 9 #[.slice A k c] w fun e w' => e = .returned (.bool true) ∧ Below w.heap.size w w' := by
  have HR := Lib.hid hr
  have HC := Lib.hid hc
  have hkm : k ≤ maxLen := Nat.le_trans hl hm
  clear hr hc
  go_enter Try.func9, Try.ntmps9
  go_wp2_with fail
  refine (known_any _).mono ?_
  rintro e w1 ⟨rfl, hb1⟩
  have B1 := Lib.hid hb1
  have R1 := Lib.hid (HR.out.below hb1 (Nat.le_refl _))
  clear hb1
  go_wp2_with fail
  refine (small_any k c w.heap.size A ra rl rc x _ R1.out hkm).mono ?_
  rintro e w2 ⟨hs, rfl⟩
  rcases hs with rfl | rfl
  · go_wp2_with fail
    refine (known_any _).mono ?_
    rintro e w3 ⟨rfl, hb3⟩
    have B3 := Lib.hid (B1.out.trans (hb3.mono B1.out.size))
    clear hb3
    go_wp2_with fail
    go_ret
    exact ⟨rfl, B3.out⟩
  go_wp2_with fail
  by_cases hok : 0 < k ∧ k ≤ 13 ∧ Alike k rl
  case neg =>
    refine (make_no k c w.heap.size A ra rl rc x _ R1.out hok).mono ?_
    rintro e w3 ⟨rfl, rfl⟩
    clear hok
    go_wp2_with fail
    go_ret
    exact ⟨rfl, B1.out⟩
  obtain ⟨hk0, hk13, hal⟩ := hok
  refine (make_yes k c w.heap.size A ra rl rc x _ R1.out B1.out.size hk0 hk13 hal).mono ?_
  rintro e w3 ⟨v, rfl, ⟨h, R, rfl, hp⟩, hb3⟩
  have HA := Lib.hid hal
  have P3 := Lib.hid hp
  have B3 := Lib.hid (B1.out.trans (hb3.mono B1.out.size))
  have R3 := Lib.hid (R1.out.below (hb3.mono B1.out.size) (Nat.le_refl _))
  clear hal hp hb3 B1 R1
  by_cases hk : k = 13
  · have t2 : ((13 : Int) ≤ (k : Int)) = True := by simp; omega
    go_wp2_with fail
    go_ret
    exact ⟨rfl, B3.out⟩
  have t2 : ((13 : Int) ≤ (k : Int)) = False := by simp; omega
  go_wp2_with fail
  obtain ⟨b0, o0, rfl, hb0, hc0, hx0⟩ := R3.out 0 hk0
  rw [Nat.add_zero] at hc0
  have z3 := B3.out.size
  have hbz : b0 < w3.heap.size := Nat.lt_of_lt_of_le hb0 z3
  have hn := HA.out.2.1
  have HS : Hid (w3.drew.cell? ⟨b0, o0, none⟩ = some (.slice (ra 0) (rl 0) (rc 0))) := hc0
  have SOF : ∀ W : World, Below w3.heap.size w3 W → W.cell? ⟨b0, o0, none⟩ = some (.slice (ra 0) (rl 0) (rc 0)) := fun W hW => (hW.cell (p := ⟨b0, o0, none⟩) hbz).trans hc0
  refine region_anyZ (fun W : World => W.cell? ⟨b0, o0, none⟩ = some (.slice (ra 0) (rl 0) (rc 0))) 16 (by kernel_rfl) ?_
  refine takeG 1 (.move (.tmp 0)) (some 31) none (.slice (some ⟨b0, o0, none⟩) k c) (by kernel_rfl) (by kernel_rfl) (by kernel_rfl) (fun _ _ _ h => h) (fun o w e hS => exec_move w e (by kernel_rfl)) HS.out ?_
  refine takeG 3 (.move (.tmp 0)) (some 33) none (.slice (some ⟨b0, o0, none⟩) k c) (by kernel_rfl) (by kernel_rfl) (by kernel_rfl) (fun _ _ _ h => h) (fun o w e hS => exec_move w e (by kernel_rfl)) HS.out ?_
  refine takeG 4 (.indexAddr 22 (.tmp 33) (.const (.int .i64 0))) (some 34) none (.pointer (some ⟨b0, o0, none⟩)) (by kernel_rfl) (by kernel_rfl) (by kernel_rfl) (fun _ _ _ h => h) (fun o w e hS => exec_index (u1 := .slice (some ⟨b0, o0, none⟩) k c) (u2 := .int .i64 0) w e (by kernel_rfl) (by kernel_rfl) (index_rows0 b0 o0 k c hk0 _)) HS.out ?_
  refine takeG 5 (.load 34 (.tmp 34)) (some 35) none (.slice (ra 0) (rl 0) (rc 0)) (by kernel_rfl) (by kernel_rfl) (by kernel_rfl) (fun _ _ _ h => h) (fun o w e hS => exec_load (x := .tmp 34) e (by kernel_rfl) (load_one Try.underlying34 (by kernel_rfl) hS)) HS.out ?_
  refine takeG 6 (.call ⟨.builtin .len, #[(.tmp 35)], #[34]⟩) (some 36) none (.int .i64 (rl 0 : Nat)) (by kernel_rfl) (by kernel_rfl) (by kernel_rfl) (fun _ _ _ h => h) (fun o w e hS => exec_len (u := .slice (ra 0) (rl 0) (rc 0)) w e (by kernel_rfl) (len_slice ..)) HS.out ?_
  have H0 : Phi w3 w3.heap.size (rl 0) k (fun i => (ra i, rl i, rc i)) none none none none w3.drew :=
    ⟨⟨rfl, rfl, rfl, Nat.le_refl _, fun _ _ => rfl⟩, Nat.le_refl _, fun v e => (by cases e), fun v e => (by cases e), fun v e => (by cases e), fun v e => (by cases e)⟩
  refine diamond (d1 := 30) (d2 := 32) (e1 := 37) (e2 := 38) (i1 := 0) (i2 := 2) (j1 := 7) (j2 := 8) (op1 := .buildSlice 22 0 #[]) (op2 := .call ⟨.builtin .append, #[(.tmp 30), (.tmp 31)], #[22, 22]⟩) (oq1 := .makeSlice 34 (.tmp 36) (.tmp 36)) (oq2 := .buildSlice 22 1 #[(0, .tmp 37)])
    (Phi w3 w3.heap.size (rl 0) k (fun i => (ra i, rl i, rc i))) (by kernel_rfl) (by kernel_rfl) (by kernel_rfl) (by kernel_rfl) (by decide) (by decide) (by kernel_rfl) (by kernel_rfl) (by kernel_rfl) (by kernel_rfl) (by kernel_rfl) (by kernel_rfl) (by kernel_rfl) (by kernel_rfl)
    (fun _ _ _ _ W h => SOF W h.below) ?s1 ?s2 ?t1 ?t2 H0 ?tail
  case s1 =>
    intro y1 y2 W K h hk o e1 e2
    have m := h.mono ((Below.refl _ _).alloc (Nat.le_refl _) (.cells #[] 34))
    refine wp_val (exec_build0 e1 (bs_rows0 W)) ?_
    rw [e2]
    exact hk _ _ ⟨m.below, m.room, fun v e => by injection e with e; exact ⟨_, e.symm⟩, m.e32, m.e37, m.e38⟩
  case s2 =>
    intro v y1 y2 W K h hk o e1 e2
    obtain ⟨g0, rfl⟩ := h.e30 v rfl
    refine wp_append_empty (.tmp 30) (.tmp 31) e1 (g0 := g0) (A := some ⟨b0, o0, none⟩) (c := c) (B := w.heap.size) (Y := fun i => (ra i, rl i, rc i)) (by cases y1 <;> cases y2 <;> kernel_rfl) (by cases y1 <;> cases y2 <;> kernel_rfl) (fun i hi => ?_) hk0 hl (by omega) ?_
    · obtain ⟨b, o, h1, h2, h3, _⟩ := (R3.out.below (h.below.mono z3) (Nat.le_refl _)) i hi
      exact ⟨b, o, h1, h2, h3⟩
    intro v' W' ho hb
    have m := h.mono hb
    rw [e2]
    exact hk _ _ ⟨m.below, m.room, m.e30, fun v e => by injection e with e; subst e; exact ho.base h.room, m.e37, m.e38⟩
  case t1 =>
    intro x1 x2 W K h hk o e1 e2
    have m := h.mono ((Below.refl _ _).alloc (Nat.le_refl _) (.cells (rowArr (rl 0) fun _ => 0) 5))
    refine wp_val (exec_make e1 (u1 := .int .i64 (rl 0 : Nat)) (u2 := .int .i64 (rl 0 : Nat)) (by cases x1 <;> cases x2 <;> kernel_rfl) (by cases x1 <;> cases x2 <;> kernel_rfl) (make_bytes (rl 0) (by omega) W _ rfl)) ?_
    rw [e2]
    exact hk _ _ ⟨m.below, m.room, m.e30, m.e32, fun v e => by injection e with e; exact ⟨_, e.symm, h.room, Blk.new _ _ _⟩, fun v e => by cases e⟩
  case t2 =>
    intro v x1 x2 W K h hk o e1 e2
    obtain ⟨g, rfl, hg, hblk⟩ := h.e37 v rfl
    have m := h.mono ((Below.refl _ _).alloc (Nat.le_refl _) (.cells #[.slice (some ⟨g, 0, none⟩) (rl 0) (rl 0)] 34))
    refine wp_val (exec_buildSlice1 e1 (u := .slice (some ⟨g, 0, none⟩) (rl 0) (rl 0)) (by cases x1 <;> cases x2 <;> kernel_rfl) (bs_rows1 _ _ _ W)) ?_
    rw [e2]
    exact hk _ _ ⟨m.below, m.room, m.e30, m.e32, m.e37, fun v e => by injection e with e; exact ⟨g, rfl, e ▸ own_one _ _ _ h.room⟩⟩
  case tail =>
    intro v30 v32 v37 v38 W h
    obtain ⟨g, e37, hg, hblk⟩ := h.e37 v37 rfl
    obtain ⟨g', e38, o38⟩ := h.e38 v38 rfl
    rw [e37] at e38
    injection e38 with e38
    injection e38 with e38
    injection e38 with e38
    injection e38 with e38
    subst e38
    have o32 := h.e32 v32 rfl
    obtain ⟨A8, c8, rfl, hrd8, hl8, hm8, _, hn8⟩ := o38.shape
    refine loneG 9 (.call ⟨.builtin .append, #[(.tmp 32), (.tmp 38)], #[22, 22]⟩) (some 39) none (by kernel_rfl) (by kernel_rfl) (by kernel_rfl) ?_
    intro o ho hod
    refine wp_append_hd (.tmp 32) (.tmp 38) ho (by kernel_rfl) (by kernel_rfl) o32 hrd8 hn8 hl8 (by omega) h.room ?_
    intro v39 W9 ho9 hg9
    rw [hod]
    clear hod ho
    have L9 : Below w3.heap.size w3 W9 := own_rowS h.below o32 hg9 h.room
    have G9 : Blk W9 g 5 (rowArr (rl 0) fun _ => 0) := (hg9.block g hblk.lt (o32.ne_ hblk)).trans hblk
    have s9 : w3.heap.size ≤ W9.heap.size := Nat.le_trans h.room hg9.size
    obtain ⟨A9, c9, rfl, hrd9, hl9, hm9, _, _⟩ := ho9.shape
    refine ⟨fun _ => SOF W9 L9, ?_⟩
    have R9 := rdr_wide (B := w.heap.size) hrd9 (fun i hi => by obtain ⟨b, o, q1, q2, q3, q4⟩ := (R3.out.below (L9.mono z3) (Nat.le_refl _)) i hi; exact q4) (Nat.le_trans z3 s9) G9
    refine loneG 10 (.call ⟨.value (.func 14), #[(.tmp 39)], #[22]⟩) (some 40) none (by kernel_rfl) (by kernel_rfl) (by kernel_rfl) ?_
    intro o ho hod
    refine wp_callC (f := 14) (args := #[.slice A9 (k + 1) c9]) (by cases o; cases ho; kernel_rfl) (make_yes (k + 1) c9 W9.heap.size A9 _ _ _ (wideX k x) W9 R9 (Nat.le_refl _) (by omega) (by omega) (alike_wide hk0 HA.out rfl)) ?_
    rintro e W10 ⟨v, rfl, ⟨h5, R5, rfl, hp5⟩, hb10⟩
    refine ⟨.tuple #[.slice (some ⟨h5, 0, none⟩) 3 3, .int .i64 0], rfl, ?_⟩
    rw [hod]
    clear hod ho
    have L10 : Below w3.heap.size w3 W10 := L9.trans (hb10.mono s9)
    have S10 := SOF W10 L10
    refine ⟨fun _ => S10, ?_⟩
    have e0 : (catS k (fun i => (ra i, rl i, rc i)) (fun _ => ((some ⟨g, 0, none⟩, rl 0, rl 0) : Hd)) 0).2.1 = rl 0 := by
      show (if 0 < k then ((ra 0, rl 0, rc 0) : Hd) else _).2.1 = _
      rw [if_pos hk0]
    rw [e0] at hp5
    have P5 := Lib.hid hp5
    have s310 := L10.size
    have P3' := Lib.hid (P3.out.below L10 (Nat.le_refl _))
    have L11 := Lib.hid (B3.out.trans (L10.mono z3))
    have R10 := Lib.hid (R3.out.below (L10.mono z3) (Nat.le_refl _))
    clear hp5 hb10 R9 hrd9 ho9 hg9 G9 L9 hrd8 o32 o38 h hblk hn8 hm8
    refine takeG 11 (.move (.tmp 40)) (some 29) none (.tuple #[.slice (some ⟨h5, 0, none⟩) 3 3, .int .i64 0]) (by kernel_rfl) (by kernel_rfl) (by kernel_rfl) (fun _ _ _ h => h) (fun o w e hS => exec_move w e (by kernel_rfl)) S10 ?_
    refine takeG 12 (.extract (.tmp 29) 0) (some 41) none (.slice (some ⟨h5, 0, none⟩) 3 3) (by kernel_rfl) (by kernel_rfl) (by kernel_rfl) (fun _ _ _ h => h) (fun o w e hS => exec_extract (vs := #[.slice (some ⟨h5, 0, none⟩) 3 3, .int .i64 0]) w e (by kernel_rfl) rfl) S10 ?_
    refine takeG 13 (.extract (.tmp 29) 1) (some 42) none (.int .i64 0) (by kernel_rfl) (by kernel_rfl) (by kernel_rfl) (fun _ _ _ h => h) (fun o w e hS => exec_extract (vs := #[.slice (some ⟨h5, 0, none⟩) 3 3, .int .i64 0]) w e (by kernel_rfl) rfl) S10 ?_
    refine takeG 14 (.assign (.tmp 41)) (some 5) none (.slice (some ⟨h5, 0, none⟩) 3 3) (by kernel_rfl) (by kernel_rfl) (by kernel_rfl) (fun _ _ _ h => h) (fun o w e hS => exec_assign w e (by kernel_rfl)) S10 ?_
    refine lastS 15 (.assign (.tmp 42)) (some 6) (.int .i64 0) (by kernel_rfl) (by kernel_rfl) (by kernel_rfl) S10 (fun o e => exec_assign _ e (by kernel_rfl)) ?_
    simp only [fr, putO, put_some, put_none, List.setIfInBounds_toArray, List.set_cons_succ, List.set_cons_zero]
    have k1 : 1 ≤ k := hk0
    unfold maxLen at hm hkm
    clear S10 SOF L10 s9 hn z3 hbz hb0 hc0 hx0 HS H0
    go_wp2_with fail
    refine (make_yes 1 c w.heap.size (some ⟨b0, o0, none⟩) ra rl rc x W10 (fun i hi => R10.out i (by omega)) L11.out.size (by omega) (by omega) ⟨HA.out.1, HA.out.2.1, fun i hi => HA.out.2.2 i (by omega)⟩).mono ?_
    rintro e W11 ⟨v, rfl, ⟨h7, R7, rfl, hp7⟩, hb11⟩
    have L12 := Lib.hid (L11.out.trans (hb11.mono L11.out.size))
    have s11 := L12.out.size
    have P7 := Lib.hid hp7
    have P5' := Lib.hid (P5.out.below hb11 (Nat.le_refl _))
    have P3'' := Lib.hid (P3'.out.below (hb11.mono s310) (Nat.le_refl _))
    have R11 := Lib.hid (R10.out.below (hb11.mono L11.out.size) (Nat.le_refl _))
    clear hp7 hb11 P5 P3' R10 L11 R3 P3 B3
    go_wp2_with fail
    obtain ⟨b1, o1, q1, hb11', hcS, hx11⟩ := R11.out 0 hk0
    injection q1 with q1
    injection q1 with q1 q2
    subst q1; subst q2
    rw [Nat.add_zero] at hcS
    have hb11' : b0 < W11.heap.size := by omega
    have hsz : w.heap.size ≤ W11.heap.size := s11
    have hxl : ∀ v, v < rl 0 → x 0 v < 256 := fun v hv => by obtain ⟨_, _, _, _, _, q⟩ := hx11 v hv; exact q
    have HS8 : Hid (W11.drew.cell? ⟨b0, o0, none⟩ = some (.slice (ra 0) (rl 0) (rc 0))) := hcS
    -- REGION 8
    refine region_anyZ (fun W : World => W.cell? ⟨b0, o0, none⟩ = some (.slice (ra 0) (rl 0) (rc 0))) 26 (by kernel_rfl) ?_
    refine takeG 0 (.move (.tmp 6)) (some 49) none (.int .i64 0) (by kernel_rfl) (by kernel_rfl) (by kernel_rfl) (fun _ _ _ h => h) (fun o w e hS => exec_move w e (by kernel_rfl)) HS8.out ?_
    refine takeG 1 (.binOp .eql 25 (.tmp 49) (.const (.int .i64 0)) 25) (some 50) none (.bool true) (by kernel_rfl) (by kernel_rfl) (by kernel_rfl) (fun _ _ _ h => h) (fun o w e hS => exec_bin (u1 := .int .i64 0) (u2 := (.int .i64 0)) w e (by kernel_rfl) (by kernel_rfl) (eqG_int ..) (by kernel_rfl)) HS8.out ?_
    refine takeG 2 (.move (.tmp 50)) (some 51) none (.bool true) (by kernel_rfl) (by kernel_rfl) (by kernel_rfl) (fun _ _ _ h => h) (fun o w e hS => exec_move w e (by kernel_rfl)) HS8.out ?_
    refine takeG 3 (.move (.tmp 8)) (some 52) (some (2, true)) (.int .i64 0) (by kernel_rfl) (by kernel_rfl) (by kernel_rfl) (fun _ _ _ h => h) (fun o w e hS => exec_move w e (by kernel_rfl)) HS8.out ?_
    refine takeG 4 (.binOp .eql 25 (.tmp 52) (.const (.int .i64 0)) 25) (some 53) (some (2, true)) (.bool true) (by kernel_rfl) (by kernel_rfl) (by kernel_rfl) (fun _ _ _ h => h) (fun o w e hS => exec_bin (u1 := .int .i64 0) (u2 := (.int .i64 0)) w e (by kernel_rfl) (by kernel_rfl) (eqG_int ..) (by kernel_rfl)) HS8.out ?_
    refine takeG 5 (.pick (.tmp 51) (.tmp 53) (.const (Value.bool false))) (some 54) none (.bool true) (by kernel_rfl) (by kernel_rfl) (by kernel_rfl) (fun _ _ _ h => h) (fun o w e hS => exec_pick (b := true) w e (by kernel_rfl) (by kernel_rfl)) HS8.out ?_
    refine takeG 6 (.move (.tmp 54)) (some 55) none (.bool true) (by kernel_rfl) (by kernel_rfl) (by kernel_rfl) (fun _ _ _ h => h) (fun o w e hS => exec_move w e (by kernel_rfl)) HS8.out ?_
    refine takeG 7 (.move (.tmp 3)) (some 56) (some (6, true)) (.slice (some ⟨h, 0, none⟩) 3 3) (by kernel_rfl) (by kernel_rfl) (by kernel_rfl) (fun _ _ _ h => h) (fun o w e hS => exec_move w e (by kernel_rfl)) HS8.out ?_
    refine takeG 8 (.move (.tmp 5)) (some 57) (some (6, true)) (.slice (some ⟨h5, 0, none⟩) 3 3) (by kernel_rfl) (by kernel_rfl) (by kernel_rfl) (fun _ _ _ h => h) (fun o w e hS => exec_move w e (by kernel_rfl)) HS8.out ?_
    refine loneG 9 (.call ⟨.value (.func 17), #[(.tmp 56), (.tmp 57)], #[22, 22]⟩) (some 58) (some (6, true)) (by kernel_rfl) (by kernel_rfl) (by kernel_rfl) ?_
    intro o ho hod
    refine wp_callC (f := 17) (args := #[.slice (some ⟨h, 0, none⟩) 3 3, .slice (some ⟨h5, 0, none⟩) 3 3]) (by cases o; cases ho; kernel_rfl) (same_yes 3 3 3 _ _ _ _ _ _ _ _ _ _ _ _ _ P3''.out P5'.out (fun i hi => ⟨rfl, fun v hv => (par_wide k i x v).symm⟩) (by decide)) ?_
    rintro e w12 ⟨rfl, nq, rfl⟩
    refine ⟨.bool true, rfl, ?_⟩
    rw [hod]
    clear hod ho
    have HS9 : Hid ((W11.drew.drewN nq).cell? ⟨b0, o0, none⟩ = some (.slice (ra 0) (rl 0) (rc 0))) := hcS
    refine ⟨fun _ => HS9.out, ?_⟩
    refine takeG 10 (.pick (.tmp 55) (.tmp 58) (.const (Value.bool false))) (some 59) none (.bool true) (by kernel_rfl) (by kernel_rfl) (by kernel_rfl) (fun _ _ _ h => h) (fun o w e hS => exec_pick (b := true) w e (by kernel_rfl) (by kernel_rfl)) HS9.out ?_
    refine takeG 11 (.move (.tmp 59)) (some 60) none (.bool true) (by kernel_rfl) (by kernel_rfl) (by kernel_rfl) (fun _ _ _ h => h) (fun o w e hS => exec_move w e (by kernel_rfl)) HS9.out ?_
    refine takeG 12 (.move (.tmp 7)) (some 61) (some (11, true)) (.slice (some ⟨h7, 0, none⟩) 3 3) (by kernel_rfl) (by kernel_rfl) (by kernel_rfl) (fun _ _ _ h => h) (fun o w e hS => exec_move w e (by kernel_rfl)) HS9.out ?_
    refine takeG 13 (.move (.tmp 0)) (some 62) (some (11, true)) (.slice (some ⟨b0, o0, none⟩) k c) (by kernel_rfl) (by kernel_rfl) (by kernel_rfl) (fun _ _ _ h => h) (fun o w e hS => exec_move w e (by kernel_rfl)) HS9.out ?_
    refine takeG 14 (.indexAddr 22 (.tmp 62) (.const (.int .i64 0))) (some 63) (some (11, true)) (.pointer (some ⟨b0, o0, none⟩)) (by kernel_rfl) (by kernel_rfl) (by kernel_rfl) (fun _ _ _ h => h) (fun o w e hS => exec_index (u1 := .slice (some ⟨b0, o0, none⟩) k c) (u2 := (.int .i64 0)) w e (by kernel_rfl) (by kernel_rfl) (index_rows0 b0 o0 k c hk0 _)) HS9.out ?_
    refine takeG 15 (.load 34 (.tmp 63)) (some 64) (some (11, true)) (.slice (ra 0) (rl 0) (rc 0)) (by kernel_rfl) (by kernel_rfl) (by kernel_rfl) (fun _ _ _ h => h) (fun o w e hS => exec_load (x := (.tmp 63)) e (by kernel_rfl) (load_one Try.underlying34 (by kernel_rfl) hS)) HS9.out ?_
    refine takeG 16 (.move (.tmp 0)) (some 65) (some (11, true)) (.slice (some ⟨b0, o0, none⟩) k c) (by kernel_rfl) (by kernel_rfl) (by kernel_rfl) (fun _ _ _ h => h) (fun o w e hS => exec_move w e (by kernel_rfl)) HS9.out ?_
    refine takeG 17 (.indexAddr 22 (.tmp 65) (.const (.int .i64 0))) (some 66) (some (11, true)) (.pointer (some ⟨b0, o0, none⟩)) (by kernel_rfl) (by kernel_rfl) (by kernel_rfl) (fun _ _ _ h => h) (fun o w e hS => exec_index (u1 := .slice (some ⟨b0, o0, none⟩) k c) (u2 := (.int .i64 0)) w e (by kernel_rfl) (by kernel_rfl) (index_rows0 b0 o0 k c hk0 _)) HS9.out ?_
    refine takeG 18 (.load 34 (.tmp 66)) (some 67) (some (11, true)) (.slice (ra 0) (rl 0) (rc 0)) (by kernel_rfl) (by kernel_rfl) (by kernel_rfl) (fun _ _ _ h => h) (fun o w e hS => exec_load (x := (.tmp 66)) e (by kernel_rfl) (load_one Try.underlying34 (by kernel_rfl) hS)) HS9.out ?_
    refine takeG 19 (.move (.tmp 0)) (some 68) (some (11, true)) (.slice (some ⟨b0, o0, none⟩) k c) (by kernel_rfl) (by kernel_rfl) (by kernel_rfl) (fun _ _ _ h => h) (fun o w e hS => exec_move w e (by kernel_rfl)) HS9.out ?_
    refine takeG 20 (.indexAddr 22 (.tmp 68) (.const (.int .i64 0))) (some 69) (some (11, true)) (.pointer (some ⟨b0, o0, none⟩)) (by kernel_rfl) (by kernel_rfl) (by kernel_rfl) (fun _ _ _ h => h) (fun o w e hS => exec_index (u1 := .slice (some ⟨b0, o0, none⟩) k c) (u2 := (.int .i64 0)) w e (by kernel_rfl) (by kernel_rfl) (index_rows0 b0 o0 k c hk0 _)) HS9.out ?_
    refine takeG 21 (.load 34 (.tmp 69)) (some 70) (some (11, true)) (.slice (ra 0) (rl 0) (rc 0)) (by kernel_rfl) (by kernel_rfl) (by kernel_rfl) (fun _ _ _ h => h) (fun o w e hS => exec_load (x := (.tmp 69)) e (by kernel_rfl) (load_one Try.underlying34 (by kernel_rfl) hS)) HS9.out ?_
    refine loneG 22 (.buildSlice 22 3 #[(0, (.tmp 64)), (1, (.tmp 67)), (2, (.tmp 70))]) (some 71) (some (11, true)) (by kernel_rfl) (by kernel_rfl) (by kernel_rfl) ?_
    intro o ho hod
    refine wp_val (exec_buildSlice3 ho (by kernel_rfl) (by kernel_rfl) (by kernel_rfl) (bs_rows3 (ra 0) (rl 0) (rc 0) _)) ?_
    rw [hod]
    clear hod ho
    have B13 : Below (W11.drew.drewN nq).heap.size (W11.drew.drewN nq) ((W11.drew.drewN nq).alloc (.cells #[.slice (ra 0) (rl 0) (rc 0), .slice (ra 0) (rl 0) (rc 0), .slice (ra 0) (rl 0) (rc 0)] 34)) := (Below.refl _ _).alloc (Nat.le_refl _) _
    have R13 := Lib.hid (rdr_three (w := W11.drew.drewN nq) (c := rc 0) hx11 hsz)
    have P13 := Lib.hid ((P7.out.drewN 0).below (B' := (W11.drew.drewN nq).heap.size) ⟨B13.os, B13.tape, B13.output, B13.size, B13.block⟩ (Nat.le_refl _))
    have HS13 : Hid (((W11.drew.drewN nq).alloc (.cells #[.slice (ra 0) (rl 0) (rc 0), .slice (ra 0) (rl 0) (rc 0), .slice (ra 0) (rl 0) (rc 0)] 34)).cell? ⟨b0, o0, none⟩ = some (.slice (ra 0) (rl 0) (rc 0))) := (B13.cell (p := ⟨b0, o0, none⟩) hb11').trans HS9.out
    refine ⟨fun _ => HS13.out, ?_⟩
    refine loneG 23 (.call ⟨.value (.func 17), #[(.tmp 61), (.tmp 71)], #[22, 22]⟩) (some 72) (some (11, true)) (by kernel_rfl) (by kernel_rfl) (by kernel_rfl) ?_
    intro o ho hod
    refine wp_callC (f := 17) (args := #[.slice (some ⟨h7, 0, none⟩) 3 3, .slice (some ⟨(W11.drew.drewN nq).heap.size, 0, none⟩) 3 3]) (by cases o; cases ho; kernel_rfl) (same_yes 3 3 3 _ _ _ _ _ _ _ _ _ _ _ _ _ P13.out R13.out (fun i hi => ⟨rfl, fun v hv => par_single i x v (hxl v hv)⟩) (by decide)) ?_
    rintro e w14 ⟨rfl, nr, rfl⟩
    refine ⟨.bool true, rfl, ?_⟩
    rw [hod]
    clear hod ho
    have HS14 : Hid (World.cell? (World.drewN ((W11.drew.drewN nq).alloc (.cells #[.slice (ra 0) (rl 0) (rc 0), .slice (ra 0) (rl 0) (rc 0), .slice (ra 0) (rl 0) (rc 0)] 34)) nr) ⟨b0, o0, none⟩ = some (.slice (ra 0) (rl 0) (rc 0))) := HS13.out
    have L14 := Lib.hid (below_drewN (L12.out.trans (show Below w.heap.size W11 _ from ⟨B13.os, B13.tape, B13.output, B13.size, (B13.mono s11).block⟩)) nr)
    refine ⟨fun _ => HS14.out, ?_⟩
    refine takeG 24 (.pick (.tmp 60) (.tmp 72) (.const (Value.bool false))) (some 73) none (.bool true) (by kernel_rfl) (by kernel_rfl) (by kernel_rfl) (fun _ _ _ h => h) (fun o w e hS => exec_pick (b := true) w e (by kernel_rfl) (by kernel_rfl)) HS14.out ?_
    refine lastS 25 (.assign (.tmp 73)) (some 2) (.bool true) (by kernel_rfl) (by kernel_rfl) (by kernel_rfl) HS14.out (fun o e => exec_assign _ e (by kernel_rfl)) ?_
    simp only [put_some, put_none, List.setIfInBounds_toArray, List.set_cons_succ, List.set_cons_zero]
    clear HS8 HS9 HS13 HS14 B13 R13 P13
    go_wp2_with fail
    go_ret
    have hfin := L14.out
    rw [World.drewN_drew] at hfin
    exact ⟨rfl, hfin⟩
end parityGrows
end Go.Proofs.Ytfjkeojljodkeaa
