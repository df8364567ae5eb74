/-
  The walk of 'ParityApart': what is handed in stays as it is, spare room too; answers are memory of their own. Conditions: no row is longer than 2^20, nor are there more.
-/
import Derived.Test.YtoabhbmhjelplaaParApartIns
import Derived.Test.YtoabhbmhjelplaaParKnown
import Derived.Deep.Light
namespace Go.Proofs.Ytoabhbmhjelplaa
open Go Go.RowKit
set_option maxRecDepth 100000
set_option linter.unusedVariables false
namespace parityApart
theorem len_slP (ty : TypeId) (A : Option Addr) (n c : Nat) (w : World) : (Builtin.len_ #[31] ty #[.slice A n c]).run Try.prog w = .ok (.int .i64 (n : Int)) w := by
  simp [Builtin.len_, Builtin.lenOf, goInt, run_underlying Try.underlying31]
theorem cap_slP (ty : TypeId) (A : Option Addr) (n c : Nat) (w : World) : (Builtin.cap_ #[31] ty #[.slice A n c]).run Try.prog w = .ok (.int .i64 (c : Int)) w := by
  simp [Builtin.cap_, Builtin.lenOf, goInt, run_underlying Try.underlying31]
theorem exec_capP {P : Program} {a : Act} {w : World} {o : Oper} {x : Operand} {t : TypeId} {u v : Value} (e : o.op = .call { callee := .builtin .cap, args := #[x], argTypes := #[t] }) (hx : a.eval x = u) (hf : (Builtin.cap_ #[t] o.type #[u]).run P w = .ok v w) : (execOp a.eval o).run P w = .ok (.value v) w := by
  unfold execOp; simp [e, hx, hf, resolve, invoke, builtin, Sem.run_bind, Sem.run_pure, Result.andThen_ok]
theorem index_ints (b o n c i : Nat) (h : i < n) (w : World) : (Instr.indexAt 23 (.slice (some ⟨b, o, none⟩) n c) (.int .i64 (i : Int))).run Try.prog w = .ok (.pointer (some ⟨b, o + i, none⟩)) w :=
  index_slice (P := Try.prog) (t := 23) (e := 3) Try.underlying23 (by kernel_rfl) b o n c i h w
theorem neq_intP (a : Int) (w : World) : (binOp .neq 3 (.int .i64 a) (.int .i64 a)).run Try.prog w = .ok (.bool false) w := by
  have h : (binOp .neq 3 (.int .i64 a) (.int .i64 a)).run Try.prog w = .ok (.bool (!(a == a))) w := by kernel_rfl
  rw [h, beq_self_eq_true]
  rfl

set_option maxHeartbeats 12800000 in
theorem walk (A : Option Addr) (n c : Nat) (ra : Nat → Option Addr) (rl rc : Nat → Nat) (x : Nat → Nat → Nat) (A2 : Option Addr) (m c2 : Nat) (bz : Nat → Int) (w : World) (hr : RdR w w.heap.size A n ra rl rc x) (hnc : n ≤ c) (hcm : c ≤ maxLen) (hrc : ∀ i, i < n → rl i ≤ rc i ∧ rc i ≤ maxLen ∧ (ra i = none → rc i = 0)) (hrl : ∀ i, i < n → rl i ≤ 1048576) (hnl : n ≤ 1048576)
    (hz : RdZ w w.heap.size A2 m bz) (hmc : m ≤ c2) (hm2 : c2 ≤ maxLen) (h02 : A2 = none → c2 = 0) (hml : m ≤ 1048576) :
    Calls Try.prog 4 #[.slice A n c, .slice A2 m c2] w fun e w' => e = .returned (.bool true) ∧ Below w.heap.size w w' := by
  have HR := Lib.hid hr
  have HZ := Lib.hid hz
  have HRC := Lib.hid hrc
  have HRL := Lib.hid hrl
  have H02 := Lib.hid h02
  have HMC := Lib.hid (And.intro hmc hm2)
  have HCM := Lib.hid hcm
  have hnm : n ≤ maxLen := Nat.le_trans hnc hcm
  have HNM := Lib.hid hnm
  obtain ⟨b, oo, hA⟩ : ∃ b oo, 0 < n → A = some ⟨b, oo, none⟩ ∧ b < w.heap.size := by
    by_cases h : 0 < n
    · obtain ⟨b, oo, e, h1, _⟩ := hr 0 h
      exact ⟨b, oo, fun _ => ⟨e, h1⟩⟩
    · exact ⟨0, 0, fun q => absurd q h⟩
  have HA := Lib.hid hA
  have hxl : ∀ j, j < n → ∀ k, k < rl j → x j k < 256 := fun j hj k hk => by
    obtain ⟨_, _, _, _, _, h⟩ := hr j hj
    obtain ⟨_, _, _, _, _, q⟩ := h k hk
    exact q
  have HXL := Lib.hid hxl
  have hmk := fun W => make_roomZ (m + 2) (by omega) W ((m : Int) + 2) (by omega)
  have HMK := Lib.hid hmk
  clear hr hz hrc hrl h02 hA hmc hm2 hnm hxl hcm hmk
  go_enter Try.func4, Try.ntmps4
  go_wp2_with fail
  refine (known_any _).mono ?_
  rintro e0 w0 ⟨rfl, hb0⟩
  have L0 := Lib.hid hb0
  have R0 := Lib.hid (HR.out.below hb0 (Nat.le_refl _))
  clear hb0
  go_wp2_with fail
  refine (small_any n c w.heap.size A ra rl rc x _ R0.out HNM.out).mono ?_
  rintro e0 w2 ⟨hs, rfl⟩
  rcases hs with rfl | rfl
  · go_wp2_with fail
    refine (known_any _).mono ?_
    rintro e w3 ⟨rfl, hb3⟩
    have B3 := Lib.hid (L0.out.trans (hb3.mono L0.out.size))
    clear hb3
    go_wp2_with fail
    go_ret
    exact ⟨rfl, B3.out⟩
  clear R0
  go_wp2_with fail
  go_loopw [5, 6] (fun v y' wr => ∃ t : Nat, t ≤ n ∧ y' = .int .i64 (t : Int) ∧ (∃ Rr, Hid (Ins wr w.heap.size v t rl Rr x)) ∧ Hid (Below w.heap.size w wr)) (fun _ y' _ => n - (intOf y').toNat)
  case atStart => exact ⟨0, by omega, rfl, ⟨fun _ => 0, Ins.none_ _ _ _ _ _⟩, L0⟩
  case round =>
    obtain ⟨t, ht, rfl, ⟨Rr, C1⟩, L1⟩ := hrel
    clear L0
    by_cases hlt : t < n
    · have i1 : (t : Int) < (n : Int) := by omega
      have hbr : Hid (w.heap.size ≤ wr.drew.heap.size) := Lib.hid L1.out.size
      obtain ⟨rfl, hbw⟩ := HA.out (by omega)
      obtain ⟨At, hAt⟩ : ∃ At, At = ra t := ⟨_, rfl⟩
      obtain ⟨lt, hlt'⟩ : ∃ lt, lt = rl t := ⟨_, rfl⟩
      obtain ⟨ct, hct⟩ : ∃ ct, ct = rc t := ⟨_, rfl⟩
      have HC : Hid (∀ W : World, Below w.heap.size w W → W.cell? ⟨b, oo + t, none⟩ = some (.slice At lt ct) ∧ RdB W w.heap.size At lt (x t)) := Lib.hid fun W hW => by
        obtain ⟨_, hc, hx⟩ := D.rdR_head HR.out (i := t) hlt
        rw [hAt, hlt', hct]
        exact ⟨(hW.cell (p := ⟨b, oo + t, none⟩) hbw).trans hc, hx.below hW (Nat.le_refl _)⟩
      have hq := HRC.out t hlt
      have hl := HRL.out t hlt
      rw [← hAt, ← hlt', ← hct] at hq
      rw [← hlt'] at hl
      have H0T : Hid (At = none → ct = 0) := Lib.hid hq.2.2
      have QK1 : Hid (lt + 2 ≤ 9223372036854775807) := Lib.hid (by omega)
      have QK2 : Hid (lt + 2 ≤ 2199023255552) := Lib.hid (by omega)
      have QK3 : Hid (lt ≤ ct) := Lib.hid hq.1
      have QK4 : Hid (0 + lt ≤ lt + 2) := Lib.hid (by omega)
      have QK5 : Hid (t + 1 ≤ 4000000) := Lib.hid (by omega)
      have QK7 : Hid (wr.heap.size ≤ (wr.drew.alloc (.cells (rowArr (lt + 2) fun _ => 0) 5)).heap.size) := Lib.hid (by simp)
      have HLT := Lib.hid hlt'
      have HS := Lib.hid (HC.out wr.drew L1.out.drew).1
      clear hq hl hAt hct hlt'
      go_wp2_with fail
      refine region_anyZ (fun W : World => W.cell? ⟨b, oo + t, none⟩ = some (.slice At lt ct)) 16 (by kernel_rfl) ?_
      refine takeG 0 (.move (.tmp 5)) (some 38) none (u5) (by kernel_rfl) (by kernel_rfl) (by kernel_rfl) (fun _ _ _ h => h) (fun o w e hS => exec_move w e (by kernel_rfl)) HS.out ?_
      refine takeG 1 (.move (.tmp 0)) (some 39) none (.slice (some ⟨b, oo, none⟩) n c) (by kernel_rfl) (by kernel_rfl) (by kernel_rfl) (fun _ _ _ h => h) (fun o w e hS => exec_move w e (by kernel_rfl)) HS.out ?_
      refine takeG 2 (.move (.tmp 6)) (some 40) none (.int .i64 (t : Int)) (by kernel_rfl) (by kernel_rfl) (by kernel_rfl) (fun _ _ _ h => h) (fun o w e hS => exec_move w e (by kernel_rfl)) HS.out ?_
      refine takeG 3 (.indexAddr 22 (.tmp 39) (.tmp 40)) (some 41) none (.pointer (some ⟨b, oo + t, none⟩)) (by kernel_rfl) (by kernel_rfl) (by kernel_rfl) (fun _ _ _ h => h) (fun o w e hS => exec_index (u1 := .slice (some ⟨b, oo, none⟩) n c) (u2 := .int .i64 (t : Int)) w e (by kernel_rfl) (by kernel_rfl) (D.index_rows b oo n c t hlt _)) HS.out ?_
      refine takeG 4 (.load 31 (.tmp 41)) (some 42) none (.slice At lt ct) (by kernel_rfl) (by kernel_rfl) (by kernel_rfl) (fun _ _ _ h => h) (fun o w e hS => exec_load (x := (.tmp 41)) e (by kernel_rfl) (load_one Try.underlying31 (by kernel_rfl) hS)) HS.out ?_
      refine takeG 5 (.call ⟨.builtin .len, #[(.tmp 42)], #[31]⟩) (some 43) none (.int .i64 (lt : Int)) (by kernel_rfl) (by kernel_rfl) (by kernel_rfl) (fun _ _ _ h => h) (fun o w e hS => exec_len (u := .slice At lt ct) w e (by kernel_rfl) (len_slP _ At lt ct _)) HS.out ?_
      refine takeG 6 (.binOp .add 3 (.tmp 43) (.const (.int .i64 2)) 3) (some 44) none (.int .i64 ((lt + 2 : Nat) : Int)) (by kernel_rfl) (by kernel_rfl) (by kernel_rfl) (fun _ _ _ h => h) (fun o w e hS => exec_bin (u1 := .int .i64 (lt : Int)) (u2 := (.int .i64 2)) w e (by kernel_rfl) (by kernel_rfl) (eqG_int ..) (D.add_int lt 2 QK1.out _)) HS.out ?_
      refine takeG 8 (.move (.tmp 0)) (some 46) none (.slice (some ⟨b, oo, none⟩) n c) (by kernel_rfl) (by kernel_rfl) (by kernel_rfl) (fun _ _ _ h => h) (fun o w e hS => exec_move w e (by kernel_rfl)) HS.out ?_
      refine takeG 9 (.move (.tmp 6)) (some 47) none (.int .i64 (t : Int)) (by kernel_rfl) (by kernel_rfl) (by kernel_rfl) (fun _ _ _ h => h) (fun o w e hS => exec_move w e (by kernel_rfl)) HS.out ?_
      refine takeG 10 (.indexAddr 22 (.tmp 46) (.tmp 47)) (some 48) none (.pointer (some ⟨b, oo + t, none⟩)) (by kernel_rfl) (by kernel_rfl) (by kernel_rfl) (fun _ _ _ h => h) (fun o w e hS => exec_index (u1 := .slice (some ⟨b, oo, none⟩) n c) (u2 := .int .i64 (t : Int)) w e (by kernel_rfl) (by kernel_rfl) (D.index_rows b oo n c t hlt _)) HS.out ?_
      refine takeG 11 (.load 31 (.tmp 48)) (some 49) none (.slice At lt ct) (by kernel_rfl) (by kernel_rfl) (by kernel_rfl) (fun _ _ _ h => h) (fun o w e hS => exec_load (x := (.tmp 48)) e (by kernel_rfl) (load_one Try.underlying31 (by kernel_rfl) hS)) HS.out ?_
      refine loneG 7 (.makeSlice 31 (.const (.int .i64 0)) (.tmp 44)) (some 45) none (by kernel_rfl) (by kernel_rfl) (by kernel_rfl) ?_
      intro o ho hod
      refine wp_val (exec_make (u1 := .int .i64 0) (u2 := .int .i64 ((lt + 2 : Nat) : Int)) ho (by kernel_rfl) (by kernel_rfl) (make_roomF (lt + 2) QK2.out _ _ rfl)) ?_
      rw [hod]
      clear hod ho
      have LA := Lib.hid (L1.out.drew.alloc hbr.out (.cells (rowArr (lt + 2) fun _ => 0) 5))
      have BA := Lib.hid (Blk.new wr.drew 5 (rowArr (lt + 2) fun _ => 0))
      have LR := Lib.hid ((Below.refl wr.heap.size wr).drew.alloc (Nat.le_refl _) (.cells (rowArr (lt + 2) fun _ => 0) 5))
      refine ⟨fun _ => (HC.out _ LA.out).1, ?_⟩
      refine loneG 12 (.call ⟨.builtin .append, #[(.tmp 45), (.tmp 49)], #[31, 31]⟩) (some 50) none (by kernel_rfl) (by kernel_rfl) (by kernel_rfl) ?_
      intro o ho hod
      refine wp_append_room8 (.tmp 45) (.tmp 49) ho (by kernel_rfl) (by kernel_rfl) BA.out (HC.out _ LA.out).2 H0T.out QK3.out QK4.out ?_
      intro w1 hb1 ho1 hs1
      rw [hod, Nat.zero_add]
      clear hod ho
      have LR1 : Hid (Below wr.heap.size wr w1) := Lib.hid (LR.out.trans (ho1.below (Nat.le_refl wr.heap.size) QK7.out))
      have L2 : Hid (Below w.heap.size w w1) := Lib.hid (L1.out.trans (LR1.out.mono hbr.out))
      have C2 := Lib.hid (C1.out.below LR1.out (Nat.le_refl _))
      have B2 : Hid (Blk w1 wr.drew.heap.size 5 (rowArr (lt + 2) (putF lt (x t)))) := Lib.hid hb1
      have s2 := L2.out.size
      clear hb1 ho1 hs1 LA BA LR
      refine ⟨fun _ => (HC.out _ L2.out).1, ?_⟩
      refine loneG 13 (.buildSlice 22 1 #[(0, (.tmp 50))]) (some 51) none (by kernel_rfl) (by kernel_rfl) (by kernel_rfl) ?_
      intro o ho hod
      refine wp_val (exec_buildSlice1 ho (u := .slice (some ⟨wr.drew.heap.size, 0, none⟩) lt (lt + 2)) (by kernel_rfl) (D.bs_rows1 _ _ _ _)) ?_
      rw [hod]
      clear hod ho
      have L5 := Lib.hid (L2.out.alloc s2 (.cells #[.slice (some ⟨wr.drew.heap.size, 0, none⟩) lt (lt + 2)] 31))
      have C5 := Lib.hid (C2.out.below ((Below.refl w1.heap.size w1).alloc (Nat.le_refl _) (.cells #[.slice (some ⟨wr.drew.heap.size, 0, none⟩) lt (lt + 2)] 31)) (Nat.le_refl _))
      have B5 := Lib.hid (B2.out.keep (Below.heap_alloc w1 (.cells #[.slice (some ⟨wr.drew.heap.size, 0, none⟩) lt (lt + 2)] 31) _ B2.out.lt))
      have s5 := L5.out.size
      have H5 := Lib.hid (D.rdh_one w1 (some ⟨wr.drew.heap.size, 0, none⟩) lt (lt + 2))
      clear L2 C2 B2 s2
      refine ⟨fun _ => (HC.out _ L5.out).1, ?_⟩
      refine loneG 14 (.call ⟨.builtin .append, #[(.tmp 38), (.tmp 51)], #[22, 22]⟩) (some 52) none (by kernel_rfl) (by kernel_rfl) (by kernel_rfl) ?_
      intro o ho hod
      refine wp_append_hdB (.tmp 38) (.tmp 51) ho (by kernel_rfl) (by kernel_rfl) C5.out.own H5.out (fun e => by cases e) (Nat.le_refl _) QK5.out s5 ?_
      intro v5 w6 ho5 hg5
      rw [hod]
      clear hod ho
      have L6 : Hid (Below w.heap.size w w6) := Lib.hid (D.own_rowS L5.out C5.out.own hg5 s5)
      have C6 := Lib.hid (C5.out.push HLT.out ho5 hg5 B5.out hbr.out)
      clear ho5 hg5 L5 C5 B5 H5 s5
      refine ⟨fun _ => (HC.out _ L6.out).1, ?_⟩
      refine lastS 15 (.assign (.tmp 52)) (some 5) (v5) (by kernel_rfl) (by kernel_rfl) (by kernel_rfl) (HC.out _ L6.out).1 (fun o e => exec_assign _ e (by kernel_rfl)) ?_
      simp only [put_some, put_none, List.setIfInBounds_toArray, List.set_cons_succ, List.set_cons_zero]
      clear HS HC C1 L1 H0T QK1 QK2 QK3 QK4 QK5 QK7 HLT hbr
      go_wp2_with fail
      go_roundw
      case rel => exact ⟨t + 1, by omega, by go_num, ⟨_, C6⟩, L6⟩
      case measure => simp [intOf]; omega
    obtain rfl : n = t := by omega
    have i1 : ¬ (n : Int) < (n : Int) := by omega
    clear hlt ht
    have L1s := L1.out.size
    have ZB := Lib.hid (HZ.out.below L1.out (Nat.le_refl _))
    have QM0 := HMC.out.1
    have hmk := HMK.out
    have QM1 : Hid (m ≤ m + 2) := Lib.hid (by omega)
    have QM2 : Hid (m + 2 ≤ 4000000) := Lib.hid (by omega)
    have QM3 := Lib.hid QM0
    clear QM0
    go_wp2_with ((with_reducible refine wpList_append_roomZ rfl (.tmp 56) (.tmp 57) rfl rfl rfl ZB.out L1s hml H02.out QM3.out QM1.out QM2.out ?_); intro A7 c7 w3 hz3 hc7 hm7 h07 hb3; refine of_hid ?_)
    refine Lib.hid ?_
    have Z3 := Lib.hid hz3
    have L3 := Lib.hid (L1.out.trans (hb3.mono L1s))
    have C3 := Lib.hid (C1.out.below hb3 (Nat.le_refl _))
    have HC7 := Lib.hid (And.intro hc7 (And.intro hm7 h07))
    clear hmk hz3 hb3 hc7 hm7 h07 ZB C1 L1 L1s QM1 QM2 QM3 HMK
    obtain ⟨A5, c5, rfl, hc5, hm5, hrd5⟩ := C3.out.rdr HXL.out
    have HC5 := Lib.hid (And.intro hc5 hm5)
    have RD3 := Lib.hid hrd5
    have hw3 := L3.out.size
    obtain ⟨g1, hg1⟩ : ∃ g1, g1 = w3.heap.size := ⟨_, rfl⟩
    rw [← hg1] at hw3
    have HRR : Hid (∀ W, Below g1 w3 W → RdR W g1 A5 n (fun j => some ⟨Rr j, 0, none⟩) rl (fun j => rl j + 2) x) := Lib.hid fun W hW => by
      have h := RD3.out
      rw [← hg1] at h
      exact h.below hW (Nat.le_refl _)
    have HBZ : Hid (∀ W, Below g1 w3 W → RdZ W g1 A7 m bz) := Lib.hid fun W hW => by
      have h := Z3.out
      rw [← hg1] at h
      exact h.below hW (Nat.le_refl _)
    have HIN : Hid (∀ W, Below g1 w3 W → Ins W w.heap.size (.slice A5 n c5) n rl Rr x) := Lib.hid fun W hW => C3.out.below hW (by rw [hg1]; exact Nat.le_refl _)
    have HG1 := Lib.hid hg1
    obtain ⟨i2, n2, XX, hS⟩ := rebuilds n m rl x bz HXL.out
    have HS2 := Lib.hid hS
    have hn2 := hS.short
    have hi2 := hS.few
    clear hc5 hm5 hrd5 RD3 Z3 C3 hg1 hS
    go_wp2_with fail
    refine (make_ans n c5 g1 A5 _ rl _ x _ (HRR.out w3 (Below.refl _ _)) (by rw [HG1.out]; exact Nat.le_refl _)).mono ?_
    rintro e w4 ⟨v8, er8, i8, n8, R8, X8, rfl, hi8, hn8, hx4, hb4⟩
    rw [← HG1.out] at hx4 hb4
    have L4 := Lib.hid hb4
    have AX4 := Lib.hid hx4
    obtain ⟨g4, hg4⟩ : ∃ g4, g4 = w4.heap.size := ⟨_, rfl⟩
    have hs4 : g1 ≤ g4 := by have := hb4.size; rw [hg4, HG1.out]; exact this
    have XB : Hid (∀ j, j < i8 → R8 j < g4) := Lib.hid fun j hj => by rw [hg4]; exact (AX4.out.row j hj).2.lt
    have HG4 := Lib.hid hg4
    clear hx4 hb4 hg4
    go_wp2_with fail
    refine (HS2.out.prg c5 g1 c7 g1 A5 A7 _ _ w4 (HRR.out w4 L4.out) (HBZ.out w4 L4.out) (by rw [← HG4.out]; exact hs4) (by rw [← HG4.out]; exact hs4) HC7.out.1 HC7.out.2.1 HC7.out.2.2).mono ?_
    rintro e w5 ⟨v10, er10, R10, X10, rfl, hy5, _, hb5⟩
    rw [← HG4.out] at hy5 hb5
    have L5 := Lib.hid (L4.out.trans (hb5.mono hs4))
    have AX5 := Lib.hid (AX4.out.below hb5 (by rw [HG4.out]; exact Nat.le_refl _))
    have AY5 := Lib.hid hy5
    obtain ⟨g5, hg5⟩ : ∃ g5, g5 = w5.heap.size := ⟨_, rfl⟩
    have hs5 : g4 ≤ g5 := by have := hb5.size; rw [hg5, HG4.out]; exact this
    have hs15 : g1 ≤ g5 := Nat.le_trans hs4 hs5
    have YB : Hid ((∀ g, v10.ownBlock = some g → g < g5) ∧ ∀ j, j < i2 → R10 j < g5) := Lib.hid ⟨fun g hg => by rw [hg5]; exact (AY5.out.own.lt hg).1, fun j hj => by rw [hg5]; exact (AY5.out.row j hj).2.lt⟩
    have HG5 := Lib.hid hg5
    clear hy5 hb5 hg5 AX4 L4
    go_wp2_with fail
    refine (HS2.out.prg c5 g1 c7 g1 A5 A7 _ _ w5 (HRR.out w5 L5.out) (HBZ.out w5 L5.out) (by rw [← HG5.out]; exact hs15) (by rw [← HG5.out]; exact hs15) HC7.out.1 HC7.out.2.1 HC7.out.2.2).mono ?_
    rintro e w6 ⟨v12, er12, R12, X12, rfl, hz6, hzx, hb6⟩
    rw [← HG5.out] at hz6 hb6
    have L6 := Lib.hid (L5.out.trans (hb6.mono hs15))
    have AX6 := Lib.hid (AX5.out.below hb6 (by rw [HG5.out]; exact Nat.le_refl _))
    have AY6 := Lib.hid (AY5.out.below hb6 (by rw [HG5.out]; exact Nat.le_refl _))
    have AZ6 := Lib.hid hz6
    have EZ := Lib.hid hzx
    have hs6 : g1 ≤ w6.heap.size := by have := L6.out.size; rw [← HG1.out] at this; exact this
    clear hz6 hzx hb6 AX5 AY5 L5
    go_wp2_with fail
    refine (check_ans n c5 g1 A5 _ rl _ x _ (HRR.out w6 L6.out) hs6 HC5.out.1 HC5.out.2).mono ?_
    rintro e w7 ⟨yb, er7, rfl, hb7⟩
    have L7 := Lib.hid (L6.out.trans (hb7.mono hs6))
    have AX7 := Lib.hid (AX6.out.below hb7 (Nat.le_refl _))
    have AY7 := Lib.hid (AY6.out.below hb7 (Nat.le_refl _))
    have AZ7 := Lib.hid (AZ6.out.below hb7 (Nat.le_refl _))
    clear hb7 AX6 AY6 AZ6 L6 hs6
    obtain ⟨A8, c8, rfl, _⟩ := AX7.out.own.shape
    obtain ⟨A10, c10, rfl, _⟩ := AY7.out.own.shape
    go_wp2_with fail
    go_loopw [14] (fun y' wr => ∃ j : Nat, j ≤ i8 ∧ y' = .int .i64 (j : Int) ∧ Hid (∃ X, Ans wr g1 (.slice A8 i8 c8) i8 n8 R8 X) ∧ Hid (Below g1 w3 wr) ∧ Hid (Up g4 w7 wr)) (fun y' _ => i8 - (intOf y').toNat)
    case atStart => exact ⟨0, by omega, rfl, Lib.hid ⟨X8, AX7.out⟩, L7, Lib.hid (Up.refl _ _)⟩
    case round =>
      obtain ⟨j, hj, rfl, AX8, L8, U8⟩ := hrel
      rename World => w8
      clear AX7 L7
      by_cases hlj : j < i8
      · have j1 : (j : Int) < (i8 : Int) := by omega
        go_wp2_with fail
        clear j1
        go_loopw [15] (fun y' wr => ∃ k : Nat, k ≤ n8 ∧ y' = .int .i64 (k : Int) ∧ Hid (∃ X, Ans wr g1 (.slice A8 i8 c8) i8 n8 R8 X) ∧ Hid (Below g1 w3 wr) ∧ Hid (Up g4 w7 wr)) (fun y' _ => n8 - (intOf y').toNat)
        case atStart => exact ⟨0, by omega, rfl, AX8, L8, U8⟩
        case round =>
          obtain ⟨k, hk, rfl, AX9, L9, U9⟩ := hrel
          rename World => w9
          clear AX8 L8 U8
          have j1 : (j : Int) < (i8 : Int) := by omega
          obtain ⟨X9, hx9⟩ := AX9.out
          obtain ⟨g, rfl, _, _, c1, _⟩ := hd_at hx9.own hlj
          obtain ⟨hgj, hrow⟩ := hx9.row j hlj
          have hRj := XB.out j hlj
          have HX9 := Lib.hid hx9
          by_cases hlk : k < n8
          · have j2 : (k : Int) < (n8 : Int) := by omega
            have c2 := hrow.cell hlk
            have f2 := hrow.frozen hlk
            have AX10 : Hid (∃ X, Ans (w9.setCell ⟨R8 j, k, none⟩ (.int .u8 170)) g1 (.slice (some ⟨g, 0, none⟩) i8 c8) i8 n8 R8 X) := Lib.hid ⟨_, HX9.out.set (u := 170) hlj hlk⟩
            have L10 := Lib.hid (L9.out.setCell (p := ⟨R8 j, k, none⟩) hgj (.int .u8 170))
            have U10 := Lib.hid (U9.out.set (p := ⟨R8 j, k, none⟩) hRj (.int .u8 170))
            replace c1 : w9.cell? ⟨g, j, none⟩ = some (.slice (some ⟨R8 j, 0, none⟩) n8 n8) := c1
            clear hx9 hrow AX9 L9 U9 HX9 hgj hRj
            generalize R8 j = gj at *
            go_wp2_with fail
            go_roundw
            case rel => exact ⟨k + 1, by omega, by go_num, AX10, L10, U10⟩
            case measure => simp [intOf]; omega
          · have j2 : ¬ (k : Int) < (n8 : Int) := by omega
            replace c1 : w9.cell? ⟨g, j, none⟩ = some (.slice (some ⟨R8 j, 0, none⟩) n8 n8) := c1
            clear hx9 hrow HX9 hgj hRj
            go_wp2_with fail
            go_roundw
            case rel => exact ⟨j + 1, by omega, by go_num, AX9, L9, U9⟩
            case measure => simp [intOf]; omega
      have j1 : ¬ (j : Int) < (i8 : Int) := by omega
      have AZ8 := Lib.hid (AZ7.out.up hs5 U8.out)
      have YI8 := Lib.hid (YInv.start (AY7.out.up (Nat.le_refl g4) U8.out) YB.out.1 YB.out.2)
      clear AX8 AY7 AZ7 U8 hlj hj
      go_wp2_with fail
      clear j1
      go_loopw [16] (fun y' wr => ∃ j : Nat, j ≤ i2 ∧ y' = .int .i64 (j : Int) ∧ Hid (YInv wr g4 g5 (.slice A10 i2 c10) i2 n2 j R10) ∧ Hid (Below g1 w3 wr) ∧ Hid (Up g5 w8 wr)) (fun y' _ => i2 - (intOf y').toNat)
      case atStart => exact ⟨0, by omega, rfl, YI8, L8, Lib.hid (Up.refl _ _)⟩
      case round =>
        obtain ⟨j, hj, rfl, YI9, L9, U9⟩ := hrel
        rename World => w9
        clear YI8 L8
        by_cases hlj : j < i2
        · have j1 : (j : Int) < (i2 : Int) := by omega
          go_wp2_with fail
          clear j1
          go_loopw [17] (fun y' wr => ∃ k : Nat, k ≤ n2 ∧ y' = .int .i64 (k : Int) ∧ Hid (YInv wr g4 g5 (.slice A10 i2 c10) i2 n2 j R10) ∧ Hid (Below g1 w3 wr) ∧ Hid (Up g5 w8 wr)) (fun y' _ => n2 - (intOf y').toNat)
          case atStart => exact ⟨0, by omega, rfl, YI9, L9, U9⟩
          case round =>
            obtain ⟨k, hk, rfl, YI10, L10, U10⟩ := hrel
            rename World => wA
            clear YI9 L9 U9
            have j1 : (j : Int) < (i2 : Int) := by omega
            obtain ⟨g, rfl, hgl, hgh, c1, fg⟩ := YI10.out.at_ hlj
            obtain ⟨r1, r2, X, hrow⟩ := YI10.out.row j (Nat.le_refl _) hlj
            by_cases hlk : k < n2
            · have j2 : (k : Int) < (n2 : Int) := by omega
              have c2 := hrow.cell hlk
              have f2 := hrow.frozen hlk
              have YI11 : Hid (YInv (wA.setCell ⟨R10 j, k, none⟩ (.int .u8 171)) g4 g5 (.slice (some ⟨g, 0, none⟩) i2 c10) i2 n2 j R10) := Lib.hid (YI10.out.set (u := 171) hlj hlk)
              have L11 := Lib.hid (L10.out.setCell (p := ⟨R10 j, k, none⟩) (Nat.le_trans hs4 r1) (.int .u8 171))
              have U11 := Lib.hid (U10.out.set (p := ⟨R10 j, k, none⟩) r2 (.int .u8 171))
              clear hrow YI10 L10 U10 fg r1 r2 hgl hgh
              generalize R10 j = gj at *
              go_wp2_with fail
              go_roundw
              case rel => exact ⟨k + 1, by omega, by go_num, YI11, L11, U11⟩
              case measure => simp [intOf]; omega
            · have j2 : ¬ (k : Int) < (n2 : Int) := by omega
              have bA : Below wA.heap.size wA (wA.alloc (.cells #[.int .u8 172] 5)) := (Below.refl _ _).alloc (Nat.le_refl _) _
              have LA := Lib.hid (L10.out.alloc (by have := L10.out.size; rw [← HG1.out] at this; exact this) (.cells #[.int .u8 172] 5))
              have YA := Lib.hid (YI10.out.below bA)
              have UA := Lib.hid (U10.out.below bA)
              have HROW := Lib.hid (hrow.new_ bA)
              have hu : Hid ((wA.alloc (.cells #[.int .u8 172] 5)).cell? ⟨wA.heap.size, 0, none⟩ = some (.int .u8 172)) := Lib.hid (by rw [(Blk.new wA 5 #[.int .u8 172]).cell]; rfl)
              have HN2 : Hid (n2 ≤ 4096) := Lib.hid HS2.out.short
              clear hrow bA YI10 L10 U10 r1 r2
              go_wp2_with ((with_reducible refine wpList_grow8 rfl (.tmp 125) (.tmp 126) rfl rfl rfl HROW.out hu.out HN2.out ?_); intro g' c' wB hbB; refine of_hid ?_)
              refine Lib.hid ?_
              have YB2 := Lib.hid (YA.out.below hbB)
              obtain ⟨g0, e0, _, _, c3, f3⟩ := YB2.out.at_ hlj
              injection e0 with e0
              injection e0 with e0
              subst e0
              have LB := Lib.hid (LA.out.trans (hbB.mono (by have := LA.out.size; rw [← HG1.out] at this; exact this)))
              have UB := Lib.hid (UA.out.below hbB)
              have YI12 := Lib.hid (YB2.out.store (a := some ⟨g', 0, none⟩) (n2 := n2 + 1) (c2 := c') hlj)
              have L12 := Lib.hid (LB.out.setCell (p := ⟨g, j, none⟩) (Nat.le_trans hs4 hgl) (.slice (some ⟨g', 0, none⟩) (n2 + 1) c'))
              have U12 := Lib.hid (UB.out.set (p := ⟨g, j, none⟩) hgh (.slice (some ⟨g', 0, none⟩) (n2 + 1) c'))
              clear YB2 LA LB UA UB YA HROW hu hbB c1 fg
              go_wp2_with fail
              go_roundw
              case rel => exact ⟨j + 1, by omega, by go_num, YI12, L12, U12⟩
              case measure => simp [intOf]; omega
        have j1 : ¬ (j : Int) < (i2 : Int) := by omega
        have AZ9 := Lib.hid (AZ8.out.up (Nat.le_refl g5) U9.out)
        have LL := Lib.hid (L3.out.trans (L9.out.mono hw3))
        have sL := LL.out.size
        have hs9 : g1 ≤ w9.heap.size := by have := L9.out.size; rw [← HG1.out] at this; exact this
        clear YI9 AZ8 U9 hlj hj
        go_wp2_with fail
        clear j1
        refine (HS2.out.doc c w.heap.size c2 w.heap.size A A2 ra rc w9 (HR.out.below LL.out (Nat.le_refl _)) (HZ.out.below LL.out (Nat.le_refl _)) sL sL HMC.out.1 HMC.out.2 (fun i hi => ⟨(HRC.out i hi).1, (HRC.out i hi).2.1⟩)).mono ?_
        rintro e wB ⟨v18, er18, H18, R18, X18, rfl, hc18, hx18, hb18⟩
        obtain ⟨Az, cz, rfl, _, _, hrz⟩ := (AZ9.out.below hb18 (Nat.le_refl _)).rdr (fun a ha u hu => by rw [EZ.out a ha u hu]; exact HS2.out.lt a ha u hu)
        obtain ⟨Aw, cw, rfl, _, _, hrw⟩ := hc18.rdr (fun a ha u hu => by rw [hx18 a ha u hu]; exact HS2.out.lt a ha u hu)
        have QF : Hid (∀ i, i < i2 → n2 = (H18 i).2.1 ∧ ∀ v, v < n2 → X12 i v = X18 i v) := Lib.hid fun i hi => ⟨(hc18.len hi).symm, fun v hv => by rw [EZ.out i hi v hv, hx18 i hi v hv]⟩
        have RZ := Lib.hid hrz
        have RW := Lib.hid hrw
        have LB := Lib.hid (L9.out.trans (hb18.mono hs9))
        have hsB : g1 ≤ wB.heap.size := by have := LB.out.size; rw [← HG1.out] at this; exact this
        clear hrz hrw hc18 hx18 hb18 AZ9 L9 hs9 LL sL
        go_wp2_with fail
        go_loopw [20] (fun y' wr => ∃ i : Nat, i ≤ n ∧ y' = .int .i64 (i : Int) ∧ Hid (Below wB.heap.size wB wr)) (fun y' _ => n - (intOf y').toNat)
        case atStart => exact ⟨0, by omega, rfl, Lib.hid (Below.refl _ _)⟩
        case round =>
          obtain ⟨i, hi, rfl, K1⟩ := hrel
          rename World => wC
          by_cases hli : i < n
          · have j1 : (i : Int) < (n : Int) := by omega
            obtain ⟨b5, o5, rfl, _⟩ := HRR.out w3 (Below.refl _ _) i hli
            obtain ⟨li, hlx⟩ : ∃ li, li = rl i := ⟨_, rfl⟩
            obtain ⟨gi, hgi⟩ : ∃ gi, gi = Rr i := ⟨_, rfl⟩
            have HQ : Hid (∀ W, Below wB.heap.size wB W → W.cell? ⟨b5, o5 + i, none⟩ = some (.slice (some ⟨gi, 0, none⟩) li (li + 2)) ∧ Blk W gi 5 (rowArr (li + 2) (putF li (x i)))) := Lib.hid fun W hW => by
              have hWw := LB.out.trans (hW.mono hsB)
              obtain ⟨_, h1, _⟩ := D.rdR_head (HRR.out W hWw) hli
              have h4 := ((HIN.out W hWw).row i hli).2
              rw [hlx, hgi]
              exact ⟨h1, h4⟩
            have HS := Lib.hid (HQ.out wC.drew K1.out.drew).1
            have K2 := Lib.hid K1.out.drew
            have hlb : li ≤ 1048576 := by rw [hlx]; exact HRL.out i hli
            clear hlx hgi K1
            go_wp2_with fail
            refine region_anyZ (fun W : World => W.cell? ⟨b5, o5 + i, none⟩ = some (.slice (some ⟨gi, 0, none⟩) li (li + 2))) 11 (by kernel_rfl) ?_
            refine takeG 0 (.move (.tmp 5)) (some 141) none (.slice (some ⟨b5, o5, none⟩) n c5) (by kernel_rfl) (by kernel_rfl) (by kernel_rfl) (fun _ _ _ h => h) (fun o w e hS => exec_move w e (by kernel_rfl)) HS.out ?_
            refine takeG 1 (.move (.tmp 20)) (some 142) none (.int .i64 (i : Int)) (by kernel_rfl) (by kernel_rfl) (by kernel_rfl) (fun _ _ _ h => h) (fun o w e hS => exec_move w e (by kernel_rfl)) HS.out ?_
            refine takeG 2 (.indexAddr 22 (.tmp 141) (.tmp 142)) (some 143) none (.pointer (some ⟨b5, o5 + i, none⟩)) (by kernel_rfl) (by kernel_rfl) (by kernel_rfl) (fun _ _ _ h => h) (fun o w e hS => exec_index (u1 := .slice (some ⟨b5, o5, none⟩) n c5) (u2 := .int .i64 (i : Int)) w e (by kernel_rfl) (by kernel_rfl) (D.index_rows b5 o5 n c5 i hli _)) HS.out ?_
            refine takeG 3 (.load 31 (.tmp 143)) (some 144) none (.slice (some ⟨gi, 0, none⟩) li (li + 2)) (by kernel_rfl) (by kernel_rfl) (by kernel_rfl) (fun _ _ _ h => h) (fun o w e hS => exec_load (x := (.tmp 143)) e (by kernel_rfl) (load_one Try.underlying31 (by kernel_rfl) hS)) HS.out ?_
            refine takeG 4 (.move (.tmp 5)) (some 145) none (.slice (some ⟨b5, o5, none⟩) n c5) (by kernel_rfl) (by kernel_rfl) (by kernel_rfl) (fun _ _ _ h => h) (fun o w e hS => exec_move w e (by kernel_rfl)) HS.out ?_
            refine takeG 5 (.move (.tmp 20)) (some 146) none (.int .i64 (i : Int)) (by kernel_rfl) (by kernel_rfl) (by kernel_rfl) (fun _ _ _ h => h) (fun o w e hS => exec_move w e (by kernel_rfl)) HS.out ?_
            refine takeG 6 (.indexAddr 22 (.tmp 145) (.tmp 146)) (some 147) none (.pointer (some ⟨b5, o5 + i, none⟩)) (by kernel_rfl) (by kernel_rfl) (by kernel_rfl) (fun _ _ _ h => h) (fun o w e hS => exec_index (u1 := .slice (some ⟨b5, o5, none⟩) n c5) (u2 := .int .i64 (i : Int)) w e (by kernel_rfl) (by kernel_rfl) (D.index_rows b5 o5 n c5 i hli _)) HS.out ?_
            refine takeG 7 (.load 31 (.tmp 147)) (some 148) none (.slice (some ⟨gi, 0, none⟩) li (li + 2)) (by kernel_rfl) (by kernel_rfl) (by kernel_rfl) (fun _ _ _ h => h) (fun o w e hS => exec_load (x := (.tmp 147)) e (by kernel_rfl) (load_one Try.underlying31 (by kernel_rfl) hS)) HS.out ?_
            refine loneG 8 (.call ⟨.builtin .cap, #[(.tmp 148)], #[31]⟩) (some 149) none (by kernel_rfl) (by kernel_rfl) (by kernel_rfl) ?_
            intro o ho hod
            refine wp_val (v := .int .i64 ((li + 2 : Nat) : Int)) (exec_capP (u := .slice (some ⟨gi, 0, none⟩) li (li + 2)) ho (by kernel_rfl) (cap_slP _ (some ⟨gi, 0, none⟩) li (li + 2) _)) ?_
            rw [hod]
            clear hod ho
            refine ⟨fun _ => HS.out, ?_⟩
            refine takeG 9 (.slice 31 (.tmp 144) .none (.some (.tmp 149)) .none) (some 150) none (.slice (some ⟨gi, 0, none⟩) (li + 2) (li + 2)) (by kernel_rfl) (by kernel_rfl) (by kernel_rfl) (fun _ _ _ h => h) (fun o w e hS => exec_slice (u := .slice (some ⟨gi, 0, none⟩) li (li + 2)) w e (by kernel_rfl) (by kernel_rfl) (by kernel_rfl) (by kernel_rfl) (D.slice_headB gi 0 li (li + 2) (li + 2) (Nat.le_refl _) _)) HS.out ?_
            refine lastS 10 (.assign (.tmp 150)) (some 21) (.slice (some ⟨gi, 0, none⟩) (li + 2) (li + 2)) (by kernel_rfl) (by kernel_rfl) (by kernel_rfl) HS.out (fun o e => exec_assign _ e (by kernel_rfl)) ?_
            simp only [put_some, put_none, List.setIfInBounds_toArray, List.set_cons_succ, List.set_cons_zero]
            clear HS
            generalize wC.drew = wD at *
            have c1 := (HQ.out wD K2.out).1
            go_wp2_with fail
            clear c1
            go_loopw [22] (fun y' wr => ∃ k : Nat, li ≤ k ∧ k ≤ li + 2 ∧ y' = .int .i64 (k : Int) ∧ Hid (Below wB.heap.size wB wr)) (fun y' _ => li + 2 - (intOf y').toNat)
            case atStart => exact ⟨li, by omega, by omega, rfl, K2⟩
            case round =>
              obtain ⟨q, hq1, hq2, rfl, K3⟩ := hrel
              rename World => wE
              clear K2
              by_cases hlq : q < li + 2
              · have j2 : (q : Int) < (li : Int) + 2 := by omega
                have c2 : wE.cell? ⟨gi, q, none⟩ = some (.int .u8 0) := by
                  rw [(HQ.out wE K3.out).2.cell, rowArr_get hlq, putF_out _ hq1]
                  rfl
                go_wp2_with fail
                clear c2
                go_roundw
                case rel => exact ⟨q + 1, by omega, by omega, by go_num, K3⟩
                case measure => simp [intOf]; omega
              · obtain rfl : q = li + 2 := by omega
                rw [show ((li + 2 : Nat) : Int) = (li : Int) + 2 by omega]
                clear hlq hq1 hq2 HQ
                go_wp2_with fail
                go_roundw
                case rel => exact ⟨i + 1, by omega, by go_num, K3⟩
                case measure => simp [intOf]; omega
          have j1 : ¬ (i : Int) < (n : Int) := by omega
          clear hli hi
          go_wp2_with fail
          clear j1
          go_loopw [23] (fun y' wr => ∃ j : Nat, j ≤ m ∧ y' = .int .i64 (j : Int) ∧ Hid (Below wB.heap.size wB wr)) (fun y' _ => m - (intOf y').toNat)
          case atStart => exact ⟨0, by omega, rfl, K1⟩
          case round =>
            obtain ⟨j, hj, rfl, K2⟩ := hrel
            rename World => wD
            clear K1
            by_cases hlj : j < m
            · have j1 : (j : Int) < (m : Int) := by omega
              have hWw := LB.out.trans (K2.out.drew.mono hsB)
              have hWv := L3.out.trans (hWw.mono hw3)
              obtain ⟨b7, o7, rfl, _, k7⟩ := HBZ.out wD.drew hWw j hlj
              obtain ⟨b2, o2, rfl, _, k2⟩ := (HZ.out.below hWv (Nat.le_refl _)) j hlj
              have HS : Hid (wD.drew.cell? ⟨b7, o7 + j, none⟩ = some (.int .i64 (bz j)) ∧ wD.drew.cell? ⟨b2, o2 + j, none⟩ = some (.int .i64 (bz j))) := Lib.hid ⟨k7, k2⟩
              have K3 := Lib.hid K2.out.drew
              clear k7 k2 hWw hWv K2
              go_wp2_with fail
              refine region_anyZ (fun W : World => W.cell? ⟨b7, o7 + j, none⟩ = some (.int .i64 (bz j)) ∧ W.cell? ⟨b2, o2 + j, none⟩ = some (.int .i64 (bz j))) 9 (by kernel_rfl) ?_
              refine takeG 0 (.move (.tmp 7)) (some 173) none (.slice (some ⟨b7, o7, none⟩) m c7) (by kernel_rfl) (by kernel_rfl) (by kernel_rfl) (fun _ _ _ h => h) (fun o w e hS => exec_move w e (by kernel_rfl)) HS.out ?_
              refine takeG 1 (.move (.tmp 23)) (some 174) none (.int .i64 (j : Int)) (by kernel_rfl) (by kernel_rfl) (by kernel_rfl) (fun _ _ _ h => h) (fun o w e hS => exec_move w e (by kernel_rfl)) HS.out ?_
              refine takeG 2 (.indexAddr 23 (.tmp 173) (.tmp 174)) (some 175) none (.pointer (some ⟨b7, o7 + j, none⟩)) (by kernel_rfl) (by kernel_rfl) (by kernel_rfl) (fun _ _ _ h => h) (fun o w e hS => exec_index (u1 := .slice (some ⟨b7, o7, none⟩) m c7) (u2 := .int .i64 (j : Int)) w e (by kernel_rfl) (by kernel_rfl) (index_ints b7 o7 m c7 j hlj _)) HS.out ?_
              refine takeG 3 (.load 3 (.tmp 175)) (some 176) none (.int .i64 (bz j)) (by kernel_rfl) (by kernel_rfl) (by kernel_rfl) (fun _ _ _ h => h) (fun o w e hS => exec_load (x := (.tmp 175)) e (by kernel_rfl) (load_one Try.underlying3 (by kernel_rfl) hS.1)) HS.out ?_
              refine takeG 4 (.move (.tmp 1)) (some 177) none (.slice (some ⟨b2, o2, none⟩) m c2) (by kernel_rfl) (by kernel_rfl) (by kernel_rfl) (fun _ _ _ h => h) (fun o w e hS => exec_move w e (by kernel_rfl)) HS.out ?_
              refine takeG 5 (.move (.tmp 23)) (some 178) none (.int .i64 (j : Int)) (by kernel_rfl) (by kernel_rfl) (by kernel_rfl) (fun _ _ _ h => h) (fun o w e hS => exec_move w e (by kernel_rfl)) HS.out ?_
              refine takeG 6 (.indexAddr 23 (.tmp 177) (.tmp 178)) (some 179) none (.pointer (some ⟨b2, o2 + j, none⟩)) (by kernel_rfl) (by kernel_rfl) (by kernel_rfl) (fun _ _ _ h => h) (fun o w e hS => exec_index (u1 := .slice (some ⟨b2, o2, none⟩) m c2) (u2 := .int .i64 (j : Int)) w e (by kernel_rfl) (by kernel_rfl) (index_ints b2 o2 m c2 j hlj _)) HS.out ?_
              refine takeG 7 (.load 3 (.tmp 179)) (some 180) none (.int .i64 (bz j)) (by kernel_rfl) (by kernel_rfl) (by kernel_rfl) (fun _ _ _ h => h) (fun o w e hS => exec_load (x := (.tmp 179)) e (by kernel_rfl) (load_one Try.underlying3 (by kernel_rfl) hS.2)) HS.out ?_
              refine lastS 8 (.binOp .neq 3 (.tmp 176) (.tmp 180) 3) (some 181) (.bool false) (by kernel_rfl) (by kernel_rfl) (by kernel_rfl) HS.out (fun o e => exec_bin (u1 := .int .i64 (bz j)) (u2 := .int .i64 (bz j)) _ e (by kernel_rfl) (by kernel_rfl) (eqG_int ..) (neq_intP _ _)) ?_
              simp only [put_some, put_none, List.setIfInBounds_toArray, List.set_cons_succ, List.set_cons_zero]
              clear HS
              generalize wD.drew = wE at *
              go_wp2_with fail
              go_roundw
              case rel => exact ⟨j + 1, by omega, by go_num, K3⟩
              case measure => simp [intOf]; omega
            have j1 : ¬ (j : Int) < (m : Int) := by omega
            have hWw := LB.out.trans (K2.out.mono hsB)
            have hWv := L3.out.trans (hWw.mono hw3)
            have QA := Lib.hid (HRR.out wD hWw)
            have QB := Lib.hid (HR.out.below hWv (Nat.le_refl _))
            have QZ := Lib.hid (RZ.out.below K2.out (Nat.le_refl _))
            have QW := Lib.hid (RW.out.below K2.out (Nat.le_refl _))
            have QI : Hid (i2 ≤ maxLen) := Lib.hid (by have := HS2.out.few; unfold maxLen; omega)
            have QN := HNM
            have LF := Lib.hid hWv
            clear hWw hWv hlj hj K2
            go_wp2_with fail
            refine (same_yes n c5 c _ _ A5 A _ _ _ _ _ _ _ _ _ QA.out QB.out (fun i hi => ⟨rfl, fun v hv => rfl⟩) QN.out).mono ?_
            rintro e wE ⟨rfl, q1, rfl⟩
            go_wp2_with fail
            refine (same_yes i2 cz cw _ _ Az Aw _ _ _ _ _ _ _ _ _ (QZ.out.drewN _) (QW.out.drewN _) QF.out QI.out).mono ?_
            rintro e wF ⟨rfl, q2, rfl⟩
            go_wp2_with fail
            go_ret
            exact ⟨rfl, ⟨LF.out.os, LF.out.tape, LF.out.output, LF.out.size, LF.out.block⟩⟩
end parityApart
end Go.Proofs.Ytoabhbmhjelplaa
