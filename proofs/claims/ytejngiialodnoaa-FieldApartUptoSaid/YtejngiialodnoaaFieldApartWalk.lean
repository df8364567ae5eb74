/-
  The walk of 'FieldApart': what is handed in stays as it is; answers are memory of their own, the same each time. Conditions: no row is longer than 2^20.
-/
import Derived.Test.YtejngiialodnoaaFieldApartGen
namespace Go.Proofs.Ytejngiialodnoaa
open Go Go.RowKit
set_option maxRecDepth 100000
set_option linter.unusedVariables false
namespace fieldApart
theorem len_slF (ty : TypeId) (A : Option Addr) (n c : Nat) (w : World) : (Builtin.len_ #[37] ty #[.slice A n c]).run Try.prog w = .ok (.int .i64 (n : Int)) w := by
  simp [Builtin.len_, Builtin.lenOf, goInt, run_underlying Try.underlying37]
theorem cap_slF (ty : TypeId) (A : Option Addr) (n c : Nat) (w : World) : (Builtin.cap_ #[37] ty #[.slice A n c]).run Try.prog w = .ok (.int .i64 (c : Int)) w := by
  simp [Builtin.cap_, Builtin.lenOf, goInt, run_underlying Try.underlying37]
theorem exec_capF {P : Program} {a : Act} {w : World} {o : Oper} {x : Operand} {t : TypeId} {u v : Value} (e : o.op = .call { callee := .builtin .cap, args := #[x], argTypes := #[t] }) (hx : a.eval x = u) (hf : (Builtin.cap_ #[t] o.type #[u]).run P w = .ok v w) : (execOp a.eval o).run P w = .ok (.value v) w := by
  unfold execOp; simp [e, hx, hf, resolve, invoke, builtin, Sem.run_bind, Sem.run_pure, Result.andThen_ok]
theorem index_bytes0F (g n c i : Nat) (h : i < n) (w : World) : (Instr.indexAt 37 (.slice (some ⟨g, 0, none⟩) n c) (.int .i64 (i : Int))).run Try.prog w = .ok (.pointer (some ⟨g, i, none⟩)) w := by
  have k := D.index_bytes g 0 n c i h w
  rw [Nat.zero_add] at k
  exact k
theorem neq_u8F (a : Nat) (w : World) : (binOp .neq 5 (.int .u8 (a : Int)) (.int .u8 (a : Int))).run Try.prog w = .ok (.bool false) w := by
  have h : (binOp .neq 5 (.int .u8 (a : Int)) (.int .u8 (a : Int))).run Try.prog w = .ok (.bool (!((a : Int) == (a : Int)))) w := by kernel_rfl
  rw [h, beq_self_eq_true]
  rfl
theorem neq_strF (a : ByteArray) (w : World) : (binOp .neq 9 (.string a) (.string a)).run Try.prog w = .ok (.bool false) w := by
  have h : (binOp .neq 9 (.string a) (.string a)).run Try.prog w = .ok (.bool (!(a.toList == a.toList))) w := by simp [binOp, Op.stringOp, bne]
  rw [h, beq_self_eq_true]
  rfl
def mixX (X : Nat → Nat) (k j : Nat) : Nat := if j < k then X j ^^^ 85 else X j
theorem mixX_set (X : Nat → Nat) (k j : Nat) : upd (mixX X k) k (X k ^^^ 85) j = mixX X (k + 1) j := by
  unfold upd mixX
  by_cases h : j = k
  · rw [if_pos h, if_pos (by omega), h]
  · rw [if_neg h]
    by_cases h2 : j < k
    · rw [if_pos h2, if_pos (by omega)]
    · rw [if_neg h2, if_neg (by omega)]
theorem xor_twice (a : Nat) : (a ^^^ 85) ^^^ 85 = a := by rw [Nat.xor_assoc, Nat.xor_self, Nat.xor_zero]

set_option maxHeartbeats 12800000 in
theorem main (A A2 : Option Addr) (n c m c2 : Nat) (ra : Nat → Option Addr) (rl rc : Nat → Nat) (x : Nat → Nat → Nat) (y : Nat → Nat) (w : World) (hr : RdR w w.heap.size A n ra rl rc x) (hnc : n ≤ c) (hcm : c ≤ maxLen) (hrc : ∀ i, i < n → rl i ≤ rc i ∧ rc i ≤ maxLen ∧ (ra i = none → rc i = 0)) (hrl : ∀ i, i < n → rl i ≤ 1048576)
    (hy : RdB w w.heap.size A2 m y) (hmc : m ≤ c2) (hm2 : c2 ≤ maxLen) (h02 : A2 = none → c2 = 0) (hml : m ≤ 1048576) :
    Calls Try.prog 8 #[.slice A n c, .slice A2 m c2] w fun e w' => e = .returned (.bool true) ∧ Below w.heap.size w w' := by
  have HR := Lib.hid hr
  have HY := Lib.hid hy
  have HRC := Lib.hid hrc
  have HRL := Lib.hid hrl
  have H02 := Lib.hid h02
  have HMC := Lib.hid hmc
  obtain ⟨b, oo, hA⟩ : ∃ b oo, 0 < n → A = some ⟨b, oo, none⟩ ∧ b < w.heap.size := by
    by_cases h : 0 < n
    · obtain ⟨b, oo, e, h1, _⟩ := hr 0 h
      exact ⟨b, oo, fun _ => ⟨e, h1⟩⟩
    · exact ⟨0, 0, fun q => absurd q h⟩
  have HA := Lib.hid hA
  unfold maxLen at hcm
  clear hr hy hrc hrl h02 hA hmc hm2
  have hmk := fun W => make_roomF (m + 3) (by omega) W ((m : Int) + 3) (by omega)
  go_enter Try.func8, Try.ntmps8
  go_wp2_with fail
  refine (known_any _).mono ?_
  rintro e w0 ⟨rfl, hb0⟩
  have L0 := Lib.hid hb0
  clear hb0
  go_wp2_with fail
  go_loopw [5, 6] (fun v y' wr => ∃ t : Nat, t ≤ n ∧ t ≤ 9 ∧ y' = .int .i64 (t : Int) ∧ (∃ Rr, Hid (Ins wr w.heap.size v t rl Rr x)) ∧ Hid (Below w.heap.size w wr)) (fun _ y' _ => n - (intOf y').toNat)
  case atStart => exact ⟨0, by omega, by omega, rfl, ⟨fun _ => 0, Ins.none_ _ _ _ _ _⟩, L0⟩
  case round =>
    obtain ⟨t, ht, ht9, rfl, ⟨Rr, C1⟩, L1⟩ := hrel
    clear L0
    by_cases hgo : t < n ∧ t < 9
    · obtain ⟨hlt, h9⟩ := hgo
      have i1 : (t : Int) < (n : Int) := by omega
      have i2 : (t : Int) < 9 := by omega
      have hbr : Hid (w.heap.size ≤ wr.drew.heap.size) := Lib.hid L1.out.size
      obtain ⟨rfl, hbw⟩ := HA.out (by omega)
      obtain ⟨At, hAt⟩ : ∃ At, At = ra t := ⟨_, rfl⟩
      obtain ⟨lt, hlt'⟩ : ∃ lt, lt = rl t := ⟨_, rfl⟩
      obtain ⟨ct, hct⟩ : ∃ ct, ct = rc t := ⟨_, rfl⟩
      have HC : Hid (∀ W : World, Below w.heap.size w W → W.cell? ⟨b, oo + t, none⟩ = some (.slice At lt ct) ∧ RdB W w.heap.size At lt (x t)) := Lib.hid fun W hW => by
        obtain ⟨_, hc, hx⟩ := D.rdR_head HR.out (i := t) hlt
        rw [hAt, hlt', hct]
        exact ⟨(hW.cell (p := ⟨b, oo + t, none⟩) hbw).trans hc, hx.below hW (Nat.le_refl _)⟩
      have hq := HRC.out t hlt
      have hl := HRL.out t hlt
      rw [← hAt, ← hlt', ← hct] at hq
      rw [← hlt'] at hl
      have H0T : Hid (At = none → ct = 0) := Lib.hid hq.2.2
      have QK1 : Hid (lt + 3 ≤ 9223372036854775807) := Lib.hid (by omega)
      have QK2 : Hid (lt + 3 ≤ 2199023255552) := Lib.hid (by omega)
      have QK3 : Hid (lt ≤ ct) := Lib.hid hq.1
      have QK4 : Hid (0 + lt ≤ lt + 3) := Lib.hid (by omega)
      have QK5 : Hid (t + 1 ≤ 100000) := Lib.hid (by omega)
      have QK7 : Hid (wr.heap.size ≤ (wr.drew.alloc (.cells (rowArr (lt + 3) fun _ => 0) 5)).heap.size) := Lib.hid (by simp)
      have HLT := Lib.hid hlt'
      have HS := Lib.hid (HC.out wr.drew L1.out.drew).1
      clear hq hl hAt hct hlt' hmk
      go_wp2_with fail
      refine region_anyZ (fun W : World => W.cell? ⟨b, oo + t, none⟩ = some (.slice At lt ct)) 16 (by kernel_rfl) ?_
      refine takeG 0 (.move (.tmp 5)) (some 30) none (u5) (by kernel_rfl) (by kernel_rfl) (by kernel_rfl) (fun _ _ _ h => h) (fun o w e hS => exec_move w e (by kernel_rfl)) HS.out ?_
      refine takeG 1 (.move (.tmp 0)) (some 31) none (.slice (some ⟨b, oo, none⟩) n c) (by kernel_rfl) (by kernel_rfl) (by kernel_rfl) (fun _ _ _ h => h) (fun o w e hS => exec_move w e (by kernel_rfl)) HS.out ?_
      refine takeG 2 (.move (.tmp 6)) (some 32) none (.int .i64 (t : Int)) (by kernel_rfl) (by kernel_rfl) (by kernel_rfl) (fun _ _ _ h => h) (fun o w e hS => exec_move w e (by kernel_rfl)) HS.out ?_
      refine takeG 3 (.indexAddr 36 (.tmp 31) (.tmp 32)) (some 33) none (.pointer (some ⟨b, oo + t, none⟩)) (by kernel_rfl) (by kernel_rfl) (by kernel_rfl) (fun _ _ _ h => h) (fun o w e hS => exec_index (u1 := .slice (some ⟨b, oo, none⟩) n c) (u2 := .int .i64 (t : Int)) w e (by kernel_rfl) (by kernel_rfl) (D.index_rows b oo n c t hlt _)) HS.out ?_
      refine takeG 4 (.load 37 (.tmp 33)) (some 34) none (.slice At lt ct) (by kernel_rfl) (by kernel_rfl) (by kernel_rfl) (fun _ _ _ h => h) (fun o w e hS => exec_load (x := (.tmp 33)) e (by kernel_rfl) (load_one Try.underlying37 (by kernel_rfl) hS)) HS.out ?_
      refine takeG 5 (.call ⟨.builtin .len, #[(.tmp 34)], #[37]⟩) (some 35) none (.int .i64 (lt : Int)) (by kernel_rfl) (by kernel_rfl) (by kernel_rfl) (fun _ _ _ h => h) (fun o w e hS => exec_len (u := .slice At lt ct) w e (by kernel_rfl) (len_slF _ At lt ct _)) HS.out ?_
      refine takeG 6 (.binOp .add 3 (.tmp 35) (.const (.int .i64 3)) 3) (some 36) none (.int .i64 ((lt + 3 : Nat) : Int)) (by kernel_rfl) (by kernel_rfl) (by kernel_rfl) (fun _ _ _ h => h) (fun o w e hS => exec_bin (u1 := .int .i64 (lt : Int)) (u2 := (.int .i64 3)) w e (by kernel_rfl) (by kernel_rfl) (eqG_int ..) (D.add_int lt 3 QK1.out _)) HS.out ?_
      refine takeG 8 (.move (.tmp 0)) (some 38) none (.slice (some ⟨b, oo, none⟩) n c) (by kernel_rfl) (by kernel_rfl) (by kernel_rfl) (fun _ _ _ h => h) (fun o w e hS => exec_move w e (by kernel_rfl)) HS.out ?_
      refine takeG 9 (.move (.tmp 6)) (some 39) none (.int .i64 (t : Int)) (by kernel_rfl) (by kernel_rfl) (by kernel_rfl) (fun _ _ _ h => h) (fun o w e hS => exec_move w e (by kernel_rfl)) HS.out ?_
      refine takeG 10 (.indexAddr 36 (.tmp 38) (.tmp 39)) (some 40) none (.pointer (some ⟨b, oo + t, none⟩)) (by kernel_rfl) (by kernel_rfl) (by kernel_rfl) (fun _ _ _ h => h) (fun o w e hS => exec_index (u1 := .slice (some ⟨b, oo, none⟩) n c) (u2 := .int .i64 (t : Int)) w e (by kernel_rfl) (by kernel_rfl) (D.index_rows b oo n c t hlt _)) HS.out ?_
      refine takeG 11 (.load 37 (.tmp 40)) (some 41) none (.slice At lt ct) (by kernel_rfl) (by kernel_rfl) (by kernel_rfl) (fun _ _ _ h => h) (fun o w e hS => exec_load (x := (.tmp 40)) e (by kernel_rfl) (load_one Try.underlying37 (by kernel_rfl) hS)) HS.out ?_
      refine loneG 7 (.makeSlice 37 (.const (.int .i64 0)) (.tmp 36)) (some 37) none (by kernel_rfl) (by kernel_rfl) (by kernel_rfl) ?_
      intro o ho hod
      refine wp_val (exec_make (u1 := .int .i64 0) (u2 := .int .i64 ((lt + 3 : Nat) : Int)) ho (by kernel_rfl) (by kernel_rfl) (make_roomF (lt + 3) QK2.out _ _ rfl)) ?_
      rw [hod]
      clear hod ho
      have LA := Lib.hid (L1.out.drew.alloc hbr.out (.cells (rowArr (lt + 3) fun _ => 0) 5))
      have BA := Lib.hid (Blk.new wr.drew 5 (rowArr (lt + 3) fun _ => 0))
      have LR := Lib.hid ((Below.refl wr.heap.size wr).drew.alloc (Nat.le_refl _) (.cells (rowArr (lt + 3) fun _ => 0) 5))
      refine ⟨fun _ => (HC.out _ LA.out).1, ?_⟩
      refine loneG 12 (.call ⟨.builtin .append, #[(.tmp 37), (.tmp 41)], #[37, 37]⟩) (some 42) none (by kernel_rfl) (by kernel_rfl) (by kernel_rfl) ?_
      intro o ho hod
      refine wp_append_room8 (.tmp 37) (.tmp 41) ho (by kernel_rfl) (by kernel_rfl) BA.out (HC.out _ LA.out).2 H0T.out QK3.out QK4.out ?_
      intro w1 hb1 ho1 hs1
      rw [hod, Nat.zero_add]
      clear hod ho
      have LR1 : Hid (Below wr.heap.size wr w1) := Lib.hid (LR.out.trans (ho1.below (Nat.le_refl wr.heap.size) QK7.out))
      have L2 : Hid (Below w.heap.size w w1) := Lib.hid (L1.out.trans (LR1.out.mono hbr.out))
      have C2 := Lib.hid (C1.out.below LR1.out (Nat.le_refl _))
      have B2 : Hid (Blk w1 wr.drew.heap.size 5 (rowArr (lt + 3) (putF lt (x t)))) := Lib.hid hb1
      have s2 := L2.out.size
      clear hb1 ho1 hs1 LA BA LR
      refine ⟨fun _ => (HC.out _ L2.out).1, ?_⟩
      refine loneG 13 (.buildSlice 36 1 #[(0, (.tmp 42))]) (some 43) none (by kernel_rfl) (by kernel_rfl) (by kernel_rfl) ?_
      intro o ho hod
      refine wp_val (exec_buildSlice1 ho (u := .slice (some ⟨wr.drew.heap.size, 0, none⟩) lt (lt + 3)) (by kernel_rfl) (D.bs_rows1 _ _ _ _)) ?_
      rw [hod]
      clear hod ho
      have L5 := Lib.hid (L2.out.alloc s2 (.cells #[.slice (some ⟨wr.drew.heap.size, 0, none⟩) lt (lt + 3)] 37))
      have C5 := Lib.hid (C2.out.below ((Below.refl w1.heap.size w1).alloc (Nat.le_refl _) (.cells #[.slice (some ⟨wr.drew.heap.size, 0, none⟩) lt (lt + 3)] 37)) (Nat.le_refl _))
      have B5 := Lib.hid (B2.out.keep (Below.heap_alloc w1 (.cells #[.slice (some ⟨wr.drew.heap.size, 0, none⟩) lt (lt + 3)] 37) _ B2.out.lt))
      have s5 := L5.out.size
      have H5 := Lib.hid (D.rdh_one w1 (some ⟨wr.drew.heap.size, 0, none⟩) lt (lt + 3))
      clear L2 C2 B2 s2
      refine ⟨fun _ => (HC.out _ L5.out).1, ?_⟩
      refine loneG 14 (.call ⟨.builtin .append, #[(.tmp 30), (.tmp 43)], #[36, 36]⟩) (some 44) none (by kernel_rfl) (by kernel_rfl) (by kernel_rfl) ?_
      intro o ho hod
      refine D.wp_append_hd (.tmp 30) (.tmp 43) ho (by kernel_rfl) (by kernel_rfl) C5.out.own H5.out (fun e => by cases e) (Nat.le_refl _) QK5.out s5 ?_
      intro v5 w6 ho5 hg5
      rw [hod]
      clear hod ho
      have L6 : Hid (Below w.heap.size w w6) := Lib.hid (D.own_rowS L5.out C5.out.own hg5 s5)
      have C6 := Lib.hid (C5.out.push HLT.out ho5 hg5 B5.out hbr.out)
      clear ho5 hg5 L5 C5 B5 H5 s5
      refine ⟨fun _ => (HC.out _ L6.out).1, ?_⟩
      refine lastS 15 (.assign (.tmp 44)) (some 5) (v5) (by kernel_rfl) (by kernel_rfl) (by kernel_rfl) (HC.out _ L6.out).1 (fun o e => exec_assign _ e (by kernel_rfl)) ?_
      simp only [put_some, put_none, List.setIfInBounds_toArray, List.set_cons_succ, List.set_cons_zero]
      clear HS HC C1 L1 H0T QK1 QK2 QK3 QK4 QK5 QK7 HLT hbr
      go_wp2_with fail
      go_roundw
      case rel => exact ⟨t + 1, by omega, by omega, by go_num, ⟨_, C6⟩, L6⟩
      case measure => simp [intOf]; omega
    · have hcase : t = n ∨ t < n ∧ t = 9 := by omega
      rcases hcase with hcase | ⟨hcase, h9⟩
      · have i1 : ¬ (t : Int) < (n : Int) := by omega
        clear hgo hcase
        have L1s := L1.out.size
        have HY2 := Lib.hid (HY.out.below (L1.out.alloc L1s (.cells (rowArr (m + 3) fun _ => 0) 5)) (Nat.le_refl _))
        have QM1 : Hid (0 + m ≤ m + 3) := Lib.hid (by omega)
        go_wp2_with ((with_reducible refine wpList_append_room8 rfl (.tmp 48) (.tmp 49) rfl rfl rfl (Blk.new wr 5 (rowArr (m + 3) fun _ => 0)) HY2.out H02.out HMC.out QM1.out ?_); intro w3 hb3 ho3 hs3; refine of_hid ?_)
        refine Lib.hid ?_
        have LR3 : Hid (Below wr.heap.size wr w3) := Lib.hid (((Below.refl wr.heap.size wr).alloc (Nat.le_refl _) (.cells (rowArr (m + 3) fun _ => 0) 5)).trans (ho3.below (Nat.le_refl wr.heap.size) (by simp)))
        have L3 := Lib.hid (L1.out.trans (LR3.out.mono L1s))
        have C3 := Lib.hid (C1.out.below LR3.out (Nat.le_refl _))
        have B3 : Hid (Blk w3 wr.heap.size 5 (rowArr (m + 3) (putF m y))) := Lib.hid hb3
        clear hmk hb3 ho3 hs3 LR3 HY2 QM1 C1 L1
        generalize wr.heap.size = gr at *
        have hxl : ∀ j, j < t → ∀ k, k < rl j → x j k < 256 := fun j hj k hk => by
          obtain ⟨_, _, _, _, _, h⟩ := HR.out j (by omega)
          obtain ⟨_, _, _, _, _, q⟩ := h k hk
          exact q
        have hyl : ∀ j, j < m → y j < 256 := fun j hj => by obtain ⟨_, _, _, _, _, q⟩ := HY.out j hj; exact q
        have HXL := Lib.hid hxl
        have HYL := Lib.hid hyl
        obtain ⟨A5, c5, rfl, hc5, hm5, hrd5⟩ := C3.out.rdr hxl
        have RD3 := Lib.hid hrd5
        have hw3 := L3.out.size
        have hgr := B3.out.lt
        clear hxl hyl hrd5
        go_wp2_with fail
        refine (fresh_any _).mono ?_
        rintro e w4 ⟨rfl, hf4, hb4, hs4⟩
        generalize hg : w3.heap.size = g at *
        have HALL : Hid (∀ W, Below g w3 W → Ins W w.heap.size (.slice A5 t c5) t rl Rr x ∧ Blk W gr 5 (rowArr (m + 3) (putF m y))) := Lib.hid fun W hW => ⟨C3.out.below hW (by rw [hg]; exact Nat.le_refl _), B3.out.below hW hgr⟩
        have F4 := Lib.hid hf4
        have L4 := Lib.hid hb4
        have hg4 : g < w4.heap.size := hf4.lt
        have hgs : g ≤ w4.heap.size := Nat.le_of_lt hg4
        have HBR : Hid (∀ W, Below g w3 W → RdB W g (some ⟨gr, 0, none⟩) m y) := Lib.hid fun W hW k hk => ⟨gr, 0, rfl, hgr, by rw [Nat.zero_add, ((HALL.out W hW).2).cell, rowArr_get (by omega), putF_in _ hk], HYL.out k hk⟩
        have HRR : Hid (∀ W, Below g w3 W → RdR W g A5 t (fun j => some ⟨Rr j, 0, none⟩) rl (fun j => rl j + 3) x) := Lib.hid fun W hW => RD3.out.below hW (Nat.le_refl _)
        obtain ⟨K, hK⟩ : ∃ K, K = ansK t m rl x := ⟨_, rfl⟩
        obtain ⟨E, hE⟩ : ∃ E, E = ansE t m rl x := ⟨_, rfl⟩
        obtain ⟨X, hX⟩ : ∃ X, X = det.solX t x y := ⟨_, rfl⟩
        have hK8 : K ≤ 8 := by rw [hK]; exact ansK_le t m rl x
        have HXX : Hid (∀ j, X j < 256) := Lib.hid fun j => by rw [hX]; exact det.solX_lt t x y j
        have SG : Hid (∀ W, Fld W g → Below g w3 W → g ≤ W.heap.size → Calls Try.prog 22 #[.pointer (some ⟨g, 0, none⟩), .slice A5 t c5, .slice (some ⟨gr, 0, none⟩) m (m + 3)] W fun e w' =>
            (∃ Av g', e = .returned (.tuple #[.slice Av K K, .int .i64 E]) ∧ (0 < K → Av = some ⟨g', 0, none⟩) ∧ W.heap.size ≤ g' ∧ (0 < K → RowG w' g' K X)) ∧ Fld w' g ∧ Only g W w') := Lib.hid fun W hF hW hs => by
          rw [hK, hE, hX]
          exact solve_gen g A5 (some ⟨gr, 0, none⟩) t c5 m (m + 3) g _ rl _ x y W hs (fun w1 ho => HRR.out w1 (hW.trans (ho.below (Nat.le_refl g) hs))) (fun w1 ho => HBR.out w1 (hW.trans (ho.below (Nat.le_refl g) hs))) hF
        have HW3 : Hid (Below w.heap.size w w3) := L3
        clear hf4 hb4 hs4 hg hK hE hX RD3 C3 B3
        go_wp2_with fail
        refine (SG.out w4 F4.out L4.out hgs).mono ?_
        rintro e w5 ⟨⟨Av, g1, rfl, hav, hg1, hr1⟩, hf5, ho5⟩
        have L5 := Lib.hid (L4.out.trans (ho5.below (Nat.le_refl g) hgs))
        have HAV := Lib.hid hav
        have R5 : Hid (0 < K → RowG w5 g1 K (mixX X 0)) := Lib.hid fun h => (hr1 h).congr fun j _ => by unfold mixX; rw [if_neg (Nat.not_lt_zero j)]
        have F5 := Lib.hid hf5
        have hg1B : g < g1 := by omega
        clear hav hr1 hf5 ho5 F4 L4 hgs hg1
        go_wp2_with fail
        go_loopw [11] (fun y' wr => ∃ k : Nat, k ≤ K ∧ y' = .int .i64 (k : Int) ∧ Hid (0 < K → RowG wr g1 K (mixX X k)) ∧ Hid (Fld wr g) ∧ Hid (Below g w3 wr)) (fun y' _ => K - (intOf y').toNat)
        case atStart => exact ⟨0, by omega, rfl, R5, F5, L5⟩
        case round =>
          obtain ⟨k, hk, rfl, R6, F6, L6⟩ := hrel
          rename World => w6
          clear R5 F5 L5
          by_cases hlk : k < K
          · have j1 : (k : Int) < (K : Int) := by omega
            have e6 := HAV.out (by omega)
            subst e6
            have hr6 := R6.out (by omega)
            have hmx : mixX X k k = X k := if_neg (Nat.lt_irrefl k)
            have c1 := hr6.cell hlk
            rw [hmx] at c1
            have f1 := hr6.frozen hlk
            have hXk := HXX.out k
            have xr : bits .xor .u8 ((X k : Nat) : Int) 85 = ((X k ^^^ 85 : Nat) : Int) := u8_xor_nat (X k) 85 hXk (by omega)
            have HR6 := Lib.hid hr6
            clear hr6 R6 hmx HAV
            go_wp2_with fail
            have R7 : Hid (0 < K → RowG (w6.setCell ⟨g1, k, none⟩ (.int .u8 ((X k ^^^ 85 : Nat) : Int))) g1 K (mixX X (k + 1))) := Lib.hid fun _ => (HR6.out.set (v := X k ^^^ 85) hlk).congr fun j _ => mixX_set X k j
            have F7 := Lib.hid (F6.out.far (p := ⟨g1, k, none⟩) (show g ≠ g1 by omega) (.int .u8 ((X k ^^^ 85 : Nat) : Int)))
            have L7 := Lib.hid (L6.out.setCell (p := ⟨g1, k, none⟩) (show g ≤ g1 by omega) (.int .u8 ((X k ^^^ 85 : Nat) : Int)))
            clear HR6 F6 L6 c1 f1 xr
            go_roundw
            case rel => exact ⟨k + 1, by omega, by go_num, R7, F7, L7⟩
            case measure => simp [intOf]; omega
          · obtain rfl : k = K := by omega
            have hgs : g ≤ w6.heap.size := Nat.le_of_lt F6.out.lt
            clear hlk hk
            go_wp2_with fail
            refine (SG.out w6 F6.out L6.out hgs).mono ?_
            rintro e w7 ⟨⟨Av2, g2, rfl, hav2, hg2, hr2⟩, hf7, ho7⟩
            have L7 := Lib.hid (L6.out.trans (ho7.below (Nat.le_refl g) hgs))
            have HAV2 := Lib.hid hav2
            have Q7 : Hid (0 < k → RowG w7 g1 k (mixX X k)) := Lib.hid fun h => (R6.out h).heap (ho7.block g1 (R6.out h).lt (by simp; omega))
            have R7 := Lib.hid hr2
            clear hav2 hr2 hf7 ho7 F6 L6 hgs R6 SG
            go_wp2_with fail
            go_loopw [14] (fun y' wr => ∃ j : Nat, j ≤ k ∧ y' = .int .i64 (j : Int) ∧ Hid (0 < k → RowG wr g1 k (mixX X k)) ∧ Hid (0 < k → RowG wr g2 k X) ∧ Hid (Below g w3 wr)) (fun y' _ => k - (intOf y').toNat)
            case atStart => exact ⟨0, by omega, rfl, Q7, R7, L7⟩
            case round =>
              obtain ⟨j, hj, rfl, Q8, R8, L8⟩ := hrel
              rename World => w8
              clear Q7 R7 L7
              by_cases hlk : j < k
              · have j1 : (j : Int) < (k : Int) := by omega
                have e6 := HAV.out (by omega)
                subst e6
                have e7 := HAV2.out (by omega)
                subst e7
                have ca := (Q8.out (by omega)).cell hlk
                have cb := (R8.out (by omega)).cell hlk
                rw [show mixX X k j = X j ^^^ 85 from if_pos hlk] at ca
                have HS : Hid (w8.drew.cell? ⟨g1, j, none⟩ = some (.int .u8 ((X j ^^^ 85 : Nat) : Int)) ∧ w8.drew.cell? ⟨g2, j, none⟩ = some (.int .u8 ((X j : Nat) : Int))) := Lib.hid ⟨ca, cb⟩
                have QX : Hid (∀ W, (binOp .xor 5 (.int .u8 ((X j ^^^ 85 : Nat) : Int)) (.int .u8 85)).run Try.prog W = .ok (.int .u8 ((X j : Nat) : Int)) W) := Lib.hid fun W => by
                  have h := D.xor_u8 W (X j ^^^ 85) 85 (Nat.xor_lt_two_pow (n := 8) (HXX.out j) (by omega)) (by omega)
                  rw [xor_twice] at h
                  exact h
                clear ca cb HAV HAV2
                go_wp2_with fail
                refine region_anyZ (fun W : World => W.cell? ⟨g1, j, none⟩ = some (.int .u8 ((X j ^^^ 85 : Nat) : Int)) ∧ W.cell? ⟨g2, j, none⟩ = some (.int .u8 ((X j : Nat) : Int))) 10 (by kernel_rfl) ?_
                refine takeG 0 (.move (.tmp 9)) (some 96) none (.slice (some ⟨g1, 0, none⟩) k k) (by kernel_rfl) (by kernel_rfl) (by kernel_rfl) (fun _ _ _ h => h) (fun o w e hS => exec_move w e (by kernel_rfl)) HS.out ?_
                refine takeG 1 (.move (.tmp 14)) (some 97) none (.int .i64 (j : Int)) (by kernel_rfl) (by kernel_rfl) (by kernel_rfl) (fun _ _ _ h => h) (fun o w e hS => exec_move w e (by kernel_rfl)) HS.out ?_
                refine takeG 2 (.indexAddr 37 (.tmp 96) (.tmp 97)) (some 98) none (.pointer (some ⟨g1, j, none⟩)) (by kernel_rfl) (by kernel_rfl) (by kernel_rfl) (fun _ _ _ h => h) (fun o w e hS => exec_index (u1 := .slice (some ⟨g1, 0, none⟩) k k) (u2 := .int .i64 (j : Int)) w e (by kernel_rfl) (by kernel_rfl) (index_bytes0F g1 k k j hlk _)) HS.out ?_
                refine takeG 3 (.load 5 (.tmp 98)) (some 99) none (.int .u8 ((X j ^^^ 85 : Nat) : Int)) (by kernel_rfl) (by kernel_rfl) (by kernel_rfl) (fun _ _ _ h => h) (fun o w e hS => exec_load (x := (.tmp 98)) e (by kernel_rfl) (load_one Try.underlying5 (by kernel_rfl) hS.1)) HS.out ?_
                refine takeG 4 (.binOp .xor 5 (.tmp 99) (.const (.int .u8 85)) 5) (some 100) none (.int .u8 ((X j : Nat) : Int)) (by kernel_rfl) (by kernel_rfl) (by kernel_rfl) (fun _ _ _ h => h) (fun o w e hS => exec_bin (u1 := .int .u8 ((X j ^^^ 85 : Nat) : Int)) (u2 := (.int .u8 85)) w e (by kernel_rfl) (by kernel_rfl) (eqG_int ..) (QX.out _)) HS.out ?_
                refine takeG 5 (.move (.tmp 12)) (some 101) none (.slice (some ⟨g2, 0, none⟩) k k) (by kernel_rfl) (by kernel_rfl) (by kernel_rfl) (fun _ _ _ h => h) (fun o w e hS => exec_move w e (by kernel_rfl)) HS.out ?_
                refine takeG 6 (.move (.tmp 14)) (some 102) none (.int .i64 (j : Int)) (by kernel_rfl) (by kernel_rfl) (by kernel_rfl) (fun _ _ _ h => h) (fun o w e hS => exec_move w e (by kernel_rfl)) HS.out ?_
                refine takeG 7 (.indexAddr 37 (.tmp 101) (.tmp 102)) (some 103) none (.pointer (some ⟨g2, j, none⟩)) (by kernel_rfl) (by kernel_rfl) (by kernel_rfl) (fun _ _ _ h => h) (fun o w e hS => exec_index (u1 := .slice (some ⟨g2, 0, none⟩) k k) (u2 := .int .i64 (j : Int)) w e (by kernel_rfl) (by kernel_rfl) (index_bytes0F g2 k k j hlk _)) HS.out ?_
                refine takeG 8 (.load 5 (.tmp 103)) (some 104) none (.int .u8 ((X j : Nat) : Int)) (by kernel_rfl) (by kernel_rfl) (by kernel_rfl) (fun _ _ _ h => h) (fun o w e hS => exec_load (x := (.tmp 103)) e (by kernel_rfl) (load_one Try.underlying5 (by kernel_rfl) hS.2)) HS.out ?_
                refine lastS 9 (.binOp .neq 5 (.tmp 100) (.tmp 104) 5) (some 105) (.bool false) (by kernel_rfl) (by kernel_rfl) (by kernel_rfl) HS.out (fun o e => exec_bin (u1 := .int .u8 ((X j : Nat) : Int)) (u2 := .int .u8 ((X j : Nat) : Int)) _ e (by kernel_rfl) (by kernel_rfl) (eqG_int ..) (neq_u8F _ _)) ?_
                simp only [put_some, put_none, List.setIfInBounds_toArray, List.set_cons_succ, List.set_cons_zero]
                have Q9 : Hid (0 < k → RowG w8.drew g1 k (mixX X k)) := Q8
                have R9 : Hid (0 < k → RowG w8.drew g2 k X) := R8
                have L9 := Lib.hid L8.out.drew
                clear HS QX Q8 R8 L8
                go_wp2_with fail
                go_roundw
                case rel => exact ⟨j + 1, by omega, by go_num, Q9, R9, L9⟩
                case measure => simp [intOf]; omega
              · obtain rfl : j = k := by omega
                clear hlk hj Q8 R8 HAV HAV2
                go_wp2_with fail
                go_loopw [15] (fun y' wr => ∃ i : Nat, i ≤ t ∧ y' = .int .i64 (i : Int) ∧ Hid (Below g w3 wr)) (fun y' _ => t - (intOf y').toNat)
                case atStart => exact ⟨0, by omega, rfl, L8⟩
                case round =>
                  obtain ⟨i, hi, rfl, L9⟩ := hrel
                  rename World => w9
                  clear L8
                  by_cases hli : i < t
                  · have j1 : (i : Int) < (t : Int) := by omega
                    have hin : i < n := by omega
                    obtain ⟨rfl, hbw⟩ := HA.out (by omega)
                    obtain ⟨b5, o5, rfl, _⟩ := HRR.out w3 (Below.refl _ _) i hli
                    obtain ⟨At, hAt⟩ : ∃ At, At = ra i := ⟨_, rfl⟩
                    obtain ⟨li, hlx⟩ : ∃ li, li = rl i := ⟨_, rfl⟩
                    obtain ⟨ct, hct⟩ : ∃ ct, ct = rc i := ⟨_, rfl⟩
                    obtain ⟨gi, hgi⟩ : ∃ gi, gi = Rr i := ⟨_, rfl⟩
                    have HQ : Hid (∀ W, Below g w3 W → W.cell? ⟨b5, o5 + i, none⟩ = some (.slice (some ⟨gi, 0, none⟩) li (li + 3)) ∧ Blk W gi 5 (rowArr (li + 3) (putF li (x i))) ∧ W.cell? ⟨b, oo + i, none⟩ = some (.slice At li ct) ∧ RdB W w.heap.size At li (x i)) := Lib.hid fun W hW => by
                      have hWw := HW3.out.trans (hW.mono hw3)
                      obtain ⟨_, h1, _⟩ := D.rdR_head (HRR.out W hW) hli
                      obtain ⟨_, h2, h3⟩ := D.rdR_head HR.out hin
                      have h4 := ((HALL.out W hW).1.row i hli).2
                      rw [hAt, hlx, hct, hgi]
                      exact ⟨h1, h4, (hWw.cell (p := ⟨b, oo + i, none⟩) hbw).trans h2, h3.below hWw (Nat.le_refl _)⟩
                    have HXI : Hid (∀ k, k < li → x i k < 256) := Lib.hid fun k hk => HXL.out i hli k (by rw [← hlx]; exact hk)
                    have HS := Lib.hid (HQ.out w9.drew L9.out.drew).1
                    have L10 := Lib.hid L9.out.drew
                    have hlb : li ≤ 1048576 := by rw [hlx]; exact HRL.out i hin
                    clear hAt hlx hct hgi L9
                    go_wp2_with fail
                    refine region_anyZ (fun W : World => W.cell? ⟨b5, o5 + i, none⟩ = some (.slice (some ⟨gi, 0, none⟩) li (li + 3))) 11 (by kernel_rfl) ?_
                    refine takeG 0 (.move (.tmp 5)) (some 112) none (.slice (some ⟨b5, o5, none⟩) t c5) (by kernel_rfl) (by kernel_rfl) (by kernel_rfl) (fun _ _ _ h => h) (fun o w e hS => exec_move w e (by kernel_rfl)) HS.out ?_
                    refine takeG 1 (.move (.tmp 15)) (some 113) none (.int .i64 (i : Int)) (by kernel_rfl) (by kernel_rfl) (by kernel_rfl) (fun _ _ _ h => h) (fun o w e hS => exec_move w e (by kernel_rfl)) HS.out ?_
                    refine takeG 2 (.indexAddr 36 (.tmp 112) (.tmp 113)) (some 114) none (.pointer (some ⟨b5, o5 + i, none⟩)) (by kernel_rfl) (by kernel_rfl) (by kernel_rfl) (fun _ _ _ h => h) (fun o w e hS => exec_index (u1 := .slice (some ⟨b5, o5, none⟩) t c5) (u2 := .int .i64 (i : Int)) w e (by kernel_rfl) (by kernel_rfl) (D.index_rows b5 o5 t c5 i hli _)) HS.out ?_
                    refine takeG 3 (.load 37 (.tmp 114)) (some 115) none (.slice (some ⟨gi, 0, none⟩) li (li + 3)) (by kernel_rfl) (by kernel_rfl) (by kernel_rfl) (fun _ _ _ h => h) (fun o w e hS => exec_load (x := (.tmp 114)) e (by kernel_rfl) (load_one Try.underlying37 (by kernel_rfl) hS)) HS.out ?_
                    refine takeG 4 (.move (.tmp 5)) (some 116) none (.slice (some ⟨b5, o5, none⟩) t c5) (by kernel_rfl) (by kernel_rfl) (by kernel_rfl) (fun _ _ _ h => h) (fun o w e hS => exec_move w e (by kernel_rfl)) HS.out ?_
                    refine takeG 5 (.move (.tmp 15)) (some 117) none (.int .i64 (i : Int)) (by kernel_rfl) (by kernel_rfl) (by kernel_rfl) (fun _ _ _ h => h) (fun o w e hS => exec_move w e (by kernel_rfl)) HS.out ?_
                    refine takeG 6 (.indexAddr 36 (.tmp 116) (.tmp 117)) (some 118) none (.pointer (some ⟨b5, o5 + i, none⟩)) (by kernel_rfl) (by kernel_rfl) (by kernel_rfl) (fun _ _ _ h => h) (fun o w e hS => exec_index (u1 := .slice (some ⟨b5, o5, none⟩) t c5) (u2 := .int .i64 (i : Int)) w e (by kernel_rfl) (by kernel_rfl) (D.index_rows b5 o5 t c5 i hli _)) HS.out ?_
                    refine takeG 7 (.load 37 (.tmp 118)) (some 119) none (.slice (some ⟨gi, 0, none⟩) li (li + 3)) (by kernel_rfl) (by kernel_rfl) (by kernel_rfl) (fun _ _ _ h => h) (fun o w e hS => exec_load (x := (.tmp 118)) e (by kernel_rfl) (load_one Try.underlying37 (by kernel_rfl) hS)) HS.out ?_
                    refine loneG 8 (.call ⟨.builtin .cap, #[(.tmp 119)], #[37]⟩) (some 120) none (by kernel_rfl) (by kernel_rfl) (by kernel_rfl) ?_
                    intro o ho hod
                    refine wp_val (v := .int .i64 ((li + 3 : Nat) : Int)) (exec_capF (u := .slice (some ⟨gi, 0, none⟩) li (li + 3)) ho (by kernel_rfl) (cap_slF _ (some ⟨gi, 0, none⟩) li (li + 3) _)) ?_
                    rw [hod]
                    clear hod ho
                    refine ⟨fun _ => HS.out, ?_⟩
                    refine takeG 9 (.slice 37 (.tmp 115) .none (.some (.tmp 120)) .none) (some 121) none (.slice (some ⟨gi, 0, none⟩) (li + 3) (li + 3)) (by kernel_rfl) (by kernel_rfl) (by kernel_rfl) (fun _ _ _ h => h) (fun o w e hS => exec_slice (u := .slice (some ⟨gi, 0, none⟩) li (li + 3)) w e (by kernel_rfl) (by kernel_rfl) (by kernel_rfl) (by kernel_rfl) (D.slice_headB gi 0 li (li + 3) (li + 3) (Nat.le_refl _) _)) HS.out ?_
                    refine lastS 10 (.assign (.tmp 121)) (some 16) (.slice (some ⟨gi, 0, none⟩) (li + 3) (li + 3)) (by kernel_rfl) (by kernel_rfl) (by kernel_rfl) HS.out (fun o e => exec_assign _ e (by kernel_rfl)) ?_
                    simp only [put_some, put_none, List.setIfInBounds_toArray, List.set_cons_succ, List.set_cons_zero]
                    clear HS
                    generalize w9.drew = w10 at *
                    have HS2 : Hid (w10.drew.cell? ⟨b5, o5 + i, none⟩ = some (.slice (some ⟨gi, 0, none⟩) li (li + 3)) ∧ w10.drew.cell? ⟨b, oo + i, none⟩ = some (.slice At li ct) ∧ RdB w10.drew (gi + 1) (some ⟨gi, 0, none⟩) li (x i) ∧ RdB w10.drew w.heap.size At li (x i)) := Lib.hid (by
                      obtain ⟨h1, h2, h3, h4⟩ := HQ.out w10.drew L10.out.drew
                      exact ⟨h1, h3, fun k hk => ⟨gi, 0, rfl, Nat.lt_succ_self gi, by rw [Nat.zero_add, h2.cell, rowArr_get (by omega), putF_in _ hk], HXI.out k hk⟩, h4⟩)
                    have L11 := Lib.hid L10.out.drew
                    clear L10
                    go_wp2_with fail
                    refine region_anyZ (fun W : World => W.cell? ⟨b5, o5 + i, none⟩ = some (.slice (some ⟨gi, 0, none⟩) li (li + 3)) ∧ W.cell? ⟨b, oo + i, none⟩ = some (.slice At li ct) ∧ RdB W (gi + 1) (some ⟨gi, 0, none⟩) li (x i) ∧ RdB W w.heap.size At li (x i)) 11 (by kernel_rfl) ?_
                    refine takeG 0 (.move (.tmp 5)) (some 122) none (.slice (some ⟨b5, o5, none⟩) t c5) (by kernel_rfl) (by kernel_rfl) (by kernel_rfl) (fun _ _ _ h => h) (fun o w e hS => exec_move w e (by kernel_rfl)) HS2.out ?_
                    refine takeG 1 (.move (.tmp 15)) (some 123) none (.int .i64 (i : Int)) (by kernel_rfl) (by kernel_rfl) (by kernel_rfl) (fun _ _ _ h => h) (fun o w e hS => exec_move w e (by kernel_rfl)) HS2.out ?_
                    refine takeG 2 (.indexAddr 36 (.tmp 122) (.tmp 123)) (some 124) none (.pointer (some ⟨b5, o5 + i, none⟩)) (by kernel_rfl) (by kernel_rfl) (by kernel_rfl) (fun _ _ _ h => h) (fun o w e hS => exec_index (u1 := .slice (some ⟨b5, o5, none⟩) t c5) (u2 := .int .i64 (i : Int)) w e (by kernel_rfl) (by kernel_rfl) (D.index_rows b5 o5 t c5 i hli _)) HS2.out ?_
                    refine takeG 3 (.load 37 (.tmp 124)) (some 125) none (.slice (some ⟨gi, 0, none⟩) li (li + 3)) (by kernel_rfl) (by kernel_rfl) (by kernel_rfl) (fun _ _ _ h => h) (fun o w e hS => exec_load (x := (.tmp 124)) e (by kernel_rfl) (load_one Try.underlying37 (by kernel_rfl) hS.1)) HS2.out ?_
                    refine takeG 4 (.convert 37 9 (.tmp 125)) (some 126) none (.string (strB li (x i))) (by kernel_rfl) (by kernel_rfl) (by kernel_rfl) (fun _ _ _ h => h) (fun o w e hS => exec_conv (u := .slice (some ⟨gi, 0, none⟩) li (li + 3)) w e (by kernel_rfl) (conv_rd hS.2.2.1)) HS2.out ?_
                    refine takeG 5 (.move (.tmp 0)) (some 127) none (.slice (some ⟨b, oo, none⟩) n c) (by kernel_rfl) (by kernel_rfl) (by kernel_rfl) (fun _ _ _ h => h) (fun o w e hS => exec_move w e (by kernel_rfl)) HS2.out ?_
                    refine takeG 6 (.move (.tmp 15)) (some 128) none (.int .i64 (i : Int)) (by kernel_rfl) (by kernel_rfl) (by kernel_rfl) (fun _ _ _ h => h) (fun o w e hS => exec_move w e (by kernel_rfl)) HS2.out ?_
                    refine takeG 7 (.indexAddr 36 (.tmp 127) (.tmp 128)) (some 129) none (.pointer (some ⟨b, oo + i, none⟩)) (by kernel_rfl) (by kernel_rfl) (by kernel_rfl) (fun _ _ _ h => h) (fun o w e hS => exec_index (u1 := .slice (some ⟨b, oo, none⟩) n c) (u2 := .int .i64 (i : Int)) w e (by kernel_rfl) (by kernel_rfl) (D.index_rows b oo n c i hin _)) HS2.out ?_
                    refine takeG 8 (.load 37 (.tmp 129)) (some 130) none (.slice At li ct) (by kernel_rfl) (by kernel_rfl) (by kernel_rfl) (fun _ _ _ h => h) (fun o w e hS => exec_load (x := (.tmp 129)) e (by kernel_rfl) (load_one Try.underlying37 (by kernel_rfl) hS.2.1)) HS2.out ?_
                    refine takeG 9 (.convert 37 9 (.tmp 130)) (some 131) none (.string (strB li (x i))) (by kernel_rfl) (by kernel_rfl) (by kernel_rfl) (fun _ _ _ h => h) (fun o w e hS => exec_conv (u := .slice At li ct) w e (by kernel_rfl) (conv_rd hS.2.2.2)) HS2.out ?_
                    refine lastS 10 (.binOp .neq 9 (.tmp 126) (.tmp 131) 9) (some 132) (.bool false) (by kernel_rfl) (by kernel_rfl) (by kernel_rfl) HS2.out (fun o e => exec_bin (u1 := .string (strB li (x i))) (u2 := .string (strB li (x i))) _ e (by kernel_rfl) (by kernel_rfl) (eqG_str ..) (neq_strF _ _)) ?_
                    simp only [put_some, put_none, List.setIfInBounds_toArray, List.set_cons_succ, List.set_cons_zero]
                    clear HS2
                    generalize w10.drew = w11 at *
                    have c1 := (HQ.out w11 L11.out).1
                    go_wp2_with fail
                    go_loopw [17] (fun y' wr => ∃ k : Nat, li ≤ k ∧ k ≤ li + 3 ∧ y' = .int .i64 (k : Int) ∧ Hid (Below g w3 wr)) (fun y' _ => li + 3 - (intOf y').toNat)
                    case atStart => exact ⟨li, by omega, by omega, rfl, L11⟩
                    case round =>
                      obtain ⟨q, hq1, hq2, rfl, L12⟩ := hrel
                      rename World => w12
                      clear L11
                      by_cases hlq : q < li + 3
                      · have j2 : (q : Int) < (li : Int) + 3 := by omega
                        have c2 : w12.cell? ⟨gi, q, none⟩ = some (.int .u8 0) := by
                          rw [(HQ.out w12 L12.out).2.1.cell, rowArr_get hlq, putF_out _ hq1]
                          rfl
                        go_wp2_with fail
                        clear c2
                        go_roundw
                        case rel => exact ⟨q + 1, by omega, by omega, by go_num, L12⟩
                        case measure => simp [intOf]; omega
                      · obtain rfl : q = li + 3 := by omega
                        rw [show ((li + 3 : Nat) : Int) = (li : Int) + 3 by omega]
                        clear hlq hq1 hq2 HQ
                        go_wp2_with fail
                        go_roundw
                        case rel => exact ⟨i + 1, by omega, by go_num, L12⟩
                        case measure => simp [intOf]; omega
                  · obtain rfl : i = t := by omega
                    have k1 := conv_rd (cap := m + 3) (HBR.out w9 L9.out)
                    have LL := Lib.hid (HW3.out.trans (L9.out.mono hw3))
                    have k2 := conv_rd (cap := c2) (HY.out.below LL.out (Nat.le_refl _))
                    clear hli hi L9 HALL HBR HRR
                    go_wp2_with fail
                    go_ret
                    exact ⟨rfl, LL.out⟩

      · have i1 : (t : Int) < (n : Int) := by omega
        have i2 : ¬ (t : Int) < 9 := by omega
        clear hgo hcase h9
        have L1s := L1.out.size
        have HY2 := Lib.hid (HY.out.below (L1.out.alloc L1s (.cells (rowArr (m + 3) fun _ => 0) 5)) (Nat.le_refl _))
        have QM1 : Hid (0 + m ≤ m + 3) := Lib.hid (by omega)
        go_wp2_with ((with_reducible refine wpList_append_room8 rfl (.tmp 48) (.tmp 49) rfl rfl rfl (Blk.new wr 5 (rowArr (m + 3) fun _ => 0)) HY2.out H02.out HMC.out QM1.out ?_); intro w3 hb3 ho3 hs3; refine of_hid ?_)
        refine Lib.hid ?_
        have LR3 : Hid (Below wr.heap.size wr w3) := Lib.hid (((Below.refl wr.heap.size wr).alloc (Nat.le_refl _) (.cells (rowArr (m + 3) fun _ => 0) 5)).trans (ho3.below (Nat.le_refl wr.heap.size) (by simp)))
        have L3 := Lib.hid (L1.out.trans (LR3.out.mono L1s))
        have C3 := Lib.hid (C1.out.below LR3.out (Nat.le_refl _))
        have B3 : Hid (Blk w3 wr.heap.size 5 (rowArr (m + 3) (putF m y))) := Lib.hid hb3
        clear hmk hb3 ho3 hs3 LR3 HY2 QM1 C1 L1
        generalize wr.heap.size = gr at *
        have hxl : ∀ j, j < t → ∀ k, k < rl j → x j k < 256 := fun j hj k hk => by
          obtain ⟨_, _, _, _, _, h⟩ := HR.out j (by omega)
          obtain ⟨_, _, _, _, _, q⟩ := h k hk
          exact q
        have hyl : ∀ j, j < m → y j < 256 := fun j hj => by obtain ⟨_, _, _, _, _, q⟩ := HY.out j hj; exact q
        have HXL := Lib.hid hxl
        have HYL := Lib.hid hyl
        obtain ⟨A5, c5, rfl, hc5, hm5, hrd5⟩ := C3.out.rdr hxl
        have RD3 := Lib.hid hrd5
        have hw3 := L3.out.size
        have hgr := B3.out.lt
        clear hxl hyl hrd5
        go_wp2_with fail
        refine (fresh_any _).mono ?_
        rintro e w4 ⟨rfl, hf4, hb4, hs4⟩
        generalize hg : w3.heap.size = g at *
        have HALL : Hid (∀ W, Below g w3 W → Ins W w.heap.size (.slice A5 t c5) t rl Rr x ∧ Blk W gr 5 (rowArr (m + 3) (putF m y))) := Lib.hid fun W hW => ⟨C3.out.below hW (by rw [hg]; exact Nat.le_refl _), B3.out.below hW hgr⟩
        have F4 := Lib.hid hf4
        have L4 := Lib.hid hb4
        have hg4 : g < w4.heap.size := hf4.lt
        have hgs : g ≤ w4.heap.size := Nat.le_of_lt hg4
        have HBR : Hid (∀ W, Below g w3 W → RdB W g (some ⟨gr, 0, none⟩) m y) := Lib.hid fun W hW k hk => ⟨gr, 0, rfl, hgr, by rw [Nat.zero_add, ((HALL.out W hW).2).cell, rowArr_get (by omega), putF_in _ hk], HYL.out k hk⟩
        have HRR : Hid (∀ W, Below g w3 W → RdR W g A5 t (fun j => some ⟨Rr j, 0, none⟩) rl (fun j => rl j + 3) x) := Lib.hid fun W hW => RD3.out.below hW (Nat.le_refl _)
        obtain ⟨K, hK⟩ : ∃ K, K = ansK t m rl x := ⟨_, rfl⟩
        obtain ⟨E, hE⟩ : ∃ E, E = ansE t m rl x := ⟨_, rfl⟩
        obtain ⟨X, hX⟩ : ∃ X, X = det.solX t x y := ⟨_, rfl⟩
        have hK8 : K ≤ 8 := by rw [hK]; exact ansK_le t m rl x
        have HXX : Hid (∀ j, X j < 256) := Lib.hid fun j => by rw [hX]; exact det.solX_lt t x y j
        have SG : Hid (∀ W, Fld W g → Below g w3 W → g ≤ W.heap.size → Calls Try.prog 22 #[.pointer (some ⟨g, 0, none⟩), .slice A5 t c5, .slice (some ⟨gr, 0, none⟩) m (m + 3)] W fun e w' =>
            (∃ Av g', e = .returned (.tuple #[.slice Av K K, .int .i64 E]) ∧ (0 < K → Av = some ⟨g', 0, none⟩) ∧ W.heap.size ≤ g' ∧ (0 < K → RowG w' g' K X)) ∧ Fld w' g ∧ Only g W w') := Lib.hid fun W hF hW hs => by
          rw [hK, hE, hX]
          exact solve_gen g A5 (some ⟨gr, 0, none⟩) t c5 m (m + 3) g _ rl _ x y W hs (fun w1 ho => HRR.out w1 (hW.trans (ho.below (Nat.le_refl g) hs))) (fun w1 ho => HBR.out w1 (hW.trans (ho.below (Nat.le_refl g) hs))) hF
        have HW3 : Hid (Below w.heap.size w w3) := L3
        clear hf4 hb4 hs4 hg hK hE hX RD3 C3 B3
        go_wp2_with fail
        refine (SG.out w4 F4.out L4.out hgs).mono ?_
        rintro e w5 ⟨⟨Av, g1, rfl, hav, hg1, hr1⟩, hf5, ho5⟩
        have L5 := Lib.hid (L4.out.trans (ho5.below (Nat.le_refl g) hgs))
        have HAV := Lib.hid hav
        have R5 : Hid (0 < K → RowG w5 g1 K (mixX X 0)) := Lib.hid fun h => (hr1 h).congr fun j _ => by unfold mixX; rw [if_neg (Nat.not_lt_zero j)]
        have F5 := Lib.hid hf5
        have hg1B : g < g1 := by omega
        clear hav hr1 hf5 ho5 F4 L4 hgs hg1
        go_wp2_with fail
        go_loopw [11] (fun y' wr => ∃ k : Nat, k ≤ K ∧ y' = .int .i64 (k : Int) ∧ Hid (0 < K → RowG wr g1 K (mixX X k)) ∧ Hid (Fld wr g) ∧ Hid (Below g w3 wr)) (fun y' _ => K - (intOf y').toNat)
        case atStart => exact ⟨0, by omega, rfl, R5, F5, L5⟩
        case round =>
          obtain ⟨k, hk, rfl, R6, F6, L6⟩ := hrel
          rename World => w6
          clear R5 F5 L5
          by_cases hlk : k < K
          · have j1 : (k : Int) < (K : Int) := by omega
            have e6 := HAV.out (by omega)
            subst e6
            have hr6 := R6.out (by omega)
            have hmx : mixX X k k = X k := if_neg (Nat.lt_irrefl k)
            have c1 := hr6.cell hlk
            rw [hmx] at c1
            have f1 := hr6.frozen hlk
            have hXk := HXX.out k
            have xr : bits .xor .u8 ((X k : Nat) : Int) 85 = ((X k ^^^ 85 : Nat) : Int) := u8_xor_nat (X k) 85 hXk (by omega)
            have HR6 := Lib.hid hr6
            clear hr6 R6 hmx HAV
            go_wp2_with fail
            have R7 : Hid (0 < K → RowG (w6.setCell ⟨g1, k, none⟩ (.int .u8 ((X k ^^^ 85 : Nat) : Int))) g1 K (mixX X (k + 1))) := Lib.hid fun _ => (HR6.out.set (v := X k ^^^ 85) hlk).congr fun j _ => mixX_set X k j
            have F7 := Lib.hid (F6.out.far (p := ⟨g1, k, none⟩) (show g ≠ g1 by omega) (.int .u8 ((X k ^^^ 85 : Nat) : Int)))
            have L7 := Lib.hid (L6.out.setCell (p := ⟨g1, k, none⟩) (show g ≤ g1 by omega) (.int .u8 ((X k ^^^ 85 : Nat) : Int)))
            clear HR6 F6 L6 c1 f1 xr
            go_roundw
            case rel => exact ⟨k + 1, by omega, by go_num, R7, F7, L7⟩
            case measure => simp [intOf]; omega
          · obtain rfl : k = K := by omega
            have hgs : g ≤ w6.heap.size := Nat.le_of_lt F6.out.lt
            clear hlk hk
            go_wp2_with fail
            refine (SG.out w6 F6.out L6.out hgs).mono ?_
            rintro e w7 ⟨⟨Av2, g2, rfl, hav2, hg2, hr2⟩, hf7, ho7⟩
            have L7 := Lib.hid (L6.out.trans (ho7.below (Nat.le_refl g) hgs))
            have HAV2 := Lib.hid hav2
            have Q7 : Hid (0 < k → RowG w7 g1 k (mixX X k)) := Lib.hid fun h => (R6.out h).heap (ho7.block g1 (R6.out h).lt (by simp; omega))
            have R7 := Lib.hid hr2
            clear hav2 hr2 hf7 ho7 F6 L6 hgs R6 SG
            go_wp2_with fail
            go_loopw [14] (fun y' wr => ∃ j : Nat, j ≤ k ∧ y' = .int .i64 (j : Int) ∧ Hid (0 < k → RowG wr g1 k (mixX X k)) ∧ Hid (0 < k → RowG wr g2 k X) ∧ Hid (Below g w3 wr)) (fun y' _ => k - (intOf y').toNat)
            case atStart => exact ⟨0, by omega, rfl, Q7, R7, L7⟩
            case round =>
              obtain ⟨j, hj, rfl, Q8, R8, L8⟩ := hrel
              rename World => w8
              clear Q7 R7 L7
              by_cases hlk : j < k
              · have j1 : (j : Int) < (k : Int) := by omega
                have e6 := HAV.out (by omega)
                subst e6
                have e7 := HAV2.out (by omega)
                subst e7
                have ca := (Q8.out (by omega)).cell hlk
                have cb := (R8.out (by omega)).cell hlk
                rw [show mixX X k j = X j ^^^ 85 from if_pos hlk] at ca
                have HS : Hid (w8.drew.cell? ⟨g1, j, none⟩ = some (.int .u8 ((X j ^^^ 85 : Nat) : Int)) ∧ w8.drew.cell? ⟨g2, j, none⟩ = some (.int .u8 ((X j : Nat) : Int))) := Lib.hid ⟨ca, cb⟩
                have QX : Hid (∀ W, (binOp .xor 5 (.int .u8 ((X j ^^^ 85 : Nat) : Int)) (.int .u8 85)).run Try.prog W = .ok (.int .u8 ((X j : Nat) : Int)) W) := Lib.hid fun W => by
                  have h := D.xor_u8 W (X j ^^^ 85) 85 (Nat.xor_lt_two_pow (n := 8) (HXX.out j) (by omega)) (by omega)
                  rw [xor_twice] at h
                  exact h
                clear ca cb HAV HAV2
                go_wp2_with fail
                refine region_anyZ (fun W : World => W.cell? ⟨g1, j, none⟩ = some (.int .u8 ((X j ^^^ 85 : Nat) : Int)) ∧ W.cell? ⟨g2, j, none⟩ = some (.int .u8 ((X j : Nat) : Int))) 10 (by kernel_rfl) ?_
                refine takeG 0 (.move (.tmp 9)) (some 96) none (.slice (some ⟨g1, 0, none⟩) k k) (by kernel_rfl) (by kernel_rfl) (by kernel_rfl) (fun _ _ _ h => h) (fun o w e hS => exec_move w e (by kernel_rfl)) HS.out ?_
                refine takeG 1 (.move (.tmp 14)) (some 97) none (.int .i64 (j : Int)) (by kernel_rfl) (by kernel_rfl) (by kernel_rfl) (fun _ _ _ h => h) (fun o w e hS => exec_move w e (by kernel_rfl)) HS.out ?_
                refine takeG 2 (.indexAddr 37 (.tmp 96) (.tmp 97)) (some 98) none (.pointer (some ⟨g1, j, none⟩)) (by kernel_rfl) (by kernel_rfl) (by kernel_rfl) (fun _ _ _ h => h) (fun o w e hS => exec_index (u1 := .slice (some ⟨g1, 0, none⟩) k k) (u2 := .int .i64 (j : Int)) w e (by kernel_rfl) (by kernel_rfl) (index_bytes0F g1 k k j hlk _)) HS.out ?_
                refine takeG 3 (.load 5 (.tmp 98)) (some 99) none (.int .u8 ((X j ^^^ 85 : Nat) : Int)) (by kernel_rfl) (by kernel_rfl) (by kernel_rfl) (fun _ _ _ h => h) (fun o w e hS => exec_load (x := (.tmp 98)) e (by kernel_rfl) (load_one Try.underlying5 (by kernel_rfl) hS.1)) HS.out ?_
                refine takeG 4 (.binOp .xor 5 (.tmp 99) (.const (.int .u8 85)) 5) (some 100) none (.int .u8 ((X j : Nat) : Int)) (by kernel_rfl) (by kernel_rfl) (by kernel_rfl) (fun _ _ _ h => h) (fun o w e hS => exec_bin (u1 := .int .u8 ((X j ^^^ 85 : Nat) : Int)) (u2 := (.int .u8 85)) w e (by kernel_rfl) (by kernel_rfl) (eqG_int ..) (QX.out _)) HS.out ?_
                refine takeG 5 (.move (.tmp 12)) (some 101) none (.slice (some ⟨g2, 0, none⟩) k k) (by kernel_rfl) (by kernel_rfl) (by kernel_rfl) (fun _ _ _ h => h) (fun o w e hS => exec_move w e (by kernel_rfl)) HS.out ?_
                refine takeG 6 (.move (.tmp 14)) (some 102) none (.int .i64 (j : Int)) (by kernel_rfl) (by kernel_rfl) (by kernel_rfl) (fun _ _ _ h => h) (fun o w e hS => exec_move w e (by kernel_rfl)) HS.out ?_
                refine takeG 7 (.indexAddr 37 (.tmp 101) (.tmp 102)) (some 103) none (.pointer (some ⟨g2, j, none⟩)) (by kernel_rfl) (by kernel_rfl) (by kernel_rfl) (fun _ _ _ h => h) (fun o w e hS => exec_index (u1 := .slice (some ⟨g2, 0, none⟩) k k) (u2 := .int .i64 (j : Int)) w e (by kernel_rfl) (by kernel_rfl) (index_bytes0F g2 k k j hlk _)) HS.out ?_
                refine takeG 8 (.load 5 (.tmp 103)) (some 104) none (.int .u8 ((X j : Nat) : Int)) (by kernel_rfl) (by kernel_rfl) (by kernel_rfl) (fun _ _ _ h => h) (fun o w e hS => exec_load (x := (.tmp 103)) e (by kernel_rfl) (load_one Try.underlying5 (by kernel_rfl) hS.2)) HS.out ?_
                refine lastS 9 (.binOp .neq 5 (.tmp 100) (.tmp 104) 5) (some 105) (.bool false) (by kernel_rfl) (by kernel_rfl) (by kernel_rfl) HS.out (fun o e => exec_bin (u1 := .int .u8 ((X j : Nat) : Int)) (u2 := .int .u8 ((X j : Nat) : Int)) _ e (by kernel_rfl) (by kernel_rfl) (eqG_int ..) (neq_u8F _ _)) ?_
                simp only [put_some, put_none, List.setIfInBounds_toArray, List.set_cons_succ, List.set_cons_zero]
                have Q9 : Hid (0 < k → RowG w8.drew g1 k (mixX X k)) := Q8
                have R9 : Hid (0 < k → RowG w8.drew g2 k X) := R8
                have L9 := Lib.hid L8.out.drew
                clear HS QX Q8 R8 L8
                go_wp2_with fail
                go_roundw
                case rel => exact ⟨j + 1, by omega, by go_num, Q9, R9, L9⟩
                case measure => simp [intOf]; omega
              · obtain rfl : j = k := by omega
                clear hlk hj Q8 R8 HAV HAV2
                go_wp2_with fail
                go_loopw [15] (fun y' wr => ∃ i : Nat, i ≤ t ∧ y' = .int .i64 (i : Int) ∧ Hid (Below g w3 wr)) (fun y' _ => t - (intOf y').toNat)
                case atStart => exact ⟨0, by omega, rfl, L8⟩
                case round =>
                  obtain ⟨i, hi, rfl, L9⟩ := hrel
                  rename World => w9
                  clear L8
                  by_cases hli : i < t
                  · have j1 : (i : Int) < (t : Int) := by omega
                    have hin : i < n := by omega
                    obtain ⟨rfl, hbw⟩ := HA.out (by omega)
                    obtain ⟨b5, o5, rfl, _⟩ := HRR.out w3 (Below.refl _ _) i hli
                    obtain ⟨At, hAt⟩ : ∃ At, At = ra i := ⟨_, rfl⟩
                    obtain ⟨li, hlx⟩ : ∃ li, li = rl i := ⟨_, rfl⟩
                    obtain ⟨ct, hct⟩ : ∃ ct, ct = rc i := ⟨_, rfl⟩
                    obtain ⟨gi, hgi⟩ : ∃ gi, gi = Rr i := ⟨_, rfl⟩
                    have HQ : Hid (∀ W, Below g w3 W → W.cell? ⟨b5, o5 + i, none⟩ = some (.slice (some ⟨gi, 0, none⟩) li (li + 3)) ∧ Blk W gi 5 (rowArr (li + 3) (putF li (x i))) ∧ W.cell? ⟨b, oo + i, none⟩ = some (.slice At li ct) ∧ RdB W w.heap.size At li (x i)) := Lib.hid fun W hW => by
                      have hWw := HW3.out.trans (hW.mono hw3)
                      obtain ⟨_, h1, _⟩ := D.rdR_head (HRR.out W hW) hli
                      obtain ⟨_, h2, h3⟩ := D.rdR_head HR.out hin
                      have h4 := ((HALL.out W hW).1.row i hli).2
                      rw [hAt, hlx, hct, hgi]
                      exact ⟨h1, h4, (hWw.cell (p := ⟨b, oo + i, none⟩) hbw).trans h2, h3.below hWw (Nat.le_refl _)⟩
                    have HXI : Hid (∀ k, k < li → x i k < 256) := Lib.hid fun k hk => HXL.out i hli k (by rw [← hlx]; exact hk)
                    have HS := Lib.hid (HQ.out w9.drew L9.out.drew).1
                    have L10 := Lib.hid L9.out.drew
                    have hlb : li ≤ 1048576 := by rw [hlx]; exact HRL.out i hin
                    clear hAt hlx hct hgi L9
                    go_wp2_with fail
                    refine region_anyZ (fun W : World => W.cell? ⟨b5, o5 + i, none⟩ = some (.slice (some ⟨gi, 0, none⟩) li (li + 3))) 11 (by kernel_rfl) ?_
                    refine takeG 0 (.move (.tmp 5)) (some 112) none (.slice (some ⟨b5, o5, none⟩) t c5) (by kernel_rfl) (by kernel_rfl) (by kernel_rfl) (fun _ _ _ h => h) (fun o w e hS => exec_move w e (by kernel_rfl)) HS.out ?_
                    refine takeG 1 (.move (.tmp 15)) (some 113) none (.int .i64 (i : Int)) (by kernel_rfl) (by kernel_rfl) (by kernel_rfl) (fun _ _ _ h => h) (fun o w e hS => exec_move w e (by kernel_rfl)) HS.out ?_
                    refine takeG 2 (.indexAddr 36 (.tmp 112) (.tmp 113)) (some 114) none (.pointer (some ⟨b5, o5 + i, none⟩)) (by kernel_rfl) (by kernel_rfl) (by kernel_rfl) (fun _ _ _ h => h) (fun o w e hS => exec_index (u1 := .slice (some ⟨b5, o5, none⟩) t c5) (u2 := .int .i64 (i : Int)) w e (by kernel_rfl) (by kernel_rfl) (D.index_rows b5 o5 t c5 i hli _)) HS.out ?_
                    refine takeG 3 (.load 37 (.tmp 114)) (some 115) none (.slice (some ⟨gi, 0, none⟩) li (li + 3)) (by kernel_rfl) (by kernel_rfl) (by kernel_rfl) (fun _ _ _ h => h) (fun o w e hS => exec_load (x := (.tmp 114)) e (by kernel_rfl) (load_one Try.underlying37 (by kernel_rfl) hS)) HS.out ?_
                    refine takeG 4 (.move (.tmp 5)) (some 116) none (.slice (some ⟨b5, o5, none⟩) t c5) (by kernel_rfl) (by kernel_rfl) (by kernel_rfl) (fun _ _ _ h => h) (fun o w e hS => exec_move w e (by kernel_rfl)) HS.out ?_
                    refine takeG 5 (.move (.tmp 15)) (some 117) none (.int .i64 (i : Int)) (by kernel_rfl) (by kernel_rfl) (by kernel_rfl) (fun _ _ _ h => h) (fun o w e hS => exec_move w e (by kernel_rfl)) HS.out ?_
                    refine takeG 6 (.indexAddr 36 (.tmp 116) (.tmp 117)) (some 118) none (.pointer (some ⟨b5, o5 + i, none⟩)) (by kernel_rfl) (by kernel_rfl) (by kernel_rfl) (fun _ _ _ h => h) (fun o w e hS => exec_index (u1 := .slice (some ⟨b5, o5, none⟩) t c5) (u2 := .int .i64 (i : Int)) w e (by kernel_rfl) (by kernel_rfl) (D.index_rows b5 o5 t c5 i hli _)) HS.out ?_
                    refine takeG 7 (.load 37 (.tmp 118)) (some 119) none (.slice (some ⟨gi, 0, none⟩) li (li + 3)) (by kernel_rfl) (by kernel_rfl) (by kernel_rfl) (fun _ _ _ h => h) (fun o w e hS => exec_load (x := (.tmp 118)) e (by kernel_rfl) (load_one Try.underlying37 (by kernel_rfl) hS)) HS.out ?_
                    refine loneG 8 (.call ⟨.builtin .cap, #[(.tmp 119)], #[37]⟩) (some 120) none (by kernel_rfl) (by kernel_rfl) (by kernel_rfl) ?_
                    intro o ho hod
                    refine wp_val (v := .int .i64 ((li + 3 : Nat) : Int)) (exec_capF (u := .slice (some ⟨gi, 0, none⟩) li (li + 3)) ho (by kernel_rfl) (cap_slF _ (some ⟨gi, 0, none⟩) li (li + 3) _)) ?_
                    rw [hod]
                    clear hod ho
                    refine ⟨fun _ => HS.out, ?_⟩
                    refine takeG 9 (.slice 37 (.tmp 115) .none (.some (.tmp 120)) .none) (some 121) none (.slice (some ⟨gi, 0, none⟩) (li + 3) (li + 3)) (by kernel_rfl) (by kernel_rfl) (by kernel_rfl) (fun _ _ _ h => h) (fun o w e hS => exec_slice (u := .slice (some ⟨gi, 0, none⟩) li (li + 3)) w e (by kernel_rfl) (by kernel_rfl) (by kernel_rfl) (by kernel_rfl) (D.slice_headB gi 0 li (li + 3) (li + 3) (Nat.le_refl _) _)) HS.out ?_
                    refine lastS 10 (.assign (.tmp 121)) (some 16) (.slice (some ⟨gi, 0, none⟩) (li + 3) (li + 3)) (by kernel_rfl) (by kernel_rfl) (by kernel_rfl) HS.out (fun o e => exec_assign _ e (by kernel_rfl)) ?_
                    simp only [put_some, put_none, List.setIfInBounds_toArray, List.set_cons_succ, List.set_cons_zero]
                    clear HS
                    generalize w9.drew = w10 at *
                    have HS2 : Hid (w10.drew.cell? ⟨b5, o5 + i, none⟩ = some (.slice (some ⟨gi, 0, none⟩) li (li + 3)) ∧ w10.drew.cell? ⟨b, oo + i, none⟩ = some (.slice At li ct) ∧ RdB w10.drew (gi + 1) (some ⟨gi, 0, none⟩) li (x i) ∧ RdB w10.drew w.heap.size At li (x i)) := Lib.hid (by
                      obtain ⟨h1, h2, h3, h4⟩ := HQ.out w10.drew L10.out.drew
                      exact ⟨h1, h3, fun k hk => ⟨gi, 0, rfl, Nat.lt_succ_self gi, by rw [Nat.zero_add, h2.cell, rowArr_get (by omega), putF_in _ hk], HXI.out k hk⟩, h4⟩)
                    have L11 := Lib.hid L10.out.drew
                    clear L10
                    go_wp2_with fail
                    refine region_anyZ (fun W : World => W.cell? ⟨b5, o5 + i, none⟩ = some (.slice (some ⟨gi, 0, none⟩) li (li + 3)) ∧ W.cell? ⟨b, oo + i, none⟩ = some (.slice At li ct) ∧ RdB W (gi + 1) (some ⟨gi, 0, none⟩) li (x i) ∧ RdB W w.heap.size At li (x i)) 11 (by kernel_rfl) ?_
                    refine takeG 0 (.move (.tmp 5)) (some 122) none (.slice (some ⟨b5, o5, none⟩) t c5) (by kernel_rfl) (by kernel_rfl) (by kernel_rfl) (fun _ _ _ h => h) (fun o w e hS => exec_move w e (by kernel_rfl)) HS2.out ?_
                    refine takeG 1 (.move (.tmp 15)) (some 123) none (.int .i64 (i : Int)) (by kernel_rfl) (by kernel_rfl) (by kernel_rfl) (fun _ _ _ h => h) (fun o w e hS => exec_move w e (by kernel_rfl)) HS2.out ?_
                    refine takeG 2 (.indexAddr 36 (.tmp 122) (.tmp 123)) (some 124) none (.pointer (some ⟨b5, o5 + i, none⟩)) (by kernel_rfl) (by kernel_rfl) (by kernel_rfl) (fun _ _ _ h => h) (fun o w e hS => exec_index (u1 := .slice (some ⟨b5, o5, none⟩) t c5) (u2 := .int .i64 (i : Int)) w e (by kernel_rfl) (by kernel_rfl) (D.index_rows b5 o5 t c5 i hli _)) HS2.out ?_
                    refine takeG 3 (.load 37 (.tmp 124)) (some 125) none (.slice (some ⟨gi, 0, none⟩) li (li + 3)) (by kernel_rfl) (by kernel_rfl) (by kernel_rfl) (fun _ _ _ h => h) (fun o w e hS => exec_load (x := (.tmp 124)) e (by kernel_rfl) (load_one Try.underlying37 (by kernel_rfl) hS.1)) HS2.out ?_
                    refine takeG 4 (.convert 37 9 (.tmp 125)) (some 126) none (.string (strB li (x i))) (by kernel_rfl) (by kernel_rfl) (by kernel_rfl) (fun _ _ _ h => h) (fun o w e hS => exec_conv (u := .slice (some ⟨gi, 0, none⟩) li (li + 3)) w e (by kernel_rfl) (conv_rd hS.2.2.1)) HS2.out ?_
                    refine takeG 5 (.move (.tmp 0)) (some 127) none (.slice (some ⟨b, oo, none⟩) n c) (by kernel_rfl) (by kernel_rfl) (by kernel_rfl) (fun _ _ _ h => h) (fun o w e hS => exec_move w e (by kernel_rfl)) HS2.out ?_
                    refine takeG 6 (.move (.tmp 15)) (some 128) none (.int .i64 (i : Int)) (by kernel_rfl) (by kernel_rfl) (by kernel_rfl) (fun _ _ _ h => h) (fun o w e hS => exec_move w e (by kernel_rfl)) HS2.out ?_
                    refine takeG 7 (.indexAddr 36 (.tmp 127) (.tmp 128)) (some 129) none (.pointer (some ⟨b, oo + i, none⟩)) (by kernel_rfl) (by kernel_rfl) (by kernel_rfl) (fun _ _ _ h => h) (fun o w e hS => exec_index (u1 := .slice (some ⟨b, oo, none⟩) n c) (u2 := .int .i64 (i : Int)) w e (by kernel_rfl) (by kernel_rfl) (D.index_rows b oo n c i hin _)) HS2.out ?_
                    refine takeG 8 (.load 37 (.tmp 129)) (some 130) none (.slice At li ct) (by kernel_rfl) (by kernel_rfl) (by kernel_rfl) (fun _ _ _ h => h) (fun o w e hS => exec_load (x := (.tmp 129)) e (by kernel_rfl) (load_one Try.underlying37 (by kernel_rfl) hS.2.1)) HS2.out ?_
                    refine takeG 9 (.convert 37 9 (.tmp 130)) (some 131) none (.string (strB li (x i))) (by kernel_rfl) (by kernel_rfl) (by kernel_rfl) (fun _ _ _ h => h) (fun o w e hS => exec_conv (u := .slice At li ct) w e (by kernel_rfl) (conv_rd hS.2.2.2)) HS2.out ?_
                    refine lastS 10 (.binOp .neq 9 (.tmp 126) (.tmp 131) 9) (some 132) (.bool false) (by kernel_rfl) (by kernel_rfl) (by kernel_rfl) HS2.out (fun o e => exec_bin (u1 := .string (strB li (x i))) (u2 := .string (strB li (x i))) _ e (by kernel_rfl) (by kernel_rfl) (eqG_str ..) (neq_strF _ _)) ?_
                    simp only [put_some, put_none, List.setIfInBounds_toArray, List.set_cons_succ, List.set_cons_zero]
                    clear HS2
                    generalize w10.drew = w11 at *
                    have c1 := (HQ.out w11 L11.out).1
                    go_wp2_with fail
                    go_loopw [17] (fun y' wr => ∃ k : Nat, li ≤ k ∧ k ≤ li + 3 ∧ y' = .int .i64 (k : Int) ∧ Hid (Below g w3 wr)) (fun y' _ => li + 3 - (intOf y').toNat)
                    case atStart => exact ⟨li, by omega, by omega, rfl, L11⟩
                    case round =>
                      obtain ⟨q, hq1, hq2, rfl, L12⟩ := hrel
                      rename World => w12
                      clear L11
                      by_cases hlq : q < li + 3
                      · have j2 : (q : Int) < (li : Int) + 3 := by omega
                        have c2 : w12.cell? ⟨gi, q, none⟩ = some (.int .u8 0) := by
                          rw [(HQ.out w12 L12.out).2.1.cell, rowArr_get hlq, putF_out _ hq1]
                          rfl
                        go_wp2_with fail
                        clear c2
                        go_roundw
                        case rel => exact ⟨q + 1, by omega, by omega, by go_num, L12⟩
                        case measure => simp [intOf]; omega
                      · obtain rfl : q = li + 3 := by omega
                        rw [show ((li + 3 : Nat) : Int) = (li : Int) + 3 by omega]
                        clear hlq hq1 hq2 HQ
                        go_wp2_with fail
                        go_roundw
                        case rel => exact ⟨i + 1, by omega, by go_num, L12⟩
                        case measure => simp [intOf]; omega
                  · obtain rfl : i = t := by omega
                    have k1 := conv_rd (cap := m + 3) (HBR.out w9 L9.out)
                    have LL := Lib.hid (HW3.out.trans (L9.out.mono hw3))
                    have k2 := conv_rd (cap := c2) (HY.out.below LL.out (Nat.le_refl _))
                    clear hli hi L9 HALL HBR HRR
                    go_wp2_with fail
                    go_ret
                    exact ⟨rfl, LL.out⟩


theorem walk (a0 : Option Addr) (len0 cap0 : Nat) (ra0 : Nat → Option Addr) (rl0 rc0 : Nat → Nat) (y0 : Nat → Nat → Nat) (a1 : Option Addr) (len1 cap1 : Nat) (y1 : Nat → Nat) (w : World)
    (hy0 : RdR w w.heap.size a0 len0 ra0 rl0 rc0 y0) (hl0 : len0 ≤ cap0) (hm0 : cap0 ≤ maxLen) (hc0 : ∀ i, i < len0 → rl0 i ≤ rc0 i ∧ rc0 i ≤ maxLen ∧ (ra0 i = none → rc0 i = 0)) (hb0 : ∀ i, i < len0 → rl0 i ≤ 1048576) (hy1 : RdB w w.heap.size a1 len1 y1) (hl1 : len1 ≤ cap1) (hm1 : cap1 ≤ maxLen) (hn1 : a1 = none → cap1 = 0) (hb1 : len1 ≤ 1048576) :
    Calls Try.prog 8 #[.slice a0 len0 cap0, .slice a1 len1 cap1] w fun e w' => e = .returned (.bool true) ∧ Below w.heap.size w w' :=
  main a0 a1 len0 cap0 len1 cap1 ra0 rl0 rc0 y0 y1 w hy0 hl0 hm0 hc0 hb0 hy1 hl1 hm1 hn1 hb1
end fieldApart
end Go.Proofs.Ytejngiialodnoaa
