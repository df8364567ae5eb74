/-
  The walk of 'SpaceShort': a condensed log leaves the same space, is its own condensed log, and has takes alone, none touching the next.
-/
import Derived.Test.YtpbojhjbjnoihaaSpcShortM
import Derived.Test.YtpbojhjbjnoihaaSpcFew
namespace Go.Proofs.Ytpbojhjbjnoihaa
open Go Go.RowKit
set_option maxRecDepth 100000
set_option linter.unusedVariables false
namespace spaceShort
open Sp
theorem index_refop (b o n c i : Nat) (h : i < n) (w : World) : (Instr.indexAt 47 (.slice (some ⟨b, o, none⟩) n c) (.int .i64 (i : Int))).run Try.prog w = .ok (.pointer (some ⟨b, o + i * 3, none⟩)) w :=
  Gr.index_gen Try.underlying47 (by kernel_rfl) b o n c i h w
theorem index_op (b o n c i : Nat) (h : i < n) (w : World) : (Instr.indexAt 48 (.slice (some ⟨b, o, none⟩) n c) (.int .i64 (i : Int))).run Try.prog w = .ok (.pointer (some ⟨b, o + i * 3, none⟩)) w :=
  Gr.index_gen Try.underlying48 (by kernel_rfl) b o n c i h w
def Cell3 (w : World) (g o : Nat) (x n : Int) : Prop := w.cell? ⟨g, o, none⟩ = some (.bool true) ∧ w.cell? ⟨g, o + 1, none⟩ = some (.int .i64 x) ∧ w.cell? ⟨g, o + 2, none⟩ = some (.int .i64 n)
theorem cell3_of {w : World} {g o : Nat} {r : Rg} (h : ∀ j u, (Gr.csB (opOf r))[j]? = some u → w.cell? ⟨g, o + j, none⟩ = some u) : Cell3 w g o (r.1 : Int) ((r.2 : Int) - (r.1 : Int)) :=
  ⟨by have := h 0 _ rfl; rw [Nat.add_zero] at this; exact this, h 1 _ rfl, h 2 _ rfl⟩
theorem load_op3 {w : World} {g o : Nat} {x n : Int} (h : Cell3 w g o x n) : (Instr.loadAt 51 (.pointer (some ⟨g, o, none⟩))).run Try.prog w = .ok (.agg #[.bool true, .int .i64 x, .int .i64 n]) w := by
  have := run_loadAt_mid (P := Try.prog) w g o 51 [.bool true, .int .i64 x, .int .i64 n] _ (fun j v hj => by
    match j, hj with
    | 0, hj => injection hj with hj; subst hj; exact h.1
    | 1, hj => injection hj with hj; subst hj; exact h.2.1
    | 2, hj => injection hj with hj; subst hj; exact h.2.2
    | j + 3, hj => simp at hj) Try.underlying51 rfl (by kernel_rfl)
  exact this
theorem eqG_agg {P : Program} (op : BinOp) (t : TypeId) (x y : Operand) (a b : Array Value) (h : (!P.eqGuardType P.depth t) = true) (w : World) : (eqGuard op t x y (.agg a) (.agg b)).run P w = .ok () w := by
  have h2 : P.eqGuardType P.depth t = false := by simpa using h
  unfold eqGuard
  cases op <;> simp [Sem.run_bind, run_program, h2]
theorem neq_op (x n : Int) (W : World) : (binOp .neq 51 (.agg #[.bool true, .int .i64 x, .int .i64 n]) (.agg #[.bool true, .int .i64 x, .int .i64 n])).run Try.prog W = .ok (.bool false) W := by
  simp [go_sem, run_neq_struct]
theorem lt1_no (n : Int) (h : 1 ≤ n) (W : World) : (binOp .lss 3 (.int .i64 n) (.int .i64 1)).run Try.prog W = .ok (.bool false) W := by
  have e : decide (n < 1) = false := by simp; omega
  rw [← e]
  rfl
theorem gt0_no (n : Nat) (h : n = 0) (W : World) : (binOp .gtr 3 (.int .i64 (n : Int)) (.int .i64 0)).run Try.prog W = .ok (.bool false) W := by
  subst h
  kernel_rfl
theorem gt0_yes (n : Nat) (h : 0 < n) (W : World) : (binOp .gtr 3 (.int .i64 (n : Int)) (.int .i64 0)).run Try.prog W = .ok (.bool true) W := by
  have e : decide ((0 : Int) < (n : Int)) = true := by simp; omega
  rw [← e]
  rfl
theorem sub1 (n : Nat) (h : 0 < n) (hb : n ≤ 1000000) (W : World) : (binOp .sub 3 (.int .i64 (n : Int)) (.int .i64 1)).run Try.prog W = .ok (.int .i64 ((n - 1 : Nat) : Int)) W := by
  rw [show binOp .sub 3 (.int .i64 (n : Int)) (.int .i64 1) = pure (.int .i64 (IntKind.i64.wrap ((n : Int) - 1))) from rfl, IntWalk.i64_in _ (by omega), show (n : Int) - 1 = ((n - 1 : Nat) : Int) by omega]
  rfl
theorem add_up (x y : Nat) (hx : x ≤ 1000000) (hy : y ≤ 1000000) (W : World) : (binOp .add 3 (.int .i64 (x : Int)) (.int .i64 ((y : Int) - (x : Int)))).run Try.prog W = .ok (.int .i64 (y : Int)) W := by
  rw [show binOp .add 3 (.int .i64 (x : Int)) (.int .i64 ((y : Int) - (x : Int))) = pure (.int .i64 (IntKind.i64.wrap ((x : Int) + ((y : Int) - (x : Int))))) from rfl, IntWalk.i64_in _ (by omega), show (x : Int) + ((y : Int) - (x : Int)) = (y : Int) by omega]
  rfl
theorem leq_no (x y : Nat) (h : y < x) (W : World) : (binOp .leq 3 (.int .i64 (x : Int)) (.int .i64 (y : Int))).run Try.prog W = .ok (.bool false) W := by
  have e : decide ((x : Int) ≤ (y : Int)) = false := by simp; omega
  rw [← e]
  rfl
theorem z64_op {s : SS} (h : Sp.Good s) : ∀ r ∈ (s.S 1).map opOf, Gr.Z64' r.2.1 ∧ Gr.Z64' r.2.2 := fun r hr => by
  obtain ⟨q, hq, rfl⟩ := List.mem_map.1 hr
  have h1 := ((h.ris 1 (by omega)).in_ (h.in_ 1 (by omega)) q hq).2
  have h2 := (h.ris 1 (by omega)).lt_ q hq
  have h3 := h.hc.2
  unfold Gr.Z64' opOf
  dsimp only
  omega
set_option maxHeartbeats 25600000 in
theorem walk (a0 : Int) (A : Option Addr) (l : List (Bool × Int × Int)) (cap : Nat) (w : World) (h0 : (Lit.int .i64 a0).wf = true) (hrd : Gr.RdG 3 Gr.csB w A l) (hz : ∀ y ∈ l, Gr.Z64' y.2.1 ∧ Gr.Z64' y.2.2) (hlc : l.length ≤ cap) (hcm : cap ≤ maxLen) (hn0 : A = none → cap = 0) (hsz : cap * 24 ≤ 140737488351232) :
    Calls Try.prog 5 #[.int .i64 a0, .slice A l.length cap] w fun e w' => e = .returned (.bool true) ∧ Below w.heap.size w w' := by
  unfold maxLen at hcm
  have HRD := Lib.hid hrd
  have HZ := Lib.hid hz
  obtain ⟨nl, hnl⟩ : ∃ nl, nl = l.length := ⟨_, rfl⟩
  have HNL := Lib.hid hnl
  have hnlb : nl * 24 ≤ 140737488351232 := by rw [hnl]; omega
  rw [← hnl] at hlc ⊢
  have HFW := Lib.hid (fun w => few_at w a0 h0)
  obtain ⟨C, hC⟩ : ∃ C, C = fewZ a0 := ⟨_, rfl⟩
  rw [← hC] at HFW
  clear h0 hrd hz hn0 hnl hC hsz
  go_enter Try.func5, Try.ntmps5
  go_wp2_with fail
  refine (known_any _).mono ?_
  rintro e w1 ⟨rfl, b1⟩
  have L1 := Lib.hid b1
  clear b1
  go_wp2_with fail
  refine (HFW.out _).mono ?_
  rintro e w1' ⟨rfl, hw⟩
  have hw := hw.symm
  subst hw
  obtain ⟨B, hB⟩ : ∃ B, B = w1.heap.size := ⟨_, rfl⟩
  have HB : Hid (w.heap.size ≤ B) := Lib.hid (by rw [hB]; exact L1.out.size)
  have ST : Hid (OwnOp w1 B (.slice none 0 0) (l.take 0)) := Lib.hid (Gr.OwnG.nil _ _)
  have LB1 : Hid (Below B w1 w1) := Lib.hid (Below.refl _ _)
  have hBs : B ≤ w1.heap.size := by omega
  have HRD1 := Lib.hid (HRD.out.below L1.out)
  have HRB : Hid (∀ wr, Below B w1 wr → Gr.RdG 3 Gr.csB wr A l) := Lib.hid fun wr hb => by
    rw [hB] at hb
    exact HRD1.out.below hb
  clear hB HRD HFW
  go_wp2_with fail
  go_loopw [5, 6] (fun v y wr => ∃ i : Nat, i ≤ nl ∧ y = .int .i64 (i : Int) ∧ Hid (OwnOp wr B v (l.take i)) ∧ Hid (Below B w1 wr) ∧ B ≤ wr.heap.size) (fun _ y _ => nl - (intOf y).toNat)
  case atStart => exact ⟨0, by omega, rfl, ST, LB1, hBs⟩
  case round =>
    clear ST LB1 hBs
    obtain ⟨i, hi, rfl, HO, LB, hBs⟩ := hrel
    by_cases hlt : i < nl
    · have i1 : (i : Int) < (nl : Int) := by omega
      have hil : i < l.length := by have := HNL.out; omega
      obtain ⟨r, hr⟩ : ∃ r, r = l[i] := ⟨_, rfl⟩
      have hri : l[i]? = some r := by rw [hr]; exact List.getElem?_eq_getElem hil
      obtain ⟨g, o, hA, hgb, hcells⟩ := HRB.out _ LB.out i r hri
      obtain ⟨A2, c2, hv, _, _, _, _, _⟩ := HO.out.shape (fun _ => rfl)
      have hlen : (l.take i).length = i := by rw [List.length_take]; omega
      rw [hlen] at hv
      have htk : l.take (i + 1) = l.take i ++ [r] := by
        rw [List.take_succ_eq_append_getElem hil, hr]
      have HTK := Lib.hid (⟨htk, hlen, hv⟩ : _ ∧ _ ∧ _)
      subst hv
      subst hA
      have HCF : Hid (∀ w', Below B w1 w' → w'.cell? ⟨g, o + i * 3, none⟩ = some (.bool r.1) ∧ w'.cell? ⟨g, o + i * 3 + 1, none⟩ = some (.int .i64 r.2.1) ∧ w'.cell? ⟨g, o + i * 3 + 2, none⟩ = some (.int .i64 r.2.2)) := Lib.hid fun w' hb => by
        obtain ⟨g', o', hA', _, hc'⟩ := HRB.out w' hb i r hri
        injection hA' with e1
        injection e1 with e2 e3
        subst e2 e3
        exact ⟨by have := hc' 0 (.bool r.1) rfl; rw [Nat.add_zero] at this; exact this, hc' 1 (.int .i64 r.2.1) rfl, hc' 2 (.int .i64 r.2.2) rfl⟩
      have HSD := Lib.hid (HCF.out _ LB.out.drew)
      obtain ⟨t, x, y⟩ := r
      clear hri hr hil hgb hcells htk hlen
      go_upto_region 8 with (fail)
      refine region_anyZ (fun w' => w'.cell? ⟨g, o + i * 3, none⟩ = some (.bool t) ∧ w'.cell? ⟨g, o + i * 3 + 1, none⟩ = some (.int .i64 x) ∧ w'.cell? ⟨g, o + i * 3 + 2, none⟩ = some (.int .i64 y)) 20 (by kernel_rfl) ?_
      refine takeG 0 (.move (.tmp 5)) (some 26) none (.slice A2 i c2) (by kernel_rfl) (by kernel_rfl) (by kernel_rfl) (fun _ _ _ h => h) (fun o' wq e hS => exec_move wq e (by kernel_rfl)) HSD.out ?_
      refine takeG 1 (.move (.tmp 1)) (some 27) none (.slice (some ⟨g, o, none⟩) nl cap) (by kernel_rfl) (by kernel_rfl) (by kernel_rfl) (fun _ _ _ h => h) (fun o' wq e hS => exec_move wq e (by kernel_rfl)) HSD.out ?_
      refine takeG 2 (.move (.tmp 6)) (some 28) none (.int .i64 (i : Int)) (by kernel_rfl) (by kernel_rfl) (by kernel_rfl) (fun _ _ _ h => h) (fun o' wq e hS => exec_move wq e (by kernel_rfl)) HSD.out ?_
      refine takeG 3 (.indexAddr 47 (.tmp 27) (.tmp 28)) (some 29) none (.pointer (some ⟨g, o + i * 3, none⟩)) (by kernel_rfl) (by kernel_rfl) (by kernel_rfl) (fun _ _ _ h => h) (fun o' wq e hS => exec_index (u1 := .slice (some ⟨g, o, none⟩) nl cap) (u2 := .int .i64 (i : Int)) wq e (by kernel_rfl) (by kernel_rfl) (index_refop g o nl cap i hlt _)) HSD.out ?_
      refine takeG 4 (.fieldAddr 50 (.tmp 29) 0) (some 30) none (.pointer (some ⟨g, o + i * 3, none⟩)) (by kernel_rfl) (by kernel_rfl) (by kernel_rfl) (fun _ _ _ h => h) (fun o' wq e hS => exec_field (u := .pointer (some ⟨g, o + i * 3, none⟩)) wq e (by kernel_rfl) (by kernel_rfl)) HSD.out ?_
      refine takeG 5 (.load 4 (.tmp 30)) (some 31) none (.bool t) (by kernel_rfl) (by kernel_rfl) (by kernel_rfl) (fun _ _ _ h => h) (fun o' wq e hS => exec_load (x := (.tmp 30)) e (by kernel_rfl) (load_one Try.underlying4 (by kernel_rfl) hS.1)) HSD.out ?_
      refine takeG 6 (.move (.tmp 1)) (some 32) none (.slice (some ⟨g, o, none⟩) nl cap) (by kernel_rfl) (by kernel_rfl) (by kernel_rfl) (fun _ _ _ h => h) (fun o' wq e hS => exec_move wq e (by kernel_rfl)) HSD.out ?_
      refine takeG 7 (.move (.tmp 6)) (some 33) none (.int .i64 (i : Int)) (by kernel_rfl) (by kernel_rfl) (by kernel_rfl) (fun _ _ _ h => h) (fun o' wq e hS => exec_move wq e (by kernel_rfl)) HSD.out ?_
      refine takeG 8 (.indexAddr 47 (.tmp 32) (.tmp 33)) (some 34) none (.pointer (some ⟨g, o + i * 3, none⟩)) (by kernel_rfl) (by kernel_rfl) (by kernel_rfl) (fun _ _ _ h => h) (fun o' wq e hS => exec_index (u1 := .slice (some ⟨g, o, none⟩) nl cap) (u2 := .int .i64 (i : Int)) wq e (by kernel_rfl) (by kernel_rfl) (index_refop g o nl cap i hlt _)) HSD.out ?_
      refine takeG 9 (.fieldAddr 50 (.tmp 34) 1) (some 35) none (.pointer (some ⟨g, o + i * 3 + 1, none⟩)) (by kernel_rfl) (by kernel_rfl) (by kernel_rfl) (fun _ _ _ h => h) (fun o' wq e hS => exec_field (u := .pointer (some ⟨g, o + i * 3, none⟩)) wq e (by kernel_rfl) (by kernel_rfl)) HSD.out ?_
      refine takeG 10 (.load 3 (.tmp 35)) (some 36) none (.int .i64 x) (by kernel_rfl) (by kernel_rfl) (by kernel_rfl) (fun _ _ _ h => h) (fun o' wq e hS => exec_load (x := (.tmp 35)) e (by kernel_rfl) (load_one Try.underlying3 (by kernel_rfl) hS.2.1)) HSD.out ?_
      refine takeG 11 (.move (.tmp 1)) (some 37) none (.slice (some ⟨g, o, none⟩) nl cap) (by kernel_rfl) (by kernel_rfl) (by kernel_rfl) (fun _ _ _ h => h) (fun o' wq e hS => exec_move wq e (by kernel_rfl)) HSD.out ?_
      refine takeG 12 (.move (.tmp 6)) (some 38) none (.int .i64 (i : Int)) (by kernel_rfl) (by kernel_rfl) (by kernel_rfl) (fun _ _ _ h => h) (fun o' wq e hS => exec_move wq e (by kernel_rfl)) HSD.out ?_
      refine takeG 13 (.indexAddr 47 (.tmp 37) (.tmp 38)) (some 39) none (.pointer (some ⟨g, o + i * 3, none⟩)) (by kernel_rfl) (by kernel_rfl) (by kernel_rfl) (fun _ _ _ h => h) (fun o' wq e hS => exec_index (u1 := .slice (some ⟨g, o, none⟩) nl cap) (u2 := .int .i64 (i : Int)) wq e (by kernel_rfl) (by kernel_rfl) (index_refop g o nl cap i hlt _)) HSD.out ?_
      refine takeG 14 (.fieldAddr 50 (.tmp 39) 2) (some 40) none (.pointer (some ⟨g, o + i * 3 + 2, none⟩)) (by kernel_rfl) (by kernel_rfl) (by kernel_rfl) (fun _ _ _ h => h) (fun o' wq e hS => exec_field (u := .pointer (some ⟨g, o + i * 3, none⟩)) wq e (by kernel_rfl) (by kernel_rfl)) HSD.out ?_
      refine takeG 15 (.load 3 (.tmp 40)) (some 41) none (.int .i64 y) (by kernel_rfl) (by kernel_rfl) (by kernel_rfl) (fun _ _ _ h => h) (fun o' wq e hS => exec_load (x := (.tmp 40)) e (by kernel_rfl) (load_one Try.underlying3 (by kernel_rfl) hS.2.2)) HSD.out ?_
      refine takeG 16 (.build 51 #[(0, (.tmp 31)), (1, (.tmp 36)), (2, (.tmp 41))]) (some 42) none (.agg #[.bool t, .int .i64 x, .int .i64 y]) (by kernel_rfl) (by kernel_rfl) (by kernel_rfl) (fun _ _ _ h => h) (fun o' wq e hS => exec_bld3 (u0 := .bool t) (u1 := .int .i64 x) (u2 := .int .i64 y) wq e (by kernel_rfl) (by kernel_rfl) (by kernel_rfl) (by kernel_rfl)) HSD.out ?_
      refine loneG 17 (.buildSlice 48 1 #[(0, (.tmp 42))]) (some 43) none (by kernel_rfl) (by kernel_rfl) (by kernel_rfl) ?_
      intro o' ho hod
      refine wp_val (exec_buildSlice1 ho (by kernel_rfl) (bs_op t x y _)) ?_
      rw [hod]
      clear hod ho
      have HS2 := Lib.hid (HCF.out _ (LB.out.drew.alloc hBs (.cells #[.bool t, .int .i64 x, .int .i64 y] 51)))
      refine ⟨fun _ => HS2.out, ?_⟩
      refine loneG 18 (.call ⟨.builtin .append, #[(.tmp 26), (.tmp 43)], #[48, 48]⟩) (some 44) none (by kernel_rfl) (by kernel_rfl) (by kernel_rfl) ?_
      intro o' ho hod
      obtain ⟨v2, w2, hrun, ho2, hb2, hsz2, _⟩ := append_op (w := wr.drew) (HO.out.keep fun _ _ => rfl) (t, x, y) (by rw [HTK.out.2.1]; omega) hBs o'.type
      refine Gr.wp_append 48 (.tmp 26) (.tmp 43) ho (by kernel_rfl) (by kernel_rfl) hrun ?_
      rw [hod]
      clear hod ho
      have LB2 := Lib.hid (LB.out.drew.trans hb2)
      have HO2 : Hid (OwnOp w2 B v2 (l.take (i + 1))) := Lib.hid (by rw [HTK.out.1]; exact ho2)
      have hBs2 : B ≤ w2.heap.size := Nat.le_trans hBs hsz2
      have HS3 := Lib.hid (HCF.out w2 LB2.out)
      refine ⟨fun _ => HS3.out, ?_⟩
      refine lastS 19 (.assign (.tmp 44)) (some 5) (v2) (by kernel_rfl) (by kernel_rfl) (by kernel_rfl) HS3.out (fun o' e => exec_assign _ e (by kernel_rfl)) ?_
      simp only [put_some, put_none, List.setIfInBounds_toArray, List.set_cons_succ, List.set_cons_zero]
      clear hrun
      go_wp2_with fail
      go_roundw
      case rel => exact ⟨i + 1, by omega, by go_num, HO2, LB2, hBs2⟩
      case measure => simp [intOf]; omega
    · have i1 : ¬ ((i : Int) < (nl : Int)) := by omega
      have HO1 := HO
      rw [List.take_of_length_le (by have := HNL.out; omega)] at HO1
      have LW : Hid (Below w.heap.size w wr) := Lib.hid (L1.out.trans (LB.out.mono HB.out))
      obtain ⟨A2, c2, hv, hrd2, _, _, _, _⟩ := HO1.out.shape (fun _ => rfl)
      have HRI := Lib.hid hrd2
      have hl62 : l.length ≤ 4611686018427387904 := by have := HNL.out; omega
      have HC1 := Lib.hid (condense_at wr C A2 l c2 hl62 hrd2 HZ.out)
      rw [← HNL.out] at hv HC1
      subst hv
      clear hlt hrd2 HO HO1 LB hi
      go_wp2_with fail
      refine HC1.out.mono ?_
      rintro e w3 hp
      cases hR : repS C l with
      | error x =>
        rw [hR] at hp
        obtain ⟨rfl, b3⟩ := hp
        have L3 := Lib.hid (LW.out.trans (b3.mono LW.out.size))
        rcases repS_err hR with rfl | rfl
        all_goals
          clear b3 hR HC1
          go_wp2_with fail
          go_ret
          exact ⟨rfl, L3.out⟩
      | ok s =>
        rw [hR] at hp
        obtain ⟨v3, rfl, o3, hg, b3⟩ := hp
        have L3 := Lib.hid (LW.out.trans (b3.mono LW.out.size))
        obtain ⟨A3, c3', hv3, hrd3, _, _, _, _⟩ := o3.shape (fun _ => rfl)
        obtain ⟨D, rfl⟩ : ∃ D : Nat, C = (D : Int) := ⟨C.toNat, by
          unfold repS at hR
          split at hR
          · cases hR
          · omega⟩
        obtain ⟨s', hR', hS1, hS0, hk', hk⟩ := cond_again hR
        obtain ⟨cl, hcl⟩ : ∃ cl, cl = (s.S 1).map opOf := ⟨_, rfl⟩
        obtain ⟨nc, hnc⟩ : ∃ nc, nc = cl.length := ⟨_, rfl⟩
        have hzc : ∀ r ∈ cl, Gr.Z64' r.2.1 ∧ Gr.Z64' r.2.2 := by rw [hcl]; exact z64_op hg
        have hncb : nc ≤ 100000 := by
          rw [hnc, hcl, List.length_map]
          have h1 := (hg.ris 1 (by omega)).len (hg.in_ 1 (by omega))
          have h2 := hg.hc.2
          omega
        have hnil : nl = 0 → nc = 0 := fun e => by
          have : l = [] := List.eq_nil_of_length_eq_zero (by rw [← HNL.out]; exact e)
          rw [this] at hR
          rw [hnc, hcl, cond_nil hR]
          rfl
        rw [← hcl] at hv3 hrd3 o3 hR'
        rw [← hnc] at hv3
        have HO3 := Lib.hid o3
        have HR3 := Lib.hid hrd3
        have HC2 := Lib.hid (condense_at w3 (D : Int) A3 cl c3' (by omega) hrd3 hzc)
        rw [hR', ← hnc] at HC2
        subst hv3
        have HZC := Lib.hid hzc
        have HQ := Lib.hid (⟨hR, hR', hS1, hS0, hk', hk, hg, hcl, hnc⟩ : _ ∧ _ ∧ _ ∧ _ ∧ _ ∧ _ ∧ _ ∧ _ ∧ _)
        have HRI3 := Lib.hid (HRI.out.below b3)
        clear hR hR' hS1 hS0 hk' hk hg hcl hnc hzc o3 hrd3 b3 HC1 HRI LW
        go_wp2_with fail
        refine HC2.out.mono ?_
        rintro e w4 ⟨v4, rfl, o4, _, b4⟩
        obtain ⟨A4, c4', hv4, hrd4, _, _, _, _⟩ := o4.shape (fun _ => rfl)
        rw [HQ.out.2.2.1, ← HQ.out.2.2.2.2.2.2.2.1] at hv4 hrd4 o4
        rw [← HQ.out.2.2.2.2.2.2.2.2] at hv4
        subst hv4
        have HO4 := Lib.hid o4
        have L4 := Lib.hid (L3.out.trans (b4.mono L3.out.size))
        have HR4 := Lib.hid (HR3.out.below b4)
        have HRI4 := Lib.hid (HRI3.out.below b4)
        have HP1 := Lib.hid (replay_at w4 (D : Int) A2 l c2 (by have := HNL.out; omega) HRI4.out HZ.out)
        rw [HQ.out.1, ← HNL.out] at HP1
        have HRD4 := Lib.hid hrd4
        clear o4 hrd4 b4 HC2 HR3 HRI3 L3
        go_wp2_with fail
        refine HP1.out.mono ?_
        rintro e w5 ⟨b5, m5, rfl, s5, bl5⟩
        have S5 := Lib.hid s5
        have L5 := Lib.hid (L4.out.trans (bl5.mono L4.out.size))
        have HR5 := Lib.hid (HR4.out.below bl5)
        have HD5 := Lib.hid (HRD4.out.below bl5)
        have HP2 := Lib.hid (replay_at w5 (D : Int) A3 cl c3' (by have := HQ.out.2.2.2.2.2.2.2.2; omega) HR5.out HZC.out)
        rw [HQ.out.2.1, ← HQ.out.2.2.2.2.2.2.2.2] at HP2
        clear s5 bl5 HP1 HR4 HRI4 HRD4 L4
        go_wp2_with fail
        refine HP2.out.mono ?_
        rintro e w6 ⟨b6, m6, rfl, s6, bl6⟩
        have S6 := Lib.hid s6
        have S56 := Lib.hid (S5.out.keep bl6)
        have L6 := Lib.hid (L5.out.trans (bl6.mono L5.out.size))
        have HR6 := Lib.hid (HR5.out.below bl6)
        have HD6 := Lib.hid (HD5.out.below bl6)
        have HF1 := Lib.hid (free_at S56.out)
        rw [HQ.out.2.2.2.2.2.1] at HF1
        clear s6 bl6 HP2 HR5 HD5 S5 L5
        obtain ⟨fr, hfr⟩ : ∃ fr : Int, fr = (cnt (s.S 0) : Int) - ((0 : Nat) : Int) := ⟨_, rfl⟩
        rw [← hfr] at HF1
        have HFR := Lib.hid hfr
        clear hfr
        go_wp2_with fail
        refine HF1.out.mono ?_
        rintro e w7 ⟨rfl, _, bl7⟩
        have L7 := Lib.hid (L6.out.trans (bl7.mono L6.out.size))
        have HR7 := Lib.hid (HR6.out.below bl7)
        have HD7 := Lib.hid (HD6.out.below bl7)
        have HF2 := Lib.hid (free_at (S6.out.keep bl7))
        rw [HQ.out.2.2.2.2.1, HQ.out.2.2.2.1, ← HFR.out] at HF2
        clear bl7 HF1 HR6 HD6 S56 S6 L6
        go_wp2_with fail
        refine HF2.out.mono ?_
        rintro e w8 ⟨rfl, _, bl8⟩
        have L8 := Lib.hid (L7.out.trans (bl8.mono L7.out.size))
        have HR8 := Lib.hid (HR7.out.below bl8)
        have HD8 := Lib.hid (HD7.out.below bl8)
        clear bl8 HF2 HR7 HD7 L7
        have hways : ((nl : Int) < (nc : Int) ∧ ((nl : Int) == 0) = false ∧ ¬ nl = 0) ∨ ¬ ((nl : Int) < (nc : Int)) := by
          by_cases h : (nl : Int) < (nc : Int)
          · refine .inl ⟨h, ?_, ?_⟩
            · simp
              intro e
              have := hnil e
              omega
            · intro e
              have := hnil e
              omega
          · exact .inr h
        clear hnil
        rcases hways with ⟨hw1, hw2, hw3⟩ | hw1
        all_goals
          go_wp2_with fail
          go_loopw [15] (fun y wr => ∃ i : Nat, i ≤ nc ∧ y = .int .i64 (i : Int) ∧ Hid (Below w8.heap.size w8 wr)) (fun y _ => nc - (intOf y).toNat)
          case atStart => exact ⟨0, by omega, rfl, Lib.hid (Below.refl _ _)⟩
          case round =>
            obtain ⟨i, hi, rfl, LX⟩ := hrel
            by_cases hlt : i < nc
            · have i1 : (i : Int) < (nc : Int) := by omega
              have HLL : Hid (∀ j, j < nc → ∃ r : Rg, (s.S 1)[j]? = some r ∧ cl[j]? = some (opOf r)) := Lib.hid fun j hj => by
                have h1 : j < (s.S 1).length := by
                  have h2 := HQ.out.2.2.2.2.2.2.2.2
                  rw [HQ.out.2.2.2.2.2.2.2.1, List.length_map] at h2
                  omega
                refine ⟨_, List.getElem?_eq_getElem h1, ?_⟩
                rw [HQ.out.2.2.2.2.2.2.2.1, List.getElem?_map, List.getElem?_eq_getElem h1]
                rfl
              obtain ⟨r, hr, hcr⟩ := HLL.out i hlt
              obtain ⟨g3, o3, hA3, _, kc⟩ := (HR8.out.below LX.out) i _ hcr
              obtain ⟨g4, o4, hA4, _, kd⟩ := (HD8.out.below LX.out) i _ hcr
              have hrm := (HQ.out.2.2.2.2.2.2.1.ris 1 (by omega)).lt_ r (List.mem_of_getElem? hr)
              have hr2 := ((HQ.out.2.2.2.2.2.2.1.ris 1 (by omega)).in_ (HQ.out.2.2.2.2.2.2.1.in_ 1 (by omega)) r (List.mem_of_getElem? hr)).2
              have hcc := HQ.out.2.2.2.2.2.2.1.hc.2
              have c3 := cell3_of kc
              have c4 := cell3_of kd
              obtain ⟨x, hx⟩ : ∃ x, x = r.1 := ⟨_, rfl⟩
              obtain ⟨y, hy⟩ : ∃ y, y = r.2 := ⟨_, rfl⟩
              rw [← hx, ← hy] at c3 c4
              rw [← hx, ← hy] at hrm
              rw [← hy] at hr2
              have hn1 : (1 : Int) ≤ (y : Int) - (x : Int) := by omega
              have hyb : y ≤ 40000 := by omega
              have hib : i ≤ 1000000 := by omega
              have LX2 : Hid (Below w8.heap.size w8 wr.drew) := Lib.hid LX.out.drew
              rcases Nat.eq_zero_or_pos i with hi0 | hi0
              · have HS := Lib.hid (⟨c4, c3⟩ : Cell3 wr.drew g4 (o4 + i * 3) (x : Int) ((y : Int) - (x : Int)) ∧ Cell3 wr.drew g3 (o3 + i * 3) (x : Int) ((y : Int) - (x : Int)))
                subst hA3
                subst hA4
                clear kc kd hcr hr hx hy hrm hr2 hcc c3 c4 HLL
                go_upto_region 20 with (fail)
                refine region_anyZ (fun w' => Cell3 w' g4 (o4 + i * 3) (x : Int) ((y : Int) - (x : Int)) ∧ Cell3 w' g3 (o3 + i * 3) (x : Int) ((y : Int) - (x : Int))) 50 (by kernel_rfl) ?_
                refine takeG 0 (.move (.tmp 9)) (some 124) none (.slice (some ⟨g4, o4, none⟩) nc c4') (by kernel_rfl) (by kernel_rfl) (by kernel_rfl) (fun _ _ _ h => h) (fun o wq e hS => exec_move wq e (by kernel_rfl)) HS.out ?_
                refine takeG 1 (.move (.tmp 15)) (some 125) none (.int .i64 (i : Int)) (by kernel_rfl) (by kernel_rfl) (by kernel_rfl) (fun _ _ _ h => h) (fun o wq e hS => exec_move wq e (by kernel_rfl)) HS.out ?_
                refine takeG 2 (.indexAddr 48 (.tmp 124) (.tmp 125)) (some 126) none (.pointer (some ⟨g4, o4 + i * 3, none⟩)) (by kernel_rfl) (by kernel_rfl) (by kernel_rfl) (fun _ _ _ h => h) (fun o wq e hS => exec_index (u1 := .slice (some ⟨g4, o4, none⟩) nc c4') (u2 := .int .i64 (i : Int)) wq e (by kernel_rfl) (by kernel_rfl) (index_op g4 o4 nc c4' i hlt _)) HS.out ?_
                refine takeG 3 (.load 51 (.tmp 126)) (some 127) none (.agg #[.bool true, .int .i64 (x : Int), .int .i64 ((y : Int) - (x : Int))]) (by kernel_rfl) (by kernel_rfl) (by kernel_rfl) (fun _ _ _ h => h) (fun o wq e hS => exec_load (x := (.tmp 126)) e (by kernel_rfl) (load_op3 hS.1)) HS.out ?_
                refine takeG 4 (.move (.tmp 7)) (some 128) none (.slice (some ⟨g3, o3, none⟩) nc c3') (by kernel_rfl) (by kernel_rfl) (by kernel_rfl) (fun _ _ _ h => h) (fun o wq e hS => exec_move wq e (by kernel_rfl)) HS.out ?_
                refine takeG 5 (.move (.tmp 15)) (some 129) none (.int .i64 (i : Int)) (by kernel_rfl) (by kernel_rfl) (by kernel_rfl) (fun _ _ _ h => h) (fun o wq e hS => exec_move wq e (by kernel_rfl)) HS.out ?_
                refine takeG 6 (.indexAddr 48 (.tmp 128) (.tmp 129)) (some 130) none (.pointer (some ⟨g3, o3 + i * 3, none⟩)) (by kernel_rfl) (by kernel_rfl) (by kernel_rfl) (fun _ _ _ h => h) (fun o wq e hS => exec_index (u1 := .slice (some ⟨g3, o3, none⟩) nc c3') (u2 := .int .i64 (i : Int)) wq e (by kernel_rfl) (by kernel_rfl) (index_op g3 o3 nc c3' i hlt _)) HS.out ?_
                refine takeG 7 (.load 51 (.tmp 130)) (some 131) none (.agg #[.bool true, .int .i64 (x : Int), .int .i64 ((y : Int) - (x : Int))]) (by kernel_rfl) (by kernel_rfl) (by kernel_rfl) (fun _ _ _ h => h) (fun o wq e hS => exec_load (x := (.tmp 130)) e (by kernel_rfl) (load_op3 hS.2)) HS.out ?_
                refine takeG 8 (.binOp .neq 51 (.tmp 127) (.tmp 131) 51) (some 132) none (.bool false) (by kernel_rfl) (by kernel_rfl) (by kernel_rfl) (fun _ _ _ h => h) (fun o wq e hS => exec_bin (u1 := .agg #[.bool true, .int .i64 (x : Int), .int .i64 ((y : Int) - (x : Int))]) (u2 := .agg #[.bool true, .int .i64 (x : Int), .int .i64 ((y : Int) - (x : Int))]) wq e (by kernel_rfl) (by kernel_rfl) (eqG_agg _ _ _ _ _ _ (by kernel_rfl) _) (neq_op _ _ _)) HS.out ?_
                refine takeG 9 (.move (.tmp 132)) (some 133) none (.bool false) (by kernel_rfl) (by kernel_rfl) (by kernel_rfl) (fun _ _ _ h => h) (fun o wq e hS => exec_move wq e (by kernel_rfl)) HS.out ?_
                refine takeG 10 (.move (.tmp 7)) (some 134) (some (9, false)) (.slice (some ⟨g3, o3, none⟩) nc c3') (by kernel_rfl) (by kernel_rfl) (by kernel_rfl) (fun _ _ _ h => h) (fun o wq e hS => exec_move wq e (by kernel_rfl)) HS.out ?_
                refine takeG 11 (.move (.tmp 15)) (some 135) (some (9, false)) (.int .i64 (i : Int)) (by kernel_rfl) (by kernel_rfl) (by kernel_rfl) (fun _ _ _ h => h) (fun o wq e hS => exec_move wq e (by kernel_rfl)) HS.out ?_
                refine takeG 12 (.indexAddr 48 (.tmp 134) (.tmp 135)) (some 136) (some (9, false)) (.pointer (some ⟨g3, o3 + i * 3, none⟩)) (by kernel_rfl) (by kernel_rfl) (by kernel_rfl) (fun _ _ _ h => h) (fun o wq e hS => exec_index (u1 := .slice (some ⟨g3, o3, none⟩) nc c3') (u2 := .int .i64 (i : Int)) wq e (by kernel_rfl) (by kernel_rfl) (index_op g3 o3 nc c3' i hlt _)) HS.out ?_
                refine takeG 13 (.fieldAddr 51 (.tmp 136) 0) (some 137) (some (9, false)) (.pointer (some ⟨g3, o3 + i * 3, none⟩)) (by kernel_rfl) (by kernel_rfl) (by kernel_rfl) (fun _ _ _ h => h) (fun o wq e hS => exec_field (u := .pointer (some ⟨g3, o3 + i * 3, none⟩)) wq e (by kernel_rfl) (by kernel_rfl)) HS.out ?_
                refine takeG 14 (.load 4 (.tmp 137)) (some 138) (some (9, false)) (.bool true) (by kernel_rfl) (by kernel_rfl) (by kernel_rfl) (fun _ _ _ h => h) (fun o wq e hS => exec_load (x := (.tmp 137)) e (by kernel_rfl) (load_one Try.underlying4 (by kernel_rfl) hS.2.1)) HS.out ?_
                refine takeG 15 (.unOp .not 4 (.tmp 138)) (some 139) (some (9, false)) (.bool false) (by kernel_rfl) (by kernel_rfl) (by kernel_rfl) (fun _ _ _ h => h) (fun o wq e hS => exec_un (u := .bool true) wq e (by kernel_rfl) (by kernel_rfl)) HS.out ?_
                refine takeG 16 (.pick (.tmp 133) (.const (Value.bool true)) (.tmp 139)) (some 140) none (.bool false) (by kernel_rfl) (by kernel_rfl) (by kernel_rfl) (fun _ _ _ h => h) (fun o wq e hS => exec_pick (b := false) wq e (by kernel_rfl) (by kernel_rfl)) HS.out ?_
                refine takeG 17 (.move (.tmp 140)) (some 141) none (.bool false) (by kernel_rfl) (by kernel_rfl) (by kernel_rfl) (fun _ _ _ h => h) (fun o wq e hS => exec_move wq e (by kernel_rfl)) HS.out ?_
                refine takeG 18 (.move (.tmp 7)) (some 142) (some (17, false)) (.slice (some ⟨g3, o3, none⟩) nc c3') (by kernel_rfl) (by kernel_rfl) (by kernel_rfl) (fun _ _ _ h => h) (fun o wq e hS => exec_move wq e (by kernel_rfl)) HS.out ?_
                refine takeG 19 (.move (.tmp 15)) (some 143) (some (17, false)) (.int .i64 (i : Int)) (by kernel_rfl) (by kernel_rfl) (by kernel_rfl) (fun _ _ _ h => h) (fun o wq e hS => exec_move wq e (by kernel_rfl)) HS.out ?_
                refine takeG 20 (.indexAddr 48 (.tmp 142) (.tmp 143)) (some 144) (some (17, false)) (.pointer (some ⟨g3, o3 + i * 3, none⟩)) (by kernel_rfl) (by kernel_rfl) (by kernel_rfl) (fun _ _ _ h => h) (fun o wq e hS => exec_index (u1 := .slice (some ⟨g3, o3, none⟩) nc c3') (u2 := .int .i64 (i : Int)) wq e (by kernel_rfl) (by kernel_rfl) (index_op g3 o3 nc c3' i hlt _)) HS.out ?_
                refine takeG 21 (.fieldAddr 51 (.tmp 144) 2) (some 145) (some (17, false)) (.pointer (some ⟨g3, o3 + i * 3 + 2, none⟩)) (by kernel_rfl) (by kernel_rfl) (by kernel_rfl) (fun _ _ _ h => h) (fun o wq e hS => exec_field (u := .pointer (some ⟨g3, o3 + i * 3, none⟩)) wq e (by kernel_rfl) (by kernel_rfl)) HS.out ?_
                refine takeG 22 (.load 3 (.tmp 145)) (some 146) (some (17, false)) (.int .i64 ((y : Int) - (x : Int))) (by kernel_rfl) (by kernel_rfl) (by kernel_rfl) (fun _ _ _ h => h) (fun o wq e hS => exec_load (x := (.tmp 145)) e (by kernel_rfl) (load_one Try.underlying3 (by kernel_rfl) hS.2.2.2)) HS.out ?_
                refine takeG 23 (.binOp .lss 3 (.tmp 146) (.const (.int .i64 1)) 3) (some 147) (some (17, false)) (.bool false) (by kernel_rfl) (by kernel_rfl) (by kernel_rfl) (fun _ _ _ h => h) (fun o wq e hS => exec_bin (u1 := .int .i64 ((y : Int) - (x : Int))) (u2 := (.int .i64 1)) wq e (by kernel_rfl) (by kernel_rfl) (eqG_int ..) (lt1_no _ hn1 _)) HS.out ?_
                refine takeG 24 (.pick (.tmp 141) (.const (Value.bool true)) (.tmp 147)) (some 148) none (.bool false) (by kernel_rfl) (by kernel_rfl) (by kernel_rfl) (fun _ _ _ h => h) (fun o wq e hS => exec_pick (b := false) wq e (by kernel_rfl) (by kernel_rfl)) HS.out ?_
                refine takeG 25 (.move (.tmp 148)) (some 149) none (.bool false) (by kernel_rfl) (by kernel_rfl) (by kernel_rfl) (fun _ _ _ h => h) (fun o wq e hS => exec_move wq e (by kernel_rfl)) HS.out ?_
                refine takeG 26 (.move (.tmp 15)) (some 150) (some (25, false)) (.int .i64 (i : Int)) (by kernel_rfl) (by kernel_rfl) (by kernel_rfl) (fun _ _ _ h => h) (fun o wq e hS => exec_move wq e (by kernel_rfl)) HS.out ?_
                refine takeG 27 (.binOp .gtr 3 (.tmp 150) (.const (.int .i64 0)) 3) (some 151) (some (25, false)) (.bool false) (by kernel_rfl) (by kernel_rfl) (by kernel_rfl) (fun _ _ _ h => h) (fun o wq e hS => exec_bin (u1 := .int .i64 (i : Int)) (u2 := (.int .i64 0)) wq e (by kernel_rfl) (by kernel_rfl) (eqG_int ..) (gt0_no i hi0 _)) HS.out ?_
                refine takeG 28 (.move (.tmp 151)) (some 152) (some (25, false)) (.bool false) (by kernel_rfl) (by kernel_rfl) (by kernel_rfl) (fun _ _ _ h => h) (fun o wq e hS => exec_move wq e (by kernel_rfl)) HS.out ?_
                refine takeSkip 29 (.move (.tmp 7)) (some 153) (some (28, true)) (by kernel_rfl) (by kernel_rfl) (by kernel_rfl) (fun _ _ _ h => h) HS.out ?_
                refine takeSkip 30 (.move (.tmp 15)) (some 154) (some (28, true)) (by kernel_rfl) (by kernel_rfl) (by kernel_rfl) (fun _ _ _ h => h) HS.out ?_
                refine takeSkip 31 (.indexAddr 48 (.tmp 153) (.tmp 154)) (some 155) (some (28, true)) (by kernel_rfl) (by kernel_rfl) (by kernel_rfl) (fun _ _ _ h => h) HS.out ?_
                refine takeSkip 32 (.fieldAddr 51 (.tmp 155) 1) (some 156) (some (28, true)) (by kernel_rfl) (by kernel_rfl) (by kernel_rfl) (fun _ _ _ h => h) HS.out ?_
                refine takeSkip 33 (.load 3 (.tmp 156)) (some 157) (some (28, true)) (by kernel_rfl) (by kernel_rfl) (by kernel_rfl) (fun _ _ _ h => h) HS.out ?_
                refine takeSkip 34 (.move (.tmp 7)) (some 158) (some (28, true)) (by kernel_rfl) (by kernel_rfl) (by kernel_rfl) (fun _ _ _ h => h) HS.out ?_
                refine takeSkip 35 (.move (.tmp 15)) (some 159) (some (28, true)) (by kernel_rfl) (by kernel_rfl) (by kernel_rfl) (fun _ _ _ h => h) HS.out ?_
                refine takeSkip 36 (.binOp .sub 3 (.tmp 159) (.const (.int .i64 1)) 3) (some 160) (some (28, true)) (by kernel_rfl) (by kernel_rfl) (by kernel_rfl) (fun _ _ _ h => h) HS.out ?_
                refine takeSkip 37 (.indexAddr 48 (.tmp 158) (.tmp 160)) (some 161) (some (28, true)) (by kernel_rfl) (by kernel_rfl) (by kernel_rfl) (fun _ _ _ h => h) HS.out ?_
                refine takeSkip 38 (.fieldAddr 51 (.tmp 161) 1) (some 162) (some (28, true)) (by kernel_rfl) (by kernel_rfl) (by kernel_rfl) (fun _ _ _ h => h) HS.out ?_
                refine takeSkip 39 (.load 3 (.tmp 162)) (some 163) (some (28, true)) (by kernel_rfl) (by kernel_rfl) (by kernel_rfl) (fun _ _ _ h => h) HS.out ?_
                refine takeSkip 40 (.move (.tmp 7)) (some 164) (some (28, true)) (by kernel_rfl) (by kernel_rfl) (by kernel_rfl) (fun _ _ _ h => h) HS.out ?_
                refine takeSkip 41 (.move (.tmp 15)) (some 165) (some (28, true)) (by kernel_rfl) (by kernel_rfl) (by kernel_rfl) (fun _ _ _ h => h) HS.out ?_
                refine takeSkip 42 (.binOp .sub 3 (.tmp 165) (.const (.int .i64 1)) 3) (some 166) (some (28, true)) (by kernel_rfl) (by kernel_rfl) (by kernel_rfl) (fun _ _ _ h => h) HS.out ?_
                refine takeSkip 43 (.indexAddr 48 (.tmp 164) (.tmp 166)) (some 167) (some (28, true)) (by kernel_rfl) (by kernel_rfl) (by kernel_rfl) (fun _ _ _ h => h) HS.out ?_
                refine takeSkip 44 (.fieldAddr 51 (.tmp 167) 2) (some 168) (some (28, true)) (by kernel_rfl) (by kernel_rfl) (by kernel_rfl) (fun _ _ _ h => h) HS.out ?_
                refine takeSkip 45 (.load 3 (.tmp 168)) (some 169) (some (28, true)) (by kernel_rfl) (by kernel_rfl) (by kernel_rfl) (fun _ _ _ h => h) HS.out ?_
                refine takeSkip 46 (.binOp .add 3 (.tmp 163) (.tmp 169) 3) (some 170) (some (28, true)) (by kernel_rfl) (by kernel_rfl) (by kernel_rfl) (fun _ _ _ h => h) HS.out ?_
                refine takeSkip 47 (.binOp .leq 3 (.tmp 157) (.tmp 170) 3) (some 171) (some (28, true)) (by kernel_rfl) (by kernel_rfl) (by kernel_rfl) (fun _ _ _ h => h) HS.out ?_
                refine takeG 48 (.pick (.tmp 152) (.tmp 171) (.const (Value.bool false))) (some 172) (some (25, false)) (.bool false) (by kernel_rfl) (by kernel_rfl) (by kernel_rfl) (fun _ _ _ h => h) (fun o wq e hS => exec_pick (b := false) wq e (by kernel_rfl) (by kernel_rfl)) HS.out ?_
                refine lastS 49 (.pick (.tmp 149) (.const (Value.bool true)) (.tmp 172)) (some 173) (.bool false) (by kernel_rfl) (by kernel_rfl) (by kernel_rfl) HS.out (fun o e => exec_pick (b := false) _ e (by kernel_rfl) (by kernel_rfl)) ?_
                simp only [put_some, put_none, List.setIfInBounds_toArray, List.set_cons_succ, List.set_cons_zero]
                clear HS
                go_wp2_with fail
                go_roundw
                case rel => exact ⟨i + 1, by omega, by go_num, LX2⟩
                case measure => simp [intOf]; omega
              · obtain ⟨q, hq, hcq⟩ := HLL.out (i - 1) (by omega)
                obtain ⟨g3', o3', hA3', _, kq⟩ := (HR8.out.below LX.out) (i - 1) _ hcq
                have hrise := rise_at (HQ.out.2.2.2.2.2.2.1.ris 1 (by omega)) hq (by rw [show i - 1 + 1 = i by omega]; exact hr)
                have hq2 := ((HQ.out.2.2.2.2.2.2.1.ris 1 (by omega)).in_ (HQ.out.2.2.2.2.2.2.1.in_ 1 (by omega)) q (List.mem_of_getElem? hq)).2
                have hqm := (HQ.out.2.2.2.2.2.2.1.ris 1 (by omega)).lt_ q (List.mem_of_getElem? hq)
                rw [hA3] at hA3'
                injection hA3' with e1
                injection e1 with e1 e2
                subst e1 e2
                have c5 := cell3_of kq
                obtain ⟨xq, hxq⟩ : ∃ xq, xq = q.1 := ⟨_, rfl⟩
                obtain ⟨yq, hyq⟩ : ∃ yq, yq = q.2 := ⟨_, rfl⟩
                rw [← hxq, ← hyq] at c5
                rw [← hx, ← hyq] at hrise
                rw [← hyq] at hq2
                rw [← hxq, ← hyq] at hqm
                have hxqb : xq ≤ 1000000 := by omega
                have hyqb : yq ≤ 1000000 := by omega
                have hi1 : i - 1 < nc := by omega
                have HS := Lib.hid (⟨c4, c3, c5⟩ : Cell3 wr.drew g4 (o4 + i * 3) (x : Int) ((y : Int) - (x : Int)) ∧ Cell3 wr.drew g3 (o3 + i * 3) (x : Int) ((y : Int) - (x : Int)) ∧ Cell3 wr.drew g3 (o3 + (i - 1) * 3) (xq : Int) ((yq : Int) - (xq : Int)))
                subst hA3
                subst hA4
                clear kc kd kq hcr hcq hr hq hx hy hxq hyq hrm hr2 hcc c3 c4 c5 HLL hq2 hqm
                go_upto_region 20 with (fail)
                refine region_anyZ (fun w' => Cell3 w' g4 (o4 + i * 3) (x : Int) ((y : Int) - (x : Int)) ∧ Cell3 w' g3 (o3 + i * 3) (x : Int) ((y : Int) - (x : Int)) ∧ Cell3 w' g3 (o3 + (i - 1) * 3) (xq : Int) ((yq : Int) - (xq : Int))) 50 (by kernel_rfl) ?_
                refine takeG 0 (.move (.tmp 9)) (some 124) none (.slice (some ⟨g4, o4, none⟩) nc c4') (by kernel_rfl) (by kernel_rfl) (by kernel_rfl) (fun _ _ _ h => h) (fun o wq e hS => exec_move wq e (by kernel_rfl)) HS.out ?_
                refine takeG 1 (.move (.tmp 15)) (some 125) none (.int .i64 (i : Int)) (by kernel_rfl) (by kernel_rfl) (by kernel_rfl) (fun _ _ _ h => h) (fun o wq e hS => exec_move wq e (by kernel_rfl)) HS.out ?_
                refine takeG 2 (.indexAddr 48 (.tmp 124) (.tmp 125)) (some 126) none (.pointer (some ⟨g4, o4 + i * 3, none⟩)) (by kernel_rfl) (by kernel_rfl) (by kernel_rfl) (fun _ _ _ h => h) (fun o wq e hS => exec_index (u1 := .slice (some ⟨g4, o4, none⟩) nc c4') (u2 := .int .i64 (i : Int)) wq e (by kernel_rfl) (by kernel_rfl) (index_op g4 o4 nc c4' i hlt _)) HS.out ?_
                refine takeG 3 (.load 51 (.tmp 126)) (some 127) none (.agg #[.bool true, .int .i64 (x : Int), .int .i64 ((y : Int) - (x : Int))]) (by kernel_rfl) (by kernel_rfl) (by kernel_rfl) (fun _ _ _ h => h) (fun o wq e hS => exec_load (x := (.tmp 126)) e (by kernel_rfl) (load_op3 hS.1)) HS.out ?_
                refine takeG 4 (.move (.tmp 7)) (some 128) none (.slice (some ⟨g3, o3, none⟩) nc c3') (by kernel_rfl) (by kernel_rfl) (by kernel_rfl) (fun _ _ _ h => h) (fun o wq e hS => exec_move wq e (by kernel_rfl)) HS.out ?_
                refine takeG 5 (.move (.tmp 15)) (some 129) none (.int .i64 (i : Int)) (by kernel_rfl) (by kernel_rfl) (by kernel_rfl) (fun _ _ _ h => h) (fun o wq e hS => exec_move wq e (by kernel_rfl)) HS.out ?_
                refine takeG 6 (.indexAddr 48 (.tmp 128) (.tmp 129)) (some 130) none (.pointer (some ⟨g3, o3 + i * 3, none⟩)) (by kernel_rfl) (by kernel_rfl) (by kernel_rfl) (fun _ _ _ h => h) (fun o wq e hS => exec_index (u1 := .slice (some ⟨g3, o3, none⟩) nc c3') (u2 := .int .i64 (i : Int)) wq e (by kernel_rfl) (by kernel_rfl) (index_op g3 o3 nc c3' i hlt _)) HS.out ?_
                refine takeG 7 (.load 51 (.tmp 130)) (some 131) none (.agg #[.bool true, .int .i64 (x : Int), .int .i64 ((y : Int) - (x : Int))]) (by kernel_rfl) (by kernel_rfl) (by kernel_rfl) (fun _ _ _ h => h) (fun o wq e hS => exec_load (x := (.tmp 130)) e (by kernel_rfl) (load_op3 hS.2.1)) HS.out ?_
                refine takeG 8 (.binOp .neq 51 (.tmp 127) (.tmp 131) 51) (some 132) none (.bool false) (by kernel_rfl) (by kernel_rfl) (by kernel_rfl) (fun _ _ _ h => h) (fun o wq e hS => exec_bin (u1 := .agg #[.bool true, .int .i64 (x : Int), .int .i64 ((y : Int) - (x : Int))]) (u2 := .agg #[.bool true, .int .i64 (x : Int), .int .i64 ((y : Int) - (x : Int))]) wq e (by kernel_rfl) (by kernel_rfl) (eqG_agg _ _ _ _ _ _ (by kernel_rfl) _) (neq_op _ _ _)) HS.out ?_
                refine takeG 9 (.move (.tmp 132)) (some 133) none (.bool false) (by kernel_rfl) (by kernel_rfl) (by kernel_rfl) (fun _ _ _ h => h) (fun o wq e hS => exec_move wq e (by kernel_rfl)) HS.out ?_
                refine takeG 10 (.move (.tmp 7)) (some 134) (some (9, false)) (.slice (some ⟨g3, o3, none⟩) nc c3') (by kernel_rfl) (by kernel_rfl) (by kernel_rfl) (fun _ _ _ h => h) (fun o wq e hS => exec_move wq e (by kernel_rfl)) HS.out ?_
                refine takeG 11 (.move (.tmp 15)) (some 135) (some (9, false)) (.int .i64 (i : Int)) (by kernel_rfl) (by kernel_rfl) (by kernel_rfl) (fun _ _ _ h => h) (fun o wq e hS => exec_move wq e (by kernel_rfl)) HS.out ?_
                refine takeG 12 (.indexAddr 48 (.tmp 134) (.tmp 135)) (some 136) (some (9, false)) (.pointer (some ⟨g3, o3 + i * 3, none⟩)) (by kernel_rfl) (by kernel_rfl) (by kernel_rfl) (fun _ _ _ h => h) (fun o wq e hS => exec_index (u1 := .slice (some ⟨g3, o3, none⟩) nc c3') (u2 := .int .i64 (i : Int)) wq e (by kernel_rfl) (by kernel_rfl) (index_op g3 o3 nc c3' i hlt _)) HS.out ?_
                refine takeG 13 (.fieldAddr 51 (.tmp 136) 0) (some 137) (some (9, false)) (.pointer (some ⟨g3, o3 + i * 3, none⟩)) (by kernel_rfl) (by kernel_rfl) (by kernel_rfl) (fun _ _ _ h => h) (fun o wq e hS => exec_field (u := .pointer (some ⟨g3, o3 + i * 3, none⟩)) wq e (by kernel_rfl) (by kernel_rfl)) HS.out ?_
                refine takeG 14 (.load 4 (.tmp 137)) (some 138) (some (9, false)) (.bool true) (by kernel_rfl) (by kernel_rfl) (by kernel_rfl) (fun _ _ _ h => h) (fun o wq e hS => exec_load (x := (.tmp 137)) e (by kernel_rfl) (load_one Try.underlying4 (by kernel_rfl) hS.2.1.1)) HS.out ?_
                refine takeG 15 (.unOp .not 4 (.tmp 138)) (some 139) (some (9, false)) (.bool false) (by kernel_rfl) (by kernel_rfl) (by kernel_rfl) (fun _ _ _ h => h) (fun o wq e hS => exec_un (u := .bool true) wq e (by kernel_rfl) (by kernel_rfl)) HS.out ?_
                refine takeG 16 (.pick (.tmp 133) (.const (Value.bool true)) (.tmp 139)) (some 140) none (.bool false) (by kernel_rfl) (by kernel_rfl) (by kernel_rfl) (fun _ _ _ h => h) (fun o wq e hS => exec_pick (b := false) wq e (by kernel_rfl) (by kernel_rfl)) HS.out ?_
                refine takeG 17 (.move (.tmp 140)) (some 141) none (.bool false) (by kernel_rfl) (by kernel_rfl) (by kernel_rfl) (fun _ _ _ h => h) (fun o wq e hS => exec_move wq e (by kernel_rfl)) HS.out ?_
                refine takeG 18 (.move (.tmp 7)) (some 142) (some (17, false)) (.slice (some ⟨g3, o3, none⟩) nc c3') (by kernel_rfl) (by kernel_rfl) (by kernel_rfl) (fun _ _ _ h => h) (fun o wq e hS => exec_move wq e (by kernel_rfl)) HS.out ?_
                refine takeG 19 (.move (.tmp 15)) (some 143) (some (17, false)) (.int .i64 (i : Int)) (by kernel_rfl) (by kernel_rfl) (by kernel_rfl) (fun _ _ _ h => h) (fun o wq e hS => exec_move wq e (by kernel_rfl)) HS.out ?_
                refine takeG 20 (.indexAddr 48 (.tmp 142) (.tmp 143)) (some 144) (some (17, false)) (.pointer (some ⟨g3, o3 + i * 3, none⟩)) (by kernel_rfl) (by kernel_rfl) (by kernel_rfl) (fun _ _ _ h => h) (fun o wq e hS => exec_index (u1 := .slice (some ⟨g3, o3, none⟩) nc c3') (u2 := .int .i64 (i : Int)) wq e (by kernel_rfl) (by kernel_rfl) (index_op g3 o3 nc c3' i hlt _)) HS.out ?_
                refine takeG 21 (.fieldAddr 51 (.tmp 144) 2) (some 145) (some (17, false)) (.pointer (some ⟨g3, o3 + i * 3 + 2, none⟩)) (by kernel_rfl) (by kernel_rfl) (by kernel_rfl) (fun _ _ _ h => h) (fun o wq e hS => exec_field (u := .pointer (some ⟨g3, o3 + i * 3, none⟩)) wq e (by kernel_rfl) (by kernel_rfl)) HS.out ?_
                refine takeG 22 (.load 3 (.tmp 145)) (some 146) (some (17, false)) (.int .i64 ((y : Int) - (x : Int))) (by kernel_rfl) (by kernel_rfl) (by kernel_rfl) (fun _ _ _ h => h) (fun o wq e hS => exec_load (x := (.tmp 145)) e (by kernel_rfl) (load_one Try.underlying3 (by kernel_rfl) hS.2.1.2.2)) HS.out ?_
                refine takeG 23 (.binOp .lss 3 (.tmp 146) (.const (.int .i64 1)) 3) (some 147) (some (17, false)) (.bool false) (by kernel_rfl) (by kernel_rfl) (by kernel_rfl) (fun _ _ _ h => h) (fun o wq e hS => exec_bin (u1 := .int .i64 ((y : Int) - (x : Int))) (u2 := (.int .i64 1)) wq e (by kernel_rfl) (by kernel_rfl) (eqG_int ..) (lt1_no _ hn1 _)) HS.out ?_
                refine takeG 24 (.pick (.tmp 141) (.const (Value.bool true)) (.tmp 147)) (some 148) none (.bool false) (by kernel_rfl) (by kernel_rfl) (by kernel_rfl) (fun _ _ _ h => h) (fun o wq e hS => exec_pick (b := false) wq e (by kernel_rfl) (by kernel_rfl)) HS.out ?_
                refine takeG 25 (.move (.tmp 148)) (some 149) none (.bool false) (by kernel_rfl) (by kernel_rfl) (by kernel_rfl) (fun _ _ _ h => h) (fun o wq e hS => exec_move wq e (by kernel_rfl)) HS.out ?_
                refine takeG 26 (.move (.tmp 15)) (some 150) (some (25, false)) (.int .i64 (i : Int)) (by kernel_rfl) (by kernel_rfl) (by kernel_rfl) (fun _ _ _ h => h) (fun o wq e hS => exec_move wq e (by kernel_rfl)) HS.out ?_
                refine takeG 27 (.binOp .gtr 3 (.tmp 150) (.const (.int .i64 0)) 3) (some 151) (some (25, false)) (.bool true) (by kernel_rfl) (by kernel_rfl) (by kernel_rfl) (fun _ _ _ h => h) (fun o wq e hS => exec_bin (u1 := .int .i64 (i : Int)) (u2 := (.int .i64 0)) wq e (by kernel_rfl) (by kernel_rfl) (eqG_int ..) (gt0_yes i hi0 _)) HS.out ?_
                refine takeG 28 (.move (.tmp 151)) (some 152) (some (25, false)) (.bool true) (by kernel_rfl) (by kernel_rfl) (by kernel_rfl) (fun _ _ _ h => h) (fun o wq e hS => exec_move wq e (by kernel_rfl)) HS.out ?_
                refine takeG 29 (.move (.tmp 7)) (some 153) (some (28, true)) (.slice (some ⟨g3, o3, none⟩) nc c3') (by kernel_rfl) (by kernel_rfl) (by kernel_rfl) (fun _ _ _ h => h) (fun o wq e hS => exec_move wq e (by kernel_rfl)) HS.out ?_
                refine takeG 30 (.move (.tmp 15)) (some 154) (some (28, true)) (.int .i64 (i : Int)) (by kernel_rfl) (by kernel_rfl) (by kernel_rfl) (fun _ _ _ h => h) (fun o wq e hS => exec_move wq e (by kernel_rfl)) HS.out ?_
                refine takeG 31 (.indexAddr 48 (.tmp 153) (.tmp 154)) (some 155) (some (28, true)) (.pointer (some ⟨g3, o3 + i * 3, none⟩)) (by kernel_rfl) (by kernel_rfl) (by kernel_rfl) (fun _ _ _ h => h) (fun o wq e hS => exec_index (u1 := .slice (some ⟨g3, o3, none⟩) nc c3') (u2 := .int .i64 (i : Int)) wq e (by kernel_rfl) (by kernel_rfl) (index_op g3 o3 nc c3' i hlt _)) HS.out ?_
                refine takeG 32 (.fieldAddr 51 (.tmp 155) 1) (some 156) (some (28, true)) (.pointer (some ⟨g3, o3 + i * 3 + 1, none⟩)) (by kernel_rfl) (by kernel_rfl) (by kernel_rfl) (fun _ _ _ h => h) (fun o wq e hS => exec_field (u := .pointer (some ⟨g3, o3 + i * 3, none⟩)) wq e (by kernel_rfl) (by kernel_rfl)) HS.out ?_
                refine takeG 33 (.load 3 (.tmp 156)) (some 157) (some (28, true)) (.int .i64 (x : Int)) (by kernel_rfl) (by kernel_rfl) (by kernel_rfl) (fun _ _ _ h => h) (fun o wq e hS => exec_load (x := (.tmp 156)) e (by kernel_rfl) (load_one Try.underlying3 (by kernel_rfl) hS.2.1.2.1)) HS.out ?_
                refine takeG 34 (.move (.tmp 7)) (some 158) (some (28, true)) (.slice (some ⟨g3, o3, none⟩) nc c3') (by kernel_rfl) (by kernel_rfl) (by kernel_rfl) (fun _ _ _ h => h) (fun o wq e hS => exec_move wq e (by kernel_rfl)) HS.out ?_
                refine takeG 35 (.move (.tmp 15)) (some 159) (some (28, true)) (.int .i64 (i : Int)) (by kernel_rfl) (by kernel_rfl) (by kernel_rfl) (fun _ _ _ h => h) (fun o wq e hS => exec_move wq e (by kernel_rfl)) HS.out ?_
                refine takeG 36 (.binOp .sub 3 (.tmp 159) (.const (.int .i64 1)) 3) (some 160) (some (28, true)) (.int .i64 ((i - 1 : Nat) : Int)) (by kernel_rfl) (by kernel_rfl) (by kernel_rfl) (fun _ _ _ h => h) (fun o wq e hS => exec_bin (u1 := .int .i64 (i : Int)) (u2 := (.int .i64 1)) wq e (by kernel_rfl) (by kernel_rfl) (eqG_int ..) (sub1 i hi0 hib _)) HS.out ?_
                refine takeG 37 (.indexAddr 48 (.tmp 158) (.tmp 160)) (some 161) (some (28, true)) (.pointer (some ⟨g3, o3 + (i - 1) * 3, none⟩)) (by kernel_rfl) (by kernel_rfl) (by kernel_rfl) (fun _ _ _ h => h) (fun o wq e hS => exec_index (u1 := .slice (some ⟨g3, o3, none⟩) nc c3') (u2 := .int .i64 ((i - 1 : Nat) : Int)) wq e (by kernel_rfl) (by kernel_rfl) (index_op g3 o3 nc c3' (i - 1) hi1 _)) HS.out ?_
                refine takeG 38 (.fieldAddr 51 (.tmp 161) 1) (some 162) (some (28, true)) (.pointer (some ⟨g3, o3 + (i - 1) * 3 + 1, none⟩)) (by kernel_rfl) (by kernel_rfl) (by kernel_rfl) (fun _ _ _ h => h) (fun o wq e hS => exec_field (u := .pointer (some ⟨g3, o3 + (i - 1) * 3, none⟩)) wq e (by kernel_rfl) (by kernel_rfl)) HS.out ?_
                refine takeG 39 (.load 3 (.tmp 162)) (some 163) (some (28, true)) (.int .i64 (xq : Int)) (by kernel_rfl) (by kernel_rfl) (by kernel_rfl) (fun _ _ _ h => h) (fun o wq e hS => exec_load (x := (.tmp 162)) e (by kernel_rfl) (load_one Try.underlying3 (by kernel_rfl) hS.2.2.2.1)) HS.out ?_
                refine takeG 40 (.move (.tmp 7)) (some 164) (some (28, true)) (.slice (some ⟨g3, o3, none⟩) nc c3') (by kernel_rfl) (by kernel_rfl) (by kernel_rfl) (fun _ _ _ h => h) (fun o wq e hS => exec_move wq e (by kernel_rfl)) HS.out ?_
                refine takeG 41 (.move (.tmp 15)) (some 165) (some (28, true)) (.int .i64 (i : Int)) (by kernel_rfl) (by kernel_rfl) (by kernel_rfl) (fun _ _ _ h => h) (fun o wq e hS => exec_move wq e (by kernel_rfl)) HS.out ?_
                refine takeG 42 (.binOp .sub 3 (.tmp 165) (.const (.int .i64 1)) 3) (some 166) (some (28, true)) (.int .i64 ((i - 1 : Nat) : Int)) (by kernel_rfl) (by kernel_rfl) (by kernel_rfl) (fun _ _ _ h => h) (fun o wq e hS => exec_bin (u1 := .int .i64 (i : Int)) (u2 := (.int .i64 1)) wq e (by kernel_rfl) (by kernel_rfl) (eqG_int ..) (sub1 i hi0 hib _)) HS.out ?_
                refine takeG 43 (.indexAddr 48 (.tmp 164) (.tmp 166)) (some 167) (some (28, true)) (.pointer (some ⟨g3, o3 + (i - 1) * 3, none⟩)) (by kernel_rfl) (by kernel_rfl) (by kernel_rfl) (fun _ _ _ h => h) (fun o wq e hS => exec_index (u1 := .slice (some ⟨g3, o3, none⟩) nc c3') (u2 := .int .i64 ((i - 1 : Nat) : Int)) wq e (by kernel_rfl) (by kernel_rfl) (index_op g3 o3 nc c3' (i - 1) hi1 _)) HS.out ?_
                refine takeG 44 (.fieldAddr 51 (.tmp 167) 2) (some 168) (some (28, true)) (.pointer (some ⟨g3, o3 + (i - 1) * 3 + 2, none⟩)) (by kernel_rfl) (by kernel_rfl) (by kernel_rfl) (fun _ _ _ h => h) (fun o wq e hS => exec_field (u := .pointer (some ⟨g3, o3 + (i - 1) * 3, none⟩)) wq e (by kernel_rfl) (by kernel_rfl)) HS.out ?_
                refine takeG 45 (.load 3 (.tmp 168)) (some 169) (some (28, true)) (.int .i64 ((yq : Int) - (xq : Int))) (by kernel_rfl) (by kernel_rfl) (by kernel_rfl) (fun _ _ _ h => h) (fun o wq e hS => exec_load (x := (.tmp 168)) e (by kernel_rfl) (load_one Try.underlying3 (by kernel_rfl) hS.2.2.2.2)) HS.out ?_
                refine takeG 46 (.binOp .add 3 (.tmp 163) (.tmp 169) 3) (some 170) (some (28, true)) (.int .i64 (yq : Int)) (by kernel_rfl) (by kernel_rfl) (by kernel_rfl) (fun _ _ _ h => h) (fun o wq e hS => exec_bin (u1 := .int .i64 (xq : Int)) (u2 := .int .i64 ((yq : Int) - (xq : Int))) wq e (by kernel_rfl) (by kernel_rfl) (eqG_int ..) (add_up xq yq hxqb hyqb _)) HS.out ?_
                refine takeG 47 (.binOp .leq 3 (.tmp 157) (.tmp 170) 3) (some 171) (some (28, true)) (.bool false) (by kernel_rfl) (by kernel_rfl) (by kernel_rfl) (fun _ _ _ h => h) (fun o wq e hS => exec_bin (u1 := .int .i64 (x : Int)) (u2 := .int .i64 (yq : Int)) wq e (by kernel_rfl) (by kernel_rfl) (eqG_int ..) (leq_no x yq hrise _)) HS.out ?_
                refine takeG 48 (.pick (.tmp 152) (.tmp 171) (.const (Value.bool false))) (some 172) (some (25, false)) (.bool false) (by kernel_rfl) (by kernel_rfl) (by kernel_rfl) (fun _ _ _ h => h) (fun o wq e hS => exec_pick (b := true) wq e (by kernel_rfl) (by kernel_rfl)) HS.out ?_
                refine lastS 49 (.pick (.tmp 149) (.const (Value.bool true)) (.tmp 172)) (some 173) (.bool false) (by kernel_rfl) (by kernel_rfl) (by kernel_rfl) HS.out (fun o e => exec_pick (b := false) _ e (by kernel_rfl) (by kernel_rfl)) ?_
                simp only [put_some, put_none, List.setIfInBounds_toArray, List.set_cons_succ, List.set_cons_zero]
                clear HS
                go_wp2_with fail
                go_roundw
                case rel => exact ⟨i + 1, by omega, by go_num, LX2⟩
                case measure => simp [intOf]; omega
            · have i1 : ¬ ((i : Int) < (nc : Int)) := by omega
              have L9 : Hid (Below w.heap.size w wr) := Lib.hid (L8.out.trans (LX.out.mono L8.out.size))
              clear hlt
              go_wp2_with fail
              go_ret
              exact ⟨rfl, L9.out⟩
end spaceShort
end Go.Proofs.Ytpbojhjbjnoihaa
