/-
  The walk of 'SpaceLogs': Replay and Condense answer what the document says.
-/
import Derived.Test.YtffbclendkojlaaRefCond
import Derived.Test.YtffbclendkojlaaLike
import Derived.Test.YtffbclendkojlaaSpcFew
namespace Go.Proofs.Ytffbclendkojlaa
open Go Go.RowKit
set_option maxRecDepth 100000
set_option linter.unusedVariables false
namespace spaceLogs
open Sp Rf
theorem index_op (b o n c i : Nat) (h : i < n) (w : World) : (Instr.indexAt 48 (.slice (some ⟨b, o, none⟩) n c) (.int .i64 (i : Int))).run Try.prog w = .ok (.pointer (some ⟨b, o + i * 3, none⟩)) w :=
  Gr.index_gen Try.underlying48 (by kernel_rfl) b o n c i h w
def Cell3 (w : World) (g o : Nat) (x n : Int) : Prop := w.cell? ⟨g, o, none⟩ = some (.bool true) ∧ w.cell? ⟨g, o + 1, none⟩ = some (.int .i64 x) ∧ w.cell? ⟨g, o + 2, none⟩ = some (.int .i64 n)
theorem cell3_of {w : World} {g o : Nat} {r : Rg} (h : ∀ j u, (Gr.csB (opOf r))[j]? = some u → w.cell? ⟨g, o + j, none⟩ = some u) : Cell3 w g o (r.1 : Int) ((r.2 : Int) - (r.1 : Int)) :=
  ⟨by have := h 0 _ rfl; rw [Nat.add_zero] at this; exact this, h 1 _ rfl, h 2 _ rfl⟩
theorem eqG_bool (op : BinOp) (t : TypeId) (x y : Operand) (i j : Bool) (P : Program) (w : World) : (eqGuard op t x y (.bool i) (.bool j)).run P w = .ok () w := by unfold eqGuard; cases op <;> rfl
theorem RdG.drew_ {A : Option Addr} {l : List (Bool × Int × Int)} {w : World} (h : Gr.RdG 3 Gr.csB w A l) : Gr.RdG 3 Gr.csB w.drew A l := h
set_option maxHeartbeats 25600000 in
theorem walk (a0 : Int) (A : Option Addr) (l : List (Bool × Int × Int)) (cap : Nat) (w : World) (h0 : (Lit.int .i64 a0).wf = true) (hrd : Gr.RdG 3 Gr.csB w A l) (hz : ∀ y ∈ l, Gr.Z64' y.2.1 ∧ Gr.Z64' y.2.2) (hlc : l.length ≤ cap) (hcm : cap ≤ maxLen) (hn0 : A = none → cap = 0) (hsz : cap * 24 ≤ 140737488351232) :
    Calls Try.prog 4 #[.int .i64 a0, .slice A l.length cap] w fun e w' => e = .returned (.bool true) ∧ Below w.heap.size w w' := by
  unfold maxLen at hcm
  have HRD := Lib.hid hrd
  have HZ := Lib.hid hz
  obtain ⟨nl, hnl⟩ : ∃ nl, nl = l.length := ⟨_, rfl⟩
  have HNL := Lib.hid hnl
  have hnlb : nl * 24 ≤ 140737488351232 := by rw [hnl]; omega
  rw [← hnl] at hlc ⊢
  have HFW := Lib.hid (fun w => few_at w a0 h0)
  obtain ⟨C, hC⟩ : ∃ C, C = fewZ a0 := ⟨_, rfl⟩
  rw [← hC] at HFW
  clear h0 hrd hz hn0 hnl hC hsz
  go_enter Try.func4, Try.ntmps4
  go_wp2_with fail
  refine (known_any _).mono ?_
  rintro e w1 ⟨rfl, b1⟩
  have L1 := Lib.hid b1
  clear b1
  go_wp2_with fail
  refine (HFW.out _).mono ?_
  rintro e w1' ⟨rfl, hw⟩
  have hw := hw.symm
  subst hw
  obtain ⟨B, hB⟩ : ∃ B, B = w1.heap.size := ⟨_, rfl⟩
  have HB : Hid (w.heap.size ≤ B) := Lib.hid (by rw [hB]; exact L1.out.size)
  have ST : Hid (OwnOp w1 B (.slice none 0 0) (l.take 0)) := Lib.hid (Gr.OwnG.nil _ _)
  have LB1 : Hid (Below B w1 w1) := Lib.hid (Below.refl _ _)
  have hBs : B ≤ w1.heap.size := by omega
  have HRD1 := Lib.hid (HRD.out.below L1.out)
  have HRB : Hid (∀ wr, Below B w1 wr → Gr.RdG 3 Gr.csB wr A l) := Lib.hid fun wr hb => by
    rw [hB] at hb
    exact HRD1.out.below hb
  clear hB HRD HFW
  go_wp2_with fail
  go_loopw [5, 6] (fun v y wr => ∃ i : Nat, i ≤ nl ∧ y = .int .i64 (i : Int) ∧ Hid (OwnOp wr B v (l.take i)) ∧ Hid (Below B w1 wr) ∧ B ≤ wr.heap.size) (fun _ y _ => nl - (intOf y).toNat)
  case atStart => exact ⟨0, by omega, rfl, ST, LB1, hBs⟩
  case round =>
    clear ST LB1 hBs
    obtain ⟨i, hi, rfl, HO, LB, hBs⟩ := hrel
    by_cases hlt : i < nl
    · have i1 : (i : Int) < (nl : Int) := by omega
      have hil : i < l.length := by have := HNL.out; omega
      obtain ⟨r, hr⟩ : ∃ r, r = l[i] := ⟨_, rfl⟩
      have hri : l[i]? = some r := by rw [hr]; exact List.getElem?_eq_getElem hil
      obtain ⟨g, o, hA, hgb, hcells⟩ := HRB.out _ LB.out i r hri
      obtain ⟨A2, c2, hv, _, _, _, _, _⟩ := HO.out.shape (fun _ => rfl)
      have hlen : (l.take i).length = i := by rw [List.length_take]; omega
      rw [hlen] at hv
      have htk : l.take (i + 1) = l.take i ++ [r] := by
        rw [List.take_succ_eq_append_getElem hil, hr]
      have HTK := Lib.hid (⟨htk, hlen, hv⟩ : _ ∧ _ ∧ _)
      subst hv
      subst hA
      have HCF : Hid (∀ w', Below B w1 w' → w'.cell? ⟨g, o + i * 3, none⟩ = some (.bool r.1) ∧ w'.cell? ⟨g, o + i * 3 + 1, none⟩ = some (.int .i64 r.2.1) ∧ w'.cell? ⟨g, o + i * 3 + 2, none⟩ = some (.int .i64 r.2.2)) := Lib.hid fun w' hb => by
        obtain ⟨g', o', hA', _, hc'⟩ := HRB.out w' hb i r hri
        injection hA' with e1
        injection e1 with e2 e3
        subst e2 e3
        exact ⟨by have := hc' 0 (.bool r.1) rfl; rw [Nat.add_zero] at this; exact this, hc' 1 (.int .i64 r.2.1) rfl, hc' 2 (.int .i64 r.2.2) rfl⟩
      have HSD := Lib.hid (HCF.out _ LB.out.drew)
      obtain ⟨t, x, y⟩ := r
      clear hri hr hil hgb hcells htk hlen
      go_upto_region 8 with (fail)
      refine region_anyZ (fun w' => w'.cell? ⟨g, o + i * 3, none⟩ = some (.bool t) ∧ w'.cell? ⟨g, o + i * 3 + 1, none⟩ = some (.int .i64 x) ∧ w'.cell? ⟨g, o + i * 3 + 2, none⟩ = some (.int .i64 y)) 20 (by kernel_rfl) ?_
      refine takeG 0 (.move (.tmp 5)) (some 24) none (.slice A2 i c2) (by kernel_rfl) (by kernel_rfl) (by kernel_rfl) (fun _ _ _ h => h) (fun o' wq e hS => exec_move wq e (by kernel_rfl)) HSD.out ?_
      refine takeG 1 (.move (.tmp 1)) (some 25) none (.slice (some ⟨g, o, none⟩) nl cap) (by kernel_rfl) (by kernel_rfl) (by kernel_rfl) (fun _ _ _ h => h) (fun o' wq e hS => exec_move wq e (by kernel_rfl)) HSD.out ?_
      refine takeG 2 (.move (.tmp 6)) (some 26) none (.int .i64 (i : Int)) (by kernel_rfl) (by kernel_rfl) (by kernel_rfl) (fun _ _ _ h => h) (fun o' wq e hS => exec_move wq e (by kernel_rfl)) HSD.out ?_
      refine takeG 3 (.indexAddr 47 (.tmp 25) (.tmp 26)) (some 27) none (.pointer (some ⟨g, o + i * 3, none⟩)) (by kernel_rfl) (by kernel_rfl) (by kernel_rfl) (fun _ _ _ h => h) (fun o' wq e hS => exec_index (u1 := .slice (some ⟨g, o, none⟩) nl cap) (u2 := .int .i64 (i : Int)) wq e (by kernel_rfl) (by kernel_rfl) (index_refop g o nl cap i hlt _)) HSD.out ?_
      refine takeG 4 (.fieldAddr 50 (.tmp 27) 0) (some 28) none (.pointer (some ⟨g, o + i * 3, none⟩)) (by kernel_rfl) (by kernel_rfl) (by kernel_rfl) (fun _ _ _ h => h) (fun o' wq e hS => exec_field (u := .pointer (some ⟨g, o + i * 3, none⟩)) wq e (by kernel_rfl) (by kernel_rfl)) HSD.out ?_
      refine takeG 5 (.load 4 (.tmp 28)) (some 29) none (.bool t) (by kernel_rfl) (by kernel_rfl) (by kernel_rfl) (fun _ _ _ h => h) (fun o' wq e hS => exec_load (x := (.tmp 28)) e (by kernel_rfl) (load_one Try.underlying4 (by kernel_rfl) hS.1)) HSD.out ?_
      refine takeG 6 (.move (.tmp 1)) (some 30) none (.slice (some ⟨g, o, none⟩) nl cap) (by kernel_rfl) (by kernel_rfl) (by kernel_rfl) (fun _ _ _ h => h) (fun o' wq e hS => exec_move wq e (by kernel_rfl)) HSD.out ?_
      refine takeG 7 (.move (.tmp 6)) (some 31) none (.int .i64 (i : Int)) (by kernel_rfl) (by kernel_rfl) (by kernel_rfl) (fun _ _ _ h => h) (fun o' wq e hS => exec_move wq e (by kernel_rfl)) HSD.out ?_
      refine takeG 8 (.indexAddr 47 (.tmp 30) (.tmp 31)) (some 32) none (.pointer (some ⟨g, o + i * 3, none⟩)) (by kernel_rfl) (by kernel_rfl) (by kernel_rfl) (fun _ _ _ h => h) (fun o' wq e hS => exec_index (u1 := .slice (some ⟨g, o, none⟩) nl cap) (u2 := .int .i64 (i : Int)) wq e (by kernel_rfl) (by kernel_rfl) (index_refop g o nl cap i hlt _)) HSD.out ?_
      refine takeG 9 (.fieldAddr 50 (.tmp 32) 1) (some 33) none (.pointer (some ⟨g, o + i * 3 + 1, none⟩)) (by kernel_rfl) (by kernel_rfl) (by kernel_rfl) (fun _ _ _ h => h) (fun o' wq e hS => exec_field (u := .pointer (some ⟨g, o + i * 3, none⟩)) wq e (by kernel_rfl) (by kernel_rfl)) HSD.out ?_
      refine takeG 10 (.load 3 (.tmp 33)) (some 34) none (.int .i64 x) (by kernel_rfl) (by kernel_rfl) (by kernel_rfl) (fun _ _ _ h => h) (fun o' wq e hS => exec_load (x := (.tmp 33)) e (by kernel_rfl) (load_one Try.underlying3 (by kernel_rfl) hS.2.1)) HSD.out ?_
      refine takeG 11 (.move (.tmp 1)) (some 35) none (.slice (some ⟨g, o, none⟩) nl cap) (by kernel_rfl) (by kernel_rfl) (by kernel_rfl) (fun _ _ _ h => h) (fun o' wq e hS => exec_move wq e (by kernel_rfl)) HSD.out ?_
      refine takeG 12 (.move (.tmp 6)) (some 36) none (.int .i64 (i : Int)) (by kernel_rfl) (by kernel_rfl) (by kernel_rfl) (fun _ _ _ h => h) (fun o' wq e hS => exec_move wq e (by kernel_rfl)) HSD.out ?_
      refine takeG 13 (.indexAddr 47 (.tmp 35) (.tmp 36)) (some 37) none (.pointer (some ⟨g, o + i * 3, none⟩)) (by kernel_rfl) (by kernel_rfl) (by kernel_rfl) (fun _ _ _ h => h) (fun o' wq e hS => exec_index (u1 := .slice (some ⟨g, o, none⟩) nl cap) (u2 := .int .i64 (i : Int)) wq e (by kernel_rfl) (by kernel_rfl) (index_refop g o nl cap i hlt _)) HSD.out ?_
      refine takeG 14 (.fieldAddr 50 (.tmp 37) 2) (some 38) none (.pointer (some ⟨g, o + i * 3 + 2, none⟩)) (by kernel_rfl) (by kernel_rfl) (by kernel_rfl) (fun _ _ _ h => h) (fun o' wq e hS => exec_field (u := .pointer (some ⟨g, o + i * 3, none⟩)) wq e (by kernel_rfl) (by kernel_rfl)) HSD.out ?_
      refine takeG 15 (.load 3 (.tmp 38)) (some 39) none (.int .i64 y) (by kernel_rfl) (by kernel_rfl) (by kernel_rfl) (fun _ _ _ h => h) (fun o' wq e hS => exec_load (x := (.tmp 38)) e (by kernel_rfl) (load_one Try.underlying3 (by kernel_rfl) hS.2.2)) HSD.out ?_
      refine takeG 16 (.build 51 #[(0, (.tmp 29)), (1, (.tmp 34)), (2, (.tmp 39))]) (some 40) none (.agg #[.bool t, .int .i64 x, .int .i64 y]) (by kernel_rfl) (by kernel_rfl) (by kernel_rfl) (fun _ _ _ h => h) (fun o' wq e hS => exec_bld3 (u0 := .bool t) (u1 := .int .i64 x) (u2 := .int .i64 y) wq e (by kernel_rfl) (by kernel_rfl) (by kernel_rfl) (by kernel_rfl)) HSD.out ?_
      refine loneG 17 (.buildSlice 48 1 #[(0, (.tmp 40))]) (some 41) none (by kernel_rfl) (by kernel_rfl) (by kernel_rfl) ?_
      intro o' ho hod
      refine wp_val (exec_buildSlice1 ho (by kernel_rfl) (bs_op t x y _)) ?_
      rw [hod]
      clear hod ho
      have HS2 := Lib.hid (HCF.out _ (LB.out.drew.alloc hBs (.cells #[.bool t, .int .i64 x, .int .i64 y] 51)))
      refine ⟨fun _ => HS2.out, ?_⟩
      refine loneG 18 (.call ⟨.builtin .append, #[(.tmp 24), (.tmp 41)], #[48, 48]⟩) (some 42) none (by kernel_rfl) (by kernel_rfl) (by kernel_rfl) ?_
      intro o' ho hod
      obtain ⟨v2, w2, hrun, ho2, hb2, hsz2, _⟩ := append_op (w := wr.drew) (HO.out.keep fun _ _ => rfl) (t, x, y) (by rw [HTK.out.2.1]; omega) hBs o'.type
      refine Gr.wp_append 48 (.tmp 24) (.tmp 41) ho (by kernel_rfl) (by kernel_rfl) hrun ?_
      rw [hod]
      clear hod ho
      have LB2 := Lib.hid (LB.out.drew.trans hb2)
      have HO2 : Hid (OwnOp w2 B v2 (l.take (i + 1))) := Lib.hid (by rw [HTK.out.1]; exact ho2)
      have hBs2 : B ≤ w2.heap.size := Nat.le_trans hBs hsz2
      have HS3 := Lib.hid (HCF.out w2 LB2.out)
      refine ⟨fun _ => HS3.out, ?_⟩
      refine lastS 19 (.assign (.tmp 42)) (some 5) (v2) (by kernel_rfl) (by kernel_rfl) (by kernel_rfl) HS3.out (fun o' e => exec_assign _ e (by kernel_rfl)) ?_
      simp only [put_some, put_none, List.setIfInBounds_toArray, List.set_cons_succ, List.set_cons_zero]
      clear hrun
      go_wp2_with fail
      go_roundw
      case rel => exact ⟨i + 1, by omega, by go_num, HO2, LB2, hBs2⟩
      case measure => simp [intOf]; omega
    · have i1 : ¬ ((i : Int) < (nl : Int)) := by omega
      have HO1 := HO
      rw [List.take_of_length_le (by have := HNL.out; omega)] at HO1
      have LW : Hid (Below w.heap.size w wr) := Lib.hid (L1.out.trans (LB.out.mono HB.out))
      obtain ⟨A2, c2, hv, hrd2, _, _, _, _⟩ := HO1.out.shape (fun _ => rfl)
      have HRI := Lib.hid hrd2
      have hl62 : l.length ≤ 4611686018427387904 := by have := HNL.out; omega
      have HR1 := Lib.hid (replay_at wr C A2 l c2 hl62 hrd2 HZ.out)
      have HR2 : Hid (∀ w2, Below wr.heap.size wr w2 → Calls Try.prog 27 #[.int .i64 C, .slice A nl cap] w2 fun er w' => RfPost w2 (repS C l) er w') := Lib.hid fun w2 hb => by
        have := replay_rs w2 C A l cap hl62 (HRB.out w2 (LB.out.trans (hb.mono hBs))) HZ.out
        rw [← HNL.out] at this
        exact this
      have HC1 : Hid (∀ w2, Below wr.heap.size wr w2 → Calls Try.prog 28 #[.int .i64 C, .slice A2 nl c2] w2 fun er w' => ConPost w2 (repS C l) er w') := Lib.hid fun w2 hb => by
        have := condense_at w2 C A2 l c2 hl62 (HRI.out.below hb) HZ.out
        rw [← HNL.out] at this
        exact this
      have HC2 : Hid (∀ w2, Below wr.heap.size wr w2 → Calls Try.prog 29 #[.int .i64 C, .slice A nl cap] w2 fun er w' => RConPost w2 (repS C l) er w') := Lib.hid fun w2 hb => by
        have := condense_rs w2 C A l cap hl62 (HRB.out w2 (LB.out.trans (hb.mono hBs))) HZ.out
        rw [← HNL.out] at this
        exact this
      rw [← HNL.out] at hv HR1
      subst hv
      have HWS : Hid (w.heap.size ≤ wr.heap.size) := Lib.hid LW.out.size
      clear hlt hrd2 HO HO1 LB hi HRB
      obtain ⟨wo, hwo⟩ : ∃ wo, wo = wr := ⟨_, rfl⟩
      subst hwo
      go_wp2_with fail
      refine HR1.out.mono ?_
      rintro e w3 hp
      cases hR : repS C l with
      | error x =>
        rw [hR] at hp HC1 HC2 HR2
        obtain ⟨rfl, b3⟩ := hp
        have L3 := Lib.hid b3
        clear b3 HR1
        rcases repS_err hR with rfl | rfl
        all_goals
          clear hR
          go_wp2_with fail
          refine (HR2.out _ L3.out).mono ?_
          rintro e w4 ⟨rfl, b4⟩
          have L4 : Hid (Below wo.heap.size wo w4) := Lib.hid (L3.out.trans (b4.mono L3.out.size))
          clear b4 HR2
          go_wp2_with fail
          refine (HC1.out _ L4.out).mono ?_
          rintro e w5 ⟨rfl, b5⟩
          have L5 : Hid (Below wo.heap.size wo w5) := Lib.hid (L4.out.trans (b5.mono L4.out.size))
          clear b5 HC1
          go_wp2_with fail
          refine (HC2.out _ L5.out).mono ?_
          rintro e w6 ⟨rfl, b6⟩
          have L6 : Hid (Below wo.heap.size wo w6) := Lib.hid (L5.out.trans (b6.mono L5.out.size))
          clear b6 HC2
          go_wp2_with fail
          go_loopw [13] (fun y wq => y = .int .i64 0 ∧ wq = w6) (fun _ _ => 0)
          case atStart => exact ⟨rfl, rfl⟩
          case round =>
            obtain ⟨rfl, rfl⟩ := hrel
            go_wp2_with fail
            go_ret
            exact ⟨rfl, LW.out.trans (L6.out.mono HWS.out)⟩
      | ok s =>
        rw [hR] at hp HC1 HC2 HR2
        obtain ⟨b, m, rfl, hs3, b3⟩ := hp
        have HS3 := Lib.hid hs3
        have L3 := Lib.hid b3
        clear b3 hs3 HR1 hR
        go_wp2_with fail
        refine (HR2.out _ L3.out).mono ?_
        rintro e w4 ⟨rb, rfl, r4, b4⟩
        have L4 : Hid (Below wo.heap.size wo w4) := Lib.hid (L3.out.trans (b4.mono L3.out.size))
        have HG := Lib.hid r4.1
        have HAL := Lib.hid (alike_at (HS3.out.keep b4).o r4)
        clear b4 r4 HR2 HS3
        go_wp2_with fail
        refine HAL.out.mono ?_
        rintro e w5 ⟨rfl, b5⟩
        have L5 : Hid (Below wo.heap.size wo w5) := Lib.hid (L4.out.trans (b5.mono L4.out.size))
        clear b5 HAL
        go_wp2_with fail
        refine (HC1.out _ L5.out).mono ?_
        rintro e w6 ⟨v6, rfl, o6, _, b6⟩
        have L6 : Hid (Below wo.heap.size wo w6) := Lib.hid (L5.out.trans (b6.mono L5.out.size))
        obtain ⟨A6, c6, hv6, r6, _, _, _, _⟩ := o6.shape (fun _ => rfl)
        obtain ⟨nc, hnc⟩ : ∃ nc, nc = (s.S 1).length := ⟨_, rfl⟩
        have hncb : nc ≤ 100000 := by
          have := (HG.out.ris 1 (by omega)).len (N := s.cells) (HG.out.in_ 1 (by omega))
          have := HG.out.hc.2
          omega
        rw [List.length_map, ← hnc] at hv6
        subst hv6
        have HNC := Lib.hid hnc
        have R6 := Lib.hid r6
        clear b6 o6 r6 HC1 hnc
        go_wp2_with fail
        refine (HC2.out _ L6.out).mono ?_
        rintro e w7 ⟨v7, rfl, o7, _, b7⟩
        have L7 : Hid (Below wo.heap.size wo w7) := Lib.hid (L6.out.trans (b7.mono L6.out.size))
        obtain ⟨A7, c7, hv7, r7, _, _, _, _⟩ := o7.shape (fun _ => rfl)
        rw [List.length_map, ← HNC.out] at hv7
        subst hv7
        have R7 := Lib.hid (⟨R6.out.below b7, r7⟩ : _ ∧ _)
        have LQ : Hid (Below w7.heap.size w7 w7) := Lib.hid (Below.refl _ _)
        clear b7 o7 r7 HC2 R6
        go_wp2_with fail
        go_loopw [13] (fun y wq => ∃ i : Nat, i ≤ nc ∧ y = .int .i64 (i : Int) ∧ Hid (Below w7.heap.size w7 wq)) (fun y _ => nc - (intOf y).toNat)
        case atStart => exact ⟨0, by omega, rfl, LQ⟩
        case round =>
          clear LQ i1
          obtain ⟨i, hi, rfl, LQ⟩ := hrel
          by_cases hlt : i < nc
          · have i1 : (i : Int) < (nc : Int) := by omega
            have hil : i < (s.S 1).length := by have := HNC.out; omega
            obtain ⟨r, hr⟩ : ∃ r, r = (s.S 1)[i] := ⟨_, rfl⟩
            have hri : ((s.S 1).map opOf)[i]? = some (opOf r) := by rw [List.getElem?_map, List.getElem?_eq_getElem hil, ← hr]; rfl
            obtain ⟨g3, o3, hA3, _, kk3⟩ := (R7.out.1.below LQ.out) i _ hri
            obtain ⟨g4, o4, hA4, _, kk4⟩ := (R7.out.2.below LQ.out) i _ hri
            obtain ⟨x, hx⟩ : ∃ x : Int, x = (r.1 : Int) := ⟨_, rfl⟩
            obtain ⟨y, hy⟩ : ∃ y : Int, y = (r.2 : Int) - (r.1 : Int) := ⟨_, rfl⟩
            have HS := Lib.hid (show Cell3 wr.drew g3 (o3 + i * 3) x y ∧ Cell3 wr.drew g4 (o4 + i * 3) x y from by rw [hx, hy]; exact ⟨cell3_of kk3, cell3_of kk4⟩)
            have L9 : Hid (Below w7.heap.size w7 wr.drew) := Lib.hid LQ.out.drew
            subst hA3 hA4
            clear hil hr hri kk3 kk4 hx hy LQ
            go_upto_region 20 with (fail)
            refine region_anyZ (fun w' => Cell3 w' g3 (o3 + i * 3) x y ∧ Cell3 w' g4 (o4 + i * 3) x y) 37 (by kernel_rfl) ?_
            refine takeG 0 (.move (.tmp 11)) (some 103) none (.slice (some ⟨g3, o3, none⟩) nc c6) (by kernel_rfl) (by kernel_rfl) (by kernel_rfl) (fun _ _ _ h => h) (fun o' wq e hS => exec_move wq e (by kernel_rfl)) HS.out ?_
            refine takeG 1 (.move (.tmp 13)) (some 104) none (.int .i64 (i : Int)) (by kernel_rfl) (by kernel_rfl) (by kernel_rfl) (fun _ _ _ h => h) (fun o' wq e hS => exec_move wq e (by kernel_rfl)) HS.out ?_
            refine takeG 2 (.indexAddr 48 (.tmp 103) (.tmp 104)) (some 105) none (.pointer (some ⟨g3, o3 + i * 3, none⟩)) (by kernel_rfl) (by kernel_rfl) (by kernel_rfl) (fun _ _ _ h => h) (fun o' wq e hS => exec_index (u1 := .slice (some ⟨g3, o3, none⟩) nc c6) (u2 := .int .i64 (i : Int)) wq e (by kernel_rfl) (by kernel_rfl) (index_op g3 o3 nc c6 i hlt _)) HS.out ?_
            refine takeG 3 (.fieldAddr 51 (.tmp 105) 0) (some 106) none (.pointer (some ⟨g3, o3 + i * 3, none⟩)) (by kernel_rfl) (by kernel_rfl) (by kernel_rfl) (fun _ _ _ h => h) (fun o' wq e hS => exec_field (u := .pointer (some ⟨g3, o3 + i * 3, none⟩)) wq e (by kernel_rfl) (by kernel_rfl)) HS.out ?_
            refine takeG 4 (.load 4 (.tmp 106)) (some 107) none (.bool true) (by kernel_rfl) (by kernel_rfl) (by kernel_rfl) (fun _ _ _ h => h) (fun o' wq e hS => exec_load (x := (.tmp 106)) e (by kernel_rfl) (load_one Try.underlying4 (by kernel_rfl) hS.1.1)) HS.out ?_
            refine takeG 5 (.move (.tmp 12)) (some 108) none (.slice (some ⟨g4, o4, none⟩) nc c7) (by kernel_rfl) (by kernel_rfl) (by kernel_rfl) (fun _ _ _ h => h) (fun o' wq e hS => exec_move wq e (by kernel_rfl)) HS.out ?_
            refine takeG 6 (.move (.tmp 13)) (some 109) none (.int .i64 (i : Int)) (by kernel_rfl) (by kernel_rfl) (by kernel_rfl) (fun _ _ _ h => h) (fun o' wq e hS => exec_move wq e (by kernel_rfl)) HS.out ?_
            refine takeG 7 (.indexAddr 47 (.tmp 108) (.tmp 109)) (some 110) none (.pointer (some ⟨g4, o4 + i * 3, none⟩)) (by kernel_rfl) (by kernel_rfl) (by kernel_rfl) (fun _ _ _ h => h) (fun o' wq e hS => exec_index (u1 := .slice (some ⟨g4, o4, none⟩) nc c7) (u2 := .int .i64 (i : Int)) wq e (by kernel_rfl) (by kernel_rfl) (index_refop g4 o4 nc c7 i hlt _)) HS.out ?_
            refine takeG 8 (.fieldAddr 50 (.tmp 110) 0) (some 111) none (.pointer (some ⟨g4, o4 + i * 3, none⟩)) (by kernel_rfl) (by kernel_rfl) (by kernel_rfl) (fun _ _ _ h => h) (fun o' wq e hS => exec_field (u := .pointer (some ⟨g4, o4 + i * 3, none⟩)) wq e (by kernel_rfl) (by kernel_rfl)) HS.out ?_
            refine takeG 9 (.load 4 (.tmp 111)) (some 112) none (.bool true) (by kernel_rfl) (by kernel_rfl) (by kernel_rfl) (fun _ _ _ h => h) (fun o' wq e hS => exec_load (x := (.tmp 111)) e (by kernel_rfl) (load_one Try.underlying4 (by kernel_rfl) hS.2.1)) HS.out ?_
            refine takeG 10 (.binOp .neq 4 (.tmp 107) (.tmp 112) 4) (some 113) none (.bool false) (by kernel_rfl) (by kernel_rfl) (by kernel_rfl) (fun _ _ _ h => h) (fun o' wq e hS => exec_bin (u1 := .bool true) (u2 := .bool true) wq e (by kernel_rfl) (by kernel_rfl) (eqG_bool ..) (by kernel_rfl)) HS.out ?_
            refine takeG 11 (.move (.tmp 113)) (some 114) none (.bool false) (by kernel_rfl) (by kernel_rfl) (by kernel_rfl) (fun _ _ _ h => h) (fun o' wq e hS => exec_move wq e (by kernel_rfl)) HS.out ?_
            refine takeG 12 (.move (.tmp 11)) (some 115) (some (11, false)) (.slice (some ⟨g3, o3, none⟩) nc c6) (by kernel_rfl) (by kernel_rfl) (by kernel_rfl) (fun _ _ _ h => h) (fun o' wq e hS => exec_move wq e (by kernel_rfl)) HS.out ?_
            refine takeG 13 (.move (.tmp 13)) (some 116) (some (11, false)) (.int .i64 (i : Int)) (by kernel_rfl) (by kernel_rfl) (by kernel_rfl) (fun _ _ _ h => h) (fun o' wq e hS => exec_move wq e (by kernel_rfl)) HS.out ?_
            refine takeG 14 (.indexAddr 48 (.tmp 115) (.tmp 116)) (some 117) (some (11, false)) (.pointer (some ⟨g3, o3 + i * 3, none⟩)) (by kernel_rfl) (by kernel_rfl) (by kernel_rfl) (fun _ _ _ h => h) (fun o' wq e hS => exec_index (u1 := .slice (some ⟨g3, o3, none⟩) nc c6) (u2 := .int .i64 (i : Int)) wq e (by kernel_rfl) (by kernel_rfl) (index_op g3 o3 nc c6 i hlt _)) HS.out ?_
            refine takeG 15 (.fieldAddr 51 (.tmp 117) 1) (some 118) (some (11, false)) (.pointer (some ⟨g3, o3 + i * 3 + 1, none⟩)) (by kernel_rfl) (by kernel_rfl) (by kernel_rfl) (fun _ _ _ h => h) (fun o' wq e hS => exec_field (u := .pointer (some ⟨g3, o3 + i * 3, none⟩)) wq e (by kernel_rfl) (by kernel_rfl)) HS.out ?_
            refine takeG 16 (.load 3 (.tmp 118)) (some 119) (some (11, false)) (.int .i64 x) (by kernel_rfl) (by kernel_rfl) (by kernel_rfl) (fun _ _ _ h => h) (fun o' wq e hS => exec_load (x := (.tmp 118)) e (by kernel_rfl) (load_one Try.underlying3 (by kernel_rfl) hS.1.2.1)) HS.out ?_
            refine takeG 17 (.move (.tmp 12)) (some 120) (some (11, false)) (.slice (some ⟨g4, o4, none⟩) nc c7) (by kernel_rfl) (by kernel_rfl) (by kernel_rfl) (fun _ _ _ h => h) (fun o' wq e hS => exec_move wq e (by kernel_rfl)) HS.out ?_
            refine takeG 18 (.move (.tmp 13)) (some 121) (some (11, false)) (.int .i64 (i : Int)) (by kernel_rfl) (by kernel_rfl) (by kernel_rfl) (fun _ _ _ h => h) (fun o' wq e hS => exec_move wq e (by kernel_rfl)) HS.out ?_
            refine takeG 19 (.indexAddr 47 (.tmp 120) (.tmp 121)) (some 122) (some (11, false)) (.pointer (some ⟨g4, o4 + i * 3, none⟩)) (by kernel_rfl) (by kernel_rfl) (by kernel_rfl) (fun _ _ _ h => h) (fun o' wq e hS => exec_index (u1 := .slice (some ⟨g4, o4, none⟩) nc c7) (u2 := .int .i64 (i : Int)) wq e (by kernel_rfl) (by kernel_rfl) (index_refop g4 o4 nc c7 i hlt _)) HS.out ?_
            refine takeG 20 (.fieldAddr 50 (.tmp 122) 1) (some 123) (some (11, false)) (.pointer (some ⟨g4, o4 + i * 3 + 1, none⟩)) (by kernel_rfl) (by kernel_rfl) (by kernel_rfl) (fun _ _ _ h => h) (fun o' wq e hS => exec_field (u := .pointer (some ⟨g4, o4 + i * 3, none⟩)) wq e (by kernel_rfl) (by kernel_rfl)) HS.out ?_
            refine takeG 21 (.load 3 (.tmp 123)) (some 124) (some (11, false)) (.int .i64 x) (by kernel_rfl) (by kernel_rfl) (by kernel_rfl) (fun _ _ _ h => h) (fun o' wq e hS => exec_load (x := (.tmp 123)) e (by kernel_rfl) (load_one Try.underlying3 (by kernel_rfl) hS.2.2.1)) HS.out ?_
            refine takeG 22 (.binOp .neq 3 (.tmp 119) (.tmp 124) 3) (some 125) (some (11, false)) (.bool false) (by kernel_rfl) (by kernel_rfl) (by kernel_rfl) (fun _ _ _ h => h) (fun o' wq e hS => exec_bin (u1 := .int .i64 x) (u2 := .int .i64 x) wq e (by kernel_rfl) (by kernel_rfl) (eqG_int ..) (neq_same x _)) HS.out ?_
            refine takeG 23 (.pick (.tmp 114) (.const (Value.bool true)) (.tmp 125)) (some 126) none (.bool false) (by kernel_rfl) (by kernel_rfl) (by kernel_rfl) (fun _ _ _ h => h) (fun o' wq e hS => exec_pick (b := false) wq e (by kernel_rfl) (by kernel_rfl)) HS.out ?_
            refine takeG 24 (.move (.tmp 126)) (some 127) none (.bool false) (by kernel_rfl) (by kernel_rfl) (by kernel_rfl) (fun _ _ _ h => h) (fun o' wq e hS => exec_move wq e (by kernel_rfl)) HS.out ?_
            refine takeG 25 (.move (.tmp 11)) (some 128) (some (24, false)) (.slice (some ⟨g3, o3, none⟩) nc c6) (by kernel_rfl) (by kernel_rfl) (by kernel_rfl) (fun _ _ _ h => h) (fun o' wq e hS => exec_move wq e (by kernel_rfl)) HS.out ?_
            refine takeG 26 (.move (.tmp 13)) (some 129) (some (24, false)) (.int .i64 (i : Int)) (by kernel_rfl) (by kernel_rfl) (by kernel_rfl) (fun _ _ _ h => h) (fun o' wq e hS => exec_move wq e (by kernel_rfl)) HS.out ?_
            refine takeG 27 (.indexAddr 48 (.tmp 128) (.tmp 129)) (some 130) (some (24, false)) (.pointer (some ⟨g3, o3 + i * 3, none⟩)) (by kernel_rfl) (by kernel_rfl) (by kernel_rfl) (fun _ _ _ h => h) (fun o' wq e hS => exec_index (u1 := .slice (some ⟨g3, o3, none⟩) nc c6) (u2 := .int .i64 (i : Int)) wq e (by kernel_rfl) (by kernel_rfl) (index_op g3 o3 nc c6 i hlt _)) HS.out ?_
            refine takeG 28 (.fieldAddr 51 (.tmp 130) 2) (some 131) (some (24, false)) (.pointer (some ⟨g3, o3 + i * 3 + 2, none⟩)) (by kernel_rfl) (by kernel_rfl) (by kernel_rfl) (fun _ _ _ h => h) (fun o' wq e hS => exec_field (u := .pointer (some ⟨g3, o3 + i * 3, none⟩)) wq e (by kernel_rfl) (by kernel_rfl)) HS.out ?_
            refine takeG 29 (.load 3 (.tmp 131)) (some 132) (some (24, false)) (.int .i64 y) (by kernel_rfl) (by kernel_rfl) (by kernel_rfl) (fun _ _ _ h => h) (fun o' wq e hS => exec_load (x := (.tmp 131)) e (by kernel_rfl) (load_one Try.underlying3 (by kernel_rfl) hS.1.2.2)) HS.out ?_
            refine takeG 30 (.move (.tmp 12)) (some 133) (some (24, false)) (.slice (some ⟨g4, o4, none⟩) nc c7) (by kernel_rfl) (by kernel_rfl) (by kernel_rfl) (fun _ _ _ h => h) (fun o' wq e hS => exec_move wq e (by kernel_rfl)) HS.out ?_
            refine takeG 31 (.move (.tmp 13)) (some 134) (some (24, false)) (.int .i64 (i : Int)) (by kernel_rfl) (by kernel_rfl) (by kernel_rfl) (fun _ _ _ h => h) (fun o' wq e hS => exec_move wq e (by kernel_rfl)) HS.out ?_
            refine takeG 32 (.indexAddr 47 (.tmp 133) (.tmp 134)) (some 135) (some (24, false)) (.pointer (some ⟨g4, o4 + i * 3, none⟩)) (by kernel_rfl) (by kernel_rfl) (by kernel_rfl) (fun _ _ _ h => h) (fun o' wq e hS => exec_index (u1 := .slice (some ⟨g4, o4, none⟩) nc c7) (u2 := .int .i64 (i : Int)) wq e (by kernel_rfl) (by kernel_rfl) (index_refop g4 o4 nc c7 i hlt _)) HS.out ?_
            refine takeG 33 (.fieldAddr 50 (.tmp 135) 2) (some 136) (some (24, false)) (.pointer (some ⟨g4, o4 + i * 3 + 2, none⟩)) (by kernel_rfl) (by kernel_rfl) (by kernel_rfl) (fun _ _ _ h => h) (fun o' wq e hS => exec_field (u := .pointer (some ⟨g4, o4 + i * 3, none⟩)) wq e (by kernel_rfl) (by kernel_rfl)) HS.out ?_
            refine takeG 34 (.load 3 (.tmp 136)) (some 137) (some (24, false)) (.int .i64 y) (by kernel_rfl) (by kernel_rfl) (by kernel_rfl) (fun _ _ _ h => h) (fun o' wq e hS => exec_load (x := (.tmp 136)) e (by kernel_rfl) (load_one Try.underlying3 (by kernel_rfl) hS.2.2.2)) HS.out ?_
            refine takeG 35 (.binOp .neq 3 (.tmp 132) (.tmp 137) 3) (some 138) (some (24, false)) (.bool false) (by kernel_rfl) (by kernel_rfl) (by kernel_rfl) (fun _ _ _ h => h) (fun o' wq e hS => exec_bin (u1 := .int .i64 y) (u2 := .int .i64 y) wq e (by kernel_rfl) (by kernel_rfl) (eqG_int ..) (neq_same y _)) HS.out ?_
            refine lastS 36 (.pick (.tmp 127) (.const (Value.bool true)) (.tmp 138)) (some 139) (.bool false) (by kernel_rfl) (by kernel_rfl) (by kernel_rfl) HS.out (fun o' e => exec_pick (b := false) _ e (by kernel_rfl) (by kernel_rfl)) ?_
            simp only [put_some, put_none, List.setIfInBounds_toArray, List.set_cons_succ, List.set_cons_zero]
            clear HS
            go_wp2_with fail
            go_roundw
            case rel => exact ⟨i + 1, by omega, by go_num, L9⟩
            case measure => simp [intOf]; omega
          · have i1 : ¬ ((i : Int) < (nc : Int)) := by omega
            clear hlt
            go_wp2_with fail
            go_ret
            exact ⟨rfl, LW.out.trans ((L7.out.trans (LQ.out.mono L7.out.size)).mono HWS.out)⟩
end spaceLogs
end Go.Proofs.Ytffbclendkojlaa
