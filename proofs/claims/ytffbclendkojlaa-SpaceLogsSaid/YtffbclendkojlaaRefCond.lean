/-
  The document's Condense of a log by a contract. Numbers of 64 bits; what is handed in can be read.
-/
import Derived.Test.YtffbclendkojlaaRefLog
namespace Go.Proofs.Ytffbclendkojlaa
open Go Go.RowKit
set_option maxRecDepth 100000
set_option linter.unusedVariables false
namespace Rf
open Sp
theorem infoQ : (Try.prog.info? 50).map (fun i => (i.zero, i.size, i.bytes)) = some (some (.agg #[.bool false, .int .i64 0, .int .i64 0]), 3, 24) := by kernel_rfl
theorem bs_refop (t : Bool) (x y : Int) (w : World) : (Instr.buildSlice 47 1 #[(0, .agg #[.bool t, .int .i64 x, .int .i64 y])]).run Try.prog w = .ok (.slice (some ⟨w.heap.size, 0, none⟩) 1 1) (w.alloc (.cells #[.bool t, .int .i64 x, .int .i64 y] 50)) := by kernel_rfl
abbrev OwnQ (w : World) (base : Nat) (v : Value) (l : List (Bool × Int × Int)) : Prop := Gr.OwnG 50 3 Gr.csB w base v l
theorem append_refop {w : World} {base : Nat} {v : Value} {l : List (Bool × Int × Int)} (h : OwnQ w base v l) (r : Bool × Int × Int) (hl : l.length * 24 ≤ 140737488355000) (hb : base ≤ w.heap.size) (ty : TypeId) :
    ∃ v' w', (Builtin.append_ #[47, 47] ty #[v, .slice (some ⟨w.heap.size, 0, none⟩) 1 1]).run Try.prog (w.alloc (.cells #[.bool r.1, .int .i64 r.2.1, .int .i64 r.2.2] 50)) = .ok v' w' ∧ OwnQ w' base v' (l ++ [r]) ∧ Below base w w' ∧ w.heap.size ≤ w'.heap.size ∧ ∀ g, g < w.heap.size → v.ownBlock ≠ some g → w'.heap[g]? = w.heap[g]? := by
  have hb1 : Below w.heap.size w (w.alloc (.cells #[.bool r.1, .int .i64 r.2.1, .int .i64 r.2.2] 50)) := (Below.refl _ _).alloc (Nat.le_refl _) _
  have h1 := h.below hb1 (Nat.le_refl _)
  obtain ⟨v', w', e1, e2, e3, e4⟩ := Gr.run_append_b (E := 50) (k := 3) (cs := Gr.csB) (z := .agg #[.bool false, .int .i64 0, .int .i64 0]) (bytes := 24) (m := [r]) (c := 1) (fun _ => rfl) (fun x u hu => by simp [Gr.csB] at hu; rcases hu with rfl | rfl | rfl <;> rfl) Try.underlying47 infoQ rfl (by omega) ty h1 (Gr.one_cells r w 50) (by simp; omega) (by simp; omega) (Nat.le_trans hb hb1.size)
  exact ⟨v', w', e1, e2, ⟨e3.os.trans hb1.os, e3.tape.trans hb1.tape, e3.output.trans hb1.output, Nat.le_trans hb1.size e3.size, fun g hg => (e3.block g (by have := hb1.size; omega) (fun e => by have := (h.lt e.symm).2; omega)).trans (hb1.block g (by omega))⟩, Nat.le_trans hb1.size e3.size, fun g hg hne => (e3.block g (Nat.lt_of_lt_of_le hg hb1.size) (fun e => hne e.symm)).trans (hb1.block g hg)⟩
def RConPost (w : World) (r : Except Int SS) (er : Ending) (w' : World) : Prop :=
  match r with
  | .error e => er = .returned (.tuple #[.slice none 0 0, .int .i64 e]) ∧ Below w.heap.size w w'
  | .ok s => ∃ v, er = .returned (.tuple #[v, .int .i64 0]) ∧ OwnQ w' w.heap.size v ((s.S 1).map opOf) ∧ Sp.Good s ∧ Below w.heap.size w w'
set_option maxHeartbeats 6400000 in
theorem condense_rs (w : World) (C : Int) (A : Option Addr) (l : List (Bool × Int × Int)) (c : Nat) (hl : l.length ≤ 4611686018427387904) (hrd : Gr.RdG 3 Gr.csB w A l) (hz : ∀ r ∈ l, Gr.Z64' r.2.1 ∧ Gr.Z64' r.2.2) :
    Calls Try.prog 29 #[.int .i64 C, .slice A l.length c] w fun er w' => RConPost w (repS C l) er w' := by
  have HR := Lib.hid (replay_rs w C A l c hl hrd hz)
  obtain ⟨R, hR⟩ : ∃ R, R = repS C l := ⟨_, rfl⟩
  have hx : ∀ x, R = .error x → x = 1 ∨ x = 2 := fun x e => repS_err (hR ▸ e)
  have HX := Lib.hid hx
  rw [← hR] at HR ⊢
  clear hl hrd hz hR hx
  go_enter Try.func29, Try.ntmps29
  go_wp2_with fail
  refine HR.out.mono ?_
  rintro e w2 hp
  cases R with
  | error x =>
    obtain ⟨rfl, hb⟩ := hp
    have L2 := Lib.hid hb
    rcases HX.out x rfl with rfl | rfl
    all_goals
      clear hb HR HX
      go_wp2_with fail
      go_ret2
      exact ⟨rfl, L2.out⟩
  | ok s =>
    obtain ⟨b, rfl, hs, hb⟩ := hp
    have hg := hs.1
    have HG := Lib.hid hg
    have HRG : Hid (Calls Try.prog 40 #[.pointer (some ⟨b, 0, none⟩), .int .i64 1] w2 fun e w' => ∃ v, e = .returned v ∧ OwnR w' w2.heap.size v (s.S 1) ∧ Below w2.heap.size w2 w') := Lib.hid (ranges_rs hs 1 (by omega))
    have L2 := Lib.hid hb
    clear hs hb HR HX
    go_wp2_with fail
    refine HRG.out.mono ?_
    rintro e w3 ⟨v, rfl, ho, b3⟩
    obtain ⟨A1, c1, hv, hRd, _, _, _, _⟩ := ho.shape (fun _ => rfl)
    obtain ⟨nl, hnl⟩ : ∃ nl, nl = (s.S 1).length := ⟨_, rfl⟩
    rw [← hnl] at hv
    subst hv
    have hnb : nl ≤ 100000 := by
      have := (hg.ris 1 (by omega)).len (N := s.cells) (hg.in_ 1 (by omega))
      have := hg.hc.2
      omega
    have HRD := Lib.hid hRd
    have HNL := Lib.hid hnl
    have L3 : Hid (Below w.heap.size w w3) := Lib.hid (L2.out.trans (b3.mono L2.out.size))
    obtain ⟨B2, hB2⟩ : ∃ B2, B2 = w3.heap.size := ⟨_, rfl⟩
    have HB2 : Hid (w.heap.size ≤ B2) := Lib.hid (by rw [hB2]; exact L3.out.size)
    have LB : Hid (Below B2 w3 w3) := Lib.hid (Below.refl _ _)
    have HO : Hid (OwnQ w3 B2 (.slice none 0 0) (((s.S 1).take 0).map opOf)) := Lib.hid (Gr.OwnG.nil _ _)
    have hBs : B2 ≤ w3.heap.size := by omega
    have HRB : Hid (∀ wr, Below B2 w3 wr → Gr.RdG 2 csR wr A1 (s.S 1)) := Lib.hid fun wr hb => by rw [hB2] at hb; exact HRD.out.below hb
    clear ho hRd hnl hB2 b3 HRG L2 hg
    go_wp2_with fail
    go_loopw [9, 10] (fun v y wr => ∃ i : Nat, i ≤ nl ∧ y = .int .i64 (i : Int) ∧ Hid (OwnQ wr B2 v (((s.S 1).take i).map opOf)) ∧ Hid (Below B2 w3 wr) ∧ B2 ≤ wr.heap.size) (fun _ y _ => nl - (intOf y).toNat)
    case atStart => exact ⟨0, by omega, rfl, HO, LB, hBs⟩
    case round =>
      clear HO LB hBs
      obtain ⟨i, hi, rfl, HO, LB, hBs⟩ := hrel
      by_cases hlt : i < nl
      · have i1 : (i : Int) < (nl : Int) := by omega
        have hil : i < (s.S 1).length := by have := HNL.out; omega
        obtain ⟨r, hr⟩ : ∃ r, r = (s.S 1)[i] := ⟨_, rfl⟩
        have hri : (s.S 1)[i]? = some r := by rw [hr]; exact List.getElem?_eq_getElem hil
        obtain ⟨g, o, hA, hgb, kk⟩ := (HRB.out _ LB.out) i r hri
        have hbd := (HG.out.ris 1 (by omega)).lt_ r (List.mem_of_getElem? hri)
        have hbd2 := ((HG.out.ris 1 (by omega)).in_ (HG.out.in_ 1 (by omega)) r (List.mem_of_getElem? hri)).2
        have hcc := HG.out.hc.2
        have htk : ((s.S 1).take (i + 1)).map opOf = ((s.S 1).take i).map opOf ++ [opOf r] := by
          rw [List.take_succ_eq_append_getElem hil, ← hr, List.map_append]
          rfl
        have hlen : (((s.S 1).take i).map opOf).length = i := by rw [List.length_map, List.length_take]; omega
        obtain ⟨x, y⟩ := r
        dsimp only at hbd hbd2
        have hyb : y ≤ 40000 := by omega
        have HCL : Hid (∀ W, Below B2 w3 W → W.cell? ⟨g, o + i * 2, none⟩ = some (.int .i64 (x : Int)) ∧ W.cell? ⟨g, o + i * 2 + 1, none⟩ = some (.int .i64 (y : Int))) := Lib.hid fun W hb => by
          obtain ⟨g2, o2, hA2, _, kk2⟩ := (HRB.out _ hb) i _ hri
          rw [hA] at hA2
          injection hA2 with e
          injection e with e1 e2
          subst e1 e2
          exact ⟨kk2 0 _ rfl, kk2 1 _ rfl⟩
        subst hA
        have HS := Lib.hid (show wr.drew.cell? ⟨g, o + i * 2, none⟩ = some (.int .i64 (x : Int)) ∧ wr.drew.cell? ⟨g, o + i * 2 + 1, none⟩ = some (.int .i64 (y : Int)) from HCL.out _ LB.out.drew)
        obtain ⟨A2, c2, hv, _, _, _, _, _⟩ := HO.out.shape (fun _ => rfl)
        rw [hlen] at hv
        have HTK := Lib.hid (⟨htk, hlen, hv⟩ : _ ∧ _ ∧ _)
        subst hv
        have hsub : ∀ W : World, (binOp .sub 3 (.int .i64 (y : Int)) (.int .i64 (x : Int))).run Try.prog W = .ok (.int .i64 ((y : Int) - (x : Int))) W := fun W => by
          rw [show binOp .sub 3 (.int .i64 (y : Int)) (.int .i64 (x : Int)) = pure (.int .i64 (IntKind.i64.wrap ((y : Int) - (x : Int)))) from rfl, IntWalk.i64_in _ (by omega)]
          rfl
        clear hri hr hil hgb kk hbd hbd2 hcc htk hlen hyb
        go_upto_region 9 with (fail)
        refine region_anyZ (fun w' => w'.cell? ⟨g, o + i * 2, none⟩ = some (.int .i64 (x : Int)) ∧ w'.cell? ⟨g, o + i * 2 + 1, none⟩ = some (.int .i64 (y : Int))) 21 (by kernel_rfl) ?_
        refine takeG 0 (.move (.tmp 9)) (some 28) none (.slice A2 i c2) (by kernel_rfl) (by kernel_rfl) (by kernel_rfl) (fun _ _ _ h => h) (fun o' wq e hS => exec_move wq e (by kernel_rfl)) HS.out ?_
        refine takeG 1 (.move (.tmp 8)) (some 29) none (.slice (some ⟨g, o, none⟩) nl c1) (by kernel_rfl) (by kernel_rfl) (by kernel_rfl) (fun _ _ _ h => h) (fun o' wq e hS => exec_move wq e (by kernel_rfl)) HS.out ?_
        refine takeG 2 (.move (.tmp 10)) (some 30) none (.int .i64 (i : Int)) (by kernel_rfl) (by kernel_rfl) (by kernel_rfl) (fun _ _ _ h => h) (fun o' wq e hS => exec_move wq e (by kernel_rfl)) HS.out ?_
        refine takeG 3 (.indexAddr 22 (.tmp 29) (.tmp 30)) (some 31) none (.pointer (some ⟨g, o + i * 2, none⟩)) (by kernel_rfl) (by kernel_rfl) (by kernel_rfl) (fun _ _ _ h => h) (fun o' wq e hS => exec_index (u1 := .slice (some ⟨g, o, none⟩) nl c1) (u2 := .int .i64 (i : Int)) wq e (by kernel_rfl) (by kernel_rfl) (index_ref g o nl c1 i hlt _)) HS.out ?_
        refine takeG 4 (.fieldAddr 33 (.tmp 31) 0) (some 32) none (.pointer (some ⟨g, o + i * 2, none⟩)) (by kernel_rfl) (by kernel_rfl) (by kernel_rfl) (fun _ _ _ h => h) (fun o' wq e hS => exec_field (u := .pointer (some ⟨g, o + i * 2, none⟩)) wq e (by kernel_rfl) (by kernel_rfl)) HS.out ?_
        refine takeG 5 (.load 3 (.tmp 32)) (some 33) none (.int .i64 (x : Int)) (by kernel_rfl) (by kernel_rfl) (by kernel_rfl) (fun _ _ _ h => h) (fun o' wq e hS => exec_load (x := (.tmp 32)) e (by kernel_rfl) (load_one Try.underlying3 (by kernel_rfl) hS.1)) HS.out ?_
        refine takeG 6 (.move (.tmp 8)) (some 34) none (.slice (some ⟨g, o, none⟩) nl c1) (by kernel_rfl) (by kernel_rfl) (by kernel_rfl) (fun _ _ _ h => h) (fun o' wq e hS => exec_move wq e (by kernel_rfl)) HS.out ?_
        refine takeG 7 (.move (.tmp 10)) (some 35) none (.int .i64 (i : Int)) (by kernel_rfl) (by kernel_rfl) (by kernel_rfl) (fun _ _ _ h => h) (fun o' wq e hS => exec_move wq e (by kernel_rfl)) HS.out ?_
        refine takeG 8 (.indexAddr 22 (.tmp 34) (.tmp 35)) (some 36) none (.pointer (some ⟨g, o + i * 2, none⟩)) (by kernel_rfl) (by kernel_rfl) (by kernel_rfl) (fun _ _ _ h => h) (fun o' wq e hS => exec_index (u1 := .slice (some ⟨g, o, none⟩) nl c1) (u2 := .int .i64 (i : Int)) wq e (by kernel_rfl) (by kernel_rfl) (index_ref g o nl c1 i hlt _)) HS.out ?_
        refine takeG 9 (.fieldAddr 33 (.tmp 36) 1) (some 37) none (.pointer (some ⟨g, o + i * 2 + 1, none⟩)) (by kernel_rfl) (by kernel_rfl) (by kernel_rfl) (fun _ _ _ h => h) (fun o' wq e hS => exec_field (u := .pointer (some ⟨g, o + i * 2, none⟩)) wq e (by kernel_rfl) (by kernel_rfl)) HS.out ?_
        refine takeG 10 (.load 3 (.tmp 37)) (some 38) none (.int .i64 (y : Int)) (by kernel_rfl) (by kernel_rfl) (by kernel_rfl) (fun _ _ _ h => h) (fun o' wq e hS => exec_load (x := (.tmp 37)) e (by kernel_rfl) (load_one Try.underlying3 (by kernel_rfl) hS.2)) HS.out ?_
        refine takeG 11 (.move (.tmp 8)) (some 39) none (.slice (some ⟨g, o, none⟩) nl c1) (by kernel_rfl) (by kernel_rfl) (by kernel_rfl) (fun _ _ _ h => h) (fun o' wq e hS => exec_move wq e (by kernel_rfl)) HS.out ?_
        refine takeG 12 (.move (.tmp 10)) (some 40) none (.int .i64 (i : Int)) (by kernel_rfl) (by kernel_rfl) (by kernel_rfl) (fun _ _ _ h => h) (fun o' wq e hS => exec_move wq e (by kernel_rfl)) HS.out ?_
        refine takeG 13 (.indexAddr 22 (.tmp 39) (.tmp 40)) (some 41) none (.pointer (some ⟨g, o + i * 2, none⟩)) (by kernel_rfl) (by kernel_rfl) (by kernel_rfl) (fun _ _ _ h => h) (fun o' wq e hS => exec_index (u1 := .slice (some ⟨g, o, none⟩) nl c1) (u2 := .int .i64 (i : Int)) wq e (by kernel_rfl) (by kernel_rfl) (index_ref g o nl c1 i hlt _)) HS.out ?_
        refine takeG 14 (.fieldAddr 33 (.tmp 41) 0) (some 42) none (.pointer (some ⟨g, o + i * 2, none⟩)) (by kernel_rfl) (by kernel_rfl) (by kernel_rfl) (fun _ _ _ h => h) (fun o' wq e hS => exec_field (u := .pointer (some ⟨g, o + i * 2, none⟩)) wq e (by kernel_rfl) (by kernel_rfl)) HS.out ?_
        refine takeG 15 (.load 3 (.tmp 42)) (some 43) none (.int .i64 (x : Int)) (by kernel_rfl) (by kernel_rfl) (by kernel_rfl) (fun _ _ _ h => h) (fun o' wq e hS => exec_load (x := (.tmp 42)) e (by kernel_rfl) (load_one Try.underlying3 (by kernel_rfl) hS.1)) HS.out ?_
        refine takeG 16 (.binOp .sub 3 (.tmp 38) (.tmp 43) 3) (some 44) none (.int .i64 ((y : Int) - (x : Int))) (by kernel_rfl) (by kernel_rfl) (by kernel_rfl) (fun _ _ _ h => h) (fun o' wq e hS => exec_bin (u1 := .int .i64 (y : Int)) (u2 := .int .i64 (x : Int)) wq e (by kernel_rfl) (by kernel_rfl) (eqG_int ..) (hsub _)) HS.out ?_
        refine takeG 17 (.build 50 #[(0, (.const (Value.bool true))), (1, (.tmp 33)), (2, (.tmp 44))]) (some 45) none (.agg #[.bool true, .int .i64 (x : Int), .int .i64 ((y : Int) - (x : Int))]) (by kernel_rfl) (by kernel_rfl) (by kernel_rfl) (fun _ _ _ h => h) (fun o' wq e hS => exec_bld3 (u0 := (Value.bool true)) (u1 := .int .i64 (x : Int)) (u2 := .int .i64 ((y : Int) - (x : Int))) wq e (by kernel_rfl) (by kernel_rfl) (by kernel_rfl) (by kernel_rfl)) HS.out ?_
        refine loneG 18 (.buildSlice 47 1 #[(0, (.tmp 45))]) (some 46) none (by kernel_rfl) (by kernel_rfl) (by kernel_rfl) ?_
        intro o' ho hod
        refine wp_val (exec_buildSlice1 ho (by kernel_rfl) (bs_refop true x ((y : Int) - (x : Int)) _)) ?_
        rw [hod]
        clear hod ho
        have LB5 := Lib.hid (LB.out.drew.alloc hBs (.cells #[.bool true, .int .i64 (x : Int), .int .i64 ((y : Int) - (x : Int))] 50))
        have HS5 := Lib.hid (HCL.out _ LB5.out)
        refine ⟨fun _ => HS5.out, ?_⟩
        refine loneG 19 (.call ⟨.builtin .append, #[(.tmp 28), (.tmp 46)], #[47, 47]⟩) (some 47) none (by kernel_rfl) (by kernel_rfl) (by kernel_rfl) ?_
        intro o' ho hod
        obtain ⟨v2, w3, hrun, ho2, hb2, hsz2, _⟩ := append_refop (show OwnQ wr.drew B2 _ _ from HO.out) (true, (x : Int), (y : Int) - (x : Int)) (by rw [HTK.out.2.1]; omega) hBs o'.type
        refine Gr.wp_append 47 (.tmp 28) (.tmp 46) ho (by kernel_rfl) (by kernel_rfl) hrun ?_
        rw [hod]
        clear hod ho
        have LB3 := Lib.hid (LB.out.drew.trans hb2)
        have HO3 : Hid (OwnQ w3 B2 v2 (((s.S 1).take (i + 1)).map opOf)) := Lib.hid (by rw [HTK.out.1]; exact ho2)
        have hBs3 : B2 ≤ w3.heap.size := Nat.le_trans hBs hsz2
        have HS6 := Lib.hid (HCL.out _ LB3.out)
        refine ⟨fun _ => HS6.out, ?_⟩
        refine lastS 20 (.assign (.tmp 47)) (some 9) (v2) (by kernel_rfl) (by kernel_rfl) (by kernel_rfl) HS6.out (fun o' e => exec_assign _ e (by kernel_rfl)) ?_
        simp only [put_some, put_none, List.setIfInBounds_toArray, List.set_cons_succ, List.set_cons_zero]
        clear hrun
        go_wp2_with fail
        go_roundw
        case rel => exact ⟨i + 1, by omega, by go_num, HO3, LB3, hBs3⟩
        case measure => simp [intOf]; omega
      · have i1 : ¬ ((i : Int) < (nl : Int)) := by omega
        have HO3 := HO
        rw [List.take_of_length_le (by have := HNL.out; omega)] at HO3
        clear HO hlt
        go_wp2_with fail
        go_ret2
        refine ⟨_, rfl, ⟨HO3.out.1, HO3.out.2.imp id fun ⟨g, cap, cur, e1, e2, e3⟩ => ⟨g, cap, cur, e1, Nat.le_trans HB2.out e2, e3⟩⟩, HG.out, L3.out.trans (LB.out.mono HB2.out)⟩
end Rf
end Go.Proofs.Ytffbclendkojlaa
