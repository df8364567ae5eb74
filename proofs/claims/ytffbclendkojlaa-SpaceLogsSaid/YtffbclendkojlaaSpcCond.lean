/-
  'Condense' of a space's log by a contract. Conditions: numbers of 64 bits; what is handed in can be read.
-/
import Derived.Test.YtffbclendkojlaaSpcLog
import Derived.Test.YtffbclendkojlaaNatRowM
namespace Go.Proofs.Ytffbclendkojlaa
open Go Go.RowKit
set_option maxRecDepth 100000
set_option linter.unusedVariables false
namespace Sp
theorem infoOP : (Try.prog.info? 51).map (fun i => (i.zero, i.size, i.bytes)) = some (some (.agg #[.bool false, .int .i64 0, .int .i64 0]), 3, 24) := by kernel_rfl
theorem exec_bld3 {P : Program} {a : Act} {o : Oper} {ty : TypeId} {i j k : Nat} {x y z : Operand} {u0 u1 u2 r : Value} (w : World) (e : o.op = .build ty #[(i, x), (j, y), (k, z)]) (hx : a.eval x = u0) (hy : a.eval y = u1) (hz : a.eval z = u2)
    (hl : (Instr.build ty #[(i, u0), (j, u1), (k, u2)]).run P w = .ok r w) : (execOp a.eval o).run P w = .ok (.value r) w := by
  unfold execOp; simp only [e, List.map_toArray, List.map_cons, List.map_nil, hx, hy, hz, hl, Sem.run_bind, Sem.run_pure, Result.andThen_ok]
theorem bs_op (t : Bool) (x y : Int) (w : World) : (Instr.buildSlice 48 1 #[(0, .agg #[.bool t, .int .i64 x, .int .i64 y])]).run Try.prog w = .ok (.slice (some ⟨w.heap.size, 0, none⟩) 1 1) (w.alloc (.cells #[.bool t, .int .i64 x, .int .i64 y] 51)) := by kernel_rfl
abbrev OwnOp (w : World) (base : Nat) (v : Value) (l : List (Bool × Int × Int)) : Prop := Gr.OwnG 51 3 Gr.csB w base v l
theorem append_op {w : World} {base : Nat} {v : Value} {l : List (Bool × Int × Int)} (h : OwnOp w base v l) (r : Bool × Int × Int) (hl : l.length * 24 ≤ 140737488355000) (hb : base ≤ w.heap.size) (ty : TypeId) :
    ∃ v' w', (Builtin.append_ #[48, 48] ty #[v, .slice (some ⟨w.heap.size, 0, none⟩) 1 1]).run Try.prog (w.alloc (.cells #[.bool r.1, .int .i64 r.2.1, .int .i64 r.2.2] 51)) = .ok v' w' ∧ OwnOp w' base v' (l ++ [r]) ∧ Below base w w' ∧ w.heap.size ≤ w'.heap.size ∧ ∀ g, g < w.heap.size → v.ownBlock ≠ some g → w'.heap[g]? = w.heap[g]? := by
  have hb1 : Below w.heap.size w (w.alloc (.cells #[.bool r.1, .int .i64 r.2.1, .int .i64 r.2.2] 51)) := (Below.refl _ _).alloc (Nat.le_refl _) _
  have h1 := h.below hb1 (Nat.le_refl _)
  obtain ⟨v', w', e1, e2, e3, e4⟩ := Gr.run_append_b (E := 51) (k := 3) (cs := Gr.csB) (z := .agg #[.bool false, .int .i64 0, .int .i64 0]) (bytes := 24) (m := [r]) (c := 1) (fun _ => rfl) (fun x u hu => by simp [Gr.csB] at hu; rcases hu with rfl | rfl | rfl <;> rfl) Try.underlying48 infoOP rfl (by omega) ty h1 (Gr.one_cells r w 51) (by simp; omega) (by simp; omega) (Nat.le_trans hb hb1.size)
  exact ⟨v', w', e1, e2, ⟨e3.os.trans hb1.os, e3.tape.trans hb1.tape, e3.output.trans hb1.output, Nat.le_trans hb1.size e3.size, fun g hg => (e3.block g (by have := hb1.size; omega) (fun e => by have := (h.lt e.symm).2; omega)).trans (hb1.block g (by omega))⟩, Nat.le_trans hb1.size e3.size, fun g hg hne => (e3.block g (Nat.lt_of_lt_of_le hg hb1.size) (fun e => hne e.symm)).trans (hb1.block g hg)⟩
def opOf (r : Rg) : Bool × Int × Int := (true, (r.1 : Int), (r.2 : Int) - (r.1 : Int))
def ConPost (w : World) (r : Except Int SS) (er : Ending) (w' : World) : Prop :=
  match r with
  | .error e => er = .returned (.tuple #[.slice none 0 0, .int .i64 e]) ∧ Below w.heap.size w w'
  | .ok s => ∃ v, er = .returned (.tuple #[v, .int .i64 0]) ∧ OwnOp w' w.heap.size v ((s.S 1).map opOf) ∧ Good s ∧ Below w.heap.size w w'
theorem repS_err {C : Int} {l : List (Bool × Int × Int)} {x : Int} (h : repS C l = .error x) : x = 1 ∨ x = 2 := by
  unfold repS at h
  split at h
  · injection h with h; exact .inl h.symm
  · split at h
    · cases h
    · injection h with h; exact .inr h.symm
set_option maxHeartbeats 6400000 in
theorem condense_at (w : World) (C : Int) (A : Option Addr) (l : List (Bool × Int × Int)) (c : Nat) (hl : l.length ≤ 4611686018427387904) (hrd : Gr.RdG 3 Gr.csB w A l) (hz : ∀ r ∈ l, Gr.Z64' r.2.1 ∧ Gr.Z64' r.2.2) :
    Calls Try.prog 28 #[.int .i64 C, .slice A l.length c] w fun er w' => ConPost w (repS C l) er w' := by
  have HR := Lib.hid (replay_at w C A l c hl hrd hz)
  obtain ⟨R, hR⟩ : ∃ R, R = repS C l := ⟨_, rfl⟩
  have hx : ∀ x, R = .error x → x = 1 ∨ x = 2 := fun x e => repS_err (hR ▸ e)
  have HX := Lib.hid hx
  rw [← hR] at HR ⊢
  clear hl hrd hz hR hx
  go_enter Try.func28, Try.ntmps28
  go_wp2_with fail
  refine HR.out.mono ?_
  rintro e w2 hp
  cases R with
  | error x =>
    obtain ⟨rfl, hb⟩ := hp
    have L2 := Lib.hid hb
    rcases HX.out x rfl with rfl | rfl
    all_goals
      clear hb HR HX
      go_wp2_with fail
      go_ret2
      exact ⟨rfl, L2.out⟩
  | ok s =>
    obtain ⟨b, m, rfl, hs, hb⟩ := hp
    obtain ⟨B, hB⟩ : ∃ B, B = w.heap.size := ⟨_, rfl⟩
    have HBE := Lib.hid hB
    rw [← hB] at hs
    obtain ⟨h0, F, V, hsp⟩ := hs
    have c2 : w2.cell? ⟨b, 2, none⟩ = some (.map (some m)) := hsp.mem.blk.cell 2
    have hlk : (Instr.lookup 68 (.map (some m)) (.int .i64 1) false).run Try.prog w2 = .ok (.agg #[V 1, .int .i64 (cnt (s.S 1) : Int)]) w2 := hsp.mem.look (k := 1) (by omega)
    obtain ⟨A1, c1, hv, hRd, _, _, _⟩ := (hsp.mem.own 1 (by omega)).shape
    rw [hv] at hlk
    obtain ⟨nl, hnl⟩ : ∃ nl, nl = (s.S 1).length := ⟨_, rfl⟩
    obtain ⟨cn, hcn⟩ : ∃ cn, cn = cnt (s.S 1) := ⟨_, rfl⟩
    rw [← hnl, ← hcn] at hlk
    have hf : (Instr.field 67 (.agg #[.slice A1 nl c1, .int .i64 (cn : Int)]) 0).run Try.prog w2 = .ok (.slice A1 nl c1) w2 := by kernel_rfl
    have hnb : nl ≤ 100000 := by rw [hnl]; exact hsp.len (by omega)
    have HG : Hid (Good s) := Lib.hid hsp.good
    have HRD := Lib.hid hRd
    have HNL := Lib.hid hnl
    have L2 := Lib.hid hb
    obtain ⟨B2, hB2⟩ : ∃ B2, B2 = w2.heap.size := ⟨_, rfl⟩
    have HB2 : Hid (w.heap.size ≤ B2) := Lib.hid (by rw [hB2]; exact hb.size)
    have LB : Hid (Below B2 w2 w2) := Lib.hid (Below.refl _ _)
    have HO : Hid (OwnOp w2 B2 (.slice none 0 0) (((s.S 1).take 0).map opOf)) := Lib.hid (Gr.OwnG.nil _ _)
    have hBs : B2 ≤ w2.heap.size := by omega
    have HRB : Hid (∀ wr, Below B2 w2 wr → Rd wr A1 (s.S 1)) := Lib.hid fun wr hb => by rw [hB2] at hb; exact HRD.out.below hb
    clear hsp h0 hv hRd hnl hcn hb hB hB2 HR HX
    go_wp2_with fail
    clear c2 hlk hf
    go_loopw [8, 27] (fun v y wr => ∃ i : Nat, i ≤ nl ∧ y = .int .i64 (i : Int) ∧ Hid (OwnOp wr B2 v (((s.S 1).take i).map opOf)) ∧ Hid (Below B2 w2 wr) ∧ B2 ≤ wr.heap.size) (fun _ y _ => nl - (intOf y).toNat)
    case atStart => exact ⟨0, by omega, rfl, HO, LB, hBs⟩
    case round =>
      clear HO LB hBs
      obtain ⟨i, hi, rfl, HO, LB, hBs⟩ := hrel
      by_cases hlt : i < nl
      · have i1 : (i : Int) < (nl : Int) := by omega
        obtain ⟨r, g, o, hg, hAe, d1, d2⟩ := (HRB.out _ LB.out).at_ (i := i) (by have := HNL.out; omega)
        have hbd := (HG.out.ris 1 (by omega)).lt_ r (List.mem_of_getElem? hg)
        have hbd2 := ((HG.out.ris 1 (by omega)).in_ (HG.out.in_ 1 (by omega)) r (List.mem_of_getElem? hg)).2
        have hcc := HG.out.hc.2
        subst hAe
        have htk : ((s.S 1).take (i + 1)).map opOf = ((s.S 1).take i).map opOf ++ [opOf r] := by
          obtain ⟨hi', he⟩ := List.getElem?_eq_some_iff.1 hg
          rw [List.take_succ_eq_append_getElem hi', he, List.map_append]
          rfl
        have hlen : (((s.S 1).take i).map opOf).length = i := by rw [List.length_map, List.length_take]; have := HNL.out; omega
        obtain ⟨x, hx⟩ : ∃ x, x = r.1 := ⟨_, rfl⟩
        obtain ⟨y, hy⟩ : ∃ y, y = r.2 := ⟨_, rfl⟩
        have hop : opOf r = (true, (x : Int), (y : Int) - (x : Int)) := by rw [hx, hy]; rfl
        rw [← hx] at d1 hbd
        rw [← hy] at d2 hbd hbd2
        have hxy : x < y := hbd
        have hyb : y ≤ 40000 := by omega
        obtain ⟨A2, c2, hv, _, _, _, _, _⟩ := HO.out.shape (fun _ => rfl)
        rw [hlen] at hv
        rw [hop] at htk
        have HTK := Lib.hid (⟨htk, hlen, hv⟩ : _ ∧ _ ∧ _)
        subst hv
        obtain ⟨bx, hbx⟩ : ∃ bx, bx = wr.heap.size := ⟨_, rfl⟩
        obtain ⟨W, hW⟩ : ∃ W, W = wr.alloc (.cells #[.int .i64 (x : Int), .int .i64 (y : Int)] 34) := ⟨_, rfl⟩
        have BW : Below wr.heap.size wr W := by rw [hW]; exact (Below.refl _ _).alloc (Nat.le_refl _) _
        have XW : Blk W bx 34 #[.int .i64 (x : Int), .int .i64 (y : Int)] := by rw [hW, hbx]; exact Blk.new _ _ _
        have HO2 := Lib.hid (HO.out.below BW (Nat.le_refl _))
        have LB2 := Lib.hid (LB.out.trans (BW.mono hBs))
        have hBs2 : B2 ≤ W.heap.size := Nat.le_trans hBs BW.size
        have HS := Lib.hid (show Blk W.drew bx 34 #[.int .i64 (x : Int), .int .i64 (y : Int)] from XW)
        have HSZ := Lib.hid (size_rg W.drew x y (by omega) (by omega))
        clear hg hx hy hop hbd hbd2 hcc htk hlen BW XW HO LB hBs
        go_upto_region 8 with (fail)
        rw [← hbx, ← hW]
        clear hW hbx d1 d2
        refine region_anyZ (fun w' => Blk w' bx 34 #[.int .i64 (x : Int), .int .i64 (y : Int)]) 9 (by kernel_rfl) ?_
        refine takeG 0 (.move (.tmp 8)) (some 31) none (.slice A2 i c2) (by kernel_rfl) (by kernel_rfl) (by kernel_rfl) (fun _ _ _ h => h) (fun o' wq e hS => exec_move wq e (by kernel_rfl)) HS.out ?_
        refine takeG 1 (.fieldAddr 34 (.tmp 10) 0) (some 32) none (.pointer (some ⟨bx, 0, none⟩)) (by kernel_rfl) (by kernel_rfl) (by kernel_rfl) (fun _ _ _ h => h) (fun o' wq e hS => exec_field (u := .pointer (some ⟨bx, 0, none⟩)) wq e (by kernel_rfl) (by kernel_rfl)) HS.out ?_
        refine takeG 2 (.load 3 (.tmp 32)) (some 33) none (.int .i64 (x : Int)) (by kernel_rfl) (by kernel_rfl) (by kernel_rfl) (fun _ _ _ h => h) (fun o' wq e hS => exec_load (x := (.tmp 32)) e (by kernel_rfl) (load_one Try.underlying3 (by kernel_rfl) (hS.cell 0))) HS.out ?_
        refine takeG 3 (.load 34 (.tmp 10)) (some 34) none (.agg #[.int .i64 (x : Int), .int .i64 (y : Int)]) (by kernel_rfl) (by kernel_rfl) (by kernel_rfl) (fun _ _ _ h => h) (fun o' wq e hS => exec_load (x := (.tmp 10)) e (by kernel_rfl) (load_range hS)) HS.out ?_
        refine loneG 4 (.call ⟨.value (.func 46), #[(.tmp 34)], #[34]⟩) (some 35) none (by kernel_rfl) (by kernel_rfl) (by kernel_rfl) ?_
        intro o' ho hod
        refine wp_callC (f := 46) (args := #[.agg #[.int .i64 (x : Int), .int .i64 (y : Int)]]) (by cases o'; cases ho; kernel_rfl) HSZ.out ?_
        rintro ee W4 ⟨rfl, b4⟩
        refine ⟨.int .i64 ((y : Int) - (x : Int)), rfl, ?_⟩
        rw [hod]
        clear hod ho
        have HS4 := Lib.hid (Blk_new HS.out b4)
        have HO4 := Lib.hid ((HO2.out.keep fun _ _ => rfl : OwnOp W.drew B2 _ _).below b4 (Nat.le_refl _))
        have LB4 := Lib.hid (LB2.out.drew.trans (b4.mono hBs2))
        have hBs4 : B2 ≤ W4.heap.size := Nat.le_trans hBs2 b4.size
        clear b4 HS HO2 LB2
        refine ⟨fun _ => HS4.out, ?_⟩
        refine takeG 5 (.build 51 #[(0, (.const (Value.bool true))), (1, (.tmp 33)), (2, (.tmp 35))]) (some 36) none (.agg #[.bool true, .int .i64 (x : Int), .int .i64 ((y : Int) - (x : Int))]) (by kernel_rfl) (by kernel_rfl) (by kernel_rfl) (fun _ _ _ h => h) (fun o' wq e hS => exec_bld3 (u0 := (Value.bool true)) (u1 := .int .i64 (x : Int)) (u2 := .int .i64 ((y : Int) - (x : Int))) wq e (by kernel_rfl) (by kernel_rfl) (by kernel_rfl) (by kernel_rfl)) HS4.out ?_
        refine loneG 6 (.buildSlice 48 1 #[(0, (.tmp 36))]) (some 37) none (by kernel_rfl) (by kernel_rfl) (by kernel_rfl) ?_
        intro o' ho hod
        refine wp_val (exec_buildSlice1 ho (by kernel_rfl) (bs_op true x ((y : Int) - (x : Int)) _)) ?_
        rw [hod]
        clear hod ho
        have HS5 := Lib.hid (HS4.out.alloc (.cells #[.bool true, .int .i64 (x : Int), .int .i64 ((y : Int) - (x : Int))] 51))
        refine ⟨fun _ => HS5.out, ?_⟩
        refine loneG 7 (.call ⟨.builtin .append, #[(.tmp 31), (.tmp 37)], #[48, 48]⟩) (some 38) none (by kernel_rfl) (by kernel_rfl) (by kernel_rfl) ?_
        intro o' ho hod
        obtain ⟨v2, w3, hrun, ho2, hb2, hsz2, hkp2⟩ := append_op HO4.out (true, (x : Int), (y : Int) - (x : Int)) (by rw [HTK.out.2.1]; omega) hBs4 o'.type
        refine Gr.wp_append 48 (.tmp 31) (.tmp 37) ho (by kernel_rfl) (by kernel_rfl) hrun ?_
        rw [hod]
        clear hod ho
        have LB3 := Lib.hid (LB4.out.trans hb2)
        have HO3 : Hid (OwnOp w3 B2 v2 (((s.S 1).take (i + 1)).map opOf)) := Lib.hid (by rw [HTK.out.1]; exact ho2)
        have hBs3 : B2 ≤ w3.heap.size := Nat.le_trans hBs4 hsz2
        have HS6 : Hid (Blk w3 bx 34 #[.int .i64 (x : Int), .int .i64 (y : Int)]) := Lib.hid ((hkp2 bx HS4.out.lt (fun e => by
          obtain ⟨cur, h1⟩ := HO4.out.blk_of e
          have h2 := HS4.out
          unfold Blk at h1 h2
          rw [h1] at h2
          injection h2 with h2
          injection h2 with _ h2
          exact absurd h2 (by decide))).trans HS4.out)
        refine ⟨fun _ => HS6.out, ?_⟩
        refine lastS 8 (.assign (.tmp 38)) (some 8) (v2) (by kernel_rfl) (by kernel_rfl) (by kernel_rfl) HS6.out (fun o' e => exec_assign _ e (by kernel_rfl)) ?_
        simp only [put_some, put_none, List.setIfInBounds_toArray, List.set_cons_succ, List.set_cons_zero]
        clear hrun
        go_wp2_with fail
        go_roundw
        case rel => exact ⟨i + 1, by omega, by go_num, HO3, LB3, hBs3⟩
        case measure => simp [intOf]; omega
      · have i1 : ¬ ((i : Int) < (nl : Int)) := by omega
        have HO3 := HO
        rw [List.take_of_length_le (by have := HNL.out; omega)] at HO3
        clear HO hlt
        go_wp2_with fail
        go_ret2
        refine ⟨_, rfl, ⟨HO3.out.1, HO3.out.2.imp id fun ⟨g, cap, cur, e1, e2, e3⟩ => ⟨g, cap, cur, e1, Nat.le_trans HB2.out e2, e3⟩⟩, HG.out, L2.out.trans (LB.out.mono HB2.out)⟩
end Sp
end Go.Proofs.Ytffbclendkojlaa
