/-
  The walk of 'SpacePlays': for all scripts of calls a space answers what the document says.
-/
import Derived.Test.YtpbojhjbjnoihaaSpcDuo
import Derived.Test.YtpbojhjbjnoihaaSpcFewM
namespace Go.Proofs.Ytpbojhjbjnoihaa
open Go Go.RowKit
set_option maxRecDepth 100000
set_option linter.unusedVariables false
namespace spacePlays
open Sp Rf
theorem bs_range (x y : Int) (w : World) : (Instr.buildSlice 31 1 #[(0, .agg #[.int .i64 x, .int .i64 y])]).run Try.prog w = .ok (.slice (some ⟨w.heap.size, 0, none⟩) 1 1) (w.alloc (.cells #[.int .i64 x, .int .i64 y] 34)) := by kernel_rfl
theorem infoRS : (Try.prog.info? 34).map (fun i => (i.zero, i.size, i.bytes)) = some (some (.agg #[.int .i64 0, .int .i64 0]), 2, 16) := by kernel_rfl
theorem append_rgB {w : World} {base : Nat} {v : Value} {l : List (Int × Int)} (h : Gr.OwnG 34 2 Gr.cs2 w base v l) (r : Int × Int) (hl : l.length * 16 ≤ 140737488355000) (hb : base ≤ w.heap.size) (ty : TypeId) :
    ∃ v' w', (Builtin.append_ #[31, 31] ty #[v, .slice (some ⟨w.heap.size, 0, none⟩) 1 1]).run Try.prog (w.alloc (.cells #[.int .i64 r.1, .int .i64 r.2] 34)) = .ok v' w' ∧ Gr.OwnG 34 2 Gr.cs2 w' base v' (l ++ [r]) ∧ Below base w w' ∧ w.heap.size ≤ w'.heap.size := by
  have hb1 : Below w.heap.size w (w.alloc (.cells #[.int .i64 r.1, .int .i64 r.2] 34)) := (Below.refl _ _).alloc (Nat.le_refl _) _
  have h1 := h.below hb1 (Nat.le_refl _)
  obtain ⟨v', w', e1, e2, e3, e4⟩ := Gr.run_append_b (E := 34) (k := 2) (cs := Gr.cs2) (z := .agg #[.int .i64 0, .int .i64 0]) (bytes := 16) (m := [r]) (c := 1) (fun _ => rfl) (fun x u hu => by simp [Gr.cs2] at hu; rcases hu with rfl | rfl <;> rfl) Try.underlying31 infoRS rfl (by omega) ty h1 (Gr.one_cells r w 34) (by simp; omega) (by simp; omega) (Nat.le_trans hb hb1.size)
  exact ⟨v', w', e1, e2, ⟨e3.os.trans hb1.os, e3.tape.trans hb1.tape, e3.output.trans hb1.output, Nat.le_trans hb1.size e3.size, fun g hg => (e3.block g (by have := hb1.size; omega) (fun e => by have := (h.lt e.symm).2; omega)).trans (hb1.block g (by omega))⟩, Nat.le_trans hb1.size e3.size⟩
theorem rdz2_of {w : World} {A : Option Addr} {l : List (Int × Int)} (h : Gr.RdG 2 Gr.cs2 w A l) : RdZ2 w A l := fun i r hr => by
  obtain ⟨b, o, h1, h2, h3⟩ := h i r hr
  exact ⟨b, o, h1, h2, h3 0 _ rfl, h3 1 _ rfl⟩
theorem refnew_at (w : World) (C : Int) (A : Option Addr) (l : List (Int × Int)) (c : Nat) (hl : l.length ≤ 4611686018427387904) (hrd : Gr.RdG 2 Gr.cs2 w A l) (hz : ∀ r ∈ l, Gr.Z64' r.1 ∧ Gr.Z64' r.2) :
    Calls Try.prog 14 #[.int .i64 C, .slice A l.length c] w fun er w' => RfPost w (newS C l) er w' := by
  by_cases hC : C < 1 ∨ 40000 < C
  · have e1 : newS C l = .error 1 := if_pos hC
    rw [e1]
    exact refnew_arg w C A l.length c hC
  · obtain ⟨D, hD⟩ : ∃ D : Nat, C = (D : Int) := ⟨C.toNat, by omega⟩
    subst hD
    exact refnew_in w D A l c (by omega) (by omega) hl hrd hz
theorem can_ofG {w : World} {B : Nat} {A : Option Addr} {n c : Nat} {l : List (Int × Int)} (h : Gr.OwnG 34 2 Gr.cs2 w B (.slice A n c) l) (hn : n = l.length) : Rf.Can w B A n := by
  rcases h.2 with ⟨h1, h2⟩ | ⟨g, cap, cur, h1, h2, h3, h4, h5, h6, h7⟩
  · exact .inl (by omega)
  · injection h1 with h1
    exact .inr ⟨g, cap, cur, h1, h2, h3, by omega, h6⟩
theorem neq_e (a : Int) (W : World) : (binOp .neq 28 (.int .i64 a) (.int .i64 a)).run Try.prog W = .ok (.bool false) W := by
  rw [show binOp .neq 28 (.int .i64 a) (.int .i64 a) = pure (.bool (a != a)) from rfl]
  simp
theorem index_lop (b o n c i : Nat) (h : i < n) (w : World) : (Instr.indexAt 23 (.slice (some ⟨b, o, none⟩) n c) (.int .i64 (i : Int))).run Try.prog w = .ok (.pointer (some ⟨b, o + i * 3, none⟩)) w :=
  Gr.index_gen Try.underlying23 (by kernel_rfl) b o n c i h w
set_option maxHeartbeats 51200000 in
theorem walk (a0 : Int) (A : Option Addr) (l : List (Int × Int)) (cap : Nat) (A2 : Option Addr) (l2 : List (Int × Int × Int)) (cap2 : Nat) (w : World) (h0 : (Lit.int .i64 a0).wf = true) (hrd : Gr.RdG 2 Gr.cs2 w A l) (hz : ∀ y ∈ l, Gr.Z64' y.1 ∧ Gr.Z64' y.2) (hlc : l.length ≤ cap) (hcm : cap ≤ maxLen) (hn0 : A = none → cap = 0) (hsz : cap * 16 ≤ 140737488351232)
    (hrd2 : Gr.RdG 3 Gr.cs3 w A2 l2) (hz2 : ∀ y ∈ l2, Gr.Z64' y.1 ∧ Gr.Z64' y.2.1 ∧ Gr.Z64' y.2.2) (hlc2 : l2.length ≤ cap2) (hcm2 : cap2 ≤ maxLen) (hn2 : A2 = none → cap2 = 0) :
    Calls Try.prog 3 #[.int .i64 a0, .slice A l.length cap, .slice A2 l2.length cap2] w fun e w' => e = .returned (.bool true) ∧ Below w.heap.size w w' := by
  unfold maxLen at hcm hcm2
  have HRD := Lib.hid hrd
  have HZ := Lib.hid hz
  have HRD2 := Lib.hid hrd2
  have HZ2 := Lib.hid hz2
  obtain ⟨nl, hnl⟩ : ∃ nl, nl = l.length := ⟨_, rfl⟩
  have HNL := Lib.hid hnl
  have hnlb : nl * 16 ≤ 140737488351232 := by rw [hnl]; omega
  rw [← hnl] at hlc ⊢
  obtain ⟨n2, hn2e⟩ : ∃ n2, n2 = l2.length := ⟨_, rfl⟩
  have HN2 := Lib.hid hn2e
  rw [← hn2e] at hlc2 ⊢
  have HFW := Lib.hid (fun w => few_at w a0 h0)
  obtain ⟨C, hC⟩ : ∃ C, C = fewZ a0 := ⟨_, rfl⟩
  rw [← hC] at HFW
  clear h0 hrd hz hn0 hnl hC hsz hrd2 hz2 hn2 hn2e
  go_enter Try.func3, Try.ntmps3
  go_wp2_with fail
  refine (known_any _).mono ?_
  rintro e w1 ⟨rfl, b1⟩
  have L1 := Lib.hid b1
  clear b1
  go_wp2_with fail
  refine (nobody_at _).mono ?_
  rintro e w2 ⟨rfl, b1⟩
  have L2 : Hid (Below w.heap.size w w2) := Lib.hid (L1.out.trans (b1.mono L1.out.size))
  clear b1 L1
  go_wp2_with fail
  refine (free_nil _).mono ?_
  rintro e w1 ⟨rfl, b1⟩
  have L1 : Hid (Below w.heap.size w w1) := Lib.hid (L2.out.trans (b1.mono L2.out.size))
  clear b1 L2
  go_wp2_with fail
  refine (nobody_at _).mono ?_
  rintro e w2 ⟨rfl, b1⟩
  have L2 : Hid (Below w.heap.size w w2) := Lib.hid (L1.out.trans (b1.mono L1.out.size))
  clear b1 L1
  go_wp2_with fail
  refine (give_nil _).mono ?_
  rintro e w1 ⟨rfl, b1⟩
  have L1 : Hid (Below w.heap.size w w1) := Lib.hid (L2.out.trans (b1.mono L2.out.size))
  clear b1 L2
  go_wp2_with fail
  refine (nobody_at _).mono ?_
  rintro e w2 ⟨rfl, b1⟩
  have L2 : Hid (Below w.heap.size w w2) := Lib.hid (L1.out.trans (b1.mono L1.out.size))
  clear b1 L1
  go_wp2_with fail
  refine (copy_nil _).mono ?_
  rintro e w1 ⟨rfl, b1⟩
  have L1 : Hid (Below w.heap.size w w1) := Lib.hid (L2.out.trans (b1.mono L2.out.size))
  clear b1 L2
  go_wp2_with fail
  refine (nobody_at _).mono ?_
  rintro e w2 ⟨rfl, b1⟩
  have L2 : Hid (Below w.heap.size w w2) := Lib.hid (L1.out.trans (b1.mono L1.out.size))
  clear b1 L1
  go_wp2_with fail
  refine (settle_nil _).mono ?_
  rintro e w1 ⟨rfl, b1⟩
  have L1 : Hid (Below w.heap.size w w1) := Lib.hid (L2.out.trans (b1.mono L2.out.size))
  clear b1 L2
  go_wp2_with fail
  refine (HFW.out _).mono ?_
  rintro e w1' ⟨rfl, hw⟩
  have hw := hw.symm
  subst hw
  obtain ⟨B, hB⟩ : ∃ B, B = w1.heap.size := ⟨_, rfl⟩
  have HB : Hid (w.heap.size ≤ B) := Lib.hid (by rw [hB]; exact L1.out.size)
  have ST : Hid (Gr.OwnG 34 2 Gr.cs2 w1 B (.slice none 0 0) (l.take 0)) := Lib.hid (Gr.OwnG.nil _ _)
  have LB1 : Hid (Below B w1 w1) := Lib.hid (Below.refl _ _)
  have hBs : B ≤ w1.heap.size := by omega
  have HRD1 := Lib.hid (HRD.out.below L1.out)
  have HRB : Hid (∀ wr, Below B w1 wr → Gr.RdG 2 Gr.cs2 wr A l) := Lib.hid fun wr hb => by
    rw [hB] at hb
    exact HRD1.out.below hb
  have HRD3 := Lib.hid (HRD2.out.below L1.out)
  have HRB2 : Hid (∀ wr, Below B w1 wr → Gr.RdG 3 Gr.cs3 wr A2 l2) := Lib.hid fun wr hb => by
    rw [hB] at hb
    exact HRD3.out.below hb
  clear hB HRD HFW HRD2 HRD3 HRD1
  go_wp2_with fail
  go_loopw [7, 8] (fun v y wr => ∃ i : Nat, i ≤ nl ∧ y = .int .i64 (i : Int) ∧ Hid (Gr.OwnG 34 2 Gr.cs2 wr B v (l.take i)) ∧ Hid (Below B w1 wr) ∧ B ≤ wr.heap.size) (fun _ y _ => nl - (intOf y).toNat)
  case atStart => exact ⟨0, by omega, rfl, ST, LB1, hBs⟩
  case round =>
    clear ST LB1 hBs
    obtain ⟨i, hi, rfl, HO, LB, hBs⟩ := hrel
    by_cases hlt : i < nl
    · have i1 : (i : Int) < (nl : Int) := by omega
      have hil : i < l.length := by have := HNL.out; omega
      obtain ⟨r, hr⟩ : ∃ r, r = l[i] := ⟨_, rfl⟩
      have hri : l[i]? = some r := by rw [hr]; exact List.getElem?_eq_getElem hil
      obtain ⟨g, o, hA, hgb, hcells⟩ := HRB.out _ LB.out i r hri
      obtain ⟨A3, c2, hv, _, _, _, _, _⟩ := HO.out.shape (fun _ => rfl)
      have hlen : (l.take i).length = i := by rw [List.length_take]; omega
      rw [hlen] at hv
      have htk : l.take (i + 1) = l.take i ++ [r] := by
        rw [List.take_succ_eq_append_getElem hil, hr]
      have HTK := Lib.hid (⟨htk, hlen, hv⟩ : _ ∧ _ ∧ _)
      subst hv
      subst hA
      have HCF : Hid (∀ w', Below B w1 w' → w'.cell? ⟨g, o + i * 2, none⟩ = some (.int .i64 r.1) ∧ w'.cell? ⟨g, o + i * 2 + 1, none⟩ = some (.int .i64 r.2)) := Lib.hid fun w' hb => by
        obtain ⟨g', o', hA', _, hc'⟩ := HRB.out w' hb i r hri
        injection hA' with e1
        injection e1 with e2 e3
        subst e2 e3
        exact ⟨by have := hc' 0 (.int .i64 r.1) rfl; rw [Nat.add_zero] at this; exact this, hc' 1 (.int .i64 r.2) rfl⟩
      have HSD := Lib.hid (HCF.out _ LB.out.drew)
      obtain ⟨x, y⟩ := r
      clear hri hr hil hgb hcells htk hlen
      go_upto_region 8 with (fail)
      refine region_anyZ (fun w' => w'.cell? ⟨g, o + i * 2, none⟩ = some (.int .i64 x) ∧ w'.cell? ⟨g, o + i * 2 + 1, none⟩ = some (.int .i64 y)) 15 (by kernel_rfl) ?_
      refine takeG 0 (.move (.tmp 7)) (some 50) none (.slice A3 i c2) (by kernel_rfl) (by kernel_rfl) (by kernel_rfl) (fun _ _ _ h => h) (fun o' wq e hS => exec_move wq e (by kernel_rfl)) HSD.out ?_
      refine takeG 1 (.move (.tmp 1)) (some 51) none (.slice (some ⟨g, o, none⟩) nl cap) (by kernel_rfl) (by kernel_rfl) (by kernel_rfl) (fun _ _ _ h => h) (fun o' wq e hS => exec_move wq e (by kernel_rfl)) HSD.out ?_
      refine takeG 2 (.move (.tmp 8)) (some 52) none (.int .i64 (i : Int)) (by kernel_rfl) (by kernel_rfl) (by kernel_rfl) (fun _ _ _ h => h) (fun o' wq e hS => exec_move wq e (by kernel_rfl)) HSD.out ?_
      refine takeG 3 (.indexAddr 22 (.tmp 51) (.tmp 52)) (some 53) none (.pointer (some ⟨g, o + i * 2, none⟩)) (by kernel_rfl) (by kernel_rfl) (by kernel_rfl) (fun _ _ _ h => h) (fun o' wq e hS => exec_index (u1 := .slice (some ⟨g, o, none⟩) nl cap) (u2 := .int .i64 (i : Int)) wq e (by kernel_rfl) (by kernel_rfl) (index_ref g o nl cap i hlt _)) HSD.out ?_
      refine takeG 4 (.fieldAddr 33 (.tmp 53) 0) (some 54) none (.pointer (some ⟨g, o + i * 2, none⟩)) (by kernel_rfl) (by kernel_rfl) (by kernel_rfl) (fun _ _ _ h => h) (fun o' wq e hS => exec_field (u := .pointer (some ⟨g, o + i * 2, none⟩)) wq e (by kernel_rfl) (by kernel_rfl)) HSD.out ?_
      refine takeG 5 (.load 3 (.tmp 54)) (some 55) none (.int .i64 x) (by kernel_rfl) (by kernel_rfl) (by kernel_rfl) (fun _ _ _ h => h) (fun o' wq e hS => exec_load (x := (.tmp 54)) e (by kernel_rfl) (load_one Try.underlying3 (by kernel_rfl) hS.1)) HSD.out ?_
      refine takeG 6 (.move (.tmp 1)) (some 56) none (.slice (some ⟨g, o, none⟩) nl cap) (by kernel_rfl) (by kernel_rfl) (by kernel_rfl) (fun _ _ _ h => h) (fun o' wq e hS => exec_move wq e (by kernel_rfl)) HSD.out ?_
      refine takeG 7 (.move (.tmp 8)) (some 57) none (.int .i64 (i : Int)) (by kernel_rfl) (by kernel_rfl) (by kernel_rfl) (fun _ _ _ h => h) (fun o' wq e hS => exec_move wq e (by kernel_rfl)) HSD.out ?_
      refine takeG 8 (.indexAddr 22 (.tmp 56) (.tmp 57)) (some 58) none (.pointer (some ⟨g, o + i * 2, none⟩)) (by kernel_rfl) (by kernel_rfl) (by kernel_rfl) (fun _ _ _ h => h) (fun o' wq e hS => exec_index (u1 := .slice (some ⟨g, o, none⟩) nl cap) (u2 := .int .i64 (i : Int)) wq e (by kernel_rfl) (by kernel_rfl) (index_ref g o nl cap i hlt _)) HSD.out ?_
      refine takeG 9 (.fieldAddr 33 (.tmp 58) 1) (some 59) none (.pointer (some ⟨g, o + i * 2 + 1, none⟩)) (by kernel_rfl) (by kernel_rfl) (by kernel_rfl) (fun _ _ _ h => h) (fun o' wq e hS => exec_field (u := .pointer (some ⟨g, o + i * 2, none⟩)) wq e (by kernel_rfl) (by kernel_rfl)) HSD.out ?_
      refine takeG 10 (.load 3 (.tmp 59)) (some 60) none (.int .i64 y) (by kernel_rfl) (by kernel_rfl) (by kernel_rfl) (fun _ _ _ h => h) (fun o' wq e hS => exec_load (x := (.tmp 59)) e (by kernel_rfl) (load_one Try.underlying3 (by kernel_rfl) hS.2)) HSD.out ?_
      refine takeG 11 (.build 34 #[(0, (.tmp 55)), (1, (.tmp 60))]) (some 61) none (.agg #[.int .i64 x, .int .i64 y]) (by kernel_rfl) (by kernel_rfl) (by kernel_rfl) (fun _ _ _ h => h) (fun o' wq e hS => exec_bld2 (u0 := .int .i64 x) (u1 := .int .i64 y) wq e (by kernel_rfl) (by kernel_rfl) (by kernel_rfl)) HSD.out ?_
      refine loneG 12 (.buildSlice 31 1 #[(0, (.tmp 61))]) (some 62) none (by kernel_rfl) (by kernel_rfl) (by kernel_rfl) ?_
      intro o' ho hod
      refine wp_val (exec_buildSlice1 ho (by kernel_rfl) (bs_range x y _)) ?_
      rw [hod]
      clear hod ho
      have HS2 := Lib.hid (HCF.out _ (LB.out.drew.alloc hBs (.cells #[.int .i64 x, .int .i64 y] 34)))
      refine ⟨fun _ => HS2.out, ?_⟩
      refine loneG 13 (.call ⟨.builtin .append, #[(.tmp 50), (.tmp 62)], #[31, 31]⟩) (some 63) none (by kernel_rfl) (by kernel_rfl) (by kernel_rfl) ?_
      intro o' ho hod
      obtain ⟨v2, w2, hrun, ho2, hb2, hsz2⟩ := append_rgB (w := wr.drew) (HO.out.keep fun _ _ => rfl) (x, y) (by rw [HTK.out.2.1]; omega) hBs o'.type
      refine Gr.wp_append 31 (.tmp 50) (.tmp 62) ho (by kernel_rfl) (by kernel_rfl) hrun ?_
      rw [hod]
      clear hod ho
      have LB2 := Lib.hid (LB.out.drew.trans hb2)
      have HO2 : Hid (Gr.OwnG 34 2 Gr.cs2 w2 B v2 (l.take (i + 1))) := Lib.hid (by rw [HTK.out.1]; exact ho2)
      have hBs2 : B ≤ w2.heap.size := Nat.le_trans hBs hsz2
      have HS3 := Lib.hid (HCF.out w2 LB2.out)
      refine ⟨fun _ => HS3.out, ?_⟩
      refine lastS 14 (.assign (.tmp 63)) (some 7) (v2) (by kernel_rfl) (by kernel_rfl) (by kernel_rfl) HS3.out (fun o' e => exec_assign _ e (by kernel_rfl)) ?_
      simp only [put_some, put_none, List.setIfInBounds_toArray, List.set_cons_succ, List.set_cons_zero]
      clear hrun
      go_wp2_with fail
      go_roundw
      case rel => exact ⟨i + 1, by omega, by go_num, HO2, LB2, hBs2⟩
      case measure => simp [intOf]; omega
    · have i1 : ¬ ((i : Int) < (nl : Int)) := by omega
      have HO1 := HO
      rw [List.take_of_length_le (by have := HNL.out; omega)] at HO1
      obtain ⟨A3, c3, hv, hrd3, _, _, _, hin⟩ := HO1.out.shape (fun _ => rfl)
      have hl62 : l.length ≤ 4611686018427387904 := by have := HNL.out; omega
      have HN := Lib.hid (new_at wr C A3 l c3 hl62 (rdz2_of hrd3) HZ.out)
      have HM : Hid (∀ w2, Below wr.heap.size wr w2 → Calls Try.prog 14 #[.int .i64 C, .slice A nl cap] w2 fun er w' => RfPost w2 (newS C l) er w') := Lib.hid fun w2 hb => by
        have := refnew_at w2 C A l cap hl62 (HRB.out w2 (LB.out.trans (hb.mono hBs))) HZ.out
        rw [← HNL.out] at this
        exact this
      rw [← HNL.out] at hv HN
      have HCN : Hid (Rf.Can wr B A3 nl) := Lib.hid (by
        have := HO1.out
        rw [hv] at this
        exact can_ofG this HNL.out)
      obtain ⟨wo, hwo⟩ : ∃ wo, wo = wr := ⟨_, rfl⟩
      subst hwo
      have HIN : Hid (∀ g o s, A3 = some ⟨g, o, s⟩ → g < wo.heap.size) := Lib.hid fun g o s e => (hin g o s e).2
      have LBo := LB
      subst hv
      clear hlt hrd3 HO HO1 LB hi hin HRB
      go_wp2_with fail
      refine HN.out.mono ?_
      rintro e w3 ⟨hp, b3⟩
      have L3 := Lib.hid b3
      have HC3 := Lib.hid (HCN.out.below b3)
      clear HN HCN b3
      cases hq : newS C l with
      | error x =>
        rw [hq] at hp HM
        obtain rfl := hp
        have hxx : (x != x) = false := by simp
        clear hq
        go_wp2_with fail
        refine (HM.out _ L3.out).mono ?_
        rintro e w4 ⟨rfl, b4⟩
        have L4 : Hid (Below wo.heap.size wo w4) := Lib.hid (L3.out.trans (b4.mono L3.out.size))
        have HC4 := Lib.hid (HC3.out.below b4)
        have LW : Hid (Below B w1 w4) := Lib.hid (LBo.out.trans (L4.out.mono hBs))
        clear b4 HM HC3
        go_wp2_with fail
        go_loopw [13] (fun y wq => ∃ i : Nat, i ≤ nl ∧ y = .int .i64 (i : Int) ∧ Hid (Rf.Can wq B A3 nl) ∧ Hid (Below B w1 wq)) (fun y _ => nl - (intOf y).toNat)
        case atStart => exact ⟨0, by omega, rfl, HC4, LW⟩
        case round =>
          clear HC4 LW i1
          obtain ⟨i, hi, rfl, HC, LW⟩ := hrel
          by_cases hlt : i < nl
          · have i1 : (i : Int) < (nl : Int) := by omega
            obtain ⟨g, v0, v1, hA, hgB, q0, f0, q1, f1⟩ := HC.out.store hlt 0
            have HC9 : Hid (Rf.Can ((wr.setCell ⟨g, i * 2, none⟩ (.int .i64 0)).setCell ⟨g, i * 2 + 1, none⟩ (.int .i64 0)) B A3 nl) := Lib.hid ((HC.out.set1 _ _ _).set1 _ _ _)
            have L9 : Hid (Below B w1 ((wr.setCell ⟨g, i * 2, none⟩ (.int .i64 0)).setCell ⟨g, i * 2 + 1, none⟩ (.int .i64 0))) := Lib.hid ((LW.out.setCell (p := ⟨g, i * 2, none⟩) hgB _).setCell (p := ⟨g, i * 2 + 1, none⟩) hgB _)
            clear HIN
            subst hA
            clear HC LW
            go_wp2_with fail
            go_roundw
            case rel => exact ⟨i + 1, by omega, by go_num, HC9, L9⟩
            case measure => simp [intOf]; omega
          · have i1 : ¬ ((i : Int) < (nl : Int)) := by omega
            clear hlt
            go_wp2_with fail
            go_ret
            exact ⟨rfl, L1.out.trans (LW.out.mono HB.out)⟩
      | ok s =>
        rw [hq] at hp HM
        obtain ⟨b, m, rfl, hs3⟩ := hp
        have HS3 := Lib.hid hs3
        clear hq hs3
        go_wp2_with fail
        refine (HM.out _ L3.out).mono ?_
        rintro e w4 ⟨rb, rfl, r4, b4⟩
        have L4 : Hid (Below wo.heap.size wo w4) := Lib.hid (L3.out.trans (b4.mono L3.out.size))
        have HC4 := Lib.hid (HC3.out.below b4)
        have LW : Hid (Below B w1 w4) := Lib.hid (LBo.out.trans (L4.out.mono hBs))
        obtain ⟨O2, hO2⟩ : ∃ O2 : Nat → Prop, O2 = fun q => w3.heap.size ≤ q ∧ q < w4.heap.size := ⟨_, rfl⟩
        have hr := r4.narrow
        rw [show (fun q => w3.heap.size ≤ q ∧ q < w4.heap.size) = O2 from hO2.symm] at hr
        obtain ⟨O, hO⟩ : ∃ O : Nat → Prop, O = fun q => wo.heap.size ≤ q ∧ q < w3.heap.size := ⟨_, rfl⟩
        have hs : SpO O w4 b m s := by
          have := HS3.out.o
          rw [show (fun g => wo.heap.size ≤ g ∧ g < w3.heap.size) = O from hO.symm] at this
          exact this.keep b4.size fun g hg => b4.block g (this.1 g hg)
        have HSO := Lib.hid hs
        have HRO := Lib.hid hr
        have HOO : Hid ((∀ g, O g → wo.heap.size ≤ g ∧ ¬ O2 g) ∧ ∀ g, O2 g → wo.heap.size ≤ g ∧ g < w4.heap.size) := Lib.hid ⟨fun g hg => by rw [hO] at hg; rw [hO2]; exact ⟨hg.1, fun h => by have := hg.2; have := h.1; omega⟩, fun g hg => by rw [hO2] at hg; exact ⟨Nat.le_trans L3.out.size hg.1, hg.2⟩⟩
        have LZ : Hid (w4.heap.size ≤ w4.heap.size) := Lib.hid (Nat.le_refl _)
        clear b4 HM HC3 r4 hr hs HS3 hO hO2
        go_wp2_with fail
        go_loopw [13] (fun y wq => ∃ i : Nat, i ≤ nl ∧ y = .int .i64 (i : Int) ∧ Hid (Rf.Can wq B A3 nl) ∧ Hid (Below B w1 wq) ∧ Hid (SpO O wq b m s) ∧ Hid (RefS wq O2 rb s) ∧ Hid (w4.heap.size ≤ wq.heap.size)) (fun y _ => nl - (intOf y).toNat)
        case atStart => exact ⟨0, by omega, rfl, HC4, LW, HSO, HRO, LZ⟩
        case round =>
          clear HC4 LW i1 HSO HRO LZ
          obtain ⟨i, hi, rfl, HC, LW, HSO, HRO, LZ⟩ := hrel
          by_cases hlt : i < nl
          · have i1 : (i : Int) < (nl : Int) := by omega
            obtain ⟨g, v0, v1, hA, hgB, q0, f0, q1, f1⟩ := HC.out.store hlt 0
            have hgw := HIN.out g 0 none hA
            have HC9 : Hid (Rf.Can ((wr.setCell ⟨g, i * 2, none⟩ (.int .i64 0)).setCell ⟨g, i * 2 + 1, none⟩ (.int .i64 0)) B A3 nl) := Lib.hid ((HC.out.set1 _ _ _).set1 _ _ _)
            have L9 : Hid (Below B w1 ((wr.setCell ⟨g, i * 2, none⟩ (.int .i64 0)).setCell ⟨g, i * 2 + 1, none⟩ (.int .i64 0))) := Lib.hid ((LW.out.setCell (p := ⟨g, i * 2, none⟩) hgB _).setCell (p := ⟨g, i * 2 + 1, none⟩) hgB _)
            have hfr : Frm (fun q => q = g) wr ((wr.setCell ⟨g, i * 2, none⟩ (.int .i64 0)).setCell ⟨g, i * 2 + 1, none⟩ (.int .i64 0)) := ((Frm.refl (fun q => q = g) wr).setCell (p := ⟨g, i * 2, none⟩) rfl _).setCell (p := ⟨g, i * 2 + 1, none⟩) rfl _
            have S9 := Lib.hid (HSO.out.beside hfr (fun q hq e => by have := (HOO.out.1 q hq).1; omega))
            have R9 := Lib.hid (HRO.out.frm hfr (fun q hq e => by have := (HOO.out.2 q hq).1; omega))
            have Z9 := Lib.hid (Nat.le_trans LZ.out hfr.size)
            clear HIN
            subst hA
            clear HC LW hfr HSO HRO LZ
            go_wp2_with fail
            go_roundw
            case rel => exact ⟨i + 1, by omega, by go_num, HC9, L9, S9, R9, Z9⟩
            case measure => simp [intOf]; omega
          · have i1 : ¬ ((i : Int) < (nl : Int)) := by omega
            obtain ⟨w5, hw5⟩ : ∃ w5, w5 = wr := ⟨_, rfl⟩
            subst hw5
            obtain ⟨B5, hB5⟩ : ∃ B5, B5 = wo.heap.size := ⟨_, rfl⟩
            have hB5w : B5 ≤ w5.heap.size := by rw [hB5]; exact Nat.le_trans L4.out.size LZ.out
            have hBB5 : B ≤ B5 := by omega
            have HD0 : Hid (Duo O2 B5 w5 w5 b m rb s s) := Lib.hid ⟨O, HSO.out, HRO.out, by rw [hB5]; exact HOO.out.1, fun g hg => ⟨by rw [hB5]; exact (HOO.out.2 g hg).1, Nat.lt_of_lt_of_le (HOO.out.2 g hg).2 LZ.out⟩, hB5w, Below.refl _ _⟩
            have HCO : Hid (∀ W, Below B5 w5 W → Gr.RdG 3 Gr.cs3 W A2 l2) := Lib.hid fun W hb => HRB2.out W (LW.out.trans (hb.mono hBB5))
            have HEND : Hid (∀ W, Below B5 w5 W → Below w.heap.size w W) := Lib.hid fun W hb => L1.out.trans ((LW.out.trans (hb.mono hBB5)).mono HB.out)
            clear hlt HIN HSO HRO LZ HOO hB5 HC LW HRB2 L4 LBo
            go_wp2_with fail
            clear i1 hi
            go_loopw [9, 14] (fun u y wq => ∃ (i b m : Nat) (s : SS), i ≤ n2 ∧ i ≤ 100 ∧ y = .int .i64 (i : Int) ∧ u = .pointer (some ⟨b, 0, none⟩) ∧ Hid (Duo O2 B5 w5 wq b m rb s s)) (fun _ y _ => 100 - (intOf y).toNat)
            case atStart => exact ⟨0, b, m, s, by omega, by omega, rfl, rfl, HD0⟩
            case round =>
              clear HD0
              obtain ⟨i, b, m, s, hi, hi2, rfl, rfl, HD⟩ := hrel
              by_cases hlt : i < n2
              · have i1 : (i : Int) < (n2 : Int) := by omega
                by_cases hl100 : i < 100
                · have i2 : (i : Int) < 100 := by omega
                  have hil : i < l2.length := by have := HN2.out; omega
                  obtain ⟨r, hr⟩ : ∃ r, r = l2[i] := ⟨_, rfl⟩
                  have hri : l2[i]? = some r := by rw [hr]; exact List.getElem?_eq_getElem hil
                  obtain ⟨g, o, hA, hgb, kk⟩ := HCO.out _ HD.out.below i r hri
                  obtain ⟨_, ⟨zx1, zx2⟩, zy1, zy2⟩ := HZ2.out r (List.mem_of_getElem? hri)
                  have HCL : Hid (∀ W, Below B5 w5 W → W.cell? ⟨g, o + i * 3 + 1, none⟩ = some (.int .i64 r.2.1) ∧ W.cell? ⟨g, o + i * 3 + 2, none⟩ = some (.int .i64 r.2.2)) := Lib.hid fun W hb => by
                    obtain ⟨g', o', hA', _, hc'⟩ := HCO.out W hb i r hri
                    rw [hA] at hA'
                    injection hA' with e1
                    injection e1 with e2 e3
                    subst e2 e3
                    exact ⟨hc' 1 (.int .i64 r.2.1) rfl, hc' 2 (.int .i64 r.2.2) rfl⟩
                  have k0 := kk 0 (.int .i64 r.1) rfl
                  rw [Nat.add_zero] at k0
                  obtain ⟨k, x, y⟩ := r
                  dsimp only at zx1 zx2 zy1 zy2 k0
                  subst hA
                  clear hri hr hil hgb kk
                  by_cases hk1 : k = 1
                  · subst hk1
                    have k2 := (HCL.out _ HD.out.below).2
                    have HT := Lib.hid (HD.out.spc fun O hh => take_o hh y (by omega))
                    obtain ⟨s', hs'⟩ : ∃ s', s' = (takeS s y).2 := ⟨_, rfl⟩
                    obtain ⟨ta, hta⟩ : ∃ ta, ta = (takeS s y).1.1 := ⟨_, rfl⟩
                    obtain ⟨te, hte⟩ : ∃ te, te = (takeS s y).1.2 := ⟨_, rfl⟩
                    have HU : Hid (∀ W, Duo O2 B5 w5 W b m rb s' s → Calls Try.prog 16 #[.pointer (some ⟨rb, 0, none⟩), .int .i64 y] W fun e w' => e = .returned (.tuple #[.int .i64 ta, .int .i64 te]) ∧ Duo O2 B5 w5 w' b m rb s' s') := Lib.hid fun W hd => by
                      rw [hta, hte, hs'] at *
                      exact hd.rfc fun hh => take_rs hh y (by omega)
                    rw [← hs', ← hta, ← hte] at HT
                    have x1 : (ta != ta) = false := by simp
                    have x2 : (te != te) = false := by simp
                    clear hs' hta hte HD
                    go_wp2_with fail
                    refine HT.out.mono ?_
                    rintro e w7 ⟨rfl, d7⟩
                    have k3 := (HCL.out _ d7.below).2
                    have HT2 := Lib.hid (HU.out _ d7)
                    clear d7 HT HU k2 k0
                    go_wp2_with fail
                    refine HT2.out.mono ?_
                    rintro e w8 ⟨rfl, d8⟩
                    have HA8 := Lib.hid d8.alike
                    clear d8 HT2 k3
                    go_wp2_with fail
                    refine HA8.out.mono ?_
                    rintro e w9 ⟨rfl, d9⟩
                    have D9 := Lib.hid d9
                    clear d9 HA8
                    go_wp2_with fail
                    go_roundw
                    case rel => exact ⟨i + 1, b, m, s', by omega, by omega, by go_num, rfl, D9⟩
                    case measure => simp [intOf]; omega
                  · have n1 : (k == 1) = false := by simp [hk1]
                    by_cases hk2 : k = 2
                    · subst hk2
                      have HDD : Hid (Duo O2 B5 w5 wr.drew b m rb s s) := Lib.hid (HD.out.keep (Below.refl _ _).drew)
                      have HS := Lib.hid (HCL.out _ HDD.out.below)
                      have HG1 := Lib.hid (HDD.out.spc fun O hh => give_o hh x y zx1 zx2 zy1 zy2)
                      obtain ⟨s', hs'⟩ : ∃ s', s' = (giveS s x y).2 := ⟨_, rfl⟩
                      obtain ⟨ge, hge⟩ : ∃ ge, ge = (giveS s x y).1 := ⟨_, rfl⟩
                      have HU : Hid (∀ W, Duo O2 B5 w5 W b m rb s' s → Calls Try.prog 17 #[.pointer (some ⟨rb, 0, none⟩), .int .i64 x, .int .i64 y] W fun e w' => e = .returned (.int .i64 ge) ∧ Duo O2 B5 w5 w' b m rb s' s') := Lib.hid fun W hd => by
                        rw [hge, hs'] at *
                        exact hd.rfc fun hh => give_rs hh x y zx1 zx2 zy1 zy2
                      rw [← hs', ← hge] at HG1
                      clear hs' hge HD
                      go_upto_region 29 with (fail)
                      refine region_anyZ (fun w' => w'.cell? ⟨g, o + i * 3 + 1, none⟩ = some (.int .i64 x) ∧ w'.cell? ⟨g, o + i * 3 + 2, none⟩ = some (.int .i64 y)) 25 (by kernel_rfl) ?_
                      refine takeG 0 (.move (.tmp 9)) (some 145) none (.pointer (some ⟨b, 0, none⟩)) (by kernel_rfl) (by kernel_rfl) (by kernel_rfl) (fun _ _ _ h => h) (fun o' wq e hS => exec_move wq e (by kernel_rfl)) HS.out ?_
                      refine takeG 1 (.move (.tmp 2)) (some 146) none (.slice (some ⟨g, o, none⟩) n2 cap2) (by kernel_rfl) (by kernel_rfl) (by kernel_rfl) (fun _ _ _ h => h) (fun o' wq e hS => exec_move wq e (by kernel_rfl)) HS.out ?_
                      refine takeG 2 (.move (.tmp 14)) (some 147) none (.int .i64 (i : Int)) (by kernel_rfl) (by kernel_rfl) (by kernel_rfl) (fun _ _ _ h => h) (fun o' wq e hS => exec_move wq e (by kernel_rfl)) HS.out ?_
                      refine takeG 3 (.indexAddr 23 (.tmp 146) (.tmp 147)) (some 148) none (.pointer (some ⟨g, o + i * 3, none⟩)) (by kernel_rfl) (by kernel_rfl) (by kernel_rfl) (fun _ _ _ h => h) (fun o' wq e hS => exec_index (u1 := .slice (some ⟨g, o, none⟩) n2 cap2) (u2 := .int .i64 (i : Int)) wq e (by kernel_rfl) (by kernel_rfl) (index_lop g o n2 cap2 i hlt _)) HS.out ?_
                      refine takeG 4 (.fieldAddr 41 (.tmp 148) 1) (some 149) none (.pointer (some ⟨g, o + i * 3 + 1, none⟩)) (by kernel_rfl) (by kernel_rfl) (by kernel_rfl) (fun _ _ _ h => h) (fun o' wq e hS => exec_field (u := .pointer (some ⟨g, o + i * 3, none⟩)) wq e (by kernel_rfl) (by kernel_rfl)) HS.out ?_
                      refine takeG 5 (.load 3 (.tmp 149)) (some 150) none (.int .i64 x) (by kernel_rfl) (by kernel_rfl) (by kernel_rfl) (fun _ _ _ h => h) (fun o' wq e hS => exec_load (x := (.tmp 149)) e (by kernel_rfl) (load_one Try.underlying3 (by kernel_rfl) hS.1)) HS.out ?_
                      refine takeG 6 (.move (.tmp 2)) (some 151) none (.slice (some ⟨g, o, none⟩) n2 cap2) (by kernel_rfl) (by kernel_rfl) (by kernel_rfl) (fun _ _ _ h => h) (fun o' wq e hS => exec_move wq e (by kernel_rfl)) HS.out ?_
                      refine takeG 7 (.move (.tmp 14)) (some 152) none (.int .i64 (i : Int)) (by kernel_rfl) (by kernel_rfl) (by kernel_rfl) (fun _ _ _ h => h) (fun o' wq e hS => exec_move wq e (by kernel_rfl)) HS.out ?_
                      refine takeG 8 (.indexAddr 23 (.tmp 151) (.tmp 152)) (some 153) none (.pointer (some ⟨g, o + i * 3, none⟩)) (by kernel_rfl) (by kernel_rfl) (by kernel_rfl) (fun _ _ _ h => h) (fun o' wq e hS => exec_index (u1 := .slice (some ⟨g, o, none⟩) n2 cap2) (u2 := .int .i64 (i : Int)) wq e (by kernel_rfl) (by kernel_rfl) (index_lop g o n2 cap2 i hlt _)) HS.out ?_
                      refine takeG 9 (.fieldAddr 41 (.tmp 153) 2) (some 154) none (.pointer (some ⟨g, o + i * 3 + 2, none⟩)) (by kernel_rfl) (by kernel_rfl) (by kernel_rfl) (fun _ _ _ h => h) (fun o' wq e hS => exec_field (u := .pointer (some ⟨g, o + i * 3, none⟩)) wq e (by kernel_rfl) (by kernel_rfl)) HS.out ?_
                      refine takeG 10 (.load 3 (.tmp 154)) (some 155) none (.int .i64 y) (by kernel_rfl) (by kernel_rfl) (by kernel_rfl) (fun _ _ _ h => h) (fun o' wq e hS => exec_load (x := (.tmp 154)) e (by kernel_rfl) (load_one Try.underlying3 (by kernel_rfl) hS.2)) HS.out ?_
                      refine takeG 12 (.move (.tmp 11)) (some 157) none (.pointer (some ⟨rb, 0, none⟩)) (by kernel_rfl) (by kernel_rfl) (by kernel_rfl) (fun _ _ _ h => h) (fun o' wq e hS => exec_move wq e (by kernel_rfl)) HS.out ?_
                      refine takeG 13 (.move (.tmp 2)) (some 158) none (.slice (some ⟨g, o, none⟩) n2 cap2) (by kernel_rfl) (by kernel_rfl) (by kernel_rfl) (fun _ _ _ h => h) (fun o' wq e hS => exec_move wq e (by kernel_rfl)) HS.out ?_
                      refine takeG 14 (.move (.tmp 14)) (some 159) none (.int .i64 (i : Int)) (by kernel_rfl) (by kernel_rfl) (by kernel_rfl) (fun _ _ _ h => h) (fun o' wq e hS => exec_move wq e (by kernel_rfl)) HS.out ?_
                      refine takeG 15 (.indexAddr 23 (.tmp 158) (.tmp 159)) (some 160) none (.pointer (some ⟨g, o + i * 3, none⟩)) (by kernel_rfl) (by kernel_rfl) (by kernel_rfl) (fun _ _ _ h => h) (fun o' wq e hS => exec_index (u1 := .slice (some ⟨g, o, none⟩) n2 cap2) (u2 := .int .i64 (i : Int)) wq e (by kernel_rfl) (by kernel_rfl) (index_lop g o n2 cap2 i hlt _)) HS.out ?_
                      refine takeG 16 (.fieldAddr 41 (.tmp 160) 1) (some 161) none (.pointer (some ⟨g, o + i * 3 + 1, none⟩)) (by kernel_rfl) (by kernel_rfl) (by kernel_rfl) (fun _ _ _ h => h) (fun o' wq e hS => exec_field (u := .pointer (some ⟨g, o + i * 3, none⟩)) wq e (by kernel_rfl) (by kernel_rfl)) HS.out ?_
                      refine takeG 17 (.load 3 (.tmp 161)) (some 162) none (.int .i64 x) (by kernel_rfl) (by kernel_rfl) (by kernel_rfl) (fun _ _ _ h => h) (fun o' wq e hS => exec_load (x := (.tmp 161)) e (by kernel_rfl) (load_one Try.underlying3 (by kernel_rfl) hS.1)) HS.out ?_
                      refine takeG 18 (.move (.tmp 2)) (some 163) none (.slice (some ⟨g, o, none⟩) n2 cap2) (by kernel_rfl) (by kernel_rfl) (by kernel_rfl) (fun _ _ _ h => h) (fun o' wq e hS => exec_move wq e (by kernel_rfl)) HS.out ?_
                      refine takeG 19 (.move (.tmp 14)) (some 164) none (.int .i64 (i : Int)) (by kernel_rfl) (by kernel_rfl) (by kernel_rfl) (fun _ _ _ h => h) (fun o' wq e hS => exec_move wq e (by kernel_rfl)) HS.out ?_
                      refine takeG 20 (.indexAddr 23 (.tmp 163) (.tmp 164)) (some 165) none (.pointer (some ⟨g, o + i * 3, none⟩)) (by kernel_rfl) (by kernel_rfl) (by kernel_rfl) (fun _ _ _ h => h) (fun o' wq e hS => exec_index (u1 := .slice (some ⟨g, o, none⟩) n2 cap2) (u2 := .int .i64 (i : Int)) wq e (by kernel_rfl) (by kernel_rfl) (index_lop g o n2 cap2 i hlt _)) HS.out ?_
                      refine takeG 21 (.fieldAddr 41 (.tmp 165) 2) (some 166) none (.pointer (some ⟨g, o + i * 3 + 2, none⟩)) (by kernel_rfl) (by kernel_rfl) (by kernel_rfl) (fun _ _ _ h => h) (fun o' wq e hS => exec_field (u := .pointer (some ⟨g, o + i * 3, none⟩)) wq e (by kernel_rfl) (by kernel_rfl)) HS.out ?_
                      refine takeG 22 (.load 3 (.tmp 166)) (some 167) none (.int .i64 y) (by kernel_rfl) (by kernel_rfl) (by kernel_rfl) (fun _ _ _ h => h) (fun o' wq e hS => exec_load (x := (.tmp 166)) e (by kernel_rfl) (load_one Try.underlying3 (by kernel_rfl) hS.2)) HS.out ?_
                      refine loneG 11 (.call ⟨.value (.func 9), #[(.tmp 145), (.tmp 150), (.tmp 155)], #[25, 3, 3]⟩) (some 156) none (by kernel_rfl) (by kernel_rfl) (by kernel_rfl) ?_
                      intro o' ho hod
                      refine wp_callC (f := 9) (args := #[.pointer (some ⟨b, 0, none⟩), .int .i64 x, .int .i64 y]) (by cases o'; cases ho; kernel_rfl) HG1.out ?_
                      rintro ee W4 ⟨rfl, d4⟩
                      refine ⟨.int .i64 ge, rfl, ?_⟩
                      rw [hod]
                      clear hod ho
                      have HS4 := Lib.hid (HCL.out _ d4.below)
                      have HG2 := Lib.hid (HU.out _ d4)
                      clear d4 HG1 HU HS
                      refine ⟨fun _ => HS4.out, ?_⟩
                      refine loneG 23 (.call ⟨.value (.func 17), #[(.tmp 157), (.tmp 162), (.tmp 167)], #[37, 3, 3]⟩) (some 168) none (by kernel_rfl) (by kernel_rfl) (by kernel_rfl) ?_
                      intro o' ho hod
                      refine wp_callC (f := 17) (args := #[.pointer (some ⟨rb, 0, none⟩), .int .i64 x, .int .i64 y]) (by cases o'; cases ho; kernel_rfl) HG2.out ?_
                      rintro ee W6 ⟨rfl, d6⟩
                      refine ⟨.int .i64 ge, rfl, ?_⟩
                      rw [hod]
                      clear hod ho
                      have HS6 := Lib.hid (HCL.out _ d6.below)
                      have HA8 := Lib.hid d6.alike
                      clear d6 HG2 HS4
                      refine ⟨fun _ => HS6.out, ?_⟩
                      refine lastS 24 (.binOp .neq 28 (.tmp 156) (.tmp 168) 28) (some 169) (.bool false) (by kernel_rfl) (by kernel_rfl) (by kernel_rfl) HS6.out (fun o' e => exec_bin (u1 := .int .i64 ge) (u2 := .int .i64 ge) _ e (by kernel_rfl) (by kernel_rfl) (eqG_int ..) (neq_e ge _)) ?_
                      simp only [put_some, put_none, List.setIfInBounds_toArray, List.set_cons_succ, List.set_cons_zero]
                      clear k0 HS6
                      go_wp2_with fail
                      refine HA8.out.mono ?_
                      rintro e w9 ⟨rfl, d9⟩
                      have D9 := Lib.hid d9
                      clear d9 HA8
                      go_wp2_with fail
                      go_roundw
                      case rel => exact ⟨i + 1, b, m, s', by omega, by omega, by go_num, rfl, D9⟩
                      case measure => simp [intOf]; omega
                    · have n2' : (k == 2) = false := by simp [hk2]
                      by_cases hk3 : k = 3
                      · subst hk3
                        have HT := Lib.hid (HD.out.spc fun O hh => settle_o hh)
                        obtain ⟨s', hs'⟩ : ∃ s', s' = s.settled := ⟨_, rfl⟩
                        obtain ⟨ta, hta⟩ : ∃ ta : Int, ta = (cnt (s.S 2) : Int) := ⟨_, rfl⟩
                        have HU : Hid (∀ W, Duo O2 B5 w5 W b m rb s' s → Calls Try.prog 18 #[.pointer (some ⟨rb, 0, none⟩)] W fun e w' => e = .returned (.int .i64 ta) ∧ Duo O2 B5 w5 w' b m rb s' s') := Lib.hid fun W hd => by
                          rw [hta, hs'] at *
                          exact hd.rfc fun hh => settle_rs hh
                        rw [← hs', ← hta] at HT
                        have x1 : (ta != ta) = false := by simp
                        clear hs' hta HD
                        go_wp2_with fail
                        refine HT.out.mono ?_
                        rintro e w7 ⟨rfl, d7⟩
                        have HT2 := Lib.hid (HU.out _ d7)
                        clear d7 HT HU k0
                        go_wp2_with fail
                        refine HT2.out.mono ?_
                        rintro e w8 ⟨rfl, d8⟩
                        have HA8 := Lib.hid d8.alike
                        clear d8 HT2
                        go_wp2_with fail
                        refine HA8.out.mono ?_
                        rintro e w9 ⟨rfl, d9⟩
                        have D9 := Lib.hid d9
                        clear d9 HA8
                        go_wp2_with fail
                        go_roundw
                        case rel => exact ⟨i + 1, b, m, s', by omega, by omega, by go_num, rfl, D9⟩
                        case measure => simp [intOf]; omega
                      · have n3 : (k == 3) = false := by simp [hk3]
                        by_cases hk4 : k = 4
                        · subst hk4
                          have HDD : Hid (Duo O2 B5 w5 wr.drew b m rb s s) := Lib.hid (HD.out.keep (Below.refl _ _).drew)
                          have HS := Lib.hid (HCL.out _ HDD.out.below).2
                          have HG1 := Lib.hid (HDD.out.spc fun O hh => res_o hh y zy1 zy2)
                          obtain ⟨s', hs'⟩ : ∃ s', s' = (resS s y).2 := ⟨_, rfl⟩
                          obtain ⟨ge, hge⟩ : ∃ ge, ge = (resS s y).1 := ⟨_, rfl⟩
                          have HU : Hid (∀ W, Duo O2 B5 w5 W b m rb s' s → Calls Try.prog 20 #[.pointer (some ⟨rb, 0, none⟩), .int .i64 y] W fun e w' => e = .returned (.int .i64 ge) ∧ Duo O2 B5 w5 w' b m rb s' s') := Lib.hid fun W hd => by
                            rw [hge, hs'] at *
                            exact hd.rfc fun hh => res_rs hh y zy1 zy2
                          rw [← hs', ← hge] at HG1
                          clear hs' hge HD
                          go_upto_region 35 with (fail)
                          refine region_anyZ (fun w' => w'.cell? ⟨g, o + i * 3 + 2, none⟩ = some (.int .i64 y)) 15 (by kernel_rfl) ?_
                          refine takeG 0 (.move (.tmp 9)) (some 179) none (.pointer (some ⟨b, 0, none⟩)) (by kernel_rfl) (by kernel_rfl) (by kernel_rfl) (fun _ _ _ h => h) (fun o' wq e hS => exec_move wq e (by kernel_rfl)) HS.out ?_
                          refine takeG 1 (.move (.tmp 2)) (some 180) none (.slice (some ⟨g, o, none⟩) n2 cap2) (by kernel_rfl) (by kernel_rfl) (by kernel_rfl) (fun _ _ _ h => h) (fun o' wq e hS => exec_move wq e (by kernel_rfl)) HS.out ?_
                          refine takeG 2 (.move (.tmp 14)) (some 181) none (.int .i64 (i : Int)) (by kernel_rfl) (by kernel_rfl) (by kernel_rfl) (fun _ _ _ h => h) (fun o' wq e hS => exec_move wq e (by kernel_rfl)) HS.out ?_
                          refine takeG 3 (.indexAddr 23 (.tmp 180) (.tmp 181)) (some 182) none (.pointer (some ⟨g, o + i * 3, none⟩)) (by kernel_rfl) (by kernel_rfl) (by kernel_rfl) (fun _ _ _ h => h) (fun o' wq e hS => exec_index (u1 := .slice (some ⟨g, o, none⟩) n2 cap2) (u2 := .int .i64 (i : Int)) wq e (by kernel_rfl) (by kernel_rfl) (index_lop g o n2 cap2 i hlt _)) HS.out ?_
                          refine takeG 4 (.fieldAddr 41 (.tmp 182) 2) (some 183) none (.pointer (some ⟨g, o + i * 3 + 2, none⟩)) (by kernel_rfl) (by kernel_rfl) (by kernel_rfl) (fun _ _ _ h => h) (fun o' wq e hS => exec_field (u := .pointer (some ⟨g, o + i * 3, none⟩)) wq e (by kernel_rfl) (by kernel_rfl)) HS.out ?_
                          refine takeG 5 (.load 3 (.tmp 183)) (some 184) none (.int .i64 y) (by kernel_rfl) (by kernel_rfl) (by kernel_rfl) (fun _ _ _ h => h) (fun o' wq e hS => exec_load (x := (.tmp 183)) e (by kernel_rfl) (load_one Try.underlying3 (by kernel_rfl) hS)) HS.out ?_
                          refine takeG 7 (.move (.tmp 11)) (some 186) none (.pointer (some ⟨rb, 0, none⟩)) (by kernel_rfl) (by kernel_rfl) (by kernel_rfl) (fun _ _ _ h => h) (fun o' wq e hS => exec_move wq e (by kernel_rfl)) HS.out ?_
                          refine takeG 8 (.move (.tmp 2)) (some 187) none (.slice (some ⟨g, o, none⟩) n2 cap2) (by kernel_rfl) (by kernel_rfl) (by kernel_rfl) (fun _ _ _ h => h) (fun o' wq e hS => exec_move wq e (by kernel_rfl)) HS.out ?_
                          refine takeG 9 (.move (.tmp 14)) (some 188) none (.int .i64 (i : Int)) (by kernel_rfl) (by kernel_rfl) (by kernel_rfl) (fun _ _ _ h => h) (fun o' wq e hS => exec_move wq e (by kernel_rfl)) HS.out ?_
                          refine takeG 10 (.indexAddr 23 (.tmp 187) (.tmp 188)) (some 189) none (.pointer (some ⟨g, o + i * 3, none⟩)) (by kernel_rfl) (by kernel_rfl) (by kernel_rfl) (fun _ _ _ h => h) (fun o' wq e hS => exec_index (u1 := .slice (some ⟨g, o, none⟩) n2 cap2) (u2 := .int .i64 (i : Int)) wq e (by kernel_rfl) (by kernel_rfl) (index_lop g o n2 cap2 i hlt _)) HS.out ?_
                          refine takeG 11 (.fieldAddr 41 (.tmp 189) 2) (some 190) none (.pointer (some ⟨g, o + i * 3 + 2, none⟩)) (by kernel_rfl) (by kernel_rfl) (by kernel_rfl) (fun _ _ _ h => h) (fun o' wq e hS => exec_field (u := .pointer (some ⟨g, o + i * 3, none⟩)) wq e (by kernel_rfl) (by kernel_rfl)) HS.out ?_
                          refine takeG 12 (.load 3 (.tmp 190)) (some 191) none (.int .i64 y) (by kernel_rfl) (by kernel_rfl) (by kernel_rfl) (fun _ _ _ h => h) (fun o' wq e hS => exec_load (x := (.tmp 190)) e (by kernel_rfl) (load_one Try.underlying3 (by kernel_rfl) hS)) HS.out ?_
                          refine loneG 6 (.call ⟨.value (.func 19), #[(.tmp 179), (.tmp 184)], #[25, 3]⟩) (some 185) none (by kernel_rfl) (by kernel_rfl) (by kernel_rfl) ?_
                          intro o' ho hod
                          refine wp_callC (f := 19) (args := #[.pointer (some ⟨b, 0, none⟩), .int .i64 y]) (by cases o'; cases ho; kernel_rfl) HG1.out ?_
                          rintro ee W4 ⟨rfl, d4⟩
                          refine ⟨.int .i64 ge, rfl, ?_⟩
                          rw [hod]
                          clear hod ho
                          have HS4 := Lib.hid (HCL.out _ d4.below).2
                          have HG2 := Lib.hid (HU.out _ d4)
                          clear d4 HG1 HU HS
                          refine ⟨fun _ => HS4.out, ?_⟩
                          refine loneG 13 (.call ⟨.value (.func 20), #[(.tmp 186), (.tmp 191)], #[37, 3]⟩) (some 192) none (by kernel_rfl) (by kernel_rfl) (by kernel_rfl) ?_
                          intro o' ho hod
                          refine wp_callC (f := 20) (args := #[.pointer (some ⟨rb, 0, none⟩), .int .i64 y]) (by cases o'; cases ho; kernel_rfl) HG2.out ?_
                          rintro ee W6 ⟨rfl, d6⟩
                          refine ⟨.int .i64 ge, rfl, ?_⟩
                          rw [hod]
                          clear hod ho
                          have HS6 := Lib.hid (HCL.out _ d6.below).2
                          have HA8 := Lib.hid d6.alike
                          clear d6 HG2 HS4
                          refine ⟨fun _ => HS6.out, ?_⟩
                          refine lastS 14 (.binOp .neq 28 (.tmp 185) (.tmp 192) 28) (some 193) (.bool false) (by kernel_rfl) (by kernel_rfl) (by kernel_rfl) HS6.out (fun o' e => exec_bin (u1 := .int .i64 ge) (u2 := .int .i64 ge) _ e (by kernel_rfl) (by kernel_rfl) (eqG_int ..) (neq_e ge _)) ?_
                          simp only [put_some, put_none, List.setIfInBounds_toArray, List.set_cons_succ, List.set_cons_zero]
                          clear k0 HS6
                          go_wp2_with fail
                          refine HA8.out.mono ?_
                          rintro e w9 ⟨rfl, d9⟩
                          have D9 := Lib.hid d9
                          clear d9 HA8
                          go_wp2_with fail
                          go_roundw
                          case rel => exact ⟨i + 1, b, m, s', by omega, by omega, by go_num, rfl, D9⟩
                          case measure => simp [intOf]; omega
                        · have n4 : (k == 4) = false := by simp [hk4]
                          by_cases hk5 : k = 5
                          · subst hk5
                            have HT := Lib.hid HD.out.copy
                            clear HD
                            go_wp2_with fail
                            refine HT.out.mono ?_
                            rintro e w7 ⟨b2, m2, rfl, t7⟩
                            have HT2 := Lib.hid (t7.spc fun O hh => take_o hh 1 (by omega))
                            clear t7 HT k0
                            go_wp2_with fail
                            refine HT2.out.mono ?_
                            rintro e w8 ⟨rfl, t8⟩
                            have HT3 := Lib.hid (t8.spc fun O hh => settle_o hh)
                            clear t8 HT2
                            go_wp2_with fail
                            refine HT3.out.mono ?_
                            rintro e w8b ⟨rfl, t9⟩
                            have HA8 := Lib.hid t9.duo.alike
                            clear t9 HT3
                            go_wp2_with fail
                            refine HA8.out.mono ?_
                            rintro e w9 ⟨rfl, d9⟩
                            have D9 := Lib.hid d9
                            clear d9 HA8
                            go_wp2_with fail
                            go_roundw
                            case rel => exact ⟨i + 1, b2, m2, s, by omega, by omega, by go_num, rfl, D9⟩
                            case measure => simp [intOf]; omega
                          · have n5 : (k == 5) = false := by simp [hk5]
                            have HA8 := Lib.hid HD.out.alike
                            clear HD
                            go_wp2_with fail
                            refine HA8.out.mono ?_
                            rintro e w9 ⟨rfl, d9⟩
                            have D9 := Lib.hid d9
                            clear d9 HA8
                            go_wp2_with fail
                            go_roundw
                            case rel => exact ⟨i + 1, b, m, s, by omega, by omega, by go_num, rfl, D9⟩
                            case measure => simp [intOf]; omega
                · have i2 : ¬ ((i : Int) < 100) := by omega
                  clear hl100 hlt
                  go_wp2_with fail
                  go_ret
                  exact ⟨rfl, HEND.out _ HD.out.below⟩
              · have i1 : ¬ ((i : Int) < (n2 : Int)) := by omega
                clear hlt
                go_wp2_with fail
                go_ret
                exact ⟨rfl, HEND.out _ HD.out.below⟩
end spacePlays
end Go.Proofs.Ytpbojhjbjnoihaa
