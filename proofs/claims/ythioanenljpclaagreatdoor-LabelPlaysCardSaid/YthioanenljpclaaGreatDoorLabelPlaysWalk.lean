/-
  'hoardlaw08.LabelPlays' answers true. The conditions: the steps can be read, the sums' table is laid.
-/
import Derived.Test.YthioanenljpclaaGreatDoorLabSlotsIM
import Derived.Test.YthioanenljpclaaGreatDoorLabNilM
import Derived.BigQuiet
import Derived.Deep.CutBlock
import Derived.Test.YthioanenljpclaaGreatDoorRackHasM
namespace Go.Proofs.YthioanenljpclaaGreatDoor.labelPlays
open Go Go.RowKit refRack Lab
set_option maxRecDepth 100000
set_option linter.unusedVariables false
theorem umodP (a k : Int) (hk : 0 < k) (hk2 : k ≤ 1000000) : ∃ n : Nat, wrap64 ((IntKind.u64.wrap a).tmod k) = (n : Int) ∧ (n : Int) < k := by
  have h0 : 0 ≤ IntKind.u64.wrap a := by rw [IntKind.wrap_u64]; omega
  have h1 := Int.tmod_nonneg k h0
  have h2 := Int.tmod_lt_of_pos (IntKind.u64.wrap a) hk
  refine ⟨((IntKind.u64.wrap a).tmod k).toNat, ?_, by omega⟩
  generalize (IntKind.u64.wrap a).tmod k = y at *
  unfold wrap64
  omega
theorem modP (a : Int) (m : Nat) (hm : 0 < m) (hm2 : m ≤ 100) : ∃ n : Nat, ∃ k : Nat, wrap64 ((IntKind.u64.wrap a).tmod (m : Int)) = (k : Int) ∧ wrap64 ((1 : Int) + (k : Int)) = (n : Int) ∧ (1 : Int) + (k : Int) = (n : Int) ∧ 1 ≤ n ∧ n ≤ m := by
  obtain ⟨k, h1, h2⟩ := umodP a (m : Int) (by omega) (by omega)
  refine ⟨1 + k, k, h1, ?_, by omega, by omega, by omega⟩
  unfold wrap64
  omega
theorem wrap64_le (x : Int) : wrap64 x ≤ 9223372036854775807 := by unfold wrap64; omega
theorem rec_fit {n : Nat} (h : n ≤ 1000000) : FitU (rec_ n n) := ⟨⟨by show -9223372036854775808 ≤ (n : Int); omega, by show (n : Int) ≤ 9223372036854775807; omega⟩, P_fit n⟩
theorem _root_.Go.Proofs.YthioanenljpclaaGreatDoor.Lab.Mid.below {B : Nat} {W0 W W' : World} {r g : Nat} {s t : RS} (h : Mid B W0 W r g s t) (b : Below W.heap.size W W') (hs : B ≤ W.heap.size) : Mid B W0 W' r g s t := ⟨h.rack.below b, h.ref.below b, h.kp.trans (KeepZ.new b hs)⟩
set_option maxHeartbeats 12800000 in
theorem walk (D S : Int) (a2 : Option Addr) (len2 cap2 : Nat) (o2 : Nat → OpV8) (w : World) (w0 : (Lit.int .i64 D).wf = true) (w1 : (Lit.int .i64 S).wf = true) (hy : RdOps8 w w.heap.size a2 len2 o2) (l2 : len2 ≤ cap2) (m2 : cap2 ≤ maxLen) (hl : Laid w) :
    Calls Tryz.prog 3 #[.int .i64 D, .int .i64 S, .slice a2 len2 cap2] w fun e w' => e = .returned (.bool true) ∧ Below w.heap.size w w' := by
  have hpos := hl.pos
  have HY := Lib.hid hy
  have HL := Lib.hid hl
  have HKN := Lib.hid (law_known w hl)
  have HLL := Lib.hid (⟨l2, m2⟩ : _ ∧ _)
  obtain ⟨nd, kd, hd1, hd2, hd3, hd4, hd5⟩ := modP D 8 (by omega) (by omega)
  obtain ⟨ns, ks, hs1, hs2, hs3, hs4, hs5⟩ := modP S 12 (by omega) (by omega)
  have hd1 : wrap64 ((IntKind.u64.wrap D).tmod 8) = (kd : Int) := hd1
  have hs1 : wrap64 ((IntKind.u64.wrap S).tmod 12) = (ks : Int) := hs1
  clear hy hl l2 m2
  go_enter Tryz.func3, Tryz.ntmps3
  go_wp2_with fail
  refine HKN.out.mono ?_
  rintro e w1' ⟨rfl, b1⟩
  rename World => W1
  have B1 := Lib.hid b1
  have HL1 := Lib.hid (HL.out.below b1 HL.out.pos)
  have HN := Lib.hid (new_any W1 nd ns hd4 (by omega) hs4 (by omega))
  obtain ⟨B, hB⟩ : ∃ B, B = W1.heap.size := ⟨_, rfl⟩
  have HB : Hid (B = W1.heap.size) := Lib.hid hB
  have HBP : Hid (0 < B) := Lib.hid (by rw [hB]; exact HL1.out.pos)
  rw [← hB] at HN
  clear b1 HKN hB
  go_wp2_with fail
  refine HN.out.mono ?_
  rintro e w2 ⟨⟨r, rfl, h2⟩, k2⟩
  have R2 := Lib.hid h2
  have K2 := Lib.hid k2
  have HQ := Lib.hid (new_k w2 nd ns hd4 (by omega) (by omega) (by omega))
  clear h2 k2 HN
  go_wp2_with fail
  refine HQ.out.mono ?_
  rintro e w3 ⟨g, rfl, t3, b3⟩
  have I3 : Hid (Both B w3 r g (RS.new nd ns) (RS.new nd ns) 0) := Lib.hid ⟨R2.out.below b3, t3.base (Nat.le_trans R2.out.le (Nat.le_refl _)), Sim.start nd ns, Nat.le_refl _⟩
  have B3 : Hid (Below B W1 w3) := Lib.hid (K2.out.below.trans (b3.mono R2.out.le))
  clear t3 b3 HQ R2 K2
  go_wp2_with fail
  clear hd1 hd2 hd3 hs1 hs2 hs3
  go_loopw [11] (fun iv wr => ∃ (i c : Nat) (s t : RS), i ≤ len2 ∧ i ≤ 30 ∧ c ≤ 20 * i ∧ iv = .int .i64 (i : Int) ∧ Hid (Both B wr r g s t c) ∧ Hid (Below B W1 wr)) (fun iv _ => 30 - (intOf iv).toNat)
  case atStart => exact ⟨0, 0, _, _, Nat.zero_le _, Nat.zero_le _, Nat.le_refl _, rfl, I3, B3⟩
  case round =>
    clear I3 B3
    obtain ⟨i, c, s, t, hi, hi30, hc20, rfl, HI, HBW⟩ := hrel
    by_cases hlt : i < len2 ∧ i < 30
    · obtain ⟨h1, h2⟩ := hlt
      have t1 : (i : Int) < (len2 : Int) := by omega
      have t2 : (i : Int) < 30 := by omega
      obtain ⟨b0, o0, eA, hb0, hcs, hint, hpk⟩ := HY.out i h1
      have HBT : Hid (Below w.heap.size w wr) := Lib.hid (B1.out.trans (HBW.out.mono (by rw [HB.out]; exact B1.out.size)))
      obtain ⟨k, d, a, n0, pa, pn, pc, px, hop⟩ : ∃ k d a n0 pa pn pc px, o2 i = ⟨k, d, a, n0, pa, pn, pc, px⟩ := ⟨_, _, _, _, _, _, _, _, rfl⟩
      rw [hop] at hcs hint hpk
      clear hop
      have y0 : wr.cell? ⟨b0, o0 + i * 5, none⟩ = some (.int .i64 k) := (HBT.out.cell (p := ⟨b0, o0 + i * 5, none⟩) hb0).trans hcs.1
      have y1 : wr.cell? ⟨b0, o0 + i * 5 + 1, none⟩ = some (.int .i64 d) := (HBT.out.cell (p := ⟨b0, o0 + i * 5 + 1, none⟩) hb0).trans hcs.2.1
      have y2 : wr.cell? ⟨b0, o0 + i * 5 + 2, none⟩ = some (.int .i64 a) := (HBT.out.cell (p := ⟨b0, o0 + i * 5 + 2, none⟩) hb0).trans hcs.2.2.1
      have y3 : wr.cell? ⟨b0, o0 + i * 5 + 3, none⟩ = some (.int .i64 n0) := (HBT.out.cell (p := ⟨b0, o0 + i * 5 + 3, none⟩) hb0).trans hcs.2.2.2.1
      have y4 : wr.cell? ⟨b0, o0 + i * 5 + 4, none⟩ = some (.slice pa pn pc) := (HBT.out.cell (p := ⟨b0, o0 + i * 5 + 4, none⟩) hb0).trans hcs.2.2.2.2
      have HPK : Hid (RdI wr B pa pn px ∧ pn ≤ pc ∧ (pa = none → pc = 0) ∧ pc * 8 ≤ 140737488351232) := Lib.hid ⟨fun j hj => by
        obtain ⟨b, o, e1, e2, e3, e4⟩ := (hpk.1.below HBT.out) j hj
        exact ⟨b, o, e1, Nat.lt_of_lt_of_le e2 (by rw [HB.out]; exact B1.out.size), e3, e4⟩, hpk.2.1, hpk.2.2.1, hpk.2.2.2⟩
      obtain ⟨n, hn1, hn2⟩ := umodP n0 100000 (by omega) (by omega)
      have hn5 : n < 100000 := by omega
      subst eA
      clear hb0 hcs hpk hint hn2
      have hnew := Blk.new wr 34 #[.int .i64 0, .int .i64 0, .int .i64 0, .int .i64 0, .slice none 0 0]
      have d0 := hnew.cell 0
      have d1 := hnew.cell 1
      have d2 := hnew.cell 2
      have d3 := hnew.cell 3
      have d4 := hnew.cell 4
      have z0 := hnew.frozen 0
      have z1 := hnew.frozen 1
      have z2 := hnew.frozen 2
      have z3 := hnew.frozen 3
      have z4 := hnew.frozen 4
      clear hnew
      go_upto_region 12 with (fail)
      clear d0 d1 d2 d3 d4 z0 z1 z2 z3 z4 y0 y1 y2 y3 y4
      obtain ⟨ob, hob⟩ : ∃ ob, ob = wr.heap.size := ⟨_, rfl⟩
      obtain ⟨w4, hw4⟩ : ∃ w4, w4 = wr.alloc (.cells #[.int .i64 k, .int .i64 d, .int .i64 a, .int .i64 n0, .slice pa pn pc] 34) := ⟨_, rfl⟩
      have X4 : Hid (Blk w4 ob 34 #[.int .i64 k, .int .i64 d, .int .i64 a, .int .i64 n0, .slice pa pn pc]) := Lib.hid (by rw [hw4, hob]; exact Blk.new _ _ _)
      have b4 : Below wr.heap.size wr w4 := by rw [hw4]; exact (Below.refl _ _).alloc (Nat.le_refl _) _
      rw [← hw4, ← hob]
      have I4 := Lib.hid (HI.out.below b4)
      have B4 : Hid (Below B W1 w4) := Lib.hid (HBW.out.trans (b4.mono HI.out.le))
      have HPK4 : Hid (RdI w4 B pa pn px ∧ pn ≤ pc ∧ (pa = none → pc = 0) ∧ pc * 8 ≤ 140737488351232) := Lib.hid ⟨HPK.out.1.below (b4.mono HI.out.le), HPK.out.2⟩
      have q0 := X4.out.cell 0
      have q3 := X4.out.cell 3
      have hcc : c ≤ 600 := by omega
      clear b4 hw4 hob HI HBW HPK HBT
      go_upto_region 13 with (fail)
      rw [hn1]
      clear hn1 q3
      go_upto_block 2 with (fail)
      go_cut [78] from 78 to 203 (fun _ wx => ∃ s' t', Hid (Both B wx r g s' t' (c + 17)) ∧ Hid (KeepZ B w4 wx))
      case first =>
        have HND4 : Hid (0 < s.nd) := Lib.hid I4.out.rack.1.nd1
        have LD4 := Lib.hid (HL1.out.below B4.out HBP.out)
        have eqT : ∀ z : Int, (z == z) = true := fun z => beq_self_eq_true z
        clear B4 HY B1 HL1 HL HLL
        by_cases k1 : k = 1
        · refine Classical.byContradiction fun hnot => ?_
          let +zeta hz_ : (0 : Int) = 1 := by
            refine absurd ?_ hnot
            clear hnot
            subst k1
            have HPT := Lib.hid (law_ptrL n w4 (by omega))
            have HFT : Hid (FitU (rec_ n n)) := Lib.hid (rec_fit (by omega))
            go_wp2_with fail
            refine HPT.out.mono ?_
            rintro e w5 ⟨pa1, pz, pb, ps, hp, rfl, b5⟩
            have I5 := Lib.hid (I4.out.below b5)
            have Z5 : Hid (KeepZ B w4 w5) := Lib.hid (KeepZ.new b5 I4.out.le)
            have HU := Lib.hid (uA_rec (t := n) hp)
            have LD5 := Lib.hid (LD4.out.below (b5.mono I4.out.le) HBP.out)
            have HW := Lib.hid (lab_write w5 I5.out LD5.out HBP.out (rec_ n n) HFT.out (by omega))
            clear b5 hp HPT I4 LD4
            go_wp2_with fail
            rw [HU.out]
            refine HW.out.mono ?_
            rintro e w6 ⟨rfl, m6⟩
            have M6 := Lib.hid m6
            have HPT := Lib.hid (law_ptrL n w6 (by omega))
            clear m6 HW
            go_wp2_with fail
            refine HPT.out.mono ?_
            rintro e w7 ⟨pa2, pz2, pb2, ps2, hp, rfl, b7⟩
            have M7 := Lib.hid (M6.out.below b7 (Nat.le_trans I5.out.le M6.out.kp.below.size))
            have HU2 := Lib.hid (uA_rec (t := n) hp)
            have HDW := Lib.hid (doc_write I5.out (rec_ n n) HFT.out (by omega) HND4.out M7.out)
            clear b7 hp HPT M6
            go_wp2_with fail
            rw [HU2.out]
            refine HDW.out.mono ?_
            rintro e w8 ⟨rfl, i8, z8⟩
            have I8 := Lib.hid (i8.more (show c + 16 ≤ c + 17 by omega))
            have Z8 := Lib.hid (Z5.out.trans z8)
            clear i8 z8 HDW M7 I5 Z5 HU HU2 HFT LD5
            go_wp2_with fail
            go_meet
            exact ⟨_, _, Lib.hid I8.out, Lib.hid Z8.out⟩
          omega
        have k1' : (k == 1) = false := by simpa using k1
        by_cases k2 : k = 2
        · refine Classical.byContradiction fun hnot => ?_
          let +zeta hz_ : (0 : Int) = 1 := by
            refine absurd ?_ hnot
            clear hnot
            subst k2
            have HF := Lib.hid (lab_flush w4 I4.out)
            go_wp2_with fail
            refine HF.out.mono ?_
            rintro e w5 ⟨rfl, m5⟩
            have HF2 := Lib.hid (doc_flush I4.out m5)
            clear m5 HF
            go_wp2_with fail
            refine HF2.out.mono ?_
            rintro e w6 ⟨rfl, i6, z6⟩
            have I6 := Lib.hid (i6.more (show c ≤ c + 17 by omega))
            have Z6 := Lib.hid z6
            clear i6 z6 HF2 I4
            go_wp2_with fail
            go_meet
            exact ⟨_, _, Lib.hid I6.out, Lib.hid Z6.out⟩
          omega
        have k2' : (k == 2) = false := by simpa using k2
        by_cases k3 : k = 3
        · refine Classical.byContradiction fun hnot => ?_
          let +zeta hz_ : (0 : Int) = 1 := by
            refine absurd ?_ hnot
            clear hnot
            subst k3
            obtain ⟨pI, pN, pZ, pB⟩ := HPK4.out
            have LS : B ≤ w4.heap.size := I4.out.le
            have IA := Lib.hid pI
            have H2 := Lib.hid pN
            have H3 := Lib.hid pZ
            have H4 : Hid (pn * 8 ≤ 140737488355328) := Lib.hid (by omega)
            have XA := Lib.hid (X4.out.alloc (.cells #[] 3))
            have k5 : (w4.alloc (.cells #[] 3)).cell? ⟨ob, 4, none⟩ = some (.slice pa pn pc) := XA.out.cell 4
            clear pI pN pZ pB
            go_wp2_with (at_builtin; refine wpList_append_ints rfl (.tmp 116) (.tmp 118) rfl rfl rfl IA.out LS H4.out H3.out H2.out ?_; intro A' c' w5 hI hb5)
            have I5 := Lib.hid hI
            have R5 := Lib.hid (I4.out.below hb5)
            have X5 := Lib.hid (X4.out.new_ hb5)
            have J5 := Lib.hid (IA.out.below (hb5.mono LS))
            have Z5 : Hid (KeepZ B w4 w5) := Lib.hid (KeepZ.new hb5 LS)
            clear hI hb5 IA k5 XA LS
            go_wp2_with fail
            refine (crash_any _ r s A' pn c' px R5.out.rack I5.out).mono ?_
            rintro e w6 ⟨rfl, h6, q6⟩
            have M6 := Lib.hid (Mid.of R5.out h6 q6)
            have X6 := Lib.hid (q6.block X5.out rfl)
            have J6 := Lib.hid (J5.out.below q6.below)
            have m5 : w6.cell? ⟨ob, 4, none⟩ = some (.slice pa pn pc) := X6.out.cell 4
            clear h6 q6 X5 J5 I5
            obtain ⟨vL, vG, vW, HHd, CCd, tk⟩ := M6.out.ref
            have TK6 := Lib.hid tk
            clear tk
            go_wp2_with fail
            refine (crash_k w6 g t pa pn pc px R5.out.places J6.out TK6.out).mono ?_
            rintro e w7 ⟨rfl, h7, q7⟩
            have F7 := Lib.hid (M6.out.then h7 q7 (R5.out.sim.crashed _) (c' := c + 17) (by have := R5.out.cost; show s.cost ≤ c + 17; omega))
            clear h7 q7 X6 J6 m5 TK6
            go_wp2_with fail
            go_meet
            exact ⟨_, _, Lib.hid F7.out.1, Lib.hid (Z5.out.trans F7.out.2)⟩
          omega
        have k3' : (k == 3) = false := by simpa using k3
        by_cases k4 : k = 4
        · refine Classical.byContradiction fun hnot => ?_
          let +zeta hz_ : (0 : Int) = 1 := by
            refine absurd ?_ hnot
            clear hnot
            subst k4
            have XD : Hid (Blk w4.drew ob 34 #[.int .i64 4, .int .i64 d, .int .i64 a, .int .i64 n0, .slice pa pn pc]) := Lib.hid X4.out
            have ID := Lib.hid (I4.out.below (Below.refl _ w4).drew)
            have Z4 : Hid (KeepZ B w4 w4.drew) := Lib.hid (KeepZ.new (Below.refl _ w4).drew I4.out.le)
            have HS : Hid ((w4.drew.cell? ⟨ob, 1, none⟩ = some (.int .i64 d)) ∧ w4.drew.cell? ⟨ob, 2, none⟩ = some (.int .i64 a)) := Lib.hid ⟨XD.out.cell 1, XD.out.cell 2⟩
            clear X4 HPK4
            go_upto_region 26 with (fail)
            clear q0
            refine region_anyZ (fun W => W.cell? ⟨ob, 1, none⟩ = some (.int .i64 d) ∧ W.cell? ⟨ob, 2, none⟩ = some (.int .i64 a)) 9 (by kernel_rfl) ?_
            refine takeG 0 (.move (.tmp 7)) (some 127) none (.pointer (some ⟨r, 0, none⟩)) (by kernel_rfl) (by kernel_rfl) (by kernel_rfl) (fun _ _ _ h => h) (fun o' wq e hS => exec_move wq e (by kernel_rfl)) HS.out ?_
            refine takeG 1 (.fieldAddr 34 (.tmp 12) 1) (some 128) none (.pointer (some ⟨ob, 1, none⟩)) (by kernel_rfl) (by kernel_rfl) (by kernel_rfl) (fun _ _ _ h => h) (fun o' wq e hS => exec_field (u := .pointer (some ⟨ob, 0, none⟩)) wq e (by kernel_rfl) (by kernel_rfl)) HS.out ?_
            refine takeG 2 (.load 3 (.tmp 128)) (some 129) none (.int .i64 d) (by kernel_rfl) (by kernel_rfl) (by kernel_rfl) (fun _ _ _ h => h) (fun o' wq e hS => exec_load (x := (.tmp 128)) e (by kernel_rfl) (load_one Tryz.underlying3 (by kernel_rfl) hS.1)) HS.out ?_
            refine takeG 4 (.move (.tmp 9)) (some 131) none (.pointer (some ⟨g, 0, none⟩)) (by kernel_rfl) (by kernel_rfl) (by kernel_rfl) (fun _ _ _ h => h) (fun o' wq e hS => exec_move wq e (by kernel_rfl)) HS.out ?_
            refine takeG 5 (.fieldAddr 34 (.tmp 12) 1) (some 132) none (.pointer (some ⟨ob, 1, none⟩)) (by kernel_rfl) (by kernel_rfl) (by kernel_rfl) (fun _ _ _ h => h) (fun o' wq e hS => exec_field (u := .pointer (some ⟨ob, 0, none⟩)) wq e (by kernel_rfl) (by kernel_rfl)) HS.out ?_
            refine takeG 6 (.load 3 (.tmp 132)) (some 133) none (.int .i64 d) (by kernel_rfl) (by kernel_rfl) (by kernel_rfl) (fun _ _ _ h => h) (fun o' wq e hS => exec_load (x := (.tmp 132)) e (by kernel_rfl) (load_one Tryz.underlying3 (by kernel_rfl) hS.1)) HS.out ?_
            refine loneG 3 (.call ⟨.value (.func 14), #[(.tmp 127), (.tmp 129)], #[25, 3]⟩) (some 130) none (by kernel_rfl) (by kernel_rfl) (by kernel_rfl) ?_
            intro o' ho hod
            refine wp_callC (f := 14) (args := #[.pointer (some ⟨r, 0, none⟩), .int .i64 d]) (by cases o'; cases ho; kernel_rfl) (lab_lose _ ID.out d) ?_
            rintro ee w5 ⟨rfl, m5⟩
            refine ⟨.int .i64 (loseE s d), rfl, ?_⟩
            rw [hod]
            clear hod ho
            have M5 := Lib.hid m5
            have X5 : Hid (Blk w5 ob 34 _) := Lib.hid (m5.kp.kept ob _ XD.out rfl rfl)
            have HS3 : Hid (w5.cell? ⟨ob, 1, none⟩ = some (.int .i64 d) ∧ w5.cell? ⟨ob, 2, none⟩ = some (.int .i64 a)) := Lib.hid ⟨X5.out.cell 1, X5.out.cell 2⟩
            clear m5
            refine ⟨fun _ => HS3.out, ?_⟩
            refine loneG 7 (.call ⟨.value (.func 15), #[(.tmp 131), (.tmp 133)], #[29, 3]⟩) (some 134) none (by kernel_rfl) (by kernel_rfl) (by kernel_rfl) ?_
            intro o' ho hod
            refine wp_callC (f := 15) (args := #[.pointer (some ⟨g, 0, none⟩), .int .i64 d]) (by cases o'; cases ho; kernel_rfl) (doc_lose ID.out d (by omega) M5.out) ?_
            rintro ee w6 ⟨rfl, i6, z6⟩
            refine ⟨.int .i64 (loseE s d), rfl, ?_⟩
            rw [hod]
            clear hod ho
            have I6 := Lib.hid (i6.more (show c ≤ c + 17 by omega))
            have Z6 := Lib.hid (Z4.out.trans z6)
            have X6 : Hid (Blk w6 ob 34 _) := Lib.hid (z6.kept ob _ XD.out rfl rfl)
            have HS4 : Hid (w6.cell? ⟨ob, 1, none⟩ = some (.int .i64 d) ∧ w6.cell? ⟨ob, 2, none⟩ = some (.int .i64 a)) := Lib.hid ⟨X6.out.cell 1, X6.out.cell 2⟩
            clear i6 z6
            refine ⟨fun _ => HS4.out, ?_⟩
            refine lastS 8 (.binOp .neq 26 (.tmp 130) (.tmp 134) 26) (some 135) (.bool false) (by kernel_rfl) (by kernel_rfl) (by kernel_rfl) HS4.out (fun o' e => exec_bin (u1 := .int .i64 (loseE s d)) (u2 := .int .i64 (loseE s d)) _ e (by kernel_rfl) (by kernel_rfl) (eqG_int ..) (neq_errP (loseE s d) _)) ?_
            simp only [put_some, put_none, List.setIfInBounds_toArray, List.set_cons_succ, List.set_cons_zero]
            clear HS3 HS4 ID I4 HS XD X5 X6 M5
            go_wp2_with fail
            go_meet
            exact ⟨_, _, Lib.hid I6.out, Lib.hid Z6.out⟩
          omega
        have k4' : (k == 4) = false := by simpa using k4
        by_cases k5 : k = 5
        · refine Classical.byContradiction fun hnot => ?_
          let +zeta hz_ : (0 : Int) = 1 := by
            refine absurd ?_ hnot
            clear hnot
            subst k5
            have XD : Hid (Blk w4.drew ob 34 #[.int .i64 5, .int .i64 d, .int .i64 a, .int .i64 n0, .slice pa pn pc]) := Lib.hid X4.out
            have ID := Lib.hid (I4.out.below (Below.refl _ w4).drew)
            have Z4 : Hid (KeepZ B w4 w4.drew) := Lib.hid (KeepZ.new (Below.refl _ w4).drew I4.out.le)
            have HS : Hid ((w4.drew.cell? ⟨ob, 1, none⟩ = some (.int .i64 d)) ∧ w4.drew.cell? ⟨ob, 2, none⟩ = some (.int .i64 a)) := Lib.hid ⟨XD.out.cell 1, XD.out.cell 2⟩
            clear X4 HPK4
            go_upto_region 29 with (fail)
            clear q0
            refine region_anyZ (fun W => W.cell? ⟨ob, 1, none⟩ = some (.int .i64 d) ∧ W.cell? ⟨ob, 2, none⟩ = some (.int .i64 a)) 9 (by kernel_rfl) ?_
            refine takeG 0 (.move (.tmp 7)) (some 138) none (.pointer (some ⟨r, 0, none⟩)) (by kernel_rfl) (by kernel_rfl) (by kernel_rfl) (fun _ _ _ h => h) (fun o' wq e hS => exec_move wq e (by kernel_rfl)) HS.out ?_
            refine takeG 1 (.fieldAddr 34 (.tmp 12) 1) (some 139) none (.pointer (some ⟨ob, 1, none⟩)) (by kernel_rfl) (by kernel_rfl) (by kernel_rfl) (fun _ _ _ h => h) (fun o' wq e hS => exec_field (u := .pointer (some ⟨ob, 0, none⟩)) wq e (by kernel_rfl) (by kernel_rfl)) HS.out ?_
            refine takeG 2 (.load 3 (.tmp 139)) (some 140) none (.int .i64 d) (by kernel_rfl) (by kernel_rfl) (by kernel_rfl) (fun _ _ _ h => h) (fun o' wq e hS => exec_load (x := (.tmp 139)) e (by kernel_rfl) (load_one Tryz.underlying3 (by kernel_rfl) hS.1)) HS.out ?_
            refine takeG 4 (.move (.tmp 9)) (some 142) none (.pointer (some ⟨g, 0, none⟩)) (by kernel_rfl) (by kernel_rfl) (by kernel_rfl) (fun _ _ _ h => h) (fun o' wq e hS => exec_move wq e (by kernel_rfl)) HS.out ?_
            refine takeG 5 (.fieldAddr 34 (.tmp 12) 1) (some 143) none (.pointer (some ⟨ob, 1, none⟩)) (by kernel_rfl) (by kernel_rfl) (by kernel_rfl) (fun _ _ _ h => h) (fun o' wq e hS => exec_field (u := .pointer (some ⟨ob, 0, none⟩)) wq e (by kernel_rfl) (by kernel_rfl)) HS.out ?_
            refine takeG 6 (.load 3 (.tmp 143)) (some 144) none (.int .i64 d) (by kernel_rfl) (by kernel_rfl) (by kernel_rfl) (fun _ _ _ h => h) (fun o' wq e hS => exec_load (x := (.tmp 143)) e (by kernel_rfl) (load_one Tryz.underlying3 (by kernel_rfl) hS.1)) HS.out ?_
            refine loneG 3 (.call ⟨.value (.func 16), #[(.tmp 138), (.tmp 140)], #[25, 3]⟩) (some 141) none (by kernel_rfl) (by kernel_rfl) (by kernel_rfl) ?_
            intro o' ho hod
            refine wp_callC (f := 16) (args := #[.pointer (some ⟨r, 0, none⟩), .int .i64 d]) (by cases o'; cases ho; kernel_rfl) (lab_anew _ ID.out d) ?_
            rintro ee w5 ⟨rfl, m5⟩
            refine ⟨.int .i64 (loseE s d), rfl, ?_⟩
            rw [hod]
            clear hod ho
            have M5 := Lib.hid m5
            have X5 : Hid (Blk w5 ob 34 _) := Lib.hid (m5.kp.kept ob _ XD.out rfl rfl)
            have HS3 : Hid (w5.cell? ⟨ob, 1, none⟩ = some (.int .i64 d) ∧ w5.cell? ⟨ob, 2, none⟩ = some (.int .i64 a)) := Lib.hid ⟨X5.out.cell 1, X5.out.cell 2⟩
            clear m5
            refine ⟨fun _ => HS3.out, ?_⟩
            refine loneG 7 (.call ⟨.value (.func 17), #[(.tmp 142), (.tmp 144)], #[29, 3]⟩) (some 145) none (by kernel_rfl) (by kernel_rfl) (by kernel_rfl) ?_
            intro o' ho hod
            refine wp_callC (f := 17) (args := #[.pointer (some ⟨g, 0, none⟩), .int .i64 d]) (by cases o'; cases ho; kernel_rfl) (doc_anew ID.out d (by omega) M5.out) ?_
            rintro ee w6 ⟨rfl, i6, z6⟩
            refine ⟨.int .i64 (loseE s d), rfl, ?_⟩
            rw [hod]
            clear hod ho
            have I6 := Lib.hid (i6.more (show c ≤ c + 17 by omega))
            have Z6 := Lib.hid (Z4.out.trans z6)
            have X6 : Hid (Blk w6 ob 34 _) := Lib.hid (z6.kept ob _ XD.out rfl rfl)
            have HS4 : Hid (w6.cell? ⟨ob, 1, none⟩ = some (.int .i64 d) ∧ w6.cell? ⟨ob, 2, none⟩ = some (.int .i64 a)) := Lib.hid ⟨X6.out.cell 1, X6.out.cell 2⟩
            clear i6 z6
            refine ⟨fun _ => HS4.out, ?_⟩
            refine lastS 8 (.binOp .neq 26 (.tmp 141) (.tmp 145) 26) (some 146) (.bool false) (by kernel_rfl) (by kernel_rfl) (by kernel_rfl) HS4.out (fun o' e => exec_bin (u1 := .int .i64 (loseE s d)) (u2 := .int .i64 (loseE s d)) _ e (by kernel_rfl) (by kernel_rfl) (eqG_int ..) (neq_errP (loseE s d) _)) ?_
            simp only [put_some, put_none, List.setIfInBounds_toArray, List.set_cons_succ, List.set_cons_zero]
            clear HS3 HS4 ID I4 HS XD X5 X6 M5
            go_wp2_with fail
            go_meet
            exact ⟨_, _, Lib.hid I6.out, Lib.hid Z6.out⟩
          omega
        have k5' : (k == 5) = false := by simpa using k5
        by_cases k6 : k = 6
        · refine Classical.byContradiction fun hnot => ?_
          let +zeta hz_ : (0 : Int) = 1 := by
            refine absurd ?_ hnot
            clear hnot
            subst k6
            have XD : Hid (Blk w4.drew ob 34 #[.int .i64 6, .int .i64 d, .int .i64 a, .int .i64 n0, .slice pa pn pc]) := Lib.hid X4.out
            have ID := Lib.hid (I4.out.below (Below.refl _ w4).drew)
            have Z4 : Hid (KeepZ B w4 w4.drew) := Lib.hid (KeepZ.new (Below.refl _ w4).drew I4.out.le)
            have HS : Hid ((w4.drew.cell? ⟨ob, 1, none⟩ = some (.int .i64 d)) ∧ w4.drew.cell? ⟨ob, 2, none⟩ = some (.int .i64 a)) := Lib.hid ⟨XD.out.cell 1, XD.out.cell 2⟩
            clear X4 HPK4
            go_upto_region 32 with (fail)
            clear q0
            refine region_anyZ (fun W => W.cell? ⟨ob, 1, none⟩ = some (.int .i64 d) ∧ W.cell? ⟨ob, 2, none⟩ = some (.int .i64 a)) 15 (by kernel_rfl) ?_
            refine takeG 0 (.move (.tmp 7)) (some 149) none (.pointer (some ⟨r, 0, none⟩)) (by kernel_rfl) (by kernel_rfl) (by kernel_rfl) (fun _ _ _ h => h) (fun o' wq e hS => exec_move wq e (by kernel_rfl)) HS.out ?_
            refine takeG 1 (.fieldAddr 34 (.tmp 12) 1) (some 150) none (.pointer (some ⟨ob, 1, none⟩)) (by kernel_rfl) (by kernel_rfl) (by kernel_rfl) (fun _ _ _ h => h) (fun o' wq e hS => exec_field (u := .pointer (some ⟨ob, 0, none⟩)) wq e (by kernel_rfl) (by kernel_rfl)) HS.out ?_
            refine takeG 2 (.load 3 (.tmp 150)) (some 151) none (.int .i64 d) (by kernel_rfl) (by kernel_rfl) (by kernel_rfl) (fun _ _ _ h => h) (fun o' wq e hS => exec_load (x := (.tmp 150)) e (by kernel_rfl) (load_one Tryz.underlying3 (by kernel_rfl) hS.1)) HS.out ?_
            refine takeG 3 (.fieldAddr 34 (.tmp 12) 2) (some 152) none (.pointer (some ⟨ob, 2, none⟩)) (by kernel_rfl) (by kernel_rfl) (by kernel_rfl) (fun _ _ _ h => h) (fun o' wq e hS => exec_field (u := .pointer (some ⟨ob, 0, none⟩)) wq e (by kernel_rfl) (by kernel_rfl)) HS.out ?_
            refine takeG 4 (.load 3 (.tmp 152)) (some 153) none (.int .i64 a) (by kernel_rfl) (by kernel_rfl) (by kernel_rfl) (fun _ _ _ h => h) (fun o' wq e hS => exec_load (x := (.tmp 152)) e (by kernel_rfl) (load_one Tryz.underlying3 (by kernel_rfl) hS.2)) HS.out ?_
            refine takeG 5 (.move (.tmp 13)) (some 154) none (.int .i64 (n : Int)) (by kernel_rfl) (by kernel_rfl) (by kernel_rfl) (fun _ _ _ h => h) (fun o' wq e hS => exec_move wq e (by kernel_rfl)) HS.out ?_
            refine takeG 7 (.move (.tmp 9)) (some 156) none (.pointer (some ⟨g, 0, none⟩)) (by kernel_rfl) (by kernel_rfl) (by kernel_rfl) (fun _ _ _ h => h) (fun o' wq e hS => exec_move wq e (by kernel_rfl)) HS.out ?_
            refine takeG 8 (.fieldAddr 34 (.tmp 12) 1) (some 157) none (.pointer (some ⟨ob, 1, none⟩)) (by kernel_rfl) (by kernel_rfl) (by kernel_rfl) (fun _ _ _ h => h) (fun o' wq e hS => exec_field (u := .pointer (some ⟨ob, 0, none⟩)) wq e (by kernel_rfl) (by kernel_rfl)) HS.out ?_
            refine takeG 9 (.load 3 (.tmp 157)) (some 158) none (.int .i64 d) (by kernel_rfl) (by kernel_rfl) (by kernel_rfl) (fun _ _ _ h => h) (fun o' wq e hS => exec_load (x := (.tmp 157)) e (by kernel_rfl) (load_one Tryz.underlying3 (by kernel_rfl) hS.1)) HS.out ?_
            refine takeG 10 (.fieldAddr 34 (.tmp 12) 2) (some 159) none (.pointer (some ⟨ob, 2, none⟩)) (by kernel_rfl) (by kernel_rfl) (by kernel_rfl) (fun _ _ _ h => h) (fun o' wq e hS => exec_field (u := .pointer (some ⟨ob, 0, none⟩)) wq e (by kernel_rfl) (by kernel_rfl)) HS.out ?_
            refine takeG 11 (.load 3 (.tmp 159)) (some 160) none (.int .i64 a) (by kernel_rfl) (by kernel_rfl) (by kernel_rfl) (fun _ _ _ h => h) (fun o' wq e hS => exec_load (x := (.tmp 159)) e (by kernel_rfl) (load_one Tryz.underlying3 (by kernel_rfl) hS.2)) HS.out ?_
            refine takeG 12 (.move (.tmp 13)) (some 161) none (.int .i64 (n : Int)) (by kernel_rfl) (by kernel_rfl) (by kernel_rfl) (fun _ _ _ h => h) (fun o' wq e hS => exec_move wq e (by kernel_rfl)) HS.out ?_
            refine loneG 6 (.call ⟨.value (.func 18), #[(.tmp 149), (.tmp 151), (.tmp 153), (.tmp 154)], #[25, 3, 3, 3]⟩) (some 155) none (by kernel_rfl) (by kernel_rfl) (by kernel_rfl) ?_
            intro o' ho hod
            refine wp_callC (f := 18) (args := #[.pointer (some ⟨r, 0, none⟩), .int .i64 d, .int .i64 a, .int .i64 (n : Int)]) (by cases o'; cases ho; kernel_rfl) (lab_rot _ ID.out d a (n : Int) (by omega) (by omega)) ?_
            rintro ee w5 ⟨rfl, m5⟩
            refine ⟨.int .i64 (rotE s d a (n : Int)), rfl, ?_⟩
            rw [hod]
            clear hod ho
            have M5 := Lib.hid m5
            have X5 : Hid (Blk w5 ob 34 _) := Lib.hid (m5.kp.kept ob _ XD.out rfl rfl)
            have HS3 : Hid (w5.cell? ⟨ob, 1, none⟩ = some (.int .i64 d) ∧ w5.cell? ⟨ob, 2, none⟩ = some (.int .i64 a)) := Lib.hid ⟨X5.out.cell 1, X5.out.cell 2⟩
            clear m5
            refine ⟨fun _ => HS3.out, ?_⟩
            refine loneG 13 (.call ⟨.value (.func 19), #[(.tmp 156), (.tmp 158), (.tmp 160), (.tmp 161)], #[29, 3, 3, 3]⟩) (some 162) none (by kernel_rfl) (by kernel_rfl) (by kernel_rfl) ?_
            intro o' ho hod
            refine wp_callC (f := 19) (args := #[.pointer (some ⟨g, 0, none⟩), .int .i64 d, .int .i64 a, .int .i64 (n : Int)]) (by cases o'; cases ho; kernel_rfl) (doc_rot ID.out d a (n : Int) (by omega) M5.out) ?_
            rintro ee w6 ⟨rfl, i6, z6⟩
            refine ⟨.int .i64 (rotE s d a (n : Int)), rfl, ?_⟩
            rw [hod]
            clear hod ho
            have I6 := Lib.hid (i6.more (show c + 1 ≤ c + 17 by omega))
            have Z6 := Lib.hid (Z4.out.trans z6)
            have X6 : Hid (Blk w6 ob 34 _) := Lib.hid (z6.kept ob _ XD.out rfl rfl)
            have HS4 : Hid (w6.cell? ⟨ob, 1, none⟩ = some (.int .i64 d) ∧ w6.cell? ⟨ob, 2, none⟩ = some (.int .i64 a)) := Lib.hid ⟨X6.out.cell 1, X6.out.cell 2⟩
            clear i6 z6
            refine ⟨fun _ => HS4.out, ?_⟩
            refine lastS 14 (.binOp .neq 26 (.tmp 155) (.tmp 162) 26) (some 163) (.bool false) (by kernel_rfl) (by kernel_rfl) (by kernel_rfl) HS4.out (fun o' e => exec_bin (u1 := .int .i64 (rotE s d a (n : Int))) (u2 := .int .i64 (rotE s d a (n : Int))) _ e (by kernel_rfl) (by kernel_rfl) (eqG_int ..) (neq_errP (rotE s d a (n : Int)) _)) ?_
            simp only [put_some, put_none, List.setIfInBounds_toArray, List.set_cons_succ, List.set_cons_zero]
            clear HS3 HS4 ID I4 HS XD X5 X6 M5
            go_wp2_with fail
            go_meet
            exact ⟨_, _, Lib.hid I6.out, Lib.hid Z6.out⟩
          omega
        have k6' : (k == 6) = false := by simpa using k6
        by_cases k7 : k = 7
        · refine Classical.byContradiction fun hnot => ?_
          let +zeta hz_ : (0 : Int) = 1 := by
            refine absurd ?_ hnot
            clear hnot
            subst k7
            have HPT := Lib.hid (law_ptrL n w4 (by omega))
            have HFT : Hid (FitU (rec_ n n)) := Lib.hid (rec_fit (by omega))
            clear HPK4 HND4 LD4
            go_wp2_with fail
            refine HPT.out.mono ?_
            rintro e w5 ⟨pa1, pz, pb, ps, hp, rfl, b5⟩
            have I5 := Lib.hid (I4.out.below b5)
            have Z5 : Hid (KeepZ B w4 w5) := Lib.hid (KeepZ.new b5 I4.out.le)
            have X5 := Lib.hid (X4.out.below b5 X4.out.lt)
            have HU := Lib.hid (uA_rec (t := n) hp)
            have HDE := Lib.hid (docEncode_lab (rec_ n n) w5 HFT.out)
            have HEC := Lib.hid (enc_cases HFT.out)
            clear b5 hp HPT I4 X4 q0
            obtain ⟨TT, hTT⟩ : ∃ TT, TT = K.txt (outB (rec_ n n)) := ⟨_, rfl⟩
            obtain ⟨ye, hye⟩ : ∃ ye, ye = encE (rec_ n n) := ⟨_, rfl⟩
            obtain ⟨X, hX⟩ : ∃ X, X = lst (encL (rec_ n n)) := ⟨_, rfl⟩
            rw [← hTT, ← hye] at HDE
            rw [← hTT, ← hye, ← hX] at HEC
            clear hTT hye hX
            go_wp2_with fail
            rw [HU.out]
            refine HDE.out.mono ?_
            rintro e w6 ⟨rfl, b6⟩
            have I6 := Lib.hid (I5.out.below b6)
            have Z6 : Hid (KeepZ B w4 w6) := Lib.hid (Z5.out.trans (KeepZ.new b6 I5.out.le))
            have X6 := Lib.hid (X5.out.below b6 X5.out.lt)
            have ID := Lib.hid (I6.out.below (Below.refl _ w6).drew)
            have ZD : Hid (KeepZ B w4 w6.drew) := Lib.hid (Z6.out.trans (KeepZ.new (Below.refl _ w6).drew I6.out.le))
            have XD : Hid (Blk w6.drew ob 34 #[.int .i64 7, .int .i64 d, .int .i64 a, .int .i64 n0, .slice pa pn pc]) := Lib.hid X6.out
            have HS : Hid ((w6.drew.cell? ⟨ob, 1, none⟩ = some (.int .i64 d)) ∧ w6.drew.cell? ⟨ob, 2, none⟩ = some (.int .i64 a)) := Lib.hid ⟨XD.out.cell 1, XD.out.cell 2⟩
            clear b6 HDE I5 Z5 X5 HU HFT X6 Z6 I6
            rcases HEC.out with ⟨rfl, hTX, hX2⟩ | rfl
            · have HX2 := Lib.hid hX2
              have HTX := Lib.hid hTX
              clear hX2 hTX HEC
              go_upto_region 36 with (fail)
              refine region_anyZ (fun W => W.cell? ⟨ob, 1, none⟩ = some (.int .i64 d) ∧ W.cell? ⟨ob, 2, none⟩ = some (.int .i64 a)) 20 (by kernel_rfl) ?_
              refine takeG 0 (.move (.tmp 19)) (some 174) none (.int .i64 0) (by kernel_rfl) (by kernel_rfl) (by kernel_rfl) (fun _ _ _ h => h) (fun o' wq e hS => exec_move wq e (by kernel_rfl)) HS.out ?_
              refine takeG 1 (.binOp .eql 26 (.tmp 174) (.const (.int .i64 0)) 26) (some 175) none (.bool true) (by kernel_rfl) (by kernel_rfl) (by kernel_rfl) (fun _ _ _ h => h) (fun o' wq e hS => exec_bin (u1 := .int .i64 0) (u2 := (.int .i64 0)) wq e (by kernel_rfl) (by kernel_rfl) (eqG_int ..) (by kernel_rfl)) HS.out ?_
              refine takeG 2 (.move (.tmp 175)) (some 176) none (.bool true) (by kernel_rfl) (by kernel_rfl) (by kernel_rfl) (fun _ _ _ h => h) (fun o' wq e hS => exec_move wq e (by kernel_rfl)) HS.out ?_
              refine takeG 3 (.move (.tmp 7)) (some 177) (some (2, true)) (.pointer (some ⟨r, 0, none⟩)) (by kernel_rfl) (by kernel_rfl) (by kernel_rfl) (fun _ _ _ h => h) (fun o' wq e hS => exec_move wq e (by kernel_rfl)) HS.out ?_
              refine takeG 4 (.fieldAddr 34 (.tmp 12) 1) (some 178) (some (2, true)) (.pointer (some ⟨ob, 1, none⟩)) (by kernel_rfl) (by kernel_rfl) (by kernel_rfl) (fun _ _ _ h => h) (fun o' wq e hS => exec_field (u := .pointer (some ⟨ob, 0, none⟩)) wq e (by kernel_rfl) (by kernel_rfl)) HS.out ?_
              refine takeG 5 (.load 3 (.tmp 178)) (some 179) (some (2, true)) (.int .i64 d) (by kernel_rfl) (by kernel_rfl) (by kernel_rfl) (fun _ _ _ h => h) (fun o' wq e hS => exec_load (x := (.tmp 178)) e (by kernel_rfl) (load_one Tryz.underlying3 (by kernel_rfl) hS.1)) HS.out ?_
              refine takeG 6 (.fieldAddr 34 (.tmp 12) 2) (some 180) (some (2, true)) (.pointer (some ⟨ob, 2, none⟩)) (by kernel_rfl) (by kernel_rfl) (by kernel_rfl) (fun _ _ _ h => h) (fun o' wq e hS => exec_field (u := .pointer (some ⟨ob, 0, none⟩)) wq e (by kernel_rfl) (by kernel_rfl)) HS.out ?_
              refine takeG 7 (.load 3 (.tmp 180)) (some 181) (some (2, true)) (.int .i64 a) (by kernel_rfl) (by kernel_rfl) (by kernel_rfl) (fun _ _ _ h => h) (fun o' wq e hS => exec_load (x := (.tmp 180)) e (by kernel_rfl) (load_one Tryz.underlying3 (by kernel_rfl) hS.2)) HS.out ?_
              refine takeG 8 (.move (.tmp 18)) (some 182) (some (2, true)) (.string TT) (by kernel_rfl) (by kernel_rfl) (by kernel_rfl) (fun _ _ _ h => h) (fun o' wq e hS => exec_move wq e (by kernel_rfl)) HS.out ?_
              refine takeG 11 (.move (.tmp 9)) (some 185) (some (2, true)) (.pointer (some ⟨g, 0, none⟩)) (by kernel_rfl) (by kernel_rfl) (by kernel_rfl) (fun _ _ _ h => h) (fun o' wq e hS => exec_move wq e (by kernel_rfl)) HS.out ?_
              refine takeG 12 (.fieldAddr 34 (.tmp 12) 1) (some 186) (some (2, true)) (.pointer (some ⟨ob, 1, none⟩)) (by kernel_rfl) (by kernel_rfl) (by kernel_rfl) (fun _ _ _ h => h) (fun o' wq e hS => exec_field (u := .pointer (some ⟨ob, 0, none⟩)) wq e (by kernel_rfl) (by kernel_rfl)) HS.out ?_
              refine takeG 13 (.load 3 (.tmp 186)) (some 187) (some (2, true)) (.int .i64 d) (by kernel_rfl) (by kernel_rfl) (by kernel_rfl) (fun _ _ _ h => h) (fun o' wq e hS => exec_load (x := (.tmp 186)) e (by kernel_rfl) (load_one Tryz.underlying3 (by kernel_rfl) hS.1)) HS.out ?_
              refine takeG 14 (.fieldAddr 34 (.tmp 12) 2) (some 188) (some (2, true)) (.pointer (some ⟨ob, 2, none⟩)) (by kernel_rfl) (by kernel_rfl) (by kernel_rfl) (fun _ _ _ h => h) (fun o' wq e hS => exec_field (u := .pointer (some ⟨ob, 0, none⟩)) wq e (by kernel_rfl) (by kernel_rfl)) HS.out ?_
              refine takeG 15 (.load 3 (.tmp 188)) (some 189) (some (2, true)) (.int .i64 a) (by kernel_rfl) (by kernel_rfl) (by kernel_rfl) (fun _ _ _ h => h) (fun o' wq e hS => exec_load (x := (.tmp 188)) e (by kernel_rfl) (load_one Tryz.underlying3 (by kernel_rfl) hS.2)) HS.out ?_
              refine takeG 16 (.move (.tmp 18)) (some 190) (some (2, true)) (.string TT) (by kernel_rfl) (by kernel_rfl) (by kernel_rfl) (fun _ _ _ h => h) (fun o' wq e hS => exec_move wq e (by kernel_rfl)) HS.out ?_
              refine loneG 9 (.convert 9 51 (.tmp 182)) (some 183) (some (2, true)) (by kernel_rfl) (by kernel_rfl) (by kernel_rfl) ?_
              intro o' ho hod
              obtain ⟨cc, w7, hcv, hrw, b7⟩ := conv_strR 128 X w6.drew HX2.out (by unfold maxLen; omega)
              rw [← HTX.out] at hcv
              refine wp_val (v := .slice (some ⟨w6.drew.heap.size, 0, none⟩) 128 cc) (exec_convW (u := .string TT) _ _ ho (by kernel_rfl) hcv) ?_
              rw [hod]
              clear hod ho
              have I7 := Lib.hid (ID.out.below b7)
              have Z7 := Lib.hid (ZD.out.trans (KeepZ.new b7 ID.out.le))
              have X7 : Hid (Blk w7 ob 34 #[.int .i64 7, .int .i64 d, .int .i64 a, .int .i64 n0, .slice pa pn pc]) := Lib.hid (XD.out.below b7 XD.out.lt)
              have HS2 : Hid (w7.cell? ⟨ob, 1, none⟩ = some (.int .i64 d) ∧ w7.cell? ⟨ob, 2, none⟩ = some (.int .i64 a)) := Lib.hid ⟨X7.out.cell 1, X7.out.cell 2⟩
              have HRW := Lib.hid hrw
              obtain ⟨gb, hgb⟩ : ∃ gb, gb = w6.drew.heap.size := ⟨_, rfl⟩
              rw [← hgb] at HRW ⊢
              clear hcv hrw b7 hgb
              refine ⟨fun _ => HS2.out, ?_⟩
              refine loneG 10 (.call ⟨.value (.func 21), #[(.tmp 177), (.tmp 179), (.tmp 181), (.tmp 183)], #[25, 3, 3, 51]⟩) (some 184) (some (2, true)) (by kernel_rfl) (by kernel_rfl) (by kernel_rfl) ?_
              intro o' ho hod
              refine wp_callC (f := 21) (args := #[.pointer (some ⟨r, 0, none⟩), .int .i64 d, .int .i64 a, .slice (some ⟨gb, 0, none⟩) 128 cc]) (by cases o'; cases ho; kernel_rfl) (lab_wr w7 I7.out d a gb cc X HRW.out HX2.out (by omega)) ?_
              rintro ee w8 ⟨rfl, m8⟩
              refine ⟨.int .i64 (wrE s d a 128), rfl, ?_⟩
              rw [hod]
              clear hod ho
              have M8 := Lib.hid m8
              have X8 : Hid (Blk w8 ob 34 #[.int .i64 7, .int .i64 d, .int .i64 a, .int .i64 n0, .slice pa pn pc]) := Lib.hid (m8.kp.kept ob _ X7.out rfl rfl)
              have HS3 : Hid (w8.cell? ⟨ob, 1, none⟩ = some (.int .i64 d) ∧ w8.cell? ⟨ob, 2, none⟩ = some (.int .i64 a)) := Lib.hid ⟨X8.out.cell 1, X8.out.cell 2⟩
              have HDW := Lib.hid (doc_wr I7.out d a X (by omega) m8)
              rw [← HTX.out] at HDW
              clear m8 HRW
              refine ⟨fun _ => HS3.out, ?_⟩
              refine loneG 17 (.call ⟨.value (.func 22), #[(.tmp 185), (.tmp 187), (.tmp 189), (.tmp 190)], #[29, 3, 3, 9]⟩) (some 191) (some (2, true)) (by kernel_rfl) (by kernel_rfl) (by kernel_rfl) ?_
              intro o' ho hod
              refine wp_callC (f := 22) (args := #[.pointer (some ⟨g, 0, none⟩), .int .i64 d, .int .i64 a, .string TT]) (by cases o'; cases ho; kernel_rfl) HDW.out ?_
              rintro ee w9 ⟨rfl, i9, z9⟩
              refine ⟨.int .i64 (wrE s d a 128), rfl, ?_⟩
              rw [hod]
              clear hod ho
              have I9 := Lib.hid (i9.more (show c + 1 ≤ c + 17 by omega))
              have Z9 := Lib.hid (Z7.out.trans z9)
              have X9 : Hid (Blk w9 ob 34 #[.int .i64 7, .int .i64 d, .int .i64 a, .int .i64 n0, .slice pa pn pc]) := Lib.hid (z9.kept ob _ X7.out rfl rfl)
              have HS4 : Hid (w9.cell? ⟨ob, 1, none⟩ = some (.int .i64 d) ∧ w9.cell? ⟨ob, 2, none⟩ = some (.int .i64 a)) := Lib.hid ⟨X9.out.cell 1, X9.out.cell 2⟩
              clear i9 z9 HDW I7 Z7 X7 HS2
              refine ⟨fun _ => HS4.out, ?_⟩
              refine takeG 18 (.binOp .neq 26 (.tmp 184) (.tmp 191) 26) (some 192) (some (2, true)) (.bool false) (by kernel_rfl) (by kernel_rfl) (by kernel_rfl) (fun _ _ _ h => h) (fun o' wq e hS => exec_bin (u1 := .int .i64 (wrE s d a 128)) (u2 := .int .i64 (wrE s d a 128)) wq e (by kernel_rfl) (by kernel_rfl) (eqG_int ..) (neq_errP (wrE s d a 128) _)) HS4.out ?_
              refine lastS 19 (.pick (.tmp 176) (.tmp 192) (.const (Value.bool false))) (some 193) (.bool false) (by kernel_rfl) (by kernel_rfl) (by kernel_rfl) HS4.out (fun o' e => exec_pick (b := true) _ e (by kernel_rfl) (by kernel_rfl)) ?_
              simp only [put_some, put_none, List.setIfInBounds_toArray, List.set_cons_succ, List.set_cons_zero]
              clear HS3 HS4 ID HS XD X8 X9 M8 HX2 HTX
              go_wp2_with fail
              go_meet
              exact ⟨_, _, Lib.hid I9.out, Lib.hid Z9.out⟩
            · clear HEC
              go_upto_region 36 with (fail)
              refine region_anyZ (fun W => W.cell? ⟨ob, 1, none⟩ = some (.int .i64 d) ∧ W.cell? ⟨ob, 2, none⟩ = some (.int .i64 a)) 20 (by kernel_rfl) ?_
              refine takeG 0 (.move (.tmp 19)) (some 174) none (.int .i64 2) (by kernel_rfl) (by kernel_rfl) (by kernel_rfl) (fun _ _ _ h => h) (fun o' wq e hS => exec_move wq e (by kernel_rfl)) HS.out ?_
              refine takeG 1 (.binOp .eql 26 (.tmp 174) (.const (.int .i64 0)) 26) (some 175) none (.bool false) (by kernel_rfl) (by kernel_rfl) (by kernel_rfl) (fun _ _ _ h => h) (fun o' wq e hS => exec_bin (u1 := .int .i64 2) (u2 := (.int .i64 0)) wq e (by kernel_rfl) (by kernel_rfl) (eqG_int ..) (by kernel_rfl)) HS.out ?_
              refine takeG 2 (.move (.tmp 175)) (some 176) none (.bool false) (by kernel_rfl) (by kernel_rfl) (by kernel_rfl) (fun _ _ _ h => h) (fun o' wq e hS => exec_move wq e (by kernel_rfl)) HS.out ?_
              refine takeSkip 3 (.move (.tmp 7)) (some 177) (some (2, true)) (by kernel_rfl) (by kernel_rfl) (by kernel_rfl) (fun _ _ _ h => h) HS.out ?_
              refine takeSkip 4 (.fieldAddr 34 (.tmp 12) 1) (some 178) (some (2, true)) (by kernel_rfl) (by kernel_rfl) (by kernel_rfl) (fun _ _ _ h => h) HS.out ?_
              refine takeSkip 5 (.load 3 (.tmp 178)) (some 179) (some (2, true)) (by kernel_rfl) (by kernel_rfl) (by kernel_rfl) (fun _ _ _ h => h) HS.out ?_
              refine takeSkip 6 (.fieldAddr 34 (.tmp 12) 2) (some 180) (some (2, true)) (by kernel_rfl) (by kernel_rfl) (by kernel_rfl) (fun _ _ _ h => h) HS.out ?_
              refine takeSkip 7 (.load 3 (.tmp 180)) (some 181) (some (2, true)) (by kernel_rfl) (by kernel_rfl) (by kernel_rfl) (fun _ _ _ h => h) HS.out ?_
              refine takeSkip 8 (.move (.tmp 18)) (some 182) (some (2, true)) (by kernel_rfl) (by kernel_rfl) (by kernel_rfl) (fun _ _ _ h => h) HS.out ?_
              refine takeSkip 11 (.move (.tmp 9)) (some 185) (some (2, true)) (by kernel_rfl) (by kernel_rfl) (by kernel_rfl) (fun _ _ _ h => h) HS.out ?_
              refine takeSkip 12 (.fieldAddr 34 (.tmp 12) 1) (some 186) (some (2, true)) (by kernel_rfl) (by kernel_rfl) (by kernel_rfl) (fun _ _ _ h => h) HS.out ?_
              refine takeSkip 13 (.load 3 (.tmp 186)) (some 187) (some (2, true)) (by kernel_rfl) (by kernel_rfl) (by kernel_rfl) (fun _ _ _ h => h) HS.out ?_
              refine takeSkip 14 (.fieldAddr 34 (.tmp 12) 2) (some 188) (some (2, true)) (by kernel_rfl) (by kernel_rfl) (by kernel_rfl) (fun _ _ _ h => h) HS.out ?_
              refine takeSkip 15 (.load 3 (.tmp 188)) (some 189) (some (2, true)) (by kernel_rfl) (by kernel_rfl) (by kernel_rfl) (fun _ _ _ h => h) HS.out ?_
              refine takeSkip 16 (.move (.tmp 18)) (some 190) (some (2, true)) (by kernel_rfl) (by kernel_rfl) (by kernel_rfl) (fun _ _ _ h => h) HS.out ?_
              refine takeSkip 9 (.convert 9 51 (.tmp 182)) (some 183) (some (2, true)) (by kernel_rfl) (by kernel_rfl) (by kernel_rfl) (fun _ _ _ h => h) HS.out ?_
              refine takeSkip 10 (.call ⟨.value (.func 21), #[(.tmp 177), (.tmp 179), (.tmp 181), (.tmp 183)], #[25, 3, 3, 51]⟩) (some 184) (some (2, true)) (by kernel_rfl) (by kernel_rfl) (by kernel_rfl) (fun _ _ _ h => h) HS.out ?_
              refine takeSkip 17 (.call ⟨.value (.func 22), #[(.tmp 185), (.tmp 187), (.tmp 189), (.tmp 190)], #[29, 3, 3, 9]⟩) (some 191) (some (2, true)) (by kernel_rfl) (by kernel_rfl) (by kernel_rfl) (fun _ _ _ h => h) HS.out ?_
              refine takeSkip 18 (.binOp .neq 26 (.tmp 184) (.tmp 191) 26) (some 192) (some (2, true)) (by kernel_rfl) (by kernel_rfl) (by kernel_rfl) (fun _ _ _ h => h) HS.out ?_
              refine lastS 19 (.pick (.tmp 176) (.tmp 192) (.const (Value.bool false))) (some 193) (.bool false) (by kernel_rfl) (by kernel_rfl) (by kernel_rfl) HS.out (fun o' e => exec_pick (b := false) _ e (by kernel_rfl) (by kernel_rfl)) ?_
              simp only [put_some, put_none, List.setIfInBounds_toArray, List.set_cons_succ, List.set_cons_zero]
              have I9 := Lib.hid (ID.out.more (show c ≤ c + 17 by omega))
              clear ID HS XD
              go_wp2_with fail
              go_meet
              exact ⟨_, _, Lib.hid (I9.out.below (Below.refl _ _)), Lib.hid ZD.out⟩
          omega
        have k7' : (k == 7) = false := by simpa using k7
        by_cases k8 : k = 8
        · subst k8
          obtain ⟨m, hm1, hm2⟩ : ∃ m : Int, (n : Int) % 20 = m ∧ m ≤ 9223372036854775807 := ⟨_, rfl, by omega⟩
          have HF := Lib.hid (lab_arm w4 I4.out m hm2)
          go_wp2_with fail
          rw [hm1]
          refine HF.out.mono ?_
          rintro e w5 ⟨rfl, m5⟩
          have HF2 := Lib.hid (doc_arm I4.out m m5)
          clear m5 HF
          go_wp2_with fail
          try rw [hm1]
          refine HF2.out.mono ?_
          rintro e w6 ⟨rfl, i6, z6⟩
          have I6 := Lib.hid (i6.more (show c ≤ c + 17 by omega))
          have Z6 := Lib.hid z6
          clear i6 z6 HF2 I4
          go_wp2_with fail
          go_meet
          exact ⟨_, _, Lib.hid I6.out, Lib.hid Z6.out⟩
        have k8' : (k == 8) = false := by simpa using k8
        have I5 := Lib.hid (I4.out.more (show c ≤ c + 17 by omega))
        go_wp2_with fail
        go_meet
        exact ⟨_, _, Lib.hid I5.out, Lib.hid (KeepZ.refl _ _)⟩
      case rest =>
      refine Classical.byContradiction fun hnot => ?_
      let +zeta hz_ : (0 : Int) = 1 := by
        refine absurd ?_ hnot
        clear hnot
        obtain ⟨s', t', I5, K5⟩ := hcut
        rename World => w5
        have HSD : Hid (0 < s'.nd) := Lib.hid I5.out.rack.1.nd1
        have LD5 := Lib.hid (HL1.out.below (B4.out.trans K5.out.below) HBP.out)
        have HNW := Lib.hid (lab_newest w5 I5.out LD5.out HBP.out)
        obtain ⟨NU, hNU⟩ : ∃ NU, NU = newU s' := ⟨_, rfl⟩
        rw [← hNU] at HNW
        have HNU := Lib.hid hNU
        obtain ⟨u, ue⟩ := NU
        dsimp only at HNW
        have X5 : Hid (Blk w5 ob 34 #[.int .i64 k, .int .i64 d, .int .i64 a, .int .i64 n0, .slice pa pn pc]) := Lib.hid (K5.out.kept ob _ X4.out rfl rfl)
        have B5 : Hid (Below B W1 w5) := Lib.hid (B4.out.trans K5.out.below)
        clear hNU K5 X4 B4 I4 HPK4 LD5
        go_wp2_with fail
        refine HNW.out.mono ?_
        rintro e w6 ⟨rfl, i6, k6⟩
        have I6 := Lib.hid i6
        have X6 : Hid (Blk w6 ob 34 #[.int .i64 k, .int .i64 d, .int .i64 a, .int .i64 n0, .slice pa pn pc]) := Lib.hid (k6.kept ob _ X5.out rfl rfl)
        have B6 : Hid (Below B W1 w6) := Lib.hid (B5.out.trans k6.below)
        obtain ⟨ut, ⟨ua, uz, ub, us⟩⟩ := u
        simp only [uA]
        have hnew := Blk.new w6 41 #[.int .i64 0, .int .i64 0, .int .i64 0, .int .i64 0, .string ⟨#[]⟩]
        obtain ⟨⟨d0, d1, d2, d3, d4⟩, z0, z1, z2, z3, z4⟩ := uber_facts hnew
        clear hnew i6 k6 HNW X5 B5 I5
        go_upto_region 42 with (fail)
        clear d0 d1 d2 d3 d4 z0 z1 z2 z3 z4
        obtain ⟨lb, hlb⟩ : ∃ lb, lb = w6.heap.size := ⟨_, rfl⟩
        obtain ⟨w7, hw7⟩ : ∃ w7, w7 = w6.alloc (.cells #[.int .i64 ut, .int .i64 ua, .int .i64 uz, .int .i64 ub, .string us] 41) := ⟨_, rfl⟩
        have U7 : Hid (Blk w7 lb 41 (uA ⟨ut, ⟨ua, uz, ub, us⟩⟩)) := Lib.hid (by rw [hw7, hlb]; exact Blk.new _ _ _)
        have b7 : Below w6.heap.size w6 w7 := by rw [hw7]; exact (Below.refl _ _).alloc (Nat.le_refl _) _
        rw [← hw7, ← hlb]
        have I7 := Lib.hid (I6.out.below b7)
        have X7 := Lib.hid (X6.out.below b7 X6.out.lt)
        have B7 : Hid (Below B W1 w7) := Lib.hid (B6.out.trans (b7.mono I6.out.le))
        have HDN : Hid (Calls Tryz.prog 26 #[.pointer (some ⟨g, 0, none⟩)] w7 fun e w' => e = .returned (.tuple #[.agg #[.int .i64 ut, .int .i64 ua, .int .i64 uz, .int .i64 ub, .string us], .int .i64 ue]) ∧ Both B w' r g s' t' (c + 17) ∧ KeepZ B w7 w') := Lib.hid (by
          have h := doc_newest w7 I7.out HSD.out
          rw [← HNU.out] at h
          exact h)
        clear b7 hw7 hlb I6 X6 B6
        go_wp2_with fail
        refine HDN.out.mono ?_
        rintro e w8 ⟨rfl, i8, k8⟩
        have I8 := Lib.hid i8
        have X8 : Hid (Blk w8 ob 34 #[.int .i64 k, .int .i64 d, .int .i64 a, .int .i64 n0, .slice pa pn pc]) := Lib.hid (k8.kept ob _ X7.out rfl rfl)
        have U8 : Hid (Blk w8 lb 41 (uA ⟨ut, ⟨ua, uz, ub, us⟩⟩)) := Lib.hid (k8.kept lb _ U7.out rfl rfl)
        have B8 : Hid (Below B W1 w8) := Lib.hid (B7.out.trans k8.below)
        have hnew := Blk.new w8 43 #[.int .i64 0, .int .i64 0, .int .i64 0, .int .i64 0, .string ⟨#[]⟩]
        obtain ⟨⟨d0, d1, d2, d3, d4⟩, z0, z1, z2, z3, z4⟩ := uberR_facts hnew
        clear hnew i8 k8 HDN X7 B7 I7 U7
        go_upto_region 43 with (fail)
        clear d0 d1 d2 d3 d4 z0 z1 z2 z3 z4
        obtain ⟨rb, hrb⟩ : ∃ rb, rb = w8.heap.size := ⟨_, rfl⟩
        obtain ⟨w9, hw9⟩ : ∃ w9, w9 = w8.alloc (.cells #[.int .i64 ut, .int .i64 ua, .int .i64 uz, .int .i64 ub, .string us] 43) := ⟨_, rfl⟩
        have V9 : Hid (Blk w9 rb 43 (uA ⟨ut, ⟨ua, uz, ub, us⟩⟩)) := Lib.hid (by rw [hw9, hrb]; exact Blk.new _ _ _)
        have b9 : Below w8.heap.size w8 w9.drew := by rw [hw9]; exact ((Below.refl w8.heap.size w8).alloc (Nat.le_refl _) _).drew
        rw [← hw9, ← hrb]
        have I9 := Lib.hid (I8.out.below b9)
        have X9 := Lib.hid (X8.out.below b9 X8.out.lt)
        have B9 : Hid (Below B W1 w9.drew) := Lib.hid (B8.out.trans (b9.mono I8.out.le))
        have HS0 : Hid (Blk w9.drew lb 41 (uA ⟨ut, ⟨ua, uz, ub, us⟩⟩) ∧ Blk w9.drew rb 43 (uA ⟨ut, ⟨ua, uz, ub, us⟩⟩)) := Lib.hid ⟨U8.out.below b9 U8.out.lt, V9.out⟩
        clear b9 hw9 hrb I8 X8 B8 U8 V9
        obtain ⟨UU, hUU⟩ : ∃ UU : U, UU = ⟨ut, ⟨ua, uz, ub, us⟩⟩ := ⟨_, rfl⟩
        rw [← hUU] at HS0
        clear hUU
        refine region_anyZ (fun W => Blk W lb 41 (uA UU) ∧ Blk W rb 43 (uA UU)) 9 (by kernel_rfl) ?_
        refine takeG 0 (.load 41 (.tmp 20)) (some 214) none (.agg (uA UU)) (by kernel_rfl) (by kernel_rfl) (by kernel_rfl) (fun _ _ _ h => h) (fun o' wq e hS => exec_load (x := (.tmp 20)) e (by kernel_rfl) (load_uber hS.1)) HS0.out ?_
        refine takeG 2 (.load 43 (.tmp 22)) (some 216) none (.agg (uA UU)) (by kernel_rfl) (by kernel_rfl) (by kernel_rfl) (fun _ _ _ h => h) (fun o' wq e hS => exec_load (x := (.tmp 22)) e (by kernel_rfl) (load_uberP hS.2)) HS0.out ?_
        refine loneG 1 (.call ⟨.value (.func 27), #[(.tmp 214)], #[41]⟩) (some 215) none (by kernel_rfl) (by kernel_rfl) (by kernel_rfl) ?_
        intro o' ho hod
        refine wp_callC (f := 27) (args := #[.agg (uA UU)]) (by cases o'; cases ho; kernel_rfl) (law_ofP UU _) ?_
        rintro ee w10 ⟨rfl, b10⟩
        refine ⟨_, rfl, ?_⟩
        rw [hod]
        clear hod ho
        have HS1 : Hid (Blk w10 lb 41 (uA UU) ∧ Blk w10 rb 43 (uA UU)) := Lib.hid ⟨HS0.out.1.below b10 HS0.out.1.lt, HS0.out.2.below b10 HS0.out.2.lt⟩
        have I10 := Lib.hid (I9.out.below b10)
        have X10 := Lib.hid (X9.out.below b10 X9.out.lt)
        have B10 : Hid (Below B W1 w10) := Lib.hid (B9.out.trans (b10.mono I9.out.le))
        clear b10 I9 X9 B9
        refine ⟨fun _ => HS1.out, ?_⟩
        refine takeG 3 (.binOp .neq 43 (.tmp 215) (.tmp 216) 43) (some 217) none (.bool false) (by kernel_rfl) (by kernel_rfl) (by kernel_rfl) (fun _ _ _ h => h) (fun o' wq e hS => exec_bin (u1 := .agg (uA UU)) (u2 := .agg (uA UU)) wq e (by kernel_rfl) (by kernel_rfl) (eqG_agg _ _ _ _ _ _ (by kernel_rfl) _) (neq_uberP UU _)) HS1.out ?_
        refine takeG 4 (.move (.tmp 217)) (some 218) none (.bool false) (by kernel_rfl) (by kernel_rfl) (by kernel_rfl) (fun _ _ _ h => h) (fun o' wq e hS => exec_move wq e (by kernel_rfl)) HS1.out ?_
        refine takeG 5 (.move (.tmp 21)) (some 219) (some (4, false)) (.int .i64 ue) (by kernel_rfl) (by kernel_rfl) (by kernel_rfl) (fun _ _ _ h => h) (fun o' wq e hS => exec_move wq e (by kernel_rfl)) HS1.out ?_
        refine takeG 6 (.move (.tmp 23)) (some 220) (some (4, false)) (.int .i64 ue) (by kernel_rfl) (by kernel_rfl) (by kernel_rfl) (fun _ _ _ h => h) (fun o' wq e hS => exec_move wq e (by kernel_rfl)) HS1.out ?_
        refine takeG 7 (.binOp .neq 26 (.tmp 219) (.tmp 220) 26) (some 221) (some (4, false)) (.bool false) (by kernel_rfl) (by kernel_rfl) (by kernel_rfl) (fun _ _ _ h => h) (fun o' wq e hS => exec_bin (u1 := .int .i64 ue) (u2 := .int .i64 ue) wq e (by kernel_rfl) (by kernel_rfl) (eqG_int ..) (neq_errP ue _)) HS1.out ?_
        refine lastS 8 (.pick (.tmp 218) (.const (Value.bool true)) (.tmp 221)) (some 222) (.bool false) (by kernel_rfl) (by kernel_rfl) (by kernel_rfl) HS1.out (fun o' e => exec_pick (b := false) _ e (by kernel_rfl) (by kernel_rfl)) ?_
        simp only [put_some, put_none, List.setIfInBounds_toArray, List.set_cons_succ, List.set_cons_zero]
        have x10 : w10.cell? ⟨ob, 1, none⟩ = some (.int .i64 d) := X10.out.cell 1
        have LD10 := Lib.hid (HL1.out.below B10.out HBP.out)
        have HSL := Lib.hid (lab_slots w10 I10.out LD10.out HBP.out d)
        obtain ⟨se, hse⟩ : ∃ se, se = slE s' d := ⟨_, rfl⟩
        rw [← hse] at HSL
        have HSE := Lib.hid hse
        clear hse HNU HS0 HS1
        go_wp2_with fail
        refine HSL.out.mono ?_
        rintro e w11 ⟨hca, i11, k11⟩
        have X11 : Hid (Blk w11 ob 34 #[.int .i64 k, .int .i64 d, .int .i64 a, .int .i64 n0, .slice pa pn pc]) := Lib.hid (k11.kept ob _ X10.out rfl rfl)
        have B11 : Hid (Below B W1 w11) := Lib.hid (B10.out.trans k11.below)
        have I11 := Lib.hid i11
        have HDS := Lib.hid (doc_slots w11 i11 HSD.out d)
        rw [← HSE.out] at HDS
        have x11 : w11.cell? ⟨ob, 1, none⟩ = some (.int .i64 d) := X11.out.cell 1
        have HW10 : Hid (B ≤ w10.heap.size) := Lib.hid I10.out.le
        clear i11 k11 HSL x10 X10 B10 I10 LD10 X11
        rcases hca with ⟨hne, rfl⟩ | ⟨hz, q, dn, hdn, rfl, hq, hqb⟩
        · go_wp2_with fail
          refine HDS.out.mono ?_
          rintro e w12 ⟨hda, b12⟩
          rcases hda with ⟨_, rfl⟩ | ⟨hz, _⟩
          rotate_left
          · exact absurd hz hne
          have I12 := Lib.hid (I11.out.below b12)
          have B12 : Hid (Below B W1 w12) := Lib.hid (B11.out.trans (b12.mono I11.out.le))
          clear b12 HDS hne I11 B11 x11
          go_wp2_with fail
          go_loopw [26] (fun iv wz => iv = .int .i64 0 ∧ wz = w12) (fun _ _ => 0)
          case atStart => exact ⟨rfl, rfl⟩
          case round =>
            obtain ⟨rfl, hw⟩ := hrel
            rw [hw]
            clear hw
            go_wp2_with fail
            go_roundw
            case rel => exact ⟨i + 1, c + 17, s', t', by omega, by omega, by omega, by go_num, I12, B12⟩
            case measure => simp [intOf]; omega
        · subst hdn
          subst hz
          have HQ := Lib.hid hq
          have HQB := Lib.hid hqb
          clear hq hqb
          go_wp2_with fail
          refine HDS.out.mono ?_
          rintro e w12 ⟨hda, b12⟩
          rcases hda with ⟨hne, _⟩ | ⟨_, v, dn', hdd, rfl, hov⟩
          · exact absurd rfl hne
          obtain rfl : dn = dn' := by omega
          obtain ⟨gl, cl, hv, hgl⟩ := ownI_shape hov (by rw [List.length_map, List.length_range]; omega)
          rw [List.length_map, List.length_range] at hv
          subst hv
          obtain ⟨F, hF⟩ : ∃ F, F = slotI s' dn := ⟨_, rfl⟩
          rw [← hF] at hov HQB
          have M12 : Hid (SM B W1 w12 r g (c + 17) q gl cl w11.heap.size s' t' F 0) := Lib.hid ⟨I11.out.below b12, by
            have h := HQB.out.below b12 HQB.out.lt
            rw [show (fun j => if j < 0 then (0 : Int) else F j) = F from funext fun j => if_neg (by omega)]
            exact h, hov, B11.out.trans (b12.mono I11.out.le), Nat.le_trans HW10.out HQ.out, by have := HQB.out.lt; omega⟩
          clear b12 HDS hdd hov hgl hF I11 B11 x11 HQ HQB HSE
          go_wp2_with fail
          go_loopw [26] (fun iv wz => ∃ j : Nat, j ≤ 8 ∧ iv = .int .i64 (j : Int) ∧ Hid (SM B W1 wz r g (c + 17) q gl cl w11.heap.size s' t' F j)) (fun iv _ => 8 - (intOf iv).toNat)
          case atStart => exact ⟨0, by omega, rfl, M12⟩
          case round =>
            clear M12
            obtain ⟨j, hj, rfl, M⟩ := hrel
            rename World => wz
            by_cases hj8 : j < 8
            · have t3 : (j : Int) < 8 := by omega
              have hix1 := index_iR q 8 8 j hj8 wz
              have hix2 := index_iR gl 8 cl j hj8 wz
              obtain ⟨xv, hxv⟩ : ∃ xv, xv = F j := ⟨_, rfl⟩
              have hc1 : wz.cell? ⟨q, j, none⟩ = some (.int .i64 xv) := by
                rw [M.out.qb.cell, intR_get hj8, if_neg (by omega), hxv]
              have hc2 : wz.cell? ⟨gl, j, none⟩ = some (.int .i64 xv) := by
                rw [hxv]
                exact cell_iR M.out.own (by rw [List.getElem?_map, List.getElem?_range hj8]; rfl)
              have hfz := M.out.qb.frozen j
              clear hxv
              go_upto_region 52 with (fail)
              go_quiet (fail)
              go_wp2_with fail
              go_roundw
              case rel => exact ⟨j + 1, by omega, by go_num, Lib.hid ((M.out.drewN _).strike hj8)⟩
              case measure => simp [intOf]; omega
            · obtain rfl : j = 8 := by omega
              have t3 : ¬ (((8 : Nat) : Int) < 8) := by omega
              have I12 := Lib.hid M.out.both
              have B12 := Lib.hid M.out.bel
              clear M
              go_wp2_with fail
              go_roundw
              case rel => exact ⟨i + 1, c + 17, s', t', by omega, by omega, by omega, by go_num, I12, B12⟩
              case measure => simp [intOf]; omega
      omega
    · have B2 : Hid (Below w.heap.size w wr) := Lib.hid (B1.out.trans (HBW.out.mono (by rw [HB.out]; exact B1.out.size)))
      have HN := Lib.hid (newest_nil wr)
      clear HI HBW HY HLL
      by_cases h1 : i < len2
      · obtain rfl : i = 30 := by omega
        have t1 : ((30 : Nat) : Int) < (len2 : Int) := by omega
        have t2 : ¬ (((30 : Nat) : Int) < 30) := by omega
        go_wp2_with fail
        refine HN.out.mono ?_
        rintro e w5 ⟨⟨v5, rfl⟩, b5⟩
        have B5 := Lib.hid (B2.out.trans (b5.mono B2.out.size))
        have HPT := Lib.hid (law_ptrL 1 w5 (by omega))
        clear b5 HN B2
        go_wp2_with fail
        refine HPT.out.mono ?_
        rintro e w6 ⟨pa1, pz, pb, ps, hp, rfl, b6⟩
        have B6 := Lib.hid (B5.out.trans (b6.mono B5.out.size))
        have HW := Lib.hid (write_nil w6 1 pa1 pz pb ps)
        clear b6 hp HPT B5
        go_wp2_with fail
        refine HW.out.mono ?_
        rintro e w7 ⟨rfl, b7⟩
        have B7 := Lib.hid (B6.out.trans (b7.mono B6.out.size))
        clear b7 HW B6
        go_wp2_with fail
        go_ret
        exact ⟨rfl, B7.out⟩
      · have t1 : ¬ ((i : Int) < (len2 : Int)) := by omega
        go_wp2_with fail
        refine HN.out.mono ?_
        rintro e w5 ⟨⟨v5, rfl⟩, b5⟩
        have B5 := Lib.hid (B2.out.trans (b5.mono B2.out.size))
        have HPT := Lib.hid (law_ptrL 1 w5 (by omega))
        clear b5 HN B2
        go_wp2_with fail
        refine HPT.out.mono ?_
        rintro e w6 ⟨pa1, pz, pb, ps, hp, rfl, b6⟩
        have B6 := Lib.hid (B5.out.trans (b6.mono B5.out.size))
        have HW := Lib.hid (write_nil w6 1 pa1 pz pb ps)
        clear b6 hp HPT B5
        go_wp2_with fail
        refine HW.out.mono ?_
        rintro e w7 ⟨rfl, b7⟩
        have B7 := Lib.hid (B6.out.trans (b7.mono B6.out.size))
        clear b7 HW B6
        go_wp2_with fail
        go_ret
        exact ⟨rfl, B7.out⟩
end Go.Proofs.YthioanenljpclaaGreatDoor.labelPlays
