/-
  The walk of 'ArrayApart': two blocks whose cells are apart don't touch one another.
-/
import Derived.Test.YtmfjhnfhpcpfeaaGreatDoorArrArgsM
namespace Go.Proofs.YtmfjhnfhpcpfeaaGreatDoor
open Go Go.RowKit refRack
set_option maxRecDepth 100000
set_option linter.unusedVariables false
namespace arrayApart
open Arr Cc
set_option maxHeartbeats 6400000 in
theorem walk0 (dr adr : Int) (D O : ByteArray) (fA hA : Option Addr) (fn fc hn hc : Nat) (w : World) (hl : Laid w) :
    Calls Tryz.prog 4 #[.agg #[.int .i64 dr, .string D, .int .i64 adr, .slice fA fn fc, .slice hA hn hc], .string O] w fun e w' => e = .returned (.bool true) ∧ Below w.heap.size w w' := by
  have hpos := hl.pos
  obtain ⟨wb, hwb⟩ : ∃ wb, wb = w.alloc (.cells #[.int .i64 dr, .string D, .int .i64 adr, .slice fA fn fc, .slice hA hn hc] 39) := ⟨_, rfl⟩
  have hbb : Below w.heap.size w wb := by rw [hwb]; exact (Below.refl _ _).alloc (Nat.le_refl _) _
  have XB : Hid (Blk wb w.heap.size 39 #[.int .i64 dr, .string D, .int .i64 adr, .slice fA fn fc, .slice hA hn hc]) := Lib.hid (by rw [hwb]; exact Blk.new _ _ _)
  have HBB := Lib.hid hbb
  have HLB : Hid (Laid wb) := Lib.hid (hl.below hbb hpos)
  have HKN := Lib.hid (known_arr wb HLB.out)
  obtain ⟨z, hz⟩ : ∃ z, z = w.heap.size := ⟨_, rfl⟩
  have HZ := Lib.hid hz
  have HWB := Lib.hid hwb
  clear hwb hz hbb hl
  go_enter Tryz.func4, Tryz.ntmps4
  go_wp2_with fail
  rw [← HWB.out, ← HZ.out]
  refine HKN.out.mono ?_
  rintro e w3 ⟨rfl, b3⟩
  have B3 : Hid (Below w.heap.size w w3) := Lib.hid (HBB.out.trans (b3.mono HBB.out.size))
  have X3 : Hid (Blk w3 z 39 #[.int .i64 dr, .string D, .int .i64 adr, .slice fA fn fc, .slice hA hn hc]) := Lib.hid (by rw [HZ.out]; exact XB.out.below b3 XB.out.lt)
  have q0 : w3.cell? ⟨z, 0, none⟩ = some (.int .i64 dr) := X3.out.cell 0
  have q1 : w3.cell? ⟨z, 1, none⟩ = some (.string D) := X3.out.cell 1
  have q2 : w3.cell? ⟨z, 2, none⟩ = some (.int .i64 adr) := X3.out.cell 2
  have q3 : w3.cell? ⟨z, 3, none⟩ = some (.slice fA fn fc) := X3.out.cell 3
  have q4 : w3.cell? ⟨z, 4, none⟩ = some (.slice hA hn hc) := X3.out.cell 4
  have HL3 : Hid (Laid w3) := Lib.hid (HLB.out.below b3 HLB.out.pos)
  clear b3 HKN
  go_wp2_with fail
  refine (lay_law w3 HL3.out.pos dr adr D fA hA fn fc hn hc).mono ?_
  rintro e w4 ⟨r, a, N, n, ad, X, hN, hN2, h1, h2, hX, had, rfl, hA4, k4⟩
  have HLBS := Lib.hid (layS_ok (ad := ad) hN hN2 h1 h2 X)
  generalize layS N n ad X = s at *
  have A4 := Lib.hid hA4
  have HX := Lib.hid hX
  have B4 : Hid (Below w.heap.size w w4) := Lib.hid (B3.out.trans (k4.below.mono B3.out.size))
  have HL4 : Hid (Laid w4) := Lib.hid (HL3.out.below k4.below HL3.out.pos)
  have HP3 : Hid (0 < w3.heap.size) := Lib.hid HL3.out.pos
  have HB3 : Hid (w.heap.size ≤ w3.heap.size) := Lib.hid B3.out.size
  generalize w3.heap.size = B at *
  clear hA4 k4 hX q0 q1 q2 q3 q4
  obtain ⟨m, hm⟩ : ∃ m, m = min O.size 300 := ⟨_, rfl⟩
  have hm1 : m ≤ 300 := by omega
  have t1 : min (O.size : Int) 300 = (m : Int) := by omega
  have hsl : ∀ W : World, (Instr.sliceAt 9 (.string O) none (some (.int .i64 (m : Int))) none).run Tryz.prog W = .ok (.string (strB m (bOf O))) W := fun W => by
    have h := slice_strTo O.size (bOf O) m m rfl (by omega) W
    rw [← str_isS O] at h
    exact h
  have hsz : (strB m (bOf O)).size = m := strB_size _ _
  have hsn : (strB n X).size = n := strB_size _ _
  clear hm
  by_cases hm0 : m = 0
  · subst hm0
    have he : (strB 0 (bOf O)).toList.isEmpty = true := strB_none _
    go_wp2_with fail
    go_ret
    exact ⟨rfl, B4.out⟩
  · have he : (strB m (bOf O)).toList.isEmpty = false := strB_some (by omega)
    have HC1 := Lib.hid (cost_ok w4 A4.out n h1 h2)
    have HC2 := Lib.hid (cost_ok w4 A4.out m (by omega) (by omega))
    have HCL := Lib.hid (cells_any w4 A4.out)
    have hcl : cells s 2 = N * 7 := by unfold cells; rw [HLBS.out.nd, HLBS.out.ns]
    rw [HLBS.out.nd] at HC1 HC2
    rw [hcl] at HCL
    have HRC : Hid (1 ≤ cost N n ∧ cost N n ≤ 32 ∧ 1 ≤ cost N m ∧ cost N m ≤ 32) := Lib.hid (by
      have q1 := cost_room hN hN2 h1 h2
      have q2 := cost_room (n := m) hN hN2 (by omega) (by omega)
      omega)
    have hrc := HRC.out
    obtain ⟨C, hC⟩ : ∃ C, C = N * 7 := ⟨_, rfl⟩
    rw [← hC] at HCL had
    have HCE : Hid (cells s 2 = C) := Lib.hid (hcl.trans hC.symm)
    have hC112 : C ≤ 112 := by omega
    clear hcl hC
    generalize hg1 : cost N n = cn at *
    generalize hg2 : cost N m = cm at *
    have HG := Lib.hid (⟨hg1, hg2⟩ : _ ∧ _)
    clear hg1 hg2
    go_wp2_with fail
    refine HC1.out.mono ?_
    rintro e w5 ⟨rfl, hw5⟩
    have hw5 := hw5.symm
    subst hw5
    go_wp2_with fail
    refine HC2.out.mono ?_
    rintro e w5 ⟨rfl, hw5⟩
    have hw5 := hw5.symm
    subst hw5
    go_wp2_with fail
    refine HCL.out.mono ?_
    rintro e w5 ⟨rfl, d, rfl⟩
    have A5 : Hid (Arr.At B (w4.drewN d) a r 2 s) := Lib.hid (A4.out.drewN d)
    have B5 : Hid (Below w.heap.size w (w4.drewN d)) := Lib.hid (below_drewN B4.out d)
    have HL5 : Hid (Laid (w4.drewN d)) := Lib.hid (HL4.out.drewN d)
    generalize w4.drewN d = w5 at *
    clear HC1 HC2 HCL A4 B4 HL4
    by_cases hfit : C < ad + cn + cm
    · have t2 : (C : Int) < (ad : Int) + (cn : Int) + (cm : Int) := by omega
      by_cases hneg : ad < cm
      · have t3 : (ad : Int) - (cm : Int) < 0 := by omega
        go_wp2_with fail
        go_ret
        exact ⟨rfl, B5.out⟩
      · have t3 : ¬ ((ad : Int) - (cm : Int) < 0) := by omega
        obtain ⟨at_, hat⟩ : ∃ at_, at_ = ad - cm := ⟨_, rfl⟩
        have hat2 : (ad : Int) - (cm : Int) = (at_ : Int) := by omega
        have HDJ : Hid (ad + cn ≤ at_ ∨ at_ + cm ≤ ad) := Lib.hid (by omega)
        have hatC : at_ + cm ≤ C := by omega
        have HAT := Lib.hid hatC
        have HBO : Hid (∀ j, bOf O j < 256) := Lib.hid (bOf_lt O)
        clear hat
        go_wp2_with ((with_reducible refine wpList_conv_str rfl (.tmp 77) rfl rfl (fun j _ => HBO.out j) (by unfold maxLen; omega) ?_); intro c7 w7 ho7 hb7; refine of_hid ?_)
        refine Lib.hid ?_
        obtain ⟨A7, q7, e7, h7a, h7b, h7c, _⟩ := ho7.shape (fun j _ => HBO.out j)
        injection e7 with e7 _ e8
        subst e7 e8
        have A7' : Hid (Arr.At B w7 a r 2 s) := Lib.hid (A5.out.grown_ hb7)
        have B7 : Hid (Below w.heap.size w w7) := Lib.hid (B5.out.trans (hb7.mono B5.out.size))
        have HL7 : Hid (Laid w7) := Lib.hid (HL5.out.below hb7 HL5.out.pos)
        have HW : Hid (Calls Tryz.prog 16 #[.pointer (some ⟨a, 0, none⟩), .int .i64 (at_ : Int), .slice (some ⟨w5.heap.size, 0, none⟩) m c7] w7 fun e w' => e = .returned (.int .i64 0) ∧ RackAt B w' r (wrAll s 2 at_ (cellX s.nd m (bOf O)) (cost s.nd m)) ∧ Keep B w7 w') := Lib.hid
          (write_ok w7 A7'.out HLBS.out.calm _ m c7 at_ w7.heap.size (bOf O) h7a (fun j _ => HBO.out j) (Nat.le_refl _) h7b h7c (by omega) (by omega) (by rw [HCE.out, HLBS.out.nd, HG.out.2]; exact HAT.out) (by rw [goneB_none HLBS.out.gone]; exact Nat.zero_le _) (by have g := HLBS.out.cost; rw [HLBS.out.nd, HG.out.2]; omega))
        have HSEC := Lib.hid (lb_second (Y := bOf O) HLBS.out hN hN2 (show 1 ≤ m by omega) (by omega) (show ad + cost N n ≤ at_ ∨ at_ + cost N m ≤ ad by rw [HG.out.1, HG.out.2]; exact HDJ.out))
        clear ho7 hb7 h7a h7b h7c A5 B5 HL5
        go_wp2_with fail
        refine HW.out.mono ?_
        rintro e w8 ⟨rfl, h8, k8⟩
        have hl8 := (wrAll_like s 2 at_ (cellX s.nd m (bOf O)) (cost s.nd m)).1
        have HFL := Lib.hid (flush_calm w8 r _ h8 HSEC.out.1)
        have A8 : Hid (Arr.At B w8 a r 2 (wrAll s 2 at_ (cellX s.nd m (bOf O)) (cost s.nd m))) := Lib.hid (A7'.out.rack_ h8 k8 hl8.nd hl8.ns)
        have B8 : Hid (Below w.heap.size w w8) := Lib.hid (B7.out.trans (k8.below.mono HB3.out))
        have HL8 : Hid (Laid w8) := Lib.hid (HL7.out.below k8.below HP3.out)
        have HND : Hid ((wrAll s 2 at_ (cellX s.nd m (bOf O)) (cost s.nd m)).flushed.nd = N ∧ cells (wrAll s 2 at_ (cellX s.nd m (bOf O)) (cost s.nd m)).flushed 2 = C ∧ (wrAll s 2 at_ (cellX s.nd m (bOf O)) (cost s.nd m)).flushed.off = false) := Lib.hid ⟨hl8.nd.trans HLBS.out.nd, by rw [← HCE.out]; exact hl8.cells 2, HSEC.out.1.1⟩
        clear h8 k8 hl8 HW A7' B7 HL7
        generalize wrAll s 2 at_ (cellX s.nd m (bOf O)) (cost s.nd m) = s8 at *
        go_wp2_with fail
        refine HFL.out.mono ?_
        rintro e w9 ⟨rfl, h9, k9⟩
        have A9 : Hid (Arr.At B w9 a r 2 s8.flushed) := Lib.hid (A8.out.rack_ h9 k9 rfl rfl)
        have B9 : Hid (Below w.heap.size w w9) := Lib.hid (B8.out.trans (k9.below.mono HB3.out))
        have HL9 : Hid (Laid w9) := Lib.hid (HL8.out.below k9.below HP3.out)
        have HS9 := Lib.hid HSEC.out.2
        clear h9 k9 HFL A8 B8 HL8 HSEC
        generalize s8.flushed = s9 at *
        have HSU := Lib.hid (sum_law n X w9 HX.out (by omega) HL9.out)
        go_wp2_with fail
        refine HSU.out.mono ?_
        rintro e w10 ⟨rfl, b10⟩
        have A10 : Hid (Arr.At B w10 a r 2 s9) := Lib.hid (A9.out.grown_ b10)
        have B10 : Hid (Below w.heap.size w w10) := Lib.hid (B9.out.trans (b10.mono B9.out.size))
        have HL10 : Hid (Laid w10) := Lib.hid (HL9.out.below b10 HL9.out.pos)
        have HR := Lib.hid (read_sound w10 A10.out HL10.out HP3.out HND.out.2.2 ad n h1 h2 (by rw [HND.out.1, HND.out.2.1, HG.out.1]; exact had) X (fun j _ => HX.out j) HS9.out.2.1 (by rw [goneB_none HS9.out.1]; exact Nat.zero_le _))
        clear b10 HSU A9 B9 HL9
        go_wp2_with fail
        refine HR.out.mono ?_
        rintro e w11 ⟨⟨gb, cb, ov, rfl, hb11, ho11⟩, h11, k11⟩
        rw [goneB_none HS9.out.1, srt_of (by exact List.Pairwise.nil)] at ho11
        have A11 : Hid (Arr.At B w11 a r 2 s9) := Lib.hid (A10.out.rack_ h11 k11 rfl rfl)
        have B11 : Hid (Below w.heap.size w w11) := Lib.hid (B10.out.trans (k11.below.mono HB3.out))
        have HL11 : Hid (Laid w11) := Lib.hid (HL10.out.below k11.below HP3.out)
        have HD11 := Lib.hid hb11
        obtain ⟨oA, oc, rfl⟩ : ∃ oA oc, ov = .slice oA 0 oc := by
          rcases Nr.own_shape ho11 with ⟨rfl, e⟩ | ⟨g, c, rfl, _⟩
          · exact ⟨none, 0, rfl⟩
          · exact ⟨_, _, rfl⟩
        have HSU2 := Lib.hid (sum_law m (bOf O) w11 HBO.out (by omega) HL11.out)
        clear hb11 ho11 h11 k11 HR A10 B10 HL10
        go_wp2_with fail
        refine HSU2.out.mono ?_
        rintro e w12 ⟨rfl, b12⟩
        have A12 : Hid (Arr.At B w12 a r 2 s9) := Lib.hid (A11.out.grown_ b12)
        have B12 : Hid (Below w.heap.size w w12) := Lib.hid (B11.out.trans (b12.mono B11.out.size))
        have HL12 : Hid (Laid w12) := Lib.hid (HL11.out.below b12 HL11.out.pos)
        have HD12 := Lib.hid (HD11.out.below b12 (Nat.le_refl _))
        have HR2 := Lib.hid (read_sound w12 A12.out HL12.out HP3.out HND.out.2.2 at_ m (by omega) (by omega) (by rw [HND.out.1, HND.out.2.1, HG.out.2]; exact HAT.out) (bOf O) (fun j _ => HBO.out j) HS9.out.2.2 (by rw [goneB_none HS9.out.1]; exact Nat.zero_le _))
        clear b12 HSU2 A11 B11 HL11 HD11
        go_wp2_with fail
        refine HR2.out.mono ?_
        rintro e w13 ⟨⟨gb2, cb2, ov2, rfl, hb13, ho13⟩, h13, k13⟩
        rw [goneB_none HS9.out.1, srt_of (by exact List.Pairwise.nil)] at ho13
        have B13 : Hid (Below w.heap.size w w13) := Lib.hid (B12.out.trans (k13.below.mono HB3.out))
        obtain ⟨oA2, oc2, rfl⟩ : ∃ oA oc, ov2 = .slice oA 0 oc := by
          rcases Nr.own_shape ho13 with ⟨rfl, e⟩ | ⟨g, c, rfl, _⟩
          · exact ⟨none, 0, rfl⟩
          · exact ⟨_, _, rfl⟩
        have cv1 := own_conv (ownB_keepK HD12.out k13) (fun j _ => HX.out j)
        have cv2 := own_conv hb13 (fun j _ => HBO.out j)
        clear hb13 ho13 h13 k13 HR2 HD12
        go_wp2_with fail
        go_ret
        exact ⟨rfl, B13.out⟩
    · have t2 : ¬ ((C : Int) < (ad : Int) + (cn : Int) + (cm : Int)) := by omega
      obtain ⟨at_, hat⟩ : ∃ at_, at_ = ad + cn := ⟨_, rfl⟩
      have hat2 : (ad : Int) + (cn : Int) = (at_ : Int) := by omega
      have t3 : ¬ ((at_ : Int) < 0) := by omega
      have HDJ : Hid (ad + cn ≤ at_ ∨ at_ + cm ≤ ad) := Lib.hid (by omega)
      have hatC : at_ + cm ≤ C := by omega
      have HAT := Lib.hid hatC
      have HBO : Hid (∀ j, bOf O j < 256) := Lib.hid (bOf_lt O)
      clear hat
      go_wp2_with ((with_reducible refine wpList_conv_str rfl (.tmp 77) rfl rfl (fun j _ => HBO.out j) (by unfold maxLen; omega) ?_); intro c7 w7 ho7 hb7; refine of_hid ?_)
      refine Lib.hid ?_
      obtain ⟨A7, q7, e7, h7a, h7b, h7c, _⟩ := ho7.shape (fun j _ => HBO.out j)
      injection e7 with e7 _ e8
      subst e7 e8
      have A7' : Hid (Arr.At B w7 a r 2 s) := Lib.hid (A5.out.grown_ hb7)
      have B7 : Hid (Below w.heap.size w w7) := Lib.hid (B5.out.trans (hb7.mono B5.out.size))
      have HL7 : Hid (Laid w7) := Lib.hid (HL5.out.below hb7 HL5.out.pos)
      have HW : Hid (Calls Tryz.prog 16 #[.pointer (some ⟨a, 0, none⟩), .int .i64 (at_ : Int), .slice (some ⟨w5.heap.size, 0, none⟩) m c7] w7 fun e w' => e = .returned (.int .i64 0) ∧ RackAt B w' r (wrAll s 2 at_ (cellX s.nd m (bOf O)) (cost s.nd m)) ∧ Keep B w7 w') := Lib.hid
        (write_ok w7 A7'.out HLBS.out.calm _ m c7 at_ w7.heap.size (bOf O) h7a (fun j _ => HBO.out j) (Nat.le_refl _) h7b h7c (by omega) (by omega) (by rw [HCE.out, HLBS.out.nd, HG.out.2]; exact HAT.out) (by rw [goneB_none HLBS.out.gone]; exact Nat.zero_le _) (by have g := HLBS.out.cost; rw [HLBS.out.nd, HG.out.2]; omega))
      have HSEC := Lib.hid (lb_second (Y := bOf O) HLBS.out hN hN2 (show 1 ≤ m by omega) (by omega) (show ad + cost N n ≤ at_ ∨ at_ + cost N m ≤ ad by rw [HG.out.1, HG.out.2]; exact HDJ.out))
      clear ho7 hb7 h7a h7b h7c A5 B5 HL5
      go_wp2_with fail
      refine HW.out.mono ?_
      rintro e w8 ⟨rfl, h8, k8⟩
      have hl8 := (wrAll_like s 2 at_ (cellX s.nd m (bOf O)) (cost s.nd m)).1
      have HFL := Lib.hid (flush_calm w8 r _ h8 HSEC.out.1)
      have A8 : Hid (Arr.At B w8 a r 2 (wrAll s 2 at_ (cellX s.nd m (bOf O)) (cost s.nd m))) := Lib.hid (A7'.out.rack_ h8 k8 hl8.nd hl8.ns)
      have B8 : Hid (Below w.heap.size w w8) := Lib.hid (B7.out.trans (k8.below.mono HB3.out))
      have HL8 : Hid (Laid w8) := Lib.hid (HL7.out.below k8.below HP3.out)
      have HND : Hid ((wrAll s 2 at_ (cellX s.nd m (bOf O)) (cost s.nd m)).flushed.nd = N ∧ cells (wrAll s 2 at_ (cellX s.nd m (bOf O)) (cost s.nd m)).flushed 2 = C ∧ (wrAll s 2 at_ (cellX s.nd m (bOf O)) (cost s.nd m)).flushed.off = false) := Lib.hid ⟨hl8.nd.trans HLBS.out.nd, by rw [← HCE.out]; exact hl8.cells 2, HSEC.out.1.1⟩
      clear h8 k8 hl8 HW A7' B7 HL7
      generalize wrAll s 2 at_ (cellX s.nd m (bOf O)) (cost s.nd m) = s8 at *
      go_wp2_with fail
      refine HFL.out.mono ?_
      rintro e w9 ⟨rfl, h9, k9⟩
      have A9 : Hid (Arr.At B w9 a r 2 s8.flushed) := Lib.hid (A8.out.rack_ h9 k9 rfl rfl)
      have B9 : Hid (Below w.heap.size w w9) := Lib.hid (B8.out.trans (k9.below.mono HB3.out))
      have HL9 : Hid (Laid w9) := Lib.hid (HL8.out.below k9.below HP3.out)
      have HS9 := Lib.hid HSEC.out.2
      clear h9 k9 HFL A8 B8 HL8 HSEC
      generalize s8.flushed = s9 at *
      have HSU := Lib.hid (sum_law n X w9 HX.out (by omega) HL9.out)
      go_wp2_with fail
      refine HSU.out.mono ?_
      rintro e w10 ⟨rfl, b10⟩
      have A10 : Hid (Arr.At B w10 a r 2 s9) := Lib.hid (A9.out.grown_ b10)
      have B10 : Hid (Below w.heap.size w w10) := Lib.hid (B9.out.trans (b10.mono B9.out.size))
      have HL10 : Hid (Laid w10) := Lib.hid (HL9.out.below b10 HL9.out.pos)
      have HR := Lib.hid (read_sound w10 A10.out HL10.out HP3.out HND.out.2.2 ad n h1 h2 (by rw [HND.out.1, HND.out.2.1, HG.out.1]; exact had) X (fun j _ => HX.out j) HS9.out.2.1 (by rw [goneB_none HS9.out.1]; exact Nat.zero_le _))
      clear b10 HSU A9 B9 HL9
      go_wp2_with fail
      refine HR.out.mono ?_
      rintro e w11 ⟨⟨gb, cb, ov, rfl, hb11, ho11⟩, h11, k11⟩
      rw [goneB_none HS9.out.1, srt_of (by exact List.Pairwise.nil)] at ho11
      have A11 : Hid (Arr.At B w11 a r 2 s9) := Lib.hid (A10.out.rack_ h11 k11 rfl rfl)
      have B11 : Hid (Below w.heap.size w w11) := Lib.hid (B10.out.trans (k11.below.mono HB3.out))
      have HL11 : Hid (Laid w11) := Lib.hid (HL10.out.below k11.below HP3.out)
      have HD11 := Lib.hid hb11
      obtain ⟨oA, oc, rfl⟩ : ∃ oA oc, ov = .slice oA 0 oc := by
        rcases Nr.own_shape ho11 with ⟨rfl, e⟩ | ⟨g, c, rfl, _⟩
        · exact ⟨none, 0, rfl⟩
        · exact ⟨_, _, rfl⟩
      have HSU2 := Lib.hid (sum_law m (bOf O) w11 HBO.out (by omega) HL11.out)
      clear hb11 ho11 h11 k11 HR A10 B10 HL10
      go_wp2_with fail
      refine HSU2.out.mono ?_
      rintro e w12 ⟨rfl, b12⟩
      have A12 : Hid (Arr.At B w12 a r 2 s9) := Lib.hid (A11.out.grown_ b12)
      have B12 : Hid (Below w.heap.size w w12) := Lib.hid (B11.out.trans (b12.mono B11.out.size))
      have HL12 : Hid (Laid w12) := Lib.hid (HL11.out.below b12 HL11.out.pos)
      have HD12 := Lib.hid (HD11.out.below b12 (Nat.le_refl _))
      have HR2 := Lib.hid (read_sound w12 A12.out HL12.out HP3.out HND.out.2.2 at_ m (by omega) (by omega) (by rw [HND.out.1, HND.out.2.1, HG.out.2]; exact HAT.out) (bOf O) (fun j _ => HBO.out j) HS9.out.2.2 (by rw [goneB_none HS9.out.1]; exact Nat.zero_le _))
      clear b12 HSU2 A11 B11 HL11 HD11
      go_wp2_with fail
      refine HR2.out.mono ?_
      rintro e w13 ⟨⟨gb2, cb2, ov2, rfl, hb13, ho13⟩, h13, k13⟩
      rw [goneB_none HS9.out.1, srt_of (by exact List.Pairwise.nil)] at ho13
      have B13 : Hid (Below w.heap.size w w13) := Lib.hid (B12.out.trans (k13.below.mono HB3.out))
      obtain ⟨oA2, oc2, rfl⟩ : ∃ oA oc, ov2 = .slice oA 0 oc := by
        rcases Nr.own_shape ho13 with ⟨rfl, e⟩ | ⟨g, c, rfl, _⟩
        · exact ⟨none, 0, rfl⟩
        · exact ⟨_, _, rfl⟩
      have cv1 := own_conv (ownB_keepK HD12.out k13) (fun j _ => HX.out j)
      have cv2 := own_conv hb13 (fun j _ => HBO.out j)
      clear hb13 ho13 h13 k13 HR2 HD12
      go_wp2_with fail
      go_ret
      exact ⟨rfl, B13.out⟩
theorem walk (dr adr : Int) (D : ByteArray) (fA hA : Option Addr) (fn fc hn hc : Nat) (fx hx : Nat → Int) (O : ByteArray) (w : World) (hb : BlkIn w (.agg #[.int .i64 dr, .string D, .int .i64 adr, .slice fA fn fc, .slice hA hn hc]) dr adr D fA hA fn fc hn hc fx hx) {p : Prop} (_ : p) (hl : Laid w) :
    Calls Tryz.prog 4 #[.agg #[.int .i64 dr, .string D, .int .i64 adr, .slice fA fn fc, .slice hA hn hc], .string O] w fun e w' => e = .returned (.bool true) ∧ Below w.heap.size w w' := walk0 dr adr D O fA hA fn fc hn hc w hl
end arrayApart
end Go.Proofs.YtmfjhnfhpcpfeaaGreatDoor
