/-
  The walk of 'ArrayTails': bytes behind a block's end count for nothing, and are noughts again behind a repair.
-/
import Derived.Test.YtlhjpceaookanaaGreatDoorTopCutM
namespace Go.Proofs.YtlhjpceaookanaaGreatDoor
open Go Go.RowKit refRack
set_option maxRecDepth 100000
set_option linter.unusedVariables false
namespace arrayTails
open Arr Cc
theorem place_in {N C ad last : Nat} (hN : 5 ≤ N) (h : ad + C ≤ N * 7) (hC : 1 ≤ C) (hl : last = ad + C - 1) : last % N < N ∧ 2 + last / N < 9 := by
  have : last / N < 7 := by
    rw [Nat.div_lt_iff_lt_mul (by omega), Nat.mul_comm]
    omega
  exact ⟨Nat.mod_lt _ (by omega), by omega⟩
set_option maxHeartbeats 6400000 in
theorem walk (dr adr : Int) (D : ByteArray) (fA hA : Option Addr) (fn fc hn hc : Nat) (fx hx : Nat → Int) (nn : Int) (w : World) (hbk : BlkIn w (.agg #[.int .i64 dr, .string D, .int .i64 adr, .slice fA fn fc, .slice hA hn hc]) dr adr D fA hA fn fc hn hc fx hx) (w1 : (Lit.int .i64 nn).wf = true) (hl : Laid w) :
    Calls Tryz.prog 3 #[.agg #[.int .i64 dr, .string D, .int .i64 adr, .slice fA fn fc, .slice hA hn hc], .int .i64 nn] w fun e w' => e = .returned (.bool true) ∧ Below w.heap.size w w' := by
  have hpos := hl.pos
  clear hbk
  obtain ⟨wb, hwb⟩ : ∃ wb, wb = w.alloc (.cells #[.int .i64 dr, .string D, .int .i64 adr, .slice fA fn fc, .slice hA hn hc] 24) := ⟨_, rfl⟩
  have hbb : Below w.heap.size w wb := by rw [hwb]; exact (Below.refl _ _).alloc (Nat.le_refl _) _
  have XB : Hid (Blk wb w.heap.size 24 #[.int .i64 dr, .string D, .int .i64 adr, .slice fA fn fc, .slice hA hn hc]) := Lib.hid (by rw [hwb]; exact Blk.new _ _ _)
  have HBB := Lib.hid hbb
  have HLB : Hid (Laid wb) := Lib.hid (hl.below hbb hpos)
  have HKN := Lib.hid (known_arr wb HLB.out)
  obtain ⟨z, hz⟩ : ∃ z, z = w.heap.size := ⟨_, rfl⟩
  have HZ := Lib.hid hz
  have HWB := Lib.hid hwb
  clear hwb hz hbb hl
  go_enter Tryz.func3, Tryz.ntmps3
  go_wp2_with fail
  rw [← HWB.out, ← HZ.out]
  refine HKN.out.mono ?_
  rintro e w3 ⟨rfl, b3⟩
  have B3 : Hid (Below w.heap.size w w3) := Lib.hid (HBB.out.trans (b3.mono HBB.out.size))
  have X3 : Hid (Blk w3 z 24 #[.int .i64 dr, .string D, .int .i64 adr, .slice fA fn fc, .slice hA hn hc]) := Lib.hid (by rw [HZ.out]; exact XB.out.below b3 XB.out.lt)
  have q0 : w3.cell? ⟨z, 0, none⟩ = some (.int .i64 dr) := X3.out.cell 0
  have q1 : w3.cell? ⟨z, 1, none⟩ = some (.string D) := X3.out.cell 1
  have q2 : w3.cell? ⟨z, 2, none⟩ = some (.int .i64 adr) := X3.out.cell 2
  have q3 : w3.cell? ⟨z, 3, none⟩ = some (.slice fA fn fc) := X3.out.cell 3
  have q4 : w3.cell? ⟨z, 4, none⟩ = some (.slice hA hn hc) := X3.out.cell 4
  have HL3 : Hid (Laid w3) := Lib.hid (HLB.out.below b3 HLB.out.pos)
  clear b3 HKN
  go_wp2_with fail
  refine (lay_law w3 HL3.out.pos dr adr D fA hA fn fc hn hc).mono ?_
  rintro e w4 ⟨r, a, N, n, ad, X, hN, hN2, h1, h2, hX, had, rfl, hA4, k4⟩
  have HLBS := Lib.hid (layS_ok (ad := ad) hN hN2 h1 h2 X)
  generalize layS N n ad X = s at *
  have A4 := Lib.hid hA4
  have HX := Lib.hid hX
  have B4 : Hid (Below w.heap.size w w4) := Lib.hid (B3.out.trans (k4.below.mono B3.out.size))
  have HL4 : Hid (Laid w4) := Lib.hid (HL3.out.below k4.below HL3.out.pos)
  have HP3 : Hid (0 < w3.heap.size) := Lib.hid HL3.out.pos
  have HB3 : Hid (w.heap.size ≤ w3.heap.size) := Lib.hid B3.out.size
  generalize w3.heap.size = B at *
  clear hA4 k4 hX q0 q1 q2 q3 q4
  have KB : Hid (∀ W, Keep B w4 W → Below w.heap.size w W) := Lib.hid fun W hW => B4.out.trans (hW.below.mono HB3.out)
  have KL : Hid (∀ W, Keep B w4 W → Laid W) := Lib.hid fun W hW => HL4.out.below hW.below HP3.out
  have hsn : (strB n X).size = n := strB_size _ _
  clear HBB XB HLB X3 HL3
  have eN0 : ((N : Int) = 0) = False := by simp; omega
  obtain ⟨q, hq⟩ : ∃ q, q = n % 128 := ⟨_, rfl⟩
  have hq128 : q < 128 := by omega
  have em : (n : Int) % 128 = (q : Int) := by omega
  have HEM := Lib.hid em
  clear em
  by_cases hq0 : q = 0
  · have t0 : ((n : Int) % 128 == 0) = true := by rw [HEM.out, hq0]; rfl
    clear hq
    go_wp2_with fail
    go_ret
    exact ⟨rfl, B4.out⟩
  · have t0 : ((n : Int) % 128 == 0) = false := by rw [HEM.out, beq_eq_false_iff_ne]; omega
    obtain ⟨k, hk⟩ : ∃ k, k = 128 - q := ⟨_, rfl⟩
    have hk1 : 1 ≤ k := by omega
    have ek : (128 : Int) - (q : Int) = (k : Int) := by omega
    obtain ⟨p, hp, hpk⟩ := umod nn k hk1 (by omega)
    obtain ⟨off, hoff⟩ : ∃ off, off = q + p := ⟨_, rfl⟩
    have eo : (q : Int) + (p : Int) = (off : Int) := by omega
    have ho : off < 128 := by omega
    have hsl : n ≤ (secs n - 1) * 128 + off := by unfold secs; omega
    have HO := Lib.hid (⟨ho, hsl⟩ : _ ∧ _)
    have HC : Hid (Calls Tryz.prog 7 #[.pointer (some ⟨a, 0, none⟩), .int .i64 (n : Int)] w4 fun e w' => e = .returned (.tuple #[.int .i64 ((cost N n : Nat) : Int), .int .i64 0]) ∧ w' = w4) := Lib.hid (by have := cost_ok w4 A4.out n h1 h2; rw [HLBS.out.nd] at this; exact this)
    have hcr := cost_room hN hN2 h1 h2
    have HAD := Lib.hid had
    have h3 : 1 ≤ cost N n ∧ cost N n ≤ 32 := ⟨hcr.2.1, hcr.1⟩
    obtain ⟨last, hlast⟩ : ∃ last, last = ad + cost N n - 1 := ⟨_, rfl⟩
    have HLA := Lib.hid hlast
    have hl1 : ad + cost N n ≤ 112 := by omega
    have elast : (ad : Int) + ((cost N n : Nat) : Int) - 1 = (last : Int) := by omega
    have hl2 : last ≤ 112 := by omega
    generalize hcg : cost N n = C at *
    have HCG := Lib.hid hcg
    clear hcr had hlast hcg
    go_wp2_with fail
    refine HC.out.mono ?_
    rintro e w5 ⟨rfl, hw5⟩
    have hw5 := hw5.symm
    subst hw5
    clear HC
    go_wp2_with fail
    have HDR := Lib.hid (fun m => drives_any (w4.drewN m) r s (A4.out.rack.drewN m))
    rw [HLBS.out.nd] at HDR
    have hdv : last / N ≤ last := Nat.div_le_self _ _
    have hmv : last % N < N := Nat.mod_lt _ (by omega)
    have HQU : Hid (wrap64 ((last : Int) / (N : Int)) = ((last / N : Nat) : Int)) := Lib.hid (by
      rw [← Int.natCast_ediv]
      generalize last / N = x at *
      unfold wrap64
      omega)
    have HE15 : Hid (wrap64 ((n : Int) % 128 + wrap64 ((IntKind.u64.wrap nn).tmod (128 - (n : Int) % 128))) = (off : Int)) := Lib.hid (by
      rw [HEM.out, ek, hp, eo]
      unfold wrap64
      omega)
    have HOB : Hid (off < 128 ∧ last ≤ 112 ∧ n ≤ (secs n - 1) * 128 + off) := Lib.hid ⟨ho, hl2, hsl⟩
    clear hq ek hp eo elast ho hsl hpk hk1 hk hoff t0 hq0
    go_quiet ((go_at_call 8; exact Calls.quiet_of_same (HDR.out _)))
    have e14 : wrap64 (2 + wrap64 ((last : Int) / (N : Int))) = ((2 + last / N : Nat) : Int) := by
      rw [HQU.out]
      generalize last / N = x at *
      unfold wrap64
      omega
    have e13 : (last : Int) % (N : Int) = ((last % N : Nat) : Int) := (Int.natCast_emod _ _).symm
    rw [e14, e13]
    clear e14 e13
    have A5 : Hid (Arr.At B (w4.drewN nq) a r 2 s) := Lib.hid (A4.out.drewN nq)
    have K5 : Hid (Keep B w4 (w4.drewN nq)) := Lib.hid ((Keep.refl B w4).drewN nq)
    obtain ⟨w5, hw5⟩ : ∃ w5, w5 = w4.drewN nq := ⟨_, rfl⟩
    rw [← hw5] at A5 K5 ⊢
    have HDE : Hid (last = ad + C - 1) := HLA
    have HDL : Hid (last % N < N ∧ 2 + last / N < 9) := Lib.hid (place_in hN HAD.out h3.1 HLA.out)
    have hdm : 2 + last / N ≤ 9 := Nat.le_of_lt HDL.out.2
    have hdn : last % N ≤ 16 := Nat.le_trans (Nat.le_of_lt HDL.out.1) hN2
    obtain ⟨d, hd⟩ : ∃ d, d = last % N := ⟨_, rfl⟩
    obtain ⟨at_, hat⟩ : ∃ at_, at_ = 2 + last / N := ⟨_, rfl⟩
    rw [← hd, ← hat] at HDL ⊢
    rw [← hd] at hdn
    rw [← hat] at hdm
    have HDD : Hid (d = last % N ∧ at_ = 2 + last / N) := Lib.hid ⟨hd, hat⟩
    have ho := HOB.out.1
    have hgd : s.gone d = false := HLBS.out.gone d
    have HRT := Lib.hid (rot_ok w5 r s d at_ off A5.out.rack (by rw [HLBS.out.nd]; exact HDL.out.1) (by rw [HLBS.out.ns]; exact HDL.out.2) hgd (Nat.le_trans (Nat.le_of_lt ho) (by decide)) (Nat.le_trans (Nat.add_le_add_right HLBS.out.cost 1) (by decide)))
    clear hmv hdv hd hat HQU HDR hw5 hgd
    go_upto_region 10 with (fail)
    rw [HE15.out]
    clear ho
    go_wp2_with fail
    refine HRT.out.mono ?_
    rintro e w6 ⟨rfl, h6, k6⟩
    have HTE : Hid (s.rotted d at_ off = tailS s N n ad off) := Lib.hid (by
      unfold tailS
      rw [HCG.out, ← HLA.out, HDD.out.1, HDD.out.2])
    rw [HTE.out] at h6
    have HTS := Lib.hid (tail_same s N n ad off)
    have A6 : Hid (Arr.At B w6 a r 2 (tailS s N n ad off)) := Lib.hid (A5.out.rack_ h6 k6 HTS.out.1 HTS.out.2.1)
    have K6 : Hid (Keep B w4 w6) := Lib.hid (K5.out.trans k6)
    have HSU : Hid (∀ W, Keep B w4 W → Calls Tryz.prog 11 #[.string (strB n X)] W fun e w' => e = .returned (.string (sumS n X)) ∧ Below W.heap.size W w') := Lib.hid fun W hW => sum_law n X W HX.out (by omega) (KL.out W hW)
    have HTC : Hid ((tailS s N n ad off).calm ∧ (tailS s N n ad off).cost + cost (tailS s N n ad off).nd n ≤ 1000000 ∧ ad + cost (tailS s N n ad off).nd n ≤ cells (tailS s N n ad off) 2 ∧ (tailS s N n ad off).nd = N) := Lib.hid (by
      have hnd : (tailS s N n ad off).nd = N := HTS.out.1.trans HLBS.out.nd
      refine ⟨⟨by rw [HTS.out.2.2.1]; exact HLBS.out.calm.1, by rw [HTS.out.2.2.2.1]; exact HLBS.out.calm.2⟩, ?_, ?_, hnd⟩
      · rw [hnd, HCG.out]
        have h1 := HLBS.out.cost
        have h2 : (tailS s N n ad off).cost ≤ s.cost + 1 := by rw [← HTE.out]; exact rotted_cost _ _ _ _
        have h4 := h3.2
        exact Nat.le_trans (Nat.add_le_add (Nat.le_trans h2 (Nat.add_le_add_right h1 1)) h4) (by decide)
      · unfold cells
        rw [hnd, HCG.out, HTS.out.2.1, HLBS.out.ns]
        exact HAD.out)
    have HRDR : Hid (∀ W, Arr.At B W a r 2 (tailS s N n ad off) → Keep B w4 W → Calls Tryz.prog 10 #[.pointer (some ⟨a, 0, none⟩), .int .i64 (ad : Int), .int .i64 (n : Int), .string (sumS n X)] W fun e w' => (∃ gb c oA oc, e = .returned (.tuple #[.slice (some ⟨gb, 0, none⟩) n c, .slice oA 0 oc, .int .i64 0]) ∧ Gr.OwnG 5 1 csB w' W.heap.size (.slice (some ⟨gb, 0, none⟩) n c) ((List.range n).map X)) ∧ RackAt B w' r (tailS s N n ad off) ∧ Keep B W w') := Lib.hid fun W hA hK =>
      read_tail W hA (KL.out W hK) HP3.out HLBS.out hN hN2 h1 h2 HOB.out.1 HOB.out.2.2 HTC.out.1.1 HTC.out.2.2.1
    clear h6 k6 HRT hdn hdm HE15 HEM
    have HS6 := Lib.hid (HSU.out w6 K6.out)
    go_wp2_with fail
    refine HS6.out.mono ?_
    rintro e w7 ⟨rfl, b7⟩
    have A7 : Hid (Arr.At B w7 a r 2 (tailS s N n ad off)) := Lib.hid (A6.out.grown_ b7)
    have K7 : Hid (Keep B w4 w7) := Lib.hid (K6.out.new b7 A6.out.rack.le)
    have HR7 := Lib.hid (HRDR.out w7 A7.out K7.out)
    clear b7 HS6 A6 K6
    go_wp2_with fail
    refine HR7.out.mono ?_
    rintro e w8 ⟨⟨gb, cb, oA, oc, rfl, o8⟩, h8, k8⟩
    have A8 : Hid (Arr.At B w8 a r 2 (tailS s N n ad off)) := Lib.hid (A7.out.rack_ h8 k8 rfl rfl)
    have K8 : Hid (Keep B w4 w8) := Lib.hid (K7.out.trans k8)
    have O8 := Lib.hid o8
    have HZ8 : Hid (w7.heap.size ≤ w8.heap.size) := Lib.hid k8.below.size
    have HS8 := Lib.hid (HSU.out w8 K8.out)
    clear h8 k8 o8 HR7 A7
    go_wp2_with fail
    refine HS8.out.mono ?_
    rintro e w9 ⟨rfl, b9⟩
    have A9 : Hid (Arr.At B w9 a r 2 (tailS s N n ad off)) := Lib.hid (A8.out.grown_ b9)
    have K9 : Hid (Keep B w4 w9) := Lib.hid (K8.out.new b9 A8.out.rack.le)
    have O9 : Hid (Gr.OwnG 5 1 csB w9 w7.heap.size (.slice (some ⟨gb, 0, none⟩) n cb) ((List.range n).map X)) := Lib.hid (O8.out.below b9 (Nat.le_refl _))
    have HRP := Lib.hid (repair_of w9 A9.out HTC.out.1 ad n h1 h2 HTC.out.2.2.1 HTC.out.2.1 (sumS n X) (fun Z => ∀ j, j < n → Z j = X j) False ((HRDR.out w9 A9.out K9.out).mono (by
      rintro e w' ⟨⟨gb, c, oA, oc, rfl, o⟩, hr, hk⟩
      have hlt : ∀ y ∈ (List.range n).map X, y < 256 := fun y hy => by
        rw [List.mem_map] at hy
        obtain ⟨j, _, rfl⟩ := hy
        exact HX.out j
      obtain ⟨x1, x2, x3⟩ := own_rd o (by simp) hlt
      exact ⟨.inl ⟨_, gb, c, _, getD_lt hlt, fun j hj => getD_map hj, rfl, x1, x2, x3⟩, hr, hk⟩)))
    go_wp2_with fail
    refine HRP.out.mono ?_
    rintro e w10 (⟨Z, hZ, ⟨v10, rfl, o10⟩, r10, k10⟩ | ⟨hf, _⟩)
    rotate_left
    · exact hf.elim
    rw [HTC.out.2.2.2, cellX_congr hZ] at o10 r10
    rw [tail_rep HLBS.out hN h1 HOB.out.1 HOB.out.2.2, cmp_one] at o10
    have HRL := Lib.hid (repS_like (tailS s N n ad off) 2 ad (cellX N n X) (cost N n))
    have HRG : Hid (∀ v, v < 128 → holdsC (repS (tailS s N n ad off) 2 ad (cellX N n X) (cost N n)) 2 last v = cellX N n X (cost N n - 1) v) := Lib.hid fun v hv => by
      have e : last = ad + (cost N n - 1) := by have := HLA.out; have := HCG.out; omega
      rw [e]
      exact repS_good (i := cost N n - 1) (by have := HCG.out; omega) (tail_gone HLBS.out _) v hv
    have HZE := Lib.hid (tail_zero (X := X) hN h1 HOB.out.2.2)
    have HLC : Hid (last < cells (repS (tailS s N n ad off) 2 ad (cellX N n X) (cost N n)) 2) := Lib.hid (by
      rw [HRL.out.1.cells]
      have h1 := HTC.out.2.2.1
      rw [HTC.out.2.2.2, HCG.out] at h1
      have := HLA.out
      omega)
    have HRN : Hid ((repS (tailS s N n ad off) 2 ad (cellX N n X) (cost N n)).nd = N ∧ (repS (tailS s N n ad off) 2 ad (cellX N n X) (cost N n)).off = false ∧ goneC (repS (tailS s N n ad off) 2 ad (cellX N n X) (cost N n)) last = false) := Lib.hid ⟨HRL.out.1.nd.trans HTC.out.2.2.2, HRL.out.1.off.trans HTC.out.1.1, by rw [HRL.out.1.goneC]; exact tail_gone HLBS.out _⟩
    have A10 : Hid (Arr.At B w10 a r 2 (repS (tailS s N n ad off) 2 ad (cellX N n X) (cost N n))) := Lib.hid (A9.out.rack_ r10 k10 HRL.out.1.nd HRL.out.1.ns)
    generalize repS (tailS s N n ad off) 2 ad (cellX N n X) (cost N n) = T at *
    have K10 : Hid (Keep B w4 w10) := Lib.hid (K9.out.trans k10)
    have O10 := Lib.hid o10
    have OB : Hid (Gr.OwnG 5 1 csB w10 w7.heap.size (.slice (some ⟨gb, 0, none⟩) n cb) ((List.range n).map X)) := Lib.hid (ownB_keepK O9.out k10)
    have HRD := Lib.hid (rdC A10.out HRN.out.2.1 HLC.out)
    rw [HRN.out.1, ← HDD.out.1, ← HDD.out.2] at HRD
    have elc : lenC T last = 128 ∧ errC T last = 0 := by unfold lenC errC; rw [HRN.out.2.2]; exact ⟨rfl, rfl⟩
    rw [elc.1, elc.2] at HRD
    obtain ⟨g10, c10, rfl⟩ : ∃ A c, v10 = .slice A 1 c := by
      rcases Nr.own_shape o10 with ⟨_, e⟩ | ⟨g, c, rfl, _⟩
      · cases e
      · exact ⟨_, _, rfl⟩
    clear o10 r10 k10 HRP A9 K9 O9 elc HRL
    go_wp2_with fail
    refine HRD.out.mono ?_
    rintro e w11 ⟨⟨v11, rfl, o11⟩, r11, k11⟩
    have K11 : Hid (Keep B w4 w11) := Lib.hid (K10.out.trans k11)
    have cv := own_conv (ownB_keepK OB.out k11) (fun j _ => HX.out j)
    have ON := ownN_keepK O10.out k11
    obtain ⟨g, cc, eg, _, _, _, _, hcell⟩ : ∃ g c, Value.slice g10 1 c10 = .slice (some ⟨g, 0, none⟩) 1 c ∧ w9.heap.size ≤ g ∧ g < w11.heap.size ∧ 1 ≤ c ∧ c ≤ maxLen ∧ w11.cell? ⟨g, 0, none⟩ = some (.int .i64 (d : Int)) := by
      rcases Nr.own_shape ON with ⟨_, e⟩ | ⟨g, c, e, q1, q2, q3, q4, q5⟩
      · cases e
      · exact ⟨g, c, e, q1, q2, q3, q4, by rw [q5 0 _ rfl, HCG.out, ← HLA.out, ← HDD.out.1]⟩
    injection eg with eg1 _ eg2
    subst eg1 eg2
    obtain ⟨H11, rfl, hH⟩ := owns_head o11
    obtain ⟨e1, e2, e3, e4, e5⟩ := owns_rdb o11 (fun j hj => RS.holds_lt A10.out.rack.1 _ _ j hj)
    obtain ⟨hA, hNn, hCp⟩ := H11
    obtain rfl : hNn = 128 := e2
    obtain ⟨b, o, eb, hb, hc0, _⟩ := e1 off HOB.out.1
    have hdv : hdV (hA, 128, hCp) = .slice hA 128 hCp := rfl
    rw [hdv]
    have eb : hA = some ⟨b, o, none⟩ := eb
    subst eb
    have hval : holdsC T 2 last off = 0 := by rw [HRG.out off HOB.out.1]; exact HZE.out
    rw [hval] at hc0
    have ho128 : off < 128 := HOB.out.1
    have hof : off ≤ 128 := Nat.le_of_lt ho128
    clear o11 r11 k11 e1 e3 e4 e5 hH hval ON
    go_wp2_with fail
    go_ret
    exact ⟨rfl, KB.out _ K11.out⟩
end arrayTails
end Go.Proofs.YtlhjpceaookanaaGreatDoor
