/-
  The walk of 'ArrayHonest': however many drives fail, what is read has the sum that was asked for, or it is an error.
-/
import Derived.Test.YtmfjhnfhpcpfeaaGreatDoorArrFail
namespace Go.Proofs.YtmfjhnfhpcpfeaaGreatDoor
open Go Go.RowKit refRack
set_option maxRecDepth 100000
set_option linter.unusedVariables false
namespace arrayHonest
open Arr Cc
theorem fit_sum {s : RS} {f ad n m : Nat} {X : Nat → Nat} {q : List Nat} (hok : s.ok) (h5 : 5 ≤ s.nd) (h16 : s.nd ≤ 16) (h1 : 1 ≤ n) (hm : m + (goneB s ad n).length ≤ 3) (hq : OkSub (hereB s ad n) m [] q) (hf : fitB s f ad n (sumS n X) q = true) :
    (datP s.nd n ad (goneB s ad n) (heldB s f ad) q).length = n ∧ (∀ y ∈ datP s.nd n ad (goneB s ad n) (heldB s f ad) q, y < 256) ∧ ((sumS n fun j => (datP s.nd n ad (goneB s ad n) (heldB s f ad) q).getD j 0).toList == (sumS n X).toList) = true := by
  obtain ⟨t, e, hl, _⟩ := hq
  have hq : q.length = m := by rw [e]; simpa using hl
  have hlen : (datP s.nd n ad (goneB s ad n) (heldB s f ad) q).length = n := by
    unfold datP
    have := secs_ge n
    rw [List.length_take, rebL_len h5 h1]
    omega
  refine ⟨hlen, fun y hy => ?_, ?_⟩
  · refine rebL_lt h5 h16 h1 (by unfold outP; rw [Sq.srt_length, List.length_append]; omega) (fun i hi _ v hv => ?_) y (List.mem_of_mem_take hy)
    exact RS.holds_lt hok _ _ v hv
  · unfold fitB fitP sumL at hf
    rw [hlen] at hf
    exact hf
set_option maxHeartbeats 6400000 in
theorem walk (dr adr : Int) (D : ByteArray) (fA hA : Option Addr) (fn fc hn hc : Nat) (fx hx : Nat → Int) (lA : Option Addr) (L lc : Nat) (y : Nat → Int) (w : World) (hbk : BlkIn w (.agg #[.int .i64 dr, .string D, .int .i64 adr, .slice fA fn fc, .slice hA hn hc]) dr adr D fA hA fn fc hn hc fx hx) (hy : Arr.RdZ w w.heap.size lA L y ∧ L ≤ lc ∧ lc ≤ maxLen) (hl : Laid w) :
    Calls Tryz.prog 7 #[.agg #[.int .i64 dr, .string D, .int .i64 adr, .slice fA fn fc, .slice hA hn hc], .slice lA L lc] w fun e w' => e = .returned (.bool true) ∧ Below w.heap.size w w' := by
  have hpos := hl.pos
  have HY := Lib.hid hy.1
  have HYL := Lib.hid hy.2
  have HYF := Lib.hid hbk
  clear hy hbk
  obtain ⟨wb, hwb⟩ : ∃ wb, wb = w.alloc (.cells #[.int .i64 dr, .string D, .int .i64 adr, .slice fA fn fc, .slice hA hn hc] 39) := ⟨_, rfl⟩
  have hbb : Below w.heap.size w wb := by rw [hwb]; exact (Below.refl _ _).alloc (Nat.le_refl _) _
  have XB : Hid (Blk wb w.heap.size 39 #[.int .i64 dr, .string D, .int .i64 adr, .slice fA fn fc, .slice hA hn hc]) := Lib.hid (by rw [hwb]; exact Blk.new _ _ _)
  have HBB := Lib.hid hbb
  have HLB : Hid (Laid wb) := Lib.hid (hl.below hbb hpos)
  have HKN := Lib.hid (known_arr wb HLB.out)
  obtain ⟨z, hz⟩ : ∃ z, z = w.heap.size := ⟨_, rfl⟩
  have HZ := Lib.hid hz
  have HWB := Lib.hid hwb
  clear hwb hz hbb hl
  go_enter Tryz.func7, Tryz.ntmps7
  go_wp2_with fail
  rw [← HWB.out, ← HZ.out]
  refine HKN.out.mono ?_
  rintro e w3 ⟨rfl, b3⟩
  have B3 : Hid (Below w.heap.size w w3) := Lib.hid (HBB.out.trans (b3.mono HBB.out.size))
  have X3 : Hid (Blk w3 z 39 #[.int .i64 dr, .string D, .int .i64 adr, .slice fA fn fc, .slice hA hn hc]) := Lib.hid (by rw [HZ.out]; exact XB.out.below b3 XB.out.lt)
  have q0 : w3.cell? ⟨z, 0, none⟩ = some (.int .i64 dr) := X3.out.cell 0
  have q1 : w3.cell? ⟨z, 1, none⟩ = some (.string D) := X3.out.cell 1
  have q2 : w3.cell? ⟨z, 2, none⟩ = some (.int .i64 adr) := X3.out.cell 2
  have q3 : w3.cell? ⟨z, 3, none⟩ = some (.slice fA fn fc) := X3.out.cell 3
  have q4 : w3.cell? ⟨z, 4, none⟩ = some (.slice hA hn hc) := X3.out.cell 4
  have HL3 : Hid (Laid w3) := Lib.hid (HLB.out.below b3 HLB.out.pos)
  clear b3 HKN
  go_wp2_with fail
  refine (lay_law w3 HL3.out.pos dr adr D fA hA fn fc hn hc).mono ?_
  rintro e w4 ⟨r, a, N, n, ad, X, hN, hN2, h1, h2, hX, had, rfl, hA4, k4⟩
  have HLBS := Lib.hid (layS_ok (ad := ad) hN hN2 h1 h2 X)
  generalize layS N n ad X = s at *
  have A4 := Lib.hid hA4
  have HX := Lib.hid hX
  have B4 : Hid (Below w.heap.size w w4) := Lib.hid (B3.out.trans (k4.below.mono B3.out.size))
  have HL4 : Hid (Laid w4) := Lib.hid (HL3.out.below k4.below HL3.out.pos)
  have X4 : Hid (Blk w4 z 39 #[.int .i64 dr, .string D, .int .i64 adr, .slice fA fn fc, .slice hA hn hc]) := Lib.hid (k4.block X3.out rfl)
  have HP3 : Hid (0 < w3.heap.size) := Lib.hid HL3.out.pos
  have HB3 : Hid (w.heap.size ≤ w3.heap.size) := Lib.hid B3.out.size
  generalize w3.heap.size = B at *
  clear hA4 k4 hX q0 q1 q2 q3 q4
  have KB : Hid (∀ W, Keep B w4 W → Below w.heap.size w W) := Lib.hid fun W hW => B4.out.trans (hW.below.mono HB3.out)
  have KL : Hid (∀ W, Keep B w4 W → Laid W) := Lib.hid fun W hW => HL4.out.below hW.below HP3.out
  have KF : Hid (∀ W, Keep B w4 W → Arr.RdZ W W.heap.size fA fn fx) := Lib.hid fun W hW => (HYF.out.fail.below (KB.out W hW) (Nat.le_refl _)).mono (KB.out W hW).size
  have KH : Hid (∀ W, Keep B w4 W → Arr.RdZ W W.heap.size hA hn hx) := Lib.hid fun W hW => (HYF.out.how.below (KB.out W hW) (Nat.le_refl _)).mono (KB.out W hW).size
  have KY : Hid (∀ W, Keep B w4 W → Arr.RdZ W W.heap.size lA L y) := Lib.hid fun W hW => (HY.out.below (KB.out W hW) (Nat.le_refl _)).mono (KB.out W hW).size
  have hsn : (strB n X).size = n := strB_size _ _
  have HFA := Lib.hid (fail_any w4 A4.out.rack A4.out.five dr adr D fA hA fn fc hn hc fx hx KF.out KH.out ⟨HYF.out.f1, HYF.out.f2⟩ ⟨HYF.out.h1, HYF.out.h2⟩ HLBS.out.ns (by have := HLBS.out.cost; omega))
  have q0 : w4.cell? ⟨z, 0, none⟩ = some (.int .i64 dr) := X4.out.cell 0
  have q1 : w4.cell? ⟨z, 1, none⟩ = some (.string D) := X4.out.cell 1
  have q2 : w4.cell? ⟨z, 2, none⟩ = some (.int .i64 adr) := X4.out.cell 2
  have q3 : w4.cell? ⟨z, 3, none⟩ = some (.slice fA fn fc) := X4.out.cell 3
  have q4 : w4.cell? ⟨z, 4, none⟩ = some (.slice hA hn hc) := X4.out.cell 4
  go_wp2_with fail
  refine HFA.out.mono ?_
  rintro e w5 ⟨g5, t5, l5, rfl, _, hF5, _, _, hR5, hK5⟩
  have F5 := Lib.hid hF5
  have R5 := Lib.hid hR5
  have K5 := Lib.hid hK5
  have A5 : Hid (Arr.At B w5 a r 2 t5) := Lib.hid (A4.out.rack_ hR5 hK5 hF5.nd hF5.ns)
  clear hF5 hR5 hK5 HFA q0 q1 q2 q3 q4
  have hbi : ∀ W : World, (Instr.buildSlice 33 3 #[(0, .int .i64 0), (1, .int .i64 2), (2, .int .i64 4)]).run Tryz.prog W = .ok (.slice (some ⟨W.heap.size, 0, none⟩) 3 3) (W.alloc (.cells #[.int .i64 0, .int .i64 2, .int .i64 4] 3)) := fun W => by kernel_rfl
  obtain ⟨w6, hw6⟩ : ∃ w6, w6 = w5.alloc (.cells #[.int .i64 0, .int .i64 2, .int .i64 4] 3) := ⟨_, rfl⟩
  have b6 : Below w5.heap.size w5 w6 := by rw [hw6]; exact (Below.refl _ _).alloc (Nat.le_refl _) _
  have X6 : Blk w6 w5.heap.size 3 #[.int .i64 0, .int .i64 2, .int .i64 4] := by rw [hw6]; exact Blk.new _ _ _
  have A6 : Hid (Arr.At B w6 a r 2 t5) := Lib.hid (A5.out.grown_ b6)
  have K6 : Hid (Keep B w4 w6) := Lib.hid (K5.out.new b6 R5.out.le)
  have HFB := Lib.hid (fail_any w6 A6.out.rack A6.out.five 0 0 ⟨#[]⟩ lA (some ⟨w5.heap.size, 0, none⟩) L lc 3 3 y (fun j => ((2 * j : Nat) : Int)) (fun W hW => KY.out W (K6.out.trans hW)) (fun W hW j hj => by
    have hb := hW.block X6 rfl
    refine ⟨w5.heap.size, 0, rfl, hb.lt, ?_, by show _ ≤ ((2 * j : Nat) : Int); omega, by show ((2 * j : Nat) : Int) ≤ _; omega⟩
    rw [Nat.zero_add, hb.cell]
    rcases (show j = 0 ∨ j = 1 ∨ j = 2 by omega) with rfl | rfl | rfl <;> rfl) HYL.out ⟨Nat.le_refl _, by decide⟩ (F5.out.ns.trans HLBS.out.ns) (by have := F5.out.cst; have := HLBS.out.cost; omega))
  have HW6 := Lib.hid hw6
  clear b6 X6 hw6
  go_wp2_with fail
  rw [← HW6.out]
  refine HFB.out.mono ?_
  rintro e w7 ⟨g7, t7, l7, rfl, _, hF7, _, _, hR7, hK7⟩
  have F7 := Lib.hid hF7
  have K7 := Lib.hid (K6.out.trans hK7)
  have A7 : Hid (Arr.At B w7 a r 2 t7) := Lib.hid (A6.out.rack_ hR7 hK7 hF7.nd hF7.ns)
  have HOFF : Hid (t7.off = false) := Lib.hid (by rw [hF7.off, F5.out.off]; exact HLBS.out.calm.1)
  have HND : Hid (t7.nd = N ∧ t7.ns = 9) := Lib.hid ⟨by rw [hF7.nd, F5.out.nd]; exact HLBS.out.nd, by rw [hF7.ns, F5.out.ns]; exact HLBS.out.ns⟩
  clear hF7 hR7 hK7 HFB hbi
  have HSU := Lib.hid (sum_law n X w7 HX.out (by omega) (KL.out _ K7.out))
  go_wp2_with fail
  refine HSU.out.mono ?_
  rintro e w8 ⟨rfl, b8⟩
  have A8 : Hid (Arr.At B w8 a r 2 t7) := Lib.hid (A7.out.grown_ b8)
  have K8 : Hid (Keep B w4 w8) := Lib.hid (K7.out.new b8 A7.out.rack.le)
  have HRD := Lib.hid (readA_any w8 A8.out (KL.out _ K8.out) HP3.out HOFF.out ad n h1 h2 (by unfold cells; rw [HND.out.1, HND.out.2]; exact had) (sumS n X) (strB_size _ _))
  clear b8 HSU
  go_wp2_with fail
  refine HRD.out.mono ?_
  rintro e w9 ⟨hp9, h9, k9⟩
  have A9 : Hid (Arr.At B w9 a r 2 t7) := Lib.hid (A8.out.rack_ h9 k9 rfl rfl)
  have K9 : Hid (Keep B w4 w9) := Lib.hid (K8.out.trans k9)
  rcases hp9 with ⟨rfl, _⟩ | ⟨m, q, gb, c, ov, hm, _, hfit, hok, rfl, hb9, ho9⟩
  · clear h9 k9 HRD
    go_wp2_with fail
    go_ret
    exact ⟨rfl, KB.out _ K9.out⟩
  · obtain ⟨f1, f2, f3⟩ := fit_sum A9.out.rack.1 A9.out.five A9.out.bounds.1 h1 hm hok hfit
    have cv := conv_rd (cap := c) (rdB_own hb9 f1 f2)
    have hlt := getD_lt f2
    obtain ⟨Z, hZ⟩ : ∃ Z : Nat → Nat, Z = fun j => (datP t7.nd n ad (goneB t7 ad n) (heldB t7 2 ad) q).getD j 0 := ⟨_, rfl⟩
    have HLT : Hid (∀ j, Z j < 256) := Lib.hid (by rw [hZ]; exact hlt)
    rw [← hZ] at cv f3
    have HEQ : Hid ((sumS n Z).toList = (sumS n X).toList) := Lib.hid (beq_iff_eq.1 f3)
    clear hlt hZ
    generalize (datP t7.nd n ad (goneB t7 ad n) (heldB t7 2 ad) q) = dl at *
    have HS1 := Lib.hid (sum_law n Z w9 HLT.out (by omega) (KL.out _ K9.out))
    obtain ⟨oA, on, oc, rfl⟩ : ∃ oA on oc, ov = .slice oA on oc := by
      rcases Nr.own_shape ho9 with ⟨rfl, _⟩ | ⟨g, c, rfl, _⟩
      · exact ⟨none, 0, 0, rfl⟩
      · exact ⟨_, _, _, rfl⟩
    clear h9 k9 HRD hm hfit hok f1 f2 f3 hb9 ho9
    go_wp2_with fail
    refine HS1.out.mono ?_
    rintro e w10 ⟨rfl, b10⟩
    have K10 : Hid (Keep B w4 w10) := Lib.hid (K9.out.new b10 A9.out.rack.le)
    have HS2 := Lib.hid (sum_law n X w10 HX.out (by omega) (KL.out _ K10.out))
    have A10 : Hid (Arr.At B w10 a r 2 t7) := Lib.hid (A9.out.grown_ b10)
    have he := HEQ.out
    clear b10 HS1 cv
    go_wp2_with fail
    refine HS2.out.mono ?_
    rintro e w11 ⟨rfl, b11⟩
    have K11 : Hid (Keep B w4 w11) := Lib.hid (K10.out.new b11 A10.out.rack.le)
    clear b11 HS2
    go_wp2_with fail
    go_ret
    exact ⟨rfl, KB.out _ K11.out⟩
end arrayHonest
end Go.Proofs.YtmfjhnfhpcpfeaaGreatDoor
