/-
  The walk of 'ArrayStands': a block is read, though any three of its drives are lost or rotten; the drives that are left out are some that failed.
-/
import Derived.Test.YtmfjhnfhpcpfeaaGreatDoorArrStand
import Derived.Test.YtmfjhnfhpcpfeaaGreatDoorArrayHonestWalk
namespace Go.Proofs.YtmfjhnfhpcpfeaaGreatDoor
open Go Go.RowKit refRack
set_option maxRecDepth 100000
set_option linter.unusedVariables false
namespace arrayStands
open Arr Cc
open arrayHonest in
set_option maxHeartbeats 6400000 in
theorem walk (dr adr : Int) (D : ByteArray) (fA hA : Option Addr) (fn fc hn hc : Nat) (fx hx : Nat → Int) (w : World) (hbk : BlkIn w (.agg #[.int .i64 dr, .string D, .int .i64 adr, .slice fA fn fc, .slice hA hn hc]) dr adr D fA hA fn fc hn hc fx hx) (hl : Laid w) :
    Calls Tryz.prog 8 #[.agg #[.int .i64 dr, .string D, .int .i64 adr, .slice fA fn fc, .slice hA hn hc]] w fun e w' => e = .returned (.bool true) ∧ Below w.heap.size w w' := by
  have hpos := hl.pos
  have HYF := Lib.hid hbk
  clear hbk
  obtain ⟨wb, hwb⟩ : ∃ wb, wb = w.alloc (.cells #[.int .i64 dr, .string D, .int .i64 adr, .slice fA fn fc, .slice hA hn hc] 39) := ⟨_, rfl⟩
  have hbb : Below w.heap.size w wb := by rw [hwb]; exact (Below.refl _ _).alloc (Nat.le_refl _) _
  have XB : Hid (Blk wb w.heap.size 39 #[.int .i64 dr, .string D, .int .i64 adr, .slice fA fn fc, .slice hA hn hc]) := Lib.hid (by rw [hwb]; exact Blk.new _ _ _)
  have HBB := Lib.hid hbb
  have HLB : Hid (Laid wb) := Lib.hid (hl.below hbb hpos)
  have HKN := Lib.hid (known_arr wb HLB.out)
  obtain ⟨z, hz⟩ : ∃ z, z = w.heap.size := ⟨_, rfl⟩
  have HZ := Lib.hid hz
  have HWB := Lib.hid hwb
  clear hwb hz hbb hl
  go_enter Tryz.func8, Tryz.ntmps8
  go_wp2_with fail
  rw [← HWB.out, ← HZ.out]
  refine HKN.out.mono ?_
  rintro e w3 ⟨rfl, b3⟩
  have B3 : Hid (Below w.heap.size w w3) := Lib.hid (HBB.out.trans (b3.mono HBB.out.size))
  have X3 : Hid (Blk w3 z 39 #[.int .i64 dr, .string D, .int .i64 adr, .slice fA fn fc, .slice hA hn hc]) := Lib.hid (by rw [HZ.out]; exact XB.out.below b3 XB.out.lt)
  have q0 : w3.cell? ⟨z, 0, none⟩ = some (.int .i64 dr) := X3.out.cell 0
  have q1 : w3.cell? ⟨z, 1, none⟩ = some (.string D) := X3.out.cell 1
  have q2 : w3.cell? ⟨z, 2, none⟩ = some (.int .i64 adr) := X3.out.cell 2
  have q3 : w3.cell? ⟨z, 3, none⟩ = some (.slice fA fn fc) := X3.out.cell 3
  have q4 : w3.cell? ⟨z, 4, none⟩ = some (.slice hA hn hc) := X3.out.cell 4
  have HL3 : Hid (Laid w3) := Lib.hid (HLB.out.below b3 HLB.out.pos)
  clear b3 HKN
  go_wp2_with fail
  refine (lay_law w3 HL3.out.pos dr adr D fA hA fn fc hn hc).mono ?_
  rintro e w4 ⟨r, a, N, n, ad, X, hN, hN2, h1, h2, hX, had, rfl, hA4, k4⟩
  have HLBS := Lib.hid (layS_ok (ad := ad) hN hN2 h1 h2 X)
  generalize layS N n ad X = s at *
  have A4 := Lib.hid hA4
  have HX := Lib.hid hX
  have B4 : Hid (Below w.heap.size w w4) := Lib.hid (B3.out.trans (k4.below.mono B3.out.size))
  have HL4 : Hid (Laid w4) := Lib.hid (HL3.out.below k4.below HL3.out.pos)
  have X4 : Hid (Blk w4 z 39 #[.int .i64 dr, .string D, .int .i64 adr, .slice fA fn fc, .slice hA hn hc]) := Lib.hid (k4.block X3.out rfl)
  have HP3 : Hid (0 < w3.heap.size) := Lib.hid HL3.out.pos
  have HB3 : Hid (w.heap.size ≤ w3.heap.size) := Lib.hid B3.out.size
  generalize w3.heap.size = B at *
  clear hA4 k4 hX q0 q1 q2 q3 q4
  have KB : Hid (∀ W, Keep B w4 W → Below w.heap.size w W) := Lib.hid fun W hW => B4.out.trans (hW.below.mono HB3.out)
  have KL : Hid (∀ W, Keep B w4 W → Laid W) := Lib.hid fun W hW => HL4.out.below hW.below HP3.out
  have KF : Hid (∀ W, Keep B w4 W → Arr.RdZ W W.heap.size fA fn fx) := Lib.hid fun W hW => (HYF.out.fail.below (KB.out W hW) (Nat.le_refl _)).mono (KB.out W hW).size
  have KH : Hid (∀ W, Keep B w4 W → Arr.RdZ W W.heap.size hA hn hx) := Lib.hid fun W hW => (HYF.out.how.below (KB.out W hW) (Nat.le_refl _)).mono (KB.out W hW).size
  have hsn : (strB n X).size = n := strB_size _ _
  have HFA := Lib.hid (fail_any w4 A4.out.rack A4.out.five dr adr D fA hA fn fc hn hc fx hx KF.out KH.out ⟨HYF.out.f1, HYF.out.f2⟩ ⟨HYF.out.h1, HYF.out.h2⟩ HLBS.out.ns (by have := HLBS.out.cost; omega))
  have q0 : w4.cell? ⟨z, 0, none⟩ = some (.int .i64 dr) := X4.out.cell 0
  have q1 : w4.cell? ⟨z, 1, none⟩ = some (.string D) := X4.out.cell 1
  have q2 : w4.cell? ⟨z, 2, none⟩ = some (.int .i64 adr) := X4.out.cell 2
  have q3 : w4.cell? ⟨z, 3, none⟩ = some (.slice fA fn fc) := X4.out.cell 3
  have q4 : w4.cell? ⟨z, 4, none⟩ = some (.slice hA hn hc) := X4.out.cell 4
  go_wp2_with fail
  refine HFA.out.mono ?_
  rintro e w5 ⟨g5, t7, l5, rfl, hY5, hF5, hl5, hl5n, hR5, hK5⟩
  have F5 := Lib.hid hF5
  have K5 := Lib.hid hK5
  have Y5 := Lib.hid hY5
  have L5 := Lib.hid (⟨hl5, hl5n⟩ : _ ∧ _)
  have A5 : Hid (Arr.At B w5 a r 2 t7) := Lib.hid (A4.out.rack_ hR5 hK5 hF5.nd hF5.ns)
  have HOFF : Hid (t7.off = false) := Lib.hid (by rw [hF5.off]; exact HLBS.out.calm.1)
  have HND : Hid (t7.nd = N ∧ t7.ns = 9 ∧ s.nd = N) := Lib.hid ⟨by rw [hF5.nd]; exact HLBS.out.nd, by rw [hF5.ns]; exact HLBS.out.ns, HLBS.out.nd⟩
  have HST := Lib.hid (stand_fit HLBS.out hF5 hl5 hN hN2 h1 (fun j _ => HX.out j))
  clear hF5 hR5 hK5 hY5 hl5 hl5n HFA q0 q1 q2 q3 q4
  rw [HND.out.2.2] at Y5
  have hsnd := HND.out.2.2
  have HSU := Lib.hid (sum_law n X w5 HX.out (by omega) (KL.out _ K5.out))
  go_wp2_with fail
  refine HSU.out.mono ?_
  rintro e w8 ⟨rfl, b8⟩
  have A8 : Hid (Arr.At B w8 a r 2 t7) := Lib.hid (A5.out.grown_ b8)
  have K8 : Hid (Keep B w4 w8) := Lib.hid (K5.out.new b8 A5.out.rack.le)
  have Y8 := Lib.hid (Y5.out.below b8 Y5.out.lt)
  have HRD := Lib.hid (readA_any w8 A8.out (KL.out _ K8.out) HP3.out HOFF.out ad n h1 h2 (by unfold cells; rw [HND.out.1, HND.out.2.1]; exact had) (sumS n X) (strB_size _ _))
  clear b8 HSU
  go_wp2_with fail
  refine HRD.out.mono ?_
  rintro e w9 ⟨hp9, h9, k9⟩
  have A9 : Hid (Arr.At B w9 a r 2 t7) := Lib.hid (A8.out.rack_ h9 k9 rfl rfl)
  have K9 : Hid (Keep B w4 w9) := Lib.hid (K8.out.trans k9)
  have Y9 := Lib.hid (k9.block Y8.out rfl)
  rcases hp9 with ⟨rfl, hno⟩ | ⟨m, q, gb, c, ov, hm, _, hfit, hok, rfl, hb9, ho9⟩
  · exfalso
    obtain ⟨hg3, T, hT1, hT2, hT3⟩ := HST.out
    rcases hno with hno | hno
    · omega
    · have h := anyP_all _ _ _ (hno T.length hT2) T hT1 rfl
      rw [List.nil_append, hT3] at h
      cases h
  · obtain ⟨f1, f2, f3⟩ := arrayHonest.fit_sum A9.out.rack.1 A9.out.five A9.out.bounds.1 h1 hm hok hfit
    have cv := conv_rd (cap := c) (rdB_own hb9 f1 f2)
    have hlt := getD_lt f2
    obtain ⟨Z, hZ⟩ : ∃ Z : Nat → Nat, Z = fun j => (datP t7.nd n ad (goneB t7 ad n) (heldB t7 2 ad) q).getD j 0 := ⟨_, rfl⟩
    have HLT : Hid (∀ j, Z j < 256) := Lib.hid (by rw [hZ]; exact hlt)
    rw [← hZ] at cv f3
    have HEQ : Hid ((sumS n Z).toList = (sumS n X).toList) := Lib.hid (beq_iff_eq.1 f3)
    -- the drives left out: three at most, each one of the array's
    have HOL : Hid ((outP (goneB t7 ad n) q).length ≤ 3 ∧ ∀ x ∈ outP (goneB t7 ad n) q, x < N) := Lib.hid (by
      obtain ⟨T, e, hl, hs⟩ := hok
      have e : q = T := by simpa using e
      subst e
      have hdl : ∀ x ∈ Sq.srt (drvL t7.nd ad (min (cost t7.nd n) t7.nd)), x < N := fun x hx => by
        have := drv_lt (N := t7.nd) (ad := ad) (m := min (cost t7.nd n) t7.nd) (by rw [HND.out.1]; omega) x hx
        rw [HND.out.1] at this
        exact this
      refine ⟨by unfold outP; rw [Sq.srt_length, List.length_append]; omega, fun x hx => ?_⟩
      unfold outP at hx
      rw [Sq.mem_srt, List.mem_append] at hx
      rcases hx with hx | hx
      · exact hdl x (List.mem_filter.1 hx).1
      · exact hdl x (List.mem_filter.1 (hs.subset hx)).1)
    obtain ⟨oA, oc, rfl, hoc⟩ := ints_cell (Sq.own_ints ho9)
    have HOC := Lib.hid hoc
    clear h9 k9 HRD hm hfit hok f1 f2 f3 hb9 ho9 hlt hZ hoc
    generalize outP (goneB t7 ad n) q = ol at *
    have hol3 : ol.length ≤ 3 := HOL.out.1
    generalize hon : ol.length = on at *
    have HON := Lib.hid hon
    clear hon
    cases hsame : ((strB n Z).toList == (strB n X).toList) with
    | false =>
      have HS1 := Lib.hid (sum_law n Z w9 HLT.out (by omega) (KL.out _ K9.out))
      go_wp2_with fail
      refine HS1.out.mono ?_
      rintro e w10 ⟨rfl, b10⟩
      have K10 : Hid (Keep B w4 w10) := Lib.hid (K9.out.new b10 A9.out.rack.le)
      have HS2 := Lib.hid (sum_law n X w10 HX.out (by omega) (KL.out _ K10.out))
      have A10 : Hid (Arr.At B w10 a r 2 t7) := Lib.hid (A9.out.grown_ b10)
      have he := HEQ.out
      clear b10 HS1 cv
      go_wp2_with fail
      refine HS2.out.mono ?_
      rintro e w11 ⟨rfl, b11⟩
      have K11 : Hid (Keep B w4 w11) := Lib.hid (K10.out.new b11 A10.out.rack.le)
      clear b11 HS2
      go_wp2_with fail
      go_ret
      exact ⟨rfl, KB.out _ K11.out⟩
    | true =>
      go_wp2_with fail
      clear cv hsame
      go_loopw [12] (fun y wr => ∃ j : Nat, j ≤ on ∧ y = .int .i64 (j : Int) ∧ Hid (wr = w9)) (fun y _ => on - (intOf y).toNat)
      case atStart => exact ⟨0, Nat.zero_le _, rfl, Lib.hid rfl⟩
      case round =>
        obtain ⟨j, hj, rfl, HWR⟩ := hrel
        obtain rfl := HWR.out
        by_cases hlj : j < on
        · have hjl : j < ol.length := by have := HON.out; omega
          have hx0 : ol[j]? = some ol[j] := List.getElem?_eq_getElem hjl
          obtain ⟨vb, vo, ve, hvb, p1⟩ := HOC.out j _ hx0
          have hxN : ol[j] < N := HOL.out.2 _ (List.getElem_mem hjl)
          generalize ol[j] = x at *
          subst ve
          have HGN := Lib.hid (gone_any wr r t7 (x : Int) A9.out.rack)
          have e6 : t7.isD (x : Int) = true := by rw [isD_nat, HND.out.1, decide_eq_true hxN]
          rw [e6, Int.toNat_natCast, Bool.true_and] at HGN
          have u1 : wr.cell? ⟨g5, x, none⟩ = some (.bool (decide (x ∈ l5))) := by rw [Y9.out.cell, boolA_get hxN]
          clear e6 hx0 hjl
          cases hgx : t7.gone x with
          | false =>
            rw [hgx] at HGN
            go_wp2_with fail
            refine HGN.out.mono ?_
            rintro e w6 ⟨rfl, hw6⟩
            have hw6 := hw6.symm
            subst hw6
            go_wp2_with fail
            go_roundw
            case rel => exact ⟨j + 1, by omega, by go_num, Lib.hid (by first | rfl | trivial)⟩
            case measure => simp [intOf]; omega
          | true =>
            have hxl : decide (x ∈ l5) = true := decide_eq_true (by
              rcases F5.out.goneL x hgx with h | h
              · rw [HLBS.out.gone] at h; cases h
              · exact h)
            rw [hxl] at u1
            rw [hgx] at HGN
            clear hxl hgx
            go_wp2_with fail
            refine HGN.out.mono ?_
            rintro e w6 ⟨rfl, hw6⟩
            have hw6 := hw6.symm
            subst hw6
            go_wp2_with fail
            go_roundw
            case rel => exact ⟨j + 1, by omega, by go_num, Lib.hid (by first | rfl | trivial)⟩
            case measure => simp [intOf]; omega
        · obtain rfl : j = on := by omega
          go_wp2_with fail
          go_ret
          exact ⟨by first | rfl | (congr 2; simp; omega), KB.out _ K9.out⟩
end arrayStands
end Go.Proofs.YtmfjhnfhpcpfeaaGreatDoor
