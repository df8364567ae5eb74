/-
 'array.unlay' by a contract: the data of a row, made again without some of its cells. Conditions: one to thirteen data cells, three bad ones at most, the others have 128 bytes.
-/
import Derived.Test.YtkbndlnmbbbohaaGreatDoorArrRowM
namespace Go.Proofs.YtkbndlnmbbbohaaGreatDoor
open Go Go.RowKit
set_option maxRecDepth 100000
set_option linter.unusedVariables false
namespace Arr
open Cc
def hdL (m : Nat) (H : Nat → Hd) : List Hd := (List.range m).map H
theorem hdL_length (m : Nat) (H : Nat → Hd) : (hdL m H).length = m := by simp [hdL]
theorem hdL_get {m i : Nat} {H : Nat → Hd} {h : Hd} (e : (hdL m H)[i]? = some h) : i < m ∧ h = H i := by
 have hi := (List.getElem?_eq_some_iff.1 e).1
 rw [hdL_length] at hi
 unfold hdL at e
 rw [List.getElem?_map, List.getElem?_range hi] at e
 injection e with e
 exact ⟨hi, e.symm⟩
theorem joinL_len {α : Type} {L : Nat → List α} {m : Nat} (h : ∀ j, (L j).length = m) : ∀ k, (joinL L k).length = k * m
 | 0 => by simp [joinL]
 | k + 1 => by rw [joinL_succ, List.length_append, joinL_len h k, h, Nat.succ_mul]
theorem joinL_congr {α : Type} {L M : Nat → List α} : ∀ {k : Nat}, (∀ j, j < k → L j = M j) → joinL L k = joinL M k
 | 0, _ => rfl
 | k + 1, h => by rw [joinL_succ, joinL_succ, joinL_congr fun j hj => h j (by omega), h k (by omega)]
theorem one_ne_zero_nat : ((1 : Nat) = 0) = False := by simp
set_option maxHeartbeats 3200000 in
theorem unlay_any (g o k cc B : Nat) (ra : Nat → Option Addr) (rl rc : Nat → Nat) (x : Nat → Nat → Nat) (w : World) (hr : RdR w B (some ⟨g, o, none⟩) (k + 3) ra rl rc x) (hB : B ≤ w.heap.size) (hk1 : 1 ≤ k) (hk : k ≤ 13) (hcc : k + 3 ≤ cc) (hcm : cc ≤ maxLen)
  (lb : Array Value) (bd : Nat → Bool) (hbad : ∀ W, Below w.heap.size w W → ∀ i, i < k + 3 → Calls Tryz.prog 118 (#[.int .i64 (i : Int)] ++ lb) W fun e w' => e = .returned (.bool (bd i)) ∧ ∃ d, w' = W.drewN d) (hm : (plc k bd).length ≤ 3) (hgood : ∀ i, i < k + 3 → bd i = false → rl i = 128) :
  Calls Tryz.prog 117 #[.slice (some ⟨g, o, none⟩) (k + 3) cc, .func (.func 118) #[] lb] w fun e w' => ∃ v, e = .returned v ∧ Gr.OwnG 5 1 csB w' w.heap.size v (joinL (fun t => (List.range 128).map (outRow k bd x t)) k) ∧ Below w.heap.size w w' := by
 have HR := Lib.hid hr
 have HBB := Lib.hid hB
 have HBAD := Lib.hid hbad
 have HM := Lib.hid hm
 have HGD := Lib.hid hgood
 have hs1 : ∀ W, (Instr.sliceAt 139 (.slice (some ⟨g, o, none⟩) (k + 3) cc) (some (.int .i64 3)) none none).run Tryz.prog W = .ok (.slice (some ⟨g, o + 3, none⟩) k (cc - 3)) W := fun W => by
  have h := slice_tailR g o (k + 3) cc 3 (by omega) W
  rw [if_neg (by omega), show k + 3 - 3 = k by omega] at h
  exact h
 have hs2 : ∀ W, (Instr.sliceAt 139 (.slice (some ⟨g, o, none⟩) (k + 3) cc) none (some (.int .i64 3)) none).run Tryz.prog W = .ok (.slice (some ⟨g, o, none⟩) 3 cc) W := fun W => slice_headR g o (k + 3) cc 3 (by omega) W
 obtain ⟨hgB, _, _⟩ := hr.head (show 0 < k + 3 by omega)
 have hbs : ∀ W : World, (Instr.buildSlice 266 2 #[(0, .slice (some ⟨g, o + 3, none⟩) k (cc - 3)), (1, .slice (some ⟨g, o, none⟩) 3 cc)]).run Tryz.prog W = .ok (.slice (some ⟨W.heap.size, 0, none⟩) 2 2) (W.alloc (.cells #[.slice (some ⟨g, o + 3, none⟩) k (cc - 3), .slice (some ⟨g, o, none⟩) 3 cc] 139)) := fun W => by kernel_rfl
 unfold maxLen at hcm
 clear hr hB hbad hm hgood
 go_enter Tryz.func117, Tryz.ntmps117
 go_wp2_with fail
 refine region_quiet_tail 4 (by kernel_rfl) (by kernel_rfl) ?_
 simp only [List.take_succ_cons, List.take_zero, List.drop_succ_cons, List.drop_zero]
 repeat (quiet_step (fail))
 refine wpQuiet_nil ?_
 rintro _ ⟨nq, rfl⟩
 have B1 : Hid (Below w.heap.size w ((w.drewN nq).alloc (.cells #[.slice (some ⟨g, o + 3, none⟩) k (cc - 3), .slice (some ⟨g, o, none⟩) 3 cc] 139))) := Lib.hid ((below_drewN (Below.refl _ _) nq).alloc (Nat.le_refl _) _)
 have X1 : Hid (Blk ((w.drewN nq).alloc (.cells #[.slice (some ⟨g, o + 3, none⟩) k (cc - 3), .slice (some ⟨g, o, none⟩) 3 cc] 139)) w.heap.size 139 #[.slice (some ⟨g, o + 3, none⟩) k (cc - 3), .slice (some ⟨g, o, none⟩) 3 cc]) := Lib.hid (Blk.new (w.drewN nq) _ _)
 go_wp2_with fail
 generalize (w.drewN nq).alloc (.cells #[.slice (some ⟨g, o + 3, none⟩) k (cc - 3), .slice (some ⟨g, o, none⟩) 3 cc] 139) = w1 at *
 have HJ2 : Hid (joinL (fun j => if j = 0 then hdL k (fun i => (ra (i + 3), rl (i + 3), rc (i + 3))) else hdL 3 (fun i => (ra i, rl i, rc i))) 2 = hdL (k + 3) (fun i => (ra (pi k i), rl (pi k i), rc (pi k i)))) := Lib.hid (by
  show joinL _ 2 = _
  unfold joinL hdL
  rw [List.range_add, List.map_append, List.map_map]
  show List.flatMap _ [0, 1] = _
  simp only [List.flatMap_cons, List.flatMap_nil, List.append_nil, if_true, one_ne_zero_nat, if_false]
  congr 1
  ·refine List.map_congr_left fun i hi => ?_
   have hi : i < k := by simpa using hi
   unfold pi
   rw [if_pos hi]
  ·refine List.map_congr_left fun i hi => ?_
   show _ = (ra (pi k (k + i)), rl (pi k (k + i)), rc (pi k (k + i)))
   unfold pi
   rw [if_neg (by omega), show k + i - k = i by omega])
 have hcell : ∀ i, i < k + 3 → w1.cell? ⟨g, o + i, none⟩ = some (hdV (ra i, rl i, rc i)) := fun i hi => by
  obtain ⟨h1, h2, _⟩ := HR.out.head hi
  exact (B1.out.cell (p := ⟨g, o + i, none⟩) (by have := HBB.out; show g < _; omega)).trans h2
 have HC := Lib.hid (concat_H w.heap.size 0 2 2 (fun j => if j = 0 then some ⟨g, o + 3, none⟩ else some ⟨g, o, none⟩) (fun j => if j = 0 then hdL k (fun i => (ra (i + 3), rl (i + 3), rc (i + 3))) else hdL 3 (fun i => (ra i, rl i, rc i))) (fun j => if j = 0 then cc - 3 else cc) w1 X1.out.lt (by omega) (fun j hj => by
  have hgl : g < w1.heap.size := by have := HBB.out; have := B1.out.size; omega
  rcases (show j = 0 ∨ j = 1 by omega) with rfl | rfl
  ·refine ⟨?_, fun i h e => ?_, fun e => by cases e⟩
   ·rw [X1.out.cell]; simp [hdL]
   ·obtain ⟨hi, rfl⟩ := hdL_get e
    refine ⟨g, o + 3, rfl, hgl, fun j u hu => ?_⟩
    obtain ⟨rfl, rfl⟩ : j = 0 ∧ u = hdV (ra (i + 3), rl (i + 3), rc (i + 3)) := by
     have hj := (List.getElem?_eq_some_iff.1 hu).1
     simp [csH] at hj
     subst hj
     simp [csH] at hu
     exact ⟨rfl, hu.symm⟩
    rw [Nat.mul_one, Nat.add_zero, show o + 3 + i = o + (i + 3) by omega]
    exact hcell (i + 3) (by omega)
  ·refine ⟨?_, fun i h e => ?_, fun e => by cases e⟩
   ·rw [X1.out.cell]; simp [hdL]
   ·obtain ⟨hi, rfl⟩ := hdL_get e
    refine ⟨g, o, rfl, hgl, fun j u hu => ?_⟩
    obtain ⟨rfl, rfl⟩ : j = 0 ∧ u = hdV (ra i, rl i, rc i) := by
     have hj := (List.getElem?_eq_some_iff.1 hu).1
     simp [csH] at hj
     subst hj
     simp [csH] at hu
     exact ⟨rfl, hu.symm⟩
    rw [Nat.mul_one, Nat.add_zero]
    exact hcell i (by omega)) (by rw [HJ2.out, hdL_length]; omega))
 rw [HJ2.out] at HC
 clear hcell hbs hs1 hs2 HJ2
 refine HC.out.mono ?_
 rintro e w2 ⟨v2, rfl, h2, b2⟩
 have B2 := Lib.hid (B1.out.trans (b2.mono B1.out.size))
 obtain ⟨A2, c2, hv2, h2a, h2b, h2c, h2d, h2e⟩ := h2.shape (fun _ => rfl)
 rw [hdL_length] at hv2 h2b
 obtain ⟨g2, o2, rfl, hg2, hcl2⟩ : ∃ g2 o2, A2 = some ⟨g2, o2, none⟩ ∧ g2 < w2.heap.size ∧ ∀ i, i < k + 3 → w2.cell? ⟨g2, o2 + i, none⟩ = some (.slice (ra (pi k i)) (rl (pi k i)) (rc (pi k i))) := by
  have hget : ∀ i, i < k + 3 → (hdL (k + 3) (fun i => (ra (pi k i), rl (pi k i), rc (pi k i))))[i]? = some (ra (pi k i), rl (pi k i), rc (pi k i)) := fun i hi => by
   unfold hdL
   rw [List.getElem?_map, List.getElem?_range hi]
   rfl
  obtain ⟨b0, o0, e0, hb0, hc0⟩ := h2a 0 _ (hget 0 (by omega))
  refine ⟨b0, o0, e0, hb0, fun i hi => ?_⟩
  obtain ⟨b1, o1, e1, hb1, hc1⟩ := h2a i _ (hget i hi)
  rw [e0] at e1
  injection e1 with e1
  injection e1 with e1 e1'
  subst e1 e1'
  have := hc1 0 _ rfl
  rw [Nat.mul_one, Nat.add_zero] at this
  exact this
 subst hv2
 have RD2 : Hid (∀ W, Below w2.heap.size w2 W → RdR W w2.heap.size (some ⟨g2, o2, none⟩) (k + 3) (fun i => ra (pi k i)) (fun i => rl (pi k i)) (fun i => rc (pi k i)) (fun i => x (pi k i))) := Lib.hid fun W hW i hi => by
  refine ⟨g2, o2, rfl, hg2, (hW.cell (p := ⟨g2, o2 + i, none⟩) hg2).trans (hcl2 i hi), ?_⟩
  obtain ⟨_, _, h3⟩ := HR.out.head (pi_lt hi)
  have hbw : Below w.heap.size w W := B2.out.trans (hW.mono B2.out.size)
  intro v hv
  obtain ⟨b, o', e, q1, q2, q3⟩ := h3.below hbw HBB.out v hv
  exact ⟨b, o', e, by have := HBB.out; have := B2.out.size; omega, q2, q3⟩
 have HC2 : Hid (k + 3 ≤ c2 ∧ c2 ≤ maxLen) := Lib.hid ⟨h2b, h2c⟩
 unfold maxLen at h2c
 clear h2 b2 h2a h2d h2e hcl2 X1 B1
 go_wp2_with fail
 go_loopw [6, 16] (fun s y wr => ∃ i : Nat, i ≤ k + 3 ∧ y = .int .i64 (i : Int) ∧ Hid (Nr.OwnN wr w2.heap.size s (trueL (fun i => bd (pi k i)) i)) ∧ Hid (Below w2.heap.size w2 wr)) (fun _ y _ => k + 3 - (intOf y).toNat)
 case atStart => exact ⟨0, Nat.zero_le _, rfl, Lib.hid (Gr.OwnG.nil _ _), Lib.hid (Below.refl _ _)⟩
 case round =>
  obtain ⟨i, hi, rfl, HO, HB2⟩ := hrel
  by_cases hlt : i < k + 3
  ·have t1 : (i : Int) < (k : Int) + 3 := by omega
   have e1 : ((i : Int) + 3) % ((k : Int) + 3) = ((pi k i : Nat) : Int) := by
    rw [← pi_mod hlt]
    exact (Int.natCast_emod (i + 3) (k + 3)).symm
   have e0 : ((k : Int) + 3 = 0) = False := by simp; omega
   have HBC := Lib.hid (HBAD.out wr (B2.out.trans (HB2.out.mono B2.out.size)) (pi k i) (pi_lt hlt))
   have HSU := Lib.hid (trueL_succ (fun i => bd (pi k i)) i)
   have HLN : Hid ((trueL (fun i => bd (pi k i)) i).length ≤ 1000000) := Lib.hid (by
    unfold trueL
    have := List.length_filter_le (fun i => bd (pi k i)) (List.range i)
    rw [List.length_range] at this
    omega)
   generalize hp : pi k i = p at *
   have HP := Lib.hid hp
   clear hp
   go_wp2_with fail
   refine HBC.out.mono ?_
   rintro e w3 ⟨rfl, d, rfl⟩
   have B3 : Hid (Below w2.heap.size w2 (wr.drewN d)) := Lib.hid (below_drewN HB2.out d)
   have O3 : Hid (Nr.OwnN (wr.drewN d) w2.heap.size u6 (trueL (fun i => bd (pi k i)) i)) := Lib.hid HO.out
   clear HBC HO HB2 e1 e0
   cases hb : bd p with
   | true =>
    have HBT := Lib.hid hb
    clear hb
    generalize wr.drewN d = w3 at *
    go_wp2_with (at_builtin; refine wpList_app_g rfl 22 (.tmp 26) (.tmp 28) rfl rfl rfl (fun ty => appN O3.out i HLN.out B3.out.size ty) ?_; intro v5 W5 h5; refine of_hid ?_)
    refine Lib.hid ?_
    have H5 := Lib.hid h5
    clear h5
    go_wp2_with fail
    go_roundw
    case rel =>
     refine ⟨i + 1, by omega, by go_num, Lib.hid ?_, Lib.hid (B3.out.trans H5.out.2.1)⟩
     rw [HSU.out, HBT.out]
     exact H5.out.1
    case measure => simp [intOf]; omega
   | false =>
    have HBT := Lib.hid hb
    clear hb
    generalize wr.drewN d = w3 at *
    go_wp2_with fail
    go_roundw
    case rel =>
     refine ⟨i + 1, by omega, by go_num, Lib.hid ?_, B3⟩
     rw [HSU.out, HBT.out, if_neg (by decide), List.append_nil]
     exact O3.out
    case measure => simp [intOf]; omega
  ·obtain rfl : i = k + 3 := by omega
   have HPL : Hid (plc k bd = trueL (fun i => bd (pi k i)) (k + 3)) := Lib.hid rfl
   have HRI := Lib.hid (trueL_rise (fun i => bd (pi k i)) (k + 3))
   have HIB : Hid (∀ i, i < k + 3 → isB (plc k bd).length (bzL (plc k bd)) i = bd (pi k i)) := Lib.hid fun i hi => trueL_isB (fun i => bd (pi k i)) (k + 3) hi
   rw [← HPL.out] at HRI HO
   obtain ⟨A6, c6, hv6, h6a, h6b, h6c, h6d, h6e⟩ := HO.out.shape (fun _ => rfl)
   obtain ⟨f, hf⟩ := first_of (plc k bd).length (bzL (plc k bd))
   have hfk : f < k + 3 := by have := hf.1; have := HM.out; omega
   have hgf := first_good HRI.out hf
   have hrf : rl (pi k f) = 128 := HGD.out _ (pi_lt hfk) (by rw [← HIB.out f hfk]; exact hgf)
   have HZ6 : Hid (RdZ wr wr.heap.size A6 (plc k bd).length (bzL (plc k bd))) := Lib.hid fun j hj => by
    have he : (plc k bd)[j]? = some ((plc k bd).getD j 0) := by rw [List.getD_eq_getElem?_getD, List.getElem?_eq_getElem hj]; rfl
    obtain ⟨b, o', e1, e2, e3⟩ := h6a j _ he
    have := e3 0 _ rfl
    rw [Nat.mul_one, Nat.add_zero] at this
    exact ⟨b, o', e1, e2, this⟩
   have HRB := Lib.hid (rebuild_docE k (plc k bd).length c2 w2.heap.size c6 wr.heap.size f (qOf k (plc k bd).length (bzL (plc k bd))) (some ⟨g2, o2, none⟩) A6 (fun i => ra (pi k i)) (fun i => rl (pi k i)) (fun i => rc (pi k i)) (fun i => x (pi k i)) (bzL (plc k bd)) wr (RD2.out wr HB2.out) HZ6.out HB2.out.size (Nat.le_refl _) h6b h6c h6d HRI.out hf hfk hk1 hk HM.out ⟨by show 1 ≤ rl (pi k f); rw [hrf]; decide, by show rl (pi k f) ≤ 4096; rw [hrf]; decide, fun i hi hne => by
    show rl (pi k i) = rl (pi k f)
    rw [hrf]
    exact HGD.out _ (pi_lt hi) (by rw [← HIB.out i hi]; exact isB_false hne)⟩ (qOf_split HRI.out))
   have HRB : Hid (Calls Tryz.prog 143 #[.slice (some ⟨g2, o2, none⟩) (k + 3) c2, .slice A6 (plc k bd).length c6] wr fun e w' => ∃ v R XX, e = .returned (.tuple #[v, .int .i64 0]) ∧ Cols w' wr.heap.size v (k + 3) 128 (fun i => (some ⟨R i, 0, none⟩, 128, 128)) R XX ∧ (∀ i, i < k + 3 → ∀ v, v < 128 → XX i v = docC k (plc k bd).length (qOf k (plc k bd).length (bzL (plc k bd))) (bzL (plc k bd)) (fun i => x (pi k i)) i v) ∧ Below wr.heap.size wr w') := by
    have h := HRB.out
    simp only [hrf] at h
    exact Lib.hid h
   subst hv6
   clear hf hfk hgf hrf HZ6 h6a h6b h6c h6d h6e HIB HRI HO RD2
   go_wp2_with fail
   refine HRB.out.mono ?_
   rintro e w4 ⟨v4, R, XX, rfl, hc4, hx4, hb4⟩
   obtain ⟨g4, c4, rfl, h4a, h4b, h4c⟩ := hc4.own.block (by omega)
   have C4 := Lib.hid hc4
   have X4 := Lib.hid hx4
   have B4 := Lib.hid (B2.out.trans (HB2.out.trans (hb4.mono HB2.out.size) |>.mono B2.out.size))
   have hsl : ∀ W : World, (Instr.sliceAt 139 (.slice (some ⟨g4, 0, none⟩) (k + 3) c4) none (some (.int .i64 (k : Int))) none).run Tryz.prog W = .ok (.slice (some ⟨g4, 0, none⟩) k c4) W := fun W => slice_headR g4 0 (k + 3) c4 k (by omega) W
   have hg4 : g4 < w4.heap.size := by
    have := hc4.own.at_ (j := 0) (by omega)
    exact block_lt_of_cell this
   have HJL : Hid ((joinL (fun j => (List.range 128).map (XX j)) k).length ≤ 100000) := Lib.hid (by
    have := joinL_len (L := fun j => (List.range 128).map (XX j)) (m := 128) (fun j => by simp) k
    omega)
   have HCB := Lib.hid (concat_B g4 0 k c4 (fun j => some ⟨R j, 0, none⟩) (fun j => (List.range 128).map (XX j)) (fun _ => 128) w4 hg4 (by omega) (fun j hj => by
    refine ⟨?_, fun i y e => ?_, fun e => by cases e⟩
    ·rw [Nat.zero_add, hc4.own.at_ (j := j) (by omega)]
     simp [hdV]
    ·have hrow := (hc4.row j (by omega)).2
     have hi := (List.getElem?_eq_some_iff.1 e).1
     simp at hi
     rw [List.getElem?_map, List.getElem?_range hi] at e
     injection e with e
     refine ⟨R j, 0, rfl, hrow.lt, fun u z hz => ?_⟩
     obtain ⟨rfl, rfl⟩ : u = 0 ∧ z = .int .u8 (y : Int) := by
      have hj := (List.getElem?_eq_some_iff.1 hz).1
      simp [csB] at hj
      subst hj
      simp [csB] at hz
      exact ⟨rfl, hz.symm⟩
     rw [Nat.zero_add, Nat.mul_one, Nat.add_zero, hrow.cell hi, ← e]) HJL.out)
   have HJE : Hid (joinL (fun j => (List.range 128).map (XX j)) k = joinL (fun t => (List.range 128).map (outRow k bd x t)) k) := Lib.hid (joinL_congr fun j hj => List.map_congr_left fun u hu => by
    have hu : u < 128 := by simpa using hu
    exact X4.out j (by omega) u hu)
   clear hc4 hx4 hb4 h4c HJL
   unfold maxLen at h4b
   go_wp2_with fail
   refine HCB.out.mono ?_
   rintro e w5 ⟨v5, rfl, h5, b5⟩
   have H5 := Lib.hid h5
   have B5 := Lib.hid (B4.out.trans (b5.mono B4.out.size))
   have HB45 := Lib.hid B4.out.size
   clear h5 b5
   go_wp2_with fail
   go_ret
   rw [← HJE.out]
   exact ⟨_, rfl, ⟨H5.out.1, H5.out.2.imp id fun ⟨g, cap, cur, e, q1, q2⟩ => ⟨g, cap, cur, e, Nat.le_trans HB45.out q1, q2⟩⟩, B5.out⟩
end Arr
end Go.Proofs.YtkbndlnmbbbohaaGreatDoor
namespace Go.Proofs.YtkbndlnmbbbohaaGreatDoor
open Go Go.RowKit refRack
set_option maxRecDepth 100000
set_option linter.unusedVariables false
namespace Arr
open Cc
theorem plc_le {N k A : Nat} {l : List Nat} (hk : k + 3 ≤ N) : (plc k (fun j => decide ((A + j) % N ∈ l))).length ≤ l.length := by
 have hinj : ∀ i j, i < k + 3 → j < k + 3 → (A + pi k i) % N = (A + pi k j) % N → i = j := by
  intro i j hi hj e
  have h1 := pi_lt hi
  have h2 := pi_lt hj
  have e2 : pi k i = pi k j := by
   have e3 : (A + pi k i) / N * N + (A + pi k i) % N = A + pi k i := Nat.div_add_mod' _ _
   have e4 : (A + pi k j) / N * N + (A + pi k j) % N = A + pi k j := Nat.div_add_mod' _ _
   rw [e] at e3
   rcases Nat.lt_trichotomy ((A + pi k i) / N) ((A + pi k j) / N) with h | h | h
   ·have : ((A + pi k i) / N + 1) * N ≤ (A + pi k j) / N * N := Nat.mul_le_mul_right _ h
    rw [Nat.succ_mul] at this
    omega
   ·rw [h] at e3; omega
   ·have : ((A + pi k j) / N + 1) * N ≤ (A + pi k i) / N * N := Nat.mul_le_mul_right _ h
    rw [Nat.succ_mul] at this
    omega
  unfold pi at e2
  split at e2 <;> split at e2 <;> omega
 have hnd : (plc k (fun j => decide ((A + j) % N ∈ l))).Nodup := by
  unfold plc trueL
  exact List.Pairwise.filter _ List.nodup_range
 have hm : ((plc k (fun j => decide ((A + j) % N ∈ l))).map fun i => (A + pi k i) % N).Nodup := by
  refine List.pairwise_map.2 (List.Pairwise.imp_of_mem (fun {i j} hi hj h => ?_) hnd)
  intro e
  unfold plc trueL at hi hj
  rw [List.mem_filter, List.mem_range] at hi hj
  exact h (hinj _ _ hi.1 hj.1 e)
 have hsub : ((plc k (fun j => decide ((A + j) % N ∈ l))).map fun i => (A + pi k i) % N) ⊆ l := by
  intro y hy
  rw [List.mem_map] at hy
  obtain ⟨i, hi, rfl⟩ := hy
  unfold plc trueL at hi
  rw [List.mem_filter] at hi
  simpa using hi.2
 have := List.Nodup.length_le_of_subset hm hsub
 rwa [List.length_map] at this
section
variable {B a r f : Nat} {w w' : World} {s s' : RS}
set_option maxHeartbeats 1600000 in
theorem rb1_any (W : World) (hA : At B W a r f s) (bo ba bd base : Nat) (ov : Value) (l : List Nat) (A i : Nat) (h1 : W.cell? ⟨bo, 0, none⟩ = some ov) (h2 : W.cell? ⟨ba, 0, none⟩ = some (.pointer (some ⟨a, 0, none⟩))) (h3 : W.cell? ⟨bd, 0, none⟩ = some (.int .i64 (A : Int))) (hO : Nr.OwnN W base ov l) (hl : l.length ≤ 1000) (hAi : A + i ≤ 90000) :
  Calls Tryz.prog 118 #[.int .i64 (i : Int), .pointer (some ⟨bo, 0, none⟩), .pointer (some ⟨ba, 0, none⟩), .pointer (some ⟨bd, 0, none⟩)] W fun e w' => e = .returned (.bool (decide ((A + i) % s.nd ∈ l))) ∧ ∃ d, w' = W.drewN d := by
 have HD := Lib.hid (fun n => drive_any (W.drewN n) (hA.drewN n) (A + i) (by omega))
 have HC := Lib.hid (fun n => Sq.contains_any (W.drewN n) (W.drewN n).heap.size ov l ((A + i) % s.nd) (Sq.own_ints (Gr.OwnG.below hO (below_drewN (Below.refl _ _) n) (Nat.le_refl _))) (by omega))
 have e1 : wrap64 ((A : Int) + (i : Int)) = ((A + i : Nat) : Int) := by unfold wrap64; omega
 generalize (A + i) % s.nd = x at *
 generalize hy : A + i = y at *
 have HY := Lib.hid hy
 clear hA hO hy
 go_enter Tryz.func118, Tryz.ntmps118
 go_wp2_with fail
 go_quiet (first | (go_at_call 60; exact Calls.quiet_of_same (HD.out _)) | (go_at_call 119; exact Calls.quiet_of_same (HC.out _)))
 go_wp2_with fail
 go_ret
 exact ⟨rfl, _, rfl⟩
noncomputable def rebR (N n ad : Nat) (l : List Nat) (x : Nat → Nat → Nat) (r : Nat) : List Nat :=
 joinL (fun t => (List.range 128).map (outRow (kR N (secs n) r) (fun j => decide ((ad + r * N + j) % N ∈ l)) (fun j => x (r * N + j)) t)) (kR N (secs n) r)
noncomputable def rebL (N n ad : Nat) (l : List Nat) (x : Nat → Nat → Nat) : List Nat := joinL (rebR N n ad l x) (rws N (secs n))
theorem rebR_len (N n ad : Nat) (l : List Nat) (x : Nat → Nat → Nat) (r : Nat) : (rebR N n ad l x r).length = kR N (secs n) r * 128 := joinL_len (fun j => by simp) _
theorem rebL_upto {N n : Nat} (hN : 5 ≤ N) (h1 : 1 ≤ n) (ad : Nat) (l : List Nat) (x : Nat → Nat → Nat) : ∀ r, r ≤ rws N (secs n) → (r < rws N (secs n) → (joinL (rebR N n ad l x) r).length = r * (N - 3) * 128) ∧ (r = rws N (secs n) → (joinL (rebR N n ad l x) r).length = secs n * 128)
 | 0, _ => ⟨fun _ => by simp [joinL], fun e => by have := (rws_spec hN (secs_pos h1)).1; omega⟩
 | r + 1, h => by
  have ih := (rebL_upto hN h1 ad l x r (by omega)).1 (by omega)
  have hx := row_next hN (secs_pos h1) (r := r) (by omega)
  have e := rebR_len N n ad l x r
  rw [joinL_succ, List.length_append, ih, e, ← Nat.add_mul]
  constructor
  ·intro h2
   rw [if_pos h2] at hx
   rw [hx, Nat.succ_mul]
  ·intro h2
   rw [if_neg (by omega)] at hx
   rw [hx.2]
theorem rebL_len {N n : Nat} (hN : 5 ≤ N) (h1 : 1 ≤ n) (ad : Nat) (l : List Nat) (x : Nat → Nat → Nat) : (rebL N n ad l x).length = secs n * 128 := (rebL_upto hN h1 ad l x _ (Nat.le_refl _)).2 rfl
set_option maxHeartbeats 6400000 in
theorem rebuilt_any (w : World) (h : At B w a r f s) (ad n : Nat) (h1 : 1 ≤ n) (hn : n ≤ 1024) (hc : ad + cost s.nd n ≤ cells s f) (g Bx : Nat) (ra : Nat → Option Addr) (rl rc : Nat → Nat) (x : Nat → Nat → Nat) (hr : RdR w Bx (some ⟨g, 0, none⟩) (cost s.nd n) ra rl rc x) (hBx : Bx ≤ w.heap.size)
  (base : Nat) (ov : Value) (l : List Nat) (hO : Nr.OwnN w base ov l) (hl : l.length ≤ 3) (hgood : ∀ i, i < cost s.nd n → (ad + i) % s.nd ∉ l → rl i = 128) :
  Calls Tryz.prog 80 #[.pointer (some ⟨a, 0, none⟩), .int .i64 (ad : Int), .slice (some ⟨g, 0, none⟩) (cost s.nd n) (cost s.nd n), ov] w fun e w' => ∃ v, e = .returned v ∧ Gr.OwnG 5 1 csB w' w.heap.size v (rebL s.nd n ad l x) ∧ Below w.heap.size w w' := by
 have h5 := h.five
 obtain ⟨h16, h2k⟩ := h.bounds
 have hs8 := secs_le hn
 have hsp := secs_pos h1
 have hrw := rws_le (N := s.nd) h5 hsp
 have hle := cells_le h
 obtain ⟨oA, oc, rfl⟩ : ∃ oA oc, ov = .slice oA l.length oc := by
  rcases Nr.own_shape hO with ⟨rfl, e⟩ | ⟨g, c, rfl, _⟩
  ·exact ⟨none, 0, by rw [e]; rfl⟩
  ·exact ⟨_, _, rfl⟩
 have HR := Lib.hid hr
 have HBX := Lib.hid hBx
 have HA := Lib.hid h
 have HO := Lib.hid hO
 have HL := Lib.hid hl
 have HGD := Lib.hid hgood
 have HRC : Hid (∀ q, q < rws s.nd (secs n) → 1 ≤ kR s.nd (secs n) q ∧ kR s.nd (secs n) q ≤ s.nd - 3 ∧ kR s.nd (secs n) q + 3 = min s.nd (secs n + 3 * rws s.nd (secs n) - q * s.nd) ∧ q * s.nd + (kR s.nd (secs n) q + 3) ≤ secs n + 3 * rws s.nd (secs n) ∧ q * (s.nd - 3) + kR s.nd (secs n) q ≤ secs n) := Lib.hid fun q hq => row_cells h5 hsp hq
 have HRN : Hid (∀ q, q < rws s.nd (secs n) → (if q + 1 < rws s.nd (secs n) then kR s.nd (secs n) q = s.nd - 3 else (q * s.nd + (kR s.nd (secs n) q + 3) = secs n + 3 * rws s.nd (secs n) ∧ q * (s.nd - 3) + kR s.nd (secs n) q = secs n))) := Lib.hid fun q hq => row_next h5 hsp hq
 have HRS := Lib.hid (rws_spec h5 hsp).1
 have HLEN : Hid (∀ q, q ≤ rws s.nd (secs n) → (joinL (rebR s.nd n ad l x) q).length ≤ 2000) := Lib.hid fun q hq => by
  have e1 := joinL_le (rebR s.nd n ad l x) hq
  have e2 := rebL_len h5 h1 ad l x
  unfold rebL at e2
  omega
 have HRB : Hid (∀ q, rebR s.nd n ad l x q = joinL (fun t => (List.range 128).map (outRow (kR s.nd (secs n) q) (fun j => decide ((ad + q * s.nd + j) % s.nd ∈ l)) (fun j => x (q * s.nd + j)) t)) (kR s.nd (secs n) q)) := Lib.hid fun q => rfl
 have HRL : Hid (∀ q, (rebR s.nd n ad l x q).length = kR s.nd (secs n) q * 128) := Lib.hid (rebR_len s.nd n ad l x)
 have HC : Hid (ad + cost s.nd n ≤ 32000) := Lib.hid (by omega)
 have HCC : Hid (cost s.nd n = secs n + 3 * rws s.nd (secs n)) := Lib.hid rfl
 unfold rebL
 rw [← HCC.out] at HRC HRN
 generalize hR : rws s.nd (secs n) = R at *
 generalize hK : kR s.nd (secs n) = K at *
 generalize hCe : cost s.nd n = C at *
 generalize hLL : rebR s.nd n ad l x = LL at *
 have had : ad + C ≤ 32000 := HC.out
 clear h hr hBx hO hl hgood hc hle hR hK hCe hLL HCC
 go_enter Tryz.func80, Tryz.ntmps80
 go_wp2_with fail
 obtain ⟨z, hz⟩ : ∃ z, z = w.heap.size := ⟨_, rfl⟩
 go_loopw [2, 9] (fun y x' wr => ∃ q i o : Nat, y = .slice (some ⟨g, o, none⟩) (C - i) (C - i) ∧ Hid (q ≤ R ∧ (q < R → i = q * s.nd ∧ o = i) ∧ (q = R → i = C)) ∧ Hid (Gr.OwnG 5 1 csB wr (w.heap.size + 3) x' (joinL LL q)) ∧ Hid (Below w.heap.size w wr) ∧ Hid (Blk wr w.heap.size 29 #[.pointer (some ⟨a, 0, none⟩)]) ∧ Hid (Blk wr (w.heap.size + 1) 3 #[.int .i64 ((ad + i : Nat) : Int)]) ∧ Hid (Blk wr (w.heap.size + 1 + 1) 22 #[.slice oA l.length oc])) (fun y _ _ => match y with | .slice _ n _ => n | _ => 0)
 case atStart =>
  refine ⟨0, 0, 0, rfl, Lib.hid ⟨Nat.zero_le _, fun _ => ⟨by rw [Nat.zero_mul], rfl⟩, fun e => by have := HRS.out; omega⟩, Lib.hid (Gr.OwnG.nil _ _), ?_, ?_, ?_, ?_⟩
  ·exact Lib.hid ((((Below.refl _ _).alloc (Nat.le_refl _) _).alloc (by simp) _).alloc (by simp; omega) _)
  ·exact Lib.hid (((Blk.new w _ _).alloc _).alloc _)
  ·refine Lib.hid ?_
   have h := (Blk.new (w.alloc (.cells #[.pointer (some ⟨a, 0, none⟩)] 29)) 3 #[.int .i64 ((ad : Nat) : Int)]).alloc (.cells #[.slice oA l.length oc] 22)
   simpa using h
  ·refine Lib.hid ?_
   have h := Blk.new ((w.alloc (.cells #[.pointer (some ⟨a, 0, none⟩)] 29)).alloc (.cells #[.int .i64 ((ad : Nat) : Int)] 3)) 22 #[.slice oA l.length oc]
   simpa using h
 case round =>
  obtain ⟨q, i, o, rfl, HQ, HD, HB, HP1, HP2, HP3⟩ := hrel
  by_cases hlt : q < R
  ·obtain ⟨hi, rfl⟩ := HQ.out.2.1 hlt
   obtain ⟨g1, g2, g3, g4, g5⟩ := HRC.out q hlt
   have g6 := HRN.out q hlt
   have HN2 : Hid (q + 1 ≤ R ∧ (q + 1 < R → o + (K q + 3) = (q + 1) * s.nd ∧ o + (K q + 3) ≠ C) ∧ (q + 1 = R → o + (K q + 3) = C)) := Lib.hid (by
    refine ⟨by omega, fun h => ?_, fun h => ?_⟩
    ·rw [if_pos h] at g6
     rw [Nat.succ_mul, ← hi]
     obtain ⟨k1, _, _, k4, _⟩ := HRC.out (q + 1) h
     rw [Nat.succ_mul, ← hi] at k4
     omega
    ·rw [if_neg (by omega)] at g6
     rw [← hi] at g6
     exact g6.1)
   have HE := Lib.hid (HRB.out q)
   have HEL := Lib.hid (HRL.out q)
   rw [← hi] at HE g3 g4
   generalize hk : K q = k at *
   have HK := Lib.hid hk
   have HI := Lib.hid hi
   obtain ⟨m, hm⟩ : ∃ m, m = k + 3 := ⟨_, rfl⟩
   obtain ⟨p, hp⟩ : ∃ p, p = C - o := ⟨_, rfl⟩
   have HMP := Lib.hid (⟨hm, hp⟩ : _ ∧ _)
   have hmp : m ≤ p := by omega
   have hm16 : m ≤ 16 := by omega
   have hm4 : 4 ≤ m := by omega
   have hp32 : p ≤ 32000 := by omega
   have hao : ad + o + p ≤ 32000 := by omega
   have t1 : min (s.nd : Int) (p : Int) = (m : Int) := by omega
   have t2 : (0 : Int) < (p : Int) := by omega
   rw [← hp]
   have hsl : ∀ W : World, (Instr.sliceAt 139 (.slice (some ⟨g, o, none⟩) p p) none (some (.int .i64 (m : Int))) none).run Tryz.prog W = .ok (.slice (some ⟨g, o, none⟩) m p) W := fun W => slice_headR g o p p m hmp W
   have hst : ∀ W : World, (Instr.sliceAt 139 (.slice (some ⟨g, o, none⟩) p p) (some (.int .i64 (m : Int))) none none).run Tryz.prog W = .ok (.slice (some ⟨g, o + (if p = m then 0 else m), none⟩) (p - m) (p - m)) W := fun W => slice_tailR g o p p m hmp W
   obtain ⟨o2, ho2⟩ : ∃ o2, o2 = o + (if p = m then 0 else m) := ⟨_, rfl⟩
   rw [← ho2] at hst
   have HO2 : Hid (p ≠ m → o2 = o + m) := Lib.hid fun h => by rw [ho2, if_neg h]
   have HAr : Hid (At B wr a r f s) := Lib.hid (HA.out.grown_ HB.out)
   have HDR := Lib.hid (drives_any wr r s HAr.out.rack)
   have c0 := HAr.out.c0
   have q0 : wr.cell? ⟨w.heap.size, 0, none⟩ = some (.pointer (some ⟨a, 0, none⟩)) := HP1.out.cell 0
   have HU : Hid (Calls Tryz.prog 117 #[.slice (some ⟨g, o, none⟩) m p, .func (.func 118) #[] #[.pointer (some ⟨w.heap.size + 1 + 1, 0, none⟩), .pointer (some ⟨w.heap.size, 0, none⟩), .pointer (some ⟨w.heap.size + 1, 0, none⟩)]] wr fun e w' => ∃ v, e = .returned v ∧ Gr.OwnG 5 1 csB w' wr.heap.size v (LL q) ∧ Below wr.heap.size wr w') := Lib.hid (by
    have hU := unlay_any g o k p w.heap.size (fun j => ra (o + j)) (fun j => rl (o + j)) (fun j => rc (o + j)) (fun j => x (o + j)) wr (fun j hj => by
     obtain ⟨b', o', e, h1, h2, h3⟩ := HR.out (o + j) (by omega)
     injection e with e
     injection e with e1 e2
     subst e1 e2
     have hbx := HBX.out
     refine ⟨g, o, rfl, by omega, ?_, ?_⟩
     ·have := (HB.out.cell (p := ⟨g, 0 + (o + j), none⟩) (by show g < _; omega)).trans h2
      rw [Nat.zero_add] at this
      exact this
     ·exact (h3.below HB.out hbx).mono hbx) HB.out.size g1 (by omega) (by omega) (by unfold maxLen; omega) #[.pointer (some ⟨w.heap.size + 1 + 1, 0, none⟩), .pointer (some ⟨w.heap.size, 0, none⟩), .pointer (some ⟨w.heap.size + 1, 0, none⟩)]
     (fun j => decide ((ad + o + j) % s.nd ∈ l)) (fun W hW j hj => by
      have hz := HP3.out.lt
      have hb : Below w.heap.size w W := HB.out.trans (hW.mono HB.out.size)
      have := rb1_any W (HA.out.grown_ hb) (w.heap.size + 1 + 1) w.heap.size (w.heap.size + 1) base _ l (ad + o) j ((HP3.out.below hW hz).cell 0) ((HP1.out.below hW (by omega)).cell 0) ((HP2.out.below hW (by omega)).cell 0) (Gr.OwnG.below (Gr.OwnG.below HO.out HB.out (Nat.le_refl _)) hW (Nat.le_refl _)) (by have := HL.out; omega) (by omega)
      exact this) (Nat.le_trans (plc_le (by omega)) HL.out) (fun j hj hb => HGD.out (o + j) (by omega) (by simpa [Nat.add_assoc] using hb))
    rw [hm, HE.out]
    exact hU)
   clear g1 g2 g3 g4 g5 g6 hk hi hm hp ho2 HE
   clear HRB HRL HRC HRN HR HBX HGD
   go_wp2_with fail
   refine HDR.out.mono ?_
   rintro e w' ⟨rfl, rfl⟩
   go_wp2_with fail
   refine HU.out.mono ?_
   rintro e w3 ⟨v3, rfl, h3, b3⟩
   obtain ⟨A3, c3, rfl, h3a, h3b, h3c, h3d, h3e⟩ := h3.shape (fun _ => rfl)
   have D3 := Lib.hid (HD.out.below b3 (Nat.le_refl _))
   have S3 := Lib.hid (⟨h3a, h3d⟩ : _ ∧ _)
   have B3 := Lib.hid (HB.out.trans (b3.mono HB.out.size))
   have HZ3 : Hid (w.heap.size + 3 ≤ w3.heap.size) := Lib.hid (by have := HP3.out.lt; have := b3.size; omega)
   have P1 : Hid (Blk w3 w.heap.size 29 #[.pointer (some ⟨a, 0, none⟩)]) := Lib.hid (HP1.out.below b3 HP1.out.lt)
   have P2 : Hid (Blk w3 (w.heap.size + 1) 3 #[.int .i64 ((ad + o : Nat) : Int)]) := Lib.hid (HP2.out.below b3 HP2.out.lt)
   have P3 : Hid (Blk w3 (w.heap.size + 1 + 1) 22 #[.slice oA l.length oc]) := Lib.hid (HP3.out.below b3 HP3.out.lt)
   have HSUM : Hid ((joinL LL q).length + (LL q).length ≤ 1000000) := Lib.hid (by
    have := HLEN.out (q + 1) (by omega)
    rw [joinL_succ, List.length_append] at this
    omega)
   generalize hu : (LL q).length = u at *
   have HUU := Lib.hid hu
   clear h3 h3a h3b h3c h3d h3e b3 HU HDR c0 q0 HB HD HP1 HP2 HP3 hu
   go_wp2_with (at_builtin; refine wpList_app_g rfl 41 (.tmp 22) (.tmp 27) rfl rfl rfl (fun ty => app_g (fun _ => rfl) (fun x u hu => by simp [csB] at hu; subst hu; rfl) Tryz.underlying41 info_u8 rfl (by omega) D3.out (LL q) HUU.out.symm S3.out.1 S3.out.2 (by rw [HUU.out]; exact HSUM.out) HZ3.out ty) ?_; intro v4 w4 h4; refine of_hid ?_)
   refine Lib.hid ?_
   have D4 : Hid (Gr.OwnG 5 1 csB w4 (w.heap.size + 3) v4 (joinL LL (q + 1))) := Lib.hid (by rw [joinL_succ]; exact h4.1)
   have B4 : Hid (Below w.heap.size w w4) := Lib.hid (B3.out.trans (h4.2.mono (by omega)))
   have Q1 : Hid (Blk w4 w.heap.size 29 #[.pointer (some ⟨a, 0, none⟩)]) := Lib.hid (P1.out.below h4.2 (by omega))
   have Q2 : Hid (Blk w4 (w.heap.size + 1) 3 #[.int .i64 ((ad + o : Nat) : Int)]) := Lib.hid (P2.out.below h4.2 (by omega))
   have Q3 : Hid (Blk w4 (w.heap.size + 1 + 1) 22 #[.slice oA l.length oc]) := Lib.hid (P3.out.below h4.2 (by omega))
   clear h4 D3 S3 B3 P1 P2 P3 HSUM
   have p1 : w4.cell? ⟨w.heap.size + 1, 0, none⟩ = some (.int .i64 ((ad + o : Nat) : Int)) := Q2.out.cell 0
   have p2 : w4.frozen? ⟨w.heap.size + 1, 0, none⟩ = false := Q2.out.frozen 0
   go_wp2_with fail
   go_roundw
   case rel =>
    have hm := HMP.out.1
    have hp := HMP.out.2
    refine ⟨q + 1, o + m, o2, by rw [show C - (o + m) = p - m by omega], Lib.hid ⟨HN2.out.1, fun h => ?_, fun h => ?_⟩, ?_, ?_, ?_, ?_, ?_⟩
    ·obtain ⟨e1, e2⟩ := HN2.out.2.1 h
     rw [hm]
     refine ⟨e1, ?_⟩
     rw [← hm]
     exact HO2.out (by omega)
    ·rw [hm]; exact HN2.out.2.2 h
    ·exact Lib.hid (D4.out.keep fun g' hg' => Below.heap_setCell _ _ _ g' (by show g' ≠ w.heap.size + 1; have := (D4.out.lt hg').2; omega))
    ·exact Lib.hid (B4.out.setCell (p := ⟨w.heap.size + 1, 0, none⟩) (by show w.heap.size ≤ w.heap.size + 1; omega) _)
    ·exact Lib.hid ((Below.heap_setCell _ _ _ w.heap.size (by show w.heap.size ≠ w.heap.size + 1; omega)).trans Q1.out)
    ·refine Lib.hid ?_
     have h := Q2.out.set_ 0 (.int .i64 ((ad + (o + m) : Nat) : Int))
     have e : (ad : Int) + (o : Int) + (m : Int) = (ad : Int) + ((o : Int) + (m : Int)) := by omega
     simpa [e] using h
    ·exact Lib.hid ((Below.heap_setCell _ _ _ (w.heap.size + 1 + 1) (by show w.heap.size + 1 + 1 ≠ w.heap.size + 1; omega)).trans Q3.out)
   case measure =>
    show p - m < p
    omega
  ·obtain rfl : q = R := by have := HQ.out.1; omega
   obtain rfl := HQ.out.2.2 rfl
   rw [Nat.sub_self]
   go_wp2_with fail
   go_ret
   exact ⟨_, rfl, own_base HD.out (by omega), HB.out⟩
end
end Arr
end Go.Proofs.YtkbndlnmbbbohaaGreatDoor
