/-
  The document's DocEncode and DocDecode of a record by contracts. Conditions: the record's numbers are ints, the bytes are bytes.
-/
import Derived.Test.YthioanenljpclaaGreatDoorLabDecM
import Derived.Deep.DeepCutAuto
import Derived.Test.YthioanenljpclaaGreatDoorBytesM
import Derived.Maps.OwnSet
import Derived.Maps.RangeWalk
import Derived.DeepKeys4
import Derived.WalkArith
namespace Go.Proofs.YthioanenljpclaaGreatDoor
open Go Go.RowKit
set_option maxRecDepth 100000
set_option linter.unusedVariables false
namespace Lab
theorem isize_uberR : (Tryz.prog.info? 43).map (·.size) = some 5 := by kernel_rfl
theorem set5_loadR {w : World} {g : Nat} {x0 x1 x2 x3 x4 : Value} (h : Blk w g 43 #[x0, x1, x2, x3, x4]) (a b c d e : Value) : (loadVar 43 ⟨g, 0, none⟩).run Tryz.prog (set5 w g a b c d e) = .ok (.agg #[a, b, c, d, e]) (set5 w g a b c d e) :=
  loadVar_blk (set5_blk h a b c d e) Tryz.underlying43 rfl isize_uberR
set_option maxHeartbeats 1600000 in
theorem docEncode_lab (u : U) (w : World) (hf : FitU u) :
    Calls Tryz.prog 20 #[.agg (uA u)] w fun e w' => e = .returned (.tuple #[.string (K.txt (outB u)), .int .i64 (encE u)]) ∧ Below w.heap.size w w' := by
  have HF := Lib.hid hf
  have HP := Lib.hid fun W => docPtr_any u.p W hf.2
  have L1 : Hid (Below w.heap.size w (w.alloc (.cells (uA u) 43))) := Lib.hid ((Below.refl _ _).alloc (Nat.le_refl _) _)
  have X1 : Hid (Blk (w.alloc (.cells (uA u) 43)) w.heap.size 43 (uA u)) := Lib.hid (Blk.new _ _ _)
  clear hf
  by_cases hp : K.okP u.p = true
  · have HG := Lib.hid (its_good hp HF.out)
    have HS := Lib.hid (secE_its hp HF.out)
    have HSL := Lib.hid (secL_its hp HF.out)
    have HE : Hid (encE u = if 1 ≤ u.t then 0 else 2) := Lib.hid (by unfold encE okU; rw [hp]; simp)
    have HO : Hid (outB u = if 1 ≤ u.t then encL u else []) := Lib.hid (by unfold outB okU; rw [hp]; simp)
    have HPE : Hid (K.ptrE u.p = 0) := Lib.hid (by unfold K.ptrE; rw [if_pos hp])
    have RN := Lib.hid fun (W : World) => rdi_new W (itsU u)
    rw [HPE.out] at HP
    obtain ⟨t, ⟨a, z, b, s⟩⟩ := u
    simp only [its_cells] at RN
    unfold ptA at HP
    unfold uA at L1 X1 ⊢
    dsimp only at HP L1 X1 HE HO ⊢
    obtain ⟨PS, hPS⟩ : ∃ PS, PS = K.ptrS ⟨a, z, b, s⟩ := ⟨_, rfl⟩
    rw [← hPS] at HP RN
    have d0 := X1.out.cell 0
    have d1 := X1.out.cell 1
    have d2 := X1.out.cell 2
    have d3 := X1.out.cell 3
    have d4 := X1.out.cell 4
    simp only [List.getElem?_toArray, List.getElem?_cons_zero, List.getElem?_cons_succ] at d0 d1 d2 d3 d4
    clear hp HPE HF hPS
    by_cases ht : 1 ≤ t
    · have t1 : decide (t < 1) = false := by simp; omega
      rw [HE.out, HO.out, if_pos ht, if_pos ht]
      obtain ⟨TT, hTT⟩ : ∃ TT, TT = K.txt (encL ⟨t, ⟨a, z, b, s⟩⟩) := ⟨_, rfl⟩
      rw [← hTT]
      have HTT := Lib.hid hTT
      clear HE HO ht hTT
      go_enter Tryz.func20, Tryz.ntmps20
      go_wp2_with fail
      refine (HP.out _).mono ?_
      rintro e w2 ⟨rfl, hl2⟩
      have L2 := Lib.hid (L1.out.trans (hl2.mono (by simp)))
      have X2 := Lib.hid (X1.out.below hl2 (by simp))
      have s2 := L2.out.size
      clear d0 d1 d2 d3 d4
      have d0 := X2.out.cell 0
      simp only [List.getElem?_toArray, List.getElem?_cons_zero, List.getElem?_cons_succ] at d0
      have R3 := Lib.hid (RN.out w2)
      have L3 : Hid (Below w.heap.size w (w2.alloc (.cells #[.int .i64 1, .int .i64 77, .string ⟨#[]⟩, .int .i64 1, .int .i64 t, .string ⟨#[]⟩, .int .i64 2, .int .i64 0, .string PS] 104))) := Lib.hid (L2.out.alloc s2 _)
      clear hl2 X1 L1 RN
      go_wp2_with fail
      refine (docSector_any (some ⟨w2.heap.size, 0, none⟩) (itsU ⟨t, ⟨a, z, b, s⟩⟩) 3 (w2.heap.size + 1) _ R3.out (by simp) HG.out (Nat.le_refl _) (by unfold maxLen; omega)).mono ?_
      rintro e w4 ⟨rfl, hl4⟩
      have L4 := Lib.hid (L3.out.trans (hl4.mono L3.out.size))
      rw [HSL.out, HS.out, ← HTT.out]
      clear hl4 d0 L3 R3 HTT
      go_wp2_with fail
      go_ret2
      exact ⟨rfl, L4.out⟩
    · have t1 : decide (t < 1) = true := by simp; omega
      rw [HE.out, HO.out, if_neg ht, if_neg ht]
      clear HE HO ht
      go_enter Tryz.func20, Tryz.ntmps20
      go_wp2_with fail
      refine (HP.out _).mono ?_
      rintro e w2 ⟨rfl, hl2⟩
      have L2 := Lib.hid (L1.out.trans (hl2.mono (by simp)))
      have X2 := Lib.hid (X1.out.below hl2 (by simp))
      clear d0 d1 d2 d3 d4
      have d0 := X2.out.cell 0
      simp only [List.getElem?_toArray, List.getElem?_cons_zero, List.getElem?_cons_succ] at d0
      clear hl2 X1 L1 RN
      go_wp2_with fail
      go_ret2
      exact ⟨rfl, L2.out⟩
  · have hp' : K.okP u.p = false := by simpa using hp
    have HE : Hid (encE u = 2) := Lib.hid (by unfold encE okU; rw [hp']; simp)
    have HO : Hid (outB u = []) := Lib.hid (by unfold outB okU; rw [hp']; simp)
    have HPE : Hid (K.ptrE u.p = 2) := Lib.hid (by unfold K.ptrE; rw [if_neg hp])
    rw [HPE.out] at HP
    rw [HE.out, HO.out]
    obtain ⟨t, ⟨a, z, b, s⟩⟩ := u
    unfold ptA at HP
    unfold uA at L1 X1 ⊢
    dsimp only at HP L1 X1 ⊢
    obtain ⟨PS, hPS⟩ : ∃ PS, PS = K.ptrS ⟨a, z, b, s⟩ := ⟨_, rfl⟩
    rw [← hPS] at HP
    have d0 := X1.out.cell 0
    have d1 := X1.out.cell 1
    have d2 := X1.out.cell 2
    have d3 := X1.out.cell 3
    have d4 := X1.out.cell 4
    simp only [List.getElem?_toArray, List.getElem?_cons_zero, List.getElem?_cons_succ] at d0 d1 d2 d3 d4
    clear hp hp' HPE HF hPS HE HO
    by_cases ht : t < 1
    · have t1 : decide (t < 1) = true := by simpa using ht
      go_enter Tryz.func20, Tryz.ntmps20
      go_wp2_with fail
      refine (HP.out _).mono ?_
      rintro e w2 ⟨rfl, hl2⟩
      have L2 := Lib.hid (L1.out.trans (hl2.mono (by simp)))
      have X2 := Lib.hid (X1.out.below hl2 (by simp))
      clear d0 d1 d2 d3 d4
      have d0 := X2.out.cell 0
      simp only [List.getElem?_toArray, List.getElem?_cons_zero, List.getElem?_cons_succ] at d0
      clear hl2 X1 L1
      go_wp2_with fail
      go_ret2
      exact ⟨rfl, L2.out⟩
    · have t1 : decide (t < 1) = false := by simpa using ht
      go_enter Tryz.func20, Tryz.ntmps20
      go_wp2_with fail
      refine (HP.out _).mono ?_
      rintro e w2 ⟨rfl, hl2⟩
      have L2 := Lib.hid (L1.out.trans (hl2.mono (by simp)))
      have X2 := Lib.hid (X1.out.below hl2 (by simp))
      clear d0 d1 d2 d3 d4
      have d0 := X2.out.cell 0
      simp only [List.getElem?_toArray, List.getElem?_cons_zero, List.getElem?_cons_succ] at d0
      clear hl2 X1 L1
      go_wp2_with fail
      go_ret2
      exact ⟨rfl, L2.out⟩
set_option maxHeartbeats 3200000 in
theorem docDecode_lab (L : List Nat) (w : World) (hL : ∀ x ∈ L, x < 256) (hsz : L.length ≤ 1000) :
    Calls Tryz.prog 67 #[.string (K.txt L)] w fun e w' => DecU L e ∧ Below w.heap.size w w' := by
  have X0 : Hid (Blk (w.alloc (.cells #[.int .i64 0, .int .i64 0, .int .i64 0, .int .i64 0, .string ⟨#[]⟩] 43)) w.heap.size 43 #[.int .i64 0, .int .i64 0, .int .i64 0, .int .i64 0, .string ⟨#[]⟩]) := Lib.hid (Blk.new _ _ _)
  have L0 : Hid (Below w.heap.size w (w.alloc (.cells #[.int .i64 0, .int .i64 0, .int .i64 0, .int .i64 0, .string ⟨#[]⟩] 43))) := Lib.hid ((Below.refl _ _).alloc (Nat.le_refl _) _)
  have HU := Lib.hid (docUnsector_any L (w.alloc (.cells #[.int .i64 0, .int .i64 0, .int .i64 0, .int .i64 0, .string ⟨#[]⟩] 43)) hL hsz)
  have HL := Lib.hid hL
  clear hL
  obtain ⟨TL, hTL⟩ : ∃ TL, TL = K.txt L := ⟨_, rfl⟩
  rw [← hTL] at HU ⊢
  have HTL := Lib.hid hTL
  clear hTL
  go_enter Tryz.func67, Tryz.ntmps67
  go_wp2_with fail
  refine HU.out.mono ?_
  rintro e w1 ⟨hu, hl1⟩
  obtain ⟨A1, c1, rfl, r1, lc1, cm1⟩ := hu
  have L1 := Lib.hid (L0.out.trans (hl1.mono (by simp)))
  have X1 := Lib.hid (X0.out.below hl1 (by simp))
  have s1 := L1.out.size
  clear hl1 X0 L0 HU
  obtain ⟨⟨d0, d1, d2, d3, d4⟩, e0, e1, e2, e3, e4⟩ := uber_facts X1.out
  by_cases hE : unsE L = 0
  rotate_left
  · have HN := Lib.hid (not_is hE)
    obtain ⟨ue, hue⟩ : ∃ ue, ue = unsE L := ⟨_, rfl⟩
    rw [← hue] at hE ⊢
    have t1 : (ue != 0) = true := by simpa using hE
    clear hE hue r1 lc1 cm1
    go_wp2_with fail
    refine bodyPost_ret (results_cell2 rfl rfl (set5_loadR X1.out _ _ _ _ _) rfl) rfl ?_
    exact ⟨.inr ⟨HN.out, rfl⟩, set5_below L1.out (Nat.le_refl _) _ _ _ _ _⟩
  have HE := Lib.hid hE
  rw [hE]
  clear hE
  by_cases h3 : (unsL L).length = 3
  rotate_left
  · have HN := Lib.hid (not_is3 h3)
    obtain ⟨n1, hn1⟩ : ∃ n1, n1 = (unsL L).length := ⟨_, rfl⟩
    rw [← hn1] at h3 lc1 ⊢
    have t1 : ((n1 : Int) != 3) = true := by simp; omega
    clear h3 hn1 r1
    go_wp2_with fail
    refine bodyPost_ret (results_cell2 rfl rfl (set5_loadR X1.out _ _ _ _ _) rfl) rfl ?_
    exact ⟨.inr ⟨HN.out, rfl⟩, set5_below L1.out (Nat.le_refl _) _ _ _ _ _⟩
  obtain ⟨l, hl⟩ : ∃ l, l = unsL L := ⟨_, rfl⟩
  rw [← hl] at h3 r1 lc1 ⊢
  match l, h3 with
  | [x0, x1, x2], _ =>
  have HLL := Lib.hid hl.symm
  clear hl
  obtain ⟨b, o, hA, hb, a0, a1, a2⟩ := r1 0 x0 rfl
  obtain ⟨b', o', hA', _, b0, b1, b2⟩ := r1 1 x1 rfl
  rw [hA] at hA'; injection hA' with hA'; injection hA' with q1 q2; subst q1; subst q2
  obtain ⟨b', o', hA', _, g0, g1, g2⟩ := r1 2 x2 rfl
  rw [hA] at hA'; injection hA' with hA'; injection hA' with q1 q2; subst q1; subst q2
  subst hA
  rw [show o + 0 * 3 = o by omega] at a0 a1 a2
  rw [show o + 1 * 3 = o + 3 by omega] at b0 b1 b2
  rw [show o + 2 * 3 = o + 6 by omega] at g0 g1 g2
  rw [show o + 3 + 1 = o + 4 by omega] at b1
  rw [show o + 6 + 2 = o + 8 by omega] at g2
  have hx2 : Hid (x2.s.size ≤ maxLen) := Lib.hid (by
    have hr := ((uns_zero HL.out HE.out).2 x2 (by rw [HLL.out]; simp)).cases
    unfold maxLen
    rcases hr with h | h
    · rw [h.2]; show 0 ≤ _; exact Nat.zero_le _
    · omega)
  have hln : ([x0, x1, x2] : List K.It).length = 3 := rfl
  rw [hln] at lc1 ⊢
  clear hln r1 b0 b2 g0 g1
  obtain ⟨y0, n0, z0⟩ := x0
  obtain ⟨y1, n1, z1⟩ := x1
  obtain ⟨y2, n2, z2⟩ := x2
  dsimp only at a0 a1 a2 b1 g2 hx2
  have HUP := Lib.hid fun W => docUnptr_any z2 W hx2.out
  unfold maxLen at cm1
  go_wp2_with fail
  refine (HUP.out _).mono ?_
  rintro e w3 ⟨hup, hl3⟩
  have L3 := Lib.hid (L1.out.trans (hl3.mono s1))
  have X3 := Lib.hid (X1.out.below hl3 X1.out.lt)
  have k0 := (hl3.cell (p := ⟨b, o, none⟩) hb).trans a0
  have k1 := (hl3.cell (p := ⟨b, o + 1, none⟩) hb).trans a1
  have k2 := (hl3.cell (p := ⟨b, o + 2, none⟩) hb).trans a2
  have k4 := (hl3.cell (p := ⟨b, o + 4, none⟩) hb).trans b1
  have s3 := L3.out.size
  have hb3 : b < w3.heap.size := Nat.lt_of_lt_of_le hb hl3.size
  have hg3 := X1.out.lt
  clear hl3 a0 a1 a2 b1 g2 d0 d1 d2 d3 d4 e0 e1 e2 e3 e4 HUP L1 X1
  rcases hup with ⟨hq, rfl⟩ | ⟨p, hq, hfp, hok, rfl⟩
  · have HN : Hid (∀ u, ¬ Is L u) := Lib.hid fun u hu => by
      obtain ⟨_, _, h2⟩ := is_items hu HLL.out
      injection h2 with _ _ h2
      rw [h2, unP_ptrS (ok_p hu.1) hu.1.2.2] at hq
      cases hq
    have X4 := Lib.hid (X3.out.alloc (.cells #[.int .i64 0, .int .i64 0, .int .i64 0, .string ⟨#[]⟩] 38))
    have L4 := Lib.hid (L3.out.alloc s3 (.cells #[.int .i64 0, .int .i64 0, .int .i64 0, .string ⟨#[]⟩] 38))
    obtain ⟨⟨d0, d1, d2, d3, d4⟩, e0, e1, e2, e3, e4⟩ := uber_facts X4.out
    simp only [ptA, K.zeroP]
    clear hq k0 k1 k2 k4 hx2 HE HLL
    go_wp2_with fail
    refine bodyPost_ret (results_cell2 rfl rfl (set5_loadR X4.out _ _ _ _ _) rfl) rfl ?_
    exact ⟨.inr ⟨HN.out, rfl⟩, set5_below L4.out (Nat.le_refl _) _ _ _ _ _⟩
  · have HQ := Lib.hid hq
    have HFP := Lib.hid hfp
    have HOK := Lib.hid hok
    have HNIS : Hid (∀ v, Is L v → v = ⟨n1, p⟩ ∧ okU ⟨n1, p⟩ = true) := Lib.hid fun v hv => by
      obtain ⟨_, h1, h2⟩ := is_items hv HLL.out
      injection h1 with _ h1 _
      injection h2 with _ _ h2
      have h3 := HQ.out
      rw [h2, unP_ptrS (ok_p hv.1) hv.1.2.2] at h3
      injection h3 with h3
      have e : v = ⟨n1, p⟩ := by
        obtain ⟨vt, vp⟩ := v
        dsimp only at h1 h3
        rw [h1, h3]
      exact ⟨e, by rw [← e]; exact hv.1.1⟩
    have HFU : Hid (FitU ⟨n1, p⟩) := Lib.hid ⟨good_of HL.out HE.out ⟨y1, n1, z1⟩ (by rw [HLL.out]; simp), hfp⟩
    have HDE := Lib.hid fun W => docEncode_lab ⟨n1, p⟩ W HFU.out
    obtain ⟨pa, pz, pb, ps⟩ := p
    simp only [ptA]
    unfold uA at HDE
    dsimp only at HDE
    have bW : Below w3.heap.size w3 (w3.alloc (.cells #[.int .i64 pa, .int .i64 pz, .int .i64 pb, .string ps] 38)) := (Below.refl _ _).alloc (Nat.le_refl _) _
    have X4 := Lib.hid (X3.out.alloc (.cells #[.int .i64 pa, .int .i64 pz, .int .i64 pb, .string ps] 38))
    have L4 := Lib.hid (L3.out.alloc s3 (.cells #[.int .i64 pa, .int .i64 pz, .int .i64 pb, .string ps] 38))
    have Y4 := Lib.hid (Blk.new w3 38 #[.int .i64 pa, .int .i64 pz, .int .i64 pb, .string ps])
    have j4 := (bW.cell (p := ⟨b, o + 4, none⟩) hb3).trans k4
    obtain ⟨⟨f0, f1, f2, f3⟩, _, _, _, _⟩ := ptr_facts Y4.out
    have c31 : 3 ≤ c1 := lc1
    have hs4 : Hid (w.heap.size ≤ (w3.alloc (.cells #[.int .i64 pa, .int .i64 pz, .int .i64 pb, .string ps] 38)).heap.size) := Lib.hid L4.out.size
    have hb4 : b < (w3.alloc (.cells #[.int .i64 pa, .int .i64 pz, .int .i64 pb, .string ps] 38)).heap.size := by simp; omega
    have hy4 := Y4.out.lt
    clear hq hfp hok k0 k1 k2 k4 hx2 bW X3 L3
    go_upto_region 7 with (fail)
    generalize hw4 : w3.alloc (.cells #[.int .i64 pa, .int .i64 pz, .int .i64 pb, .string ps] 38) = w4 at *
    generalize hg6 : w3.heap.size = g6 at *
    clear hw4 hg6
    go_region
    have X5 : Hid (Blk (w4.alloc (.cells #[.int .i64 n1, .int .i64 pa, .int .i64 pz, .int .i64 pb, .string ps] 43)).drew w.heap.size 43 #[.int .i64 0, .int .i64 0, .int .i64 0, .int .i64 0, .string ⟨#[]⟩]) := Lib.hid ((X4.out.alloc _).drew)
    have L5 : Hid (Below w.heap.size w (w4.alloc (.cells #[.int .i64 n1, .int .i64 pa, .int .i64 pz, .int .i64 pb, .string ps] 43)).drew) := Lib.hid ((L4.out.alloc hs4.out _).drew)
    have Y5 : Hid (Blk (w4.alloc (.cells #[.int .i64 n1, .int .i64 pa, .int .i64 pz, .int .i64 pb, .string ps] 43)).drew w4.heap.size 43 #[.int .i64 n1, .int .i64 pa, .int .i64 pz, .int .i64 pb, .string ps]) := Lib.hid ((Blk.new _ _ _).drew)
    generalize hw5 : (w4.alloc (.cells #[.int .i64 n1, .int .i64 pa, .int .i64 pz, .int .i64 pb, .string ps] 43)).drew = w5 at *
    generalize hg7 : w4.heap.size = g7 at *
    clear hw5 hg7 X4 L4 Y4 f0 f1 f2 f3 j4
    obtain ⟨⟨i0, i1, i2, i3, i4⟩, _, _, _, _, _⟩ := uber_facts Y5.out
    go_wp2_with fail
    refine (HDE.out _).mono ?_
    rintro e w6 ⟨rfl, hl6⟩
    have L6 := Lib.hid (L5.out.trans (hl6.mono L5.out.size))
    have X6 := Lib.hid (X5.out.below hl6 X5.out.lt)
    have Y6 := Lib.hid (Y5.out.below hl6 Y5.out.lt)
    obtain ⟨⟨d0, d1, d2, d3, d4⟩, e0, e1, e2, e3, e4⟩ := uber_facts X6.out
    clear hl6 i0 i1 i2 i3 i4 X5 Y5 L5 HDE
    obtain ⟨⟨i0, i1, i2, i3, i4⟩, _, _, _, _, _⟩ := uber_facts Y6.out
    by_cases hok : okU ⟨n1, ⟨pa, pz, pb, ps⟩⟩ = true
    rotate_left
    · have HN : Hid (∀ u, ¬ Is L u) := Lib.hid fun u hu => hok (HNIS.out u hu).2
      have hee : encE ⟨n1, ⟨pa, pz, pb, ps⟩⟩ = 2 := if_neg hok
      rw [hee]
      generalize K.txt (outB ⟨n1, ⟨pa, pz, pb, ps⟩⟩) = TT
      clear hok hee HNIS HQ HFP HOK HFU HE HLL HTL
      go_wp2_with fail
      refine bodyPost_ret (results_cell2 rfl rfl (set5_loadR X6.out _ _ _ _ _) rfl) rfl ?_
      exact ⟨.inr ⟨HN.out, rfl⟩, set5_below L6.out (Nat.le_refl _) _ _ _ _ _⟩
    · have hee : encE ⟨n1, ⟨pa, pz, pb, ps⟩⟩ = 0 := if_pos hok
      have heb : outB ⟨n1, ⟨pa, pz, pb, ps⟩⟩ = encL ⟨n1, ⟨pa, pz, pb, ps⟩⟩ := if_pos hok
      rw [hee, heb]
      by_cases hLe : encL ⟨n1, ⟨pa, pz, pb, ps⟩⟩ = L
      · have HI : Hid (Is L ⟨n1, ⟨pa, pz, pb, ps⟩⟩) := Lib.hid ⟨⟨hok, HFU.out⟩, hLe.symm⟩
        rw [hLe, ← HTL.out]
        have t1 : (TL.toList == TL.toList) = true := beq_self_eq_true _
        clear hok hee heb hLe HNIS HQ HFP HOK HFU HE HLL HTL
        go_wp2_with fail
        refine bodyPost_ret (results_cell2 rfl rfl (set5_loadR X6.out _ _ _ _ _) rfl) rfl ?_
        exact ⟨.inl ⟨_, HI.out, rfl⟩, set5_below L6.out (Nat.le_refl _) _ _ _ _ _⟩
      · have HN : Hid (∀ u, ¬ Is L u) := Lib.hid fun u hu => hLe (by rw [← (HNIS.out u hu).1]; exact hu.2.symm)
        have t1 := txt_ne (encL_lt (by have h := hok; unfold okU at h; rw [Bool.and_eq_true] at h; exact h.2) HFU.out) HL.out hLe
        rw [← HTL.out] at t1
        obtain ⟨TT, hTT⟩ : ∃ TT, TT = K.txt (encL ⟨n1, ⟨pa, pz, pb, ps⟩⟩) := ⟨_, rfl⟩
        rw [← hTT] at t1 ⊢
        clear hok hee heb hLe hTT HNIS HQ HFP HOK HFU HE HLL HTL
        go_wp2_with fail
        refine bodyPost_ret (results_cell2 rfl rfl (set5_loadR X6.out _ _ _ _ _) rfl) rfl ?_
        exact ⟨.inr ⟨HN.out, rfl⟩, set5_below L6.out (Nat.le_refl _) _ _ _ _ _⟩
end Lab
end Go.Proofs.YthioanenljpclaaGreatDoor
namespace Go.Proofs.YthioanenljpclaaGreatDoor
set_option maxRecDepth 100000
open Go.RowKit
set_option linter.unusedVariables false

theorem laidOut_ : laidOutB Tryz.prog = true := by kernel_rfl
theorem row_place : (84 : TypeId) < Tryz.prog.types.size := of_decide_eq_true (by kernel_rfl)
theorem wide_place : (match Tryz.prog.underlying 84 with | some (.array _ _) | some (.struct _) => true | _ => false) = true := by rw [Tryz.underlying84]
theorem law_place : WideMaps.KeyLaw Tryz.prog 84 := deep_law_laid laidOut_ (m := 2) (by omega) row_place (by kernel_rfl) wide_place
theorem keyed : Maps.Keyed Tryz.prog 84 := Maps.Keyed.of_law law_place

/-- A place. -/
def pkey (d a : Nat) : Value := .agg #[.int .i64 (d : Int), .int .i64 (a : Int)]
theorem pkey_inj {d a d' a' : Nat} (h : pkey d a = pkey d' a') : d = d' ∧ a = a' := by
  unfold pkey at h
  simp at h
  omega
def RVp (p : Value → Bool) (v : Value) : Option (DataW Value × List MemPlace) := if p v then some (.held v, []) else none
theorem RVp_of {p : Value → Bool} {v : Value} (h : p v = true) : RVp p v = some (.held v, []) := if_pos h
theorem RVp_inv {p : Value → Bool} {v : Value} {y : DataW Value × List MemPlace} (h : RVp p v = some y) : p v = true ∧ y = (.held v, []) := by
  unfold RVp at h
  split at h
  · rename_i hp
    injection h with h
    exact ⟨hp, h.symm⟩
  · cases h
def anyV (_ : Value) : Bool := true
theorem wf_nat {n : Nat} (h : n < 4611686018427387904) : (Lit.int .i64 (n : Int)).wf = true := WalkArith.wf_i64 (by omega)
noncomputable def klit (d a : Nat) : Lit := (keyOf Tryz.prog 84 (pkey d a)).getD (.bool false)
theorem key_ok {d a : Nat} (hd : d < 4611686018427387904) (ha : a < 4611686018427387904) : keyOf Tryz.prog 84 (pkey d a) = some (klit d a) := by
  have h : (keyOf Tryz.prog 84 (pkey d a)).isSome = true := by
    have hkt : Tryz.prog.keyType 84 = true := by kernel_rfl
    have hc : Tryz.prog.cellsOf 84 = 2 := by kernel_rfl
    have hc3 : Tryz.prog.cellsOf 3 = 1 := by kernel_rfl
    have w1 : (Lit.int .i64 (d : Int)).wf = true := wf_nat hd
    have w2 : (Lit.int .i64 (a : Int)).wf = true := wf_nat ha
    obtain ⟨m, hm⟩ : ∃ m, Tryz.prog.types.size = m + 1 := ⟨Tryz.prog.types.size.pred, (Nat.succ_pred_eq_of_pos (Nat.lt_of_le_of_lt (Nat.zero_le _) row_place)).symm⟩
    have hf : Value.formed Tryz.prog 84 (pkey d a) = true := by simp [pkey, Value.formed, Tryz.underlying84, hc]
    have hl : (Tryz.prog.keyLits (Tryz.prog.types.size + 1) 84 (pkey d a).cells.toList).isSome = true := by
      rw [hm]
      simp [pkey, Value.cells, Program.keyLits, Tryz.underlying84, Tryz.underlying3, hc, hc3, w1, w2]
    unfold keyOf
    rw [Tryz.underlying84]
    rw [if_pos (by rw [hkt, hf]; rfl)]
    rw [Option.isSome_map]
    exact hl
  unfold klit
  cases e : keyOf Tryz.prog 84 (pkey d a)
  · rw [e] at h; cases h
  · rfl
/-- every key is a place's -/
theorem key_inv {key : Value} {kl : Lit} (h : keyOf Tryz.prog 84 key = some kl) : ∃ i j : Int, key = .agg #[.int .i64 i, .int .i64 j] := by
  have hc : Tryz.prog.cellsOf 84 = 2 := by kernel_rfl
  have hc3 : Tryz.prog.cellsOf 3 = 1 := by kernel_rfl
  obtain ⟨m, hm⟩ : ∃ m, Tryz.prog.types.size = m + 1 := ⟨Tryz.prog.types.size.pred, (Nat.succ_pred_eq_of_pos (Nat.lt_of_le_of_lt (Nat.zero_le _) row_place)).symm⟩
  unfold keyOf at h
  rw [Tryz.underlying84] at h
  simp only at h
  split at h
  rotate_left
  · cases h
  rename_i hf
  simp only [Bool.and_eq_true] at hf
  cases key <;> simp [Value.formed, Tryz.underlying84, hc] at hf
  rename_i cs
  obtain ⟨l, hl⟩ : ∃ l, cs.toList = l := ⟨_, rfl⟩
  have hsz : l.length = 2 := by rw [← hl, Array.length_toList]; exact hf.2
  obtain ⟨x, y, rfl⟩ : ∃ x y, l = [x, y] := by
    match l, hsz with
    | [x, y], _ => exact ⟨x, y, rfl⟩
  have hcs : cs = #[x, y] := by apply Array.toList_inj.1; rw [hl]
  subst hcs
  rw [hm] at h
  simp [Value.cells, Program.keyLits, Tryz.underlying84, Tryz.underlying3, hc, hc3] at h
  cases x <;> try (simp at h; done)
  rename_i q i
  dsimp only at h
  by_cases hq : q = IntKind.i64 ∧ (Lit.int .i64 i).wf = true
  rotate_left
  · rw [if_neg hq] at h
    cases h
  rw [if_pos hq] at h
  obtain ⟨rfl, _⟩ := hq
  cases y <;> try (simp at h; done)
  rename_i q j
  by_cases hq : q = IntKind.i64 ∧ (Lit.int .i64 j).wf = true
  rotate_left
  · simp [hq] at h
  obtain ⟨rfl, _⟩ := hq
  exact ⟨i, j, rfl⟩
theorem klit_inj {d a d' a' : Nat} (hd : d < 4611686018427387904) (ha : a < 4611686018427387904) (hd' : d' < 4611686018427387904) (ha' : a' < 4611686018427387904) (h : klit d a = klit d' a') : d = d' ∧ a = a' := by
  have h1 := key_ok hd ha
  have h2 := key_ok hd' ha'
  rw [h] at h1
  exact pkey_inj (keyed.inj h1 h2)

/-- block b is a map of at most n entries, F says what stands at each place -/
def MapFp (p : Value → Bool) (w : World) (b n : Nat) (F : Nat → Nat → Option Value) : Prop :=
  ∃ D : DataW Value, w.ownsMap Tryz.prog 84 (RVp p) b n D ∧ Maps.IsMap D ∧ ∀ d a, d < 4611686018427387904 → a < 4611686018427387904 → ∀ zd, D.atKey (klit d a) zd = (F d a).elim zd .held

abbrev MapF := MapFp anyV
section
variable {okv : Value → Bool} {w w' : World} {b n : Nat} {F : Nat → Nat → Option Value}
theorem MapFp.lt (h : MapFp okv w b n F) : b < w.heap.size := by obtain ⟨D, h1, _⟩ := h; exact h1.lt
theorem MapFp.mono (h : MapFp okv w b n F) {n' : Nat} (hn : n ≤ n') : MapFp okv w b n' F := by obtain ⟨D, h1, h2⟩ := h; exact ⟨D, h1.mono hn, h2⟩
theorem MapFp.isMap (h : MapFp okv w b n F) : ∃ es c, w.heap[b]? = some (.map es c) := by obtain ⟨D, ⟨es, c, h1, _⟩, _⟩ := h; exact ⟨es, c, h1⟩
/-- a key of two numbers or more -/
def aggKey : Value → Bool
  | .agg _ => true
  | _ => false
theorem MapFp.isMapK (h : MapFp okv w b n F) : ∃ es c, w.heap[b]? = some (.map es c) ∧ (es.all fun e => aggKey e.key) = true := by
  obtain ⟨D, ⟨es, c, h1, h2, _⟩, _⟩ := h
  refine ⟨es, c, h1, ?_⟩
  rw [Array.all_eq_true']
  intro e he
  obtain ⟨l, hl⟩ := h2.keys e (Array.mem_toList_iff.2 he)
  obtain ⟨i, j, hk⟩ := key_inv hl
  rw [hk]
  rfl
theorem MapFp.block (h : MapFp okv w b n F) (hb : w'.heap[b]? = w.heap[b]?) : MapFp okv w' b n F := by
  obtain ⟨D, ⟨es, c, h1, h2⟩, h3⟩ := h
  exact ⟨D, ⟨es, c, hb.trans h1, h2⟩, h3⟩
theorem MapFp.drew (h : MapFp okv w b n F) : MapFp okv w.drew b n F := h
theorem MapFp.drewN (h : MapFp okv w b n F) (k : Nat) : MapFp okv (w.drewN k) b n F := h
theorem MapFp.alloc (h : MapFp okv w b n F) (o : Obj) : MapFp okv (w.alloc o) b n F := h.block (Below.heap_alloc w o b h.lt)
theorem MapFp.setCell (h : MapFp okv w b n F) {p : Addr} (hp : b ≠ p.block) (u : Value) : MapFp okv (w.setCell p u) b n F := h.block (Below.heap_setCell w p u b hp)
theorem MapFp.grown {row : Option Nat} (h : MapFp okv w b n F) (hg : w.grownBy w' row) (hne : some b ≠ row) : MapFp okv w' b n F := h.block (hg.block b h.lt hne)
theorem MapFp.ne_blk (h : MapFp okv w b n F) {g : Nat} {t : TypeId} {cs : Array Value} (hg : Blk w g t cs) : b ≠ g := by
  obtain ⟨es, c, h1⟩ := h.isMap
  rintro rfl
  unfold Blk at hg
  rw [h1] at hg
  cases hg
theorem MapFp.congr (h : MapFp okv w b n F) {G : Nat → Nat → Option Value} (he : ∀ d a, d < 4611686018427387904 → a < 4611686018427387904 → F d a = G d a) : MapFp okv w b n G := by
  obtain ⟨D, h1, h2, h3⟩ := h
  exact ⟨D, h1, h2, fun d a hd ha zd => by rw [← he d a hd ha]; exact h3 d a hd ha zd⟩
theorem MapFp.made (w : World) : MapFp okv (w.alloc (.map #[] 0)) w.heap.size 0 (fun _ _ => none) :=
  ⟨_, World.ownsMap_made w Tryz.prog 84 (RVp okv), Maps.isMap_empty, fun d a _ _ zd => rfl⟩
/-- 'm[p]' and 'v, ok := m[p]' -/
theorem MapFp.look {t e : TypeId} (h : MapFp okv w b n F) (ht : Tryz.prog.underlying t = some (.map 84 e)) {z : Value} (hz : (zeroValue e).run Tryz.prog w = .ok z w) {d a : Nat} (hd : d < 4611686018427387904) (ha : a < 4611686018427387904) (c : Bool) :
    (Instr.lookup t (.map (some b)) (pkey d a) c).run Tryz.prog w = .ok (if c then .tuple #[(F d a).getD z, .bool (F d a).isSome] else (F d a).getD z) w := by
  obtain ⟨D, ⟨es, cl, h1, h2, _, rfl⟩, _, h3⟩ := h
  rcases Maps.fit_look c keyed ht hz h1 h2 (key_ok hd ha) with ⟨hrun, _, hat⟩ | ⟨e0, y, _, _, hrun, hRv, hat, _⟩
  · have e1 := (h3 d a hd ha (.held (.int .i64 0))).symm.trans (hat _)
    have e2 := (h3 d a hd ha (.held (.int .i64 1))).symm.trans (hat _)
    cases hF : F d a with
    | none => rw [hrun]; rfl
    | some v =>
      rw [hF] at e1 e2
      simp only [Option.elim] at e1 e2
      rw [e1] at e2
      cases e2
  · have e1 := (h3 d a hd ha (.held (.int .i64 0))).symm.trans (hat _)
    have e2 := (h3 d a hd ha (.held (.int .i64 1))).symm.trans (hat _)
    obtain ⟨_, rfl⟩ := RVp_inv hRv
    cases hF : F d a with
    | none =>
      rw [hF] at e1 e2
      simp only [Option.elim] at e1 e2
      rw [← e1] at e2
      cases e2
    | some v =>
      rw [hF] at e1
      simp only [Option.elim] at e1
      cases e1
      rw [hrun]
      rfl
def putF (F : Nat → Nat → Option Value) (d a : Nat) (v : Value) (d' a' : Nat) : Option Value := if d' = d ∧ a' = a then some v else F d' a'
/-- 'm[p] = v' -/
theorem MapFp.put {t e : TypeId} (h : MapFp okv w b n F) (ht : Tryz.prog.underlying t = some (.map 84 e)) (hn : n < maxLen) {d a : Nat} (hd : d < 4611686018427387904) (ha : a < 4611686018427387904) (v : Value) (hv : okv v = true) :
    ∃ w', (Instr.mapUpdate t (.map (some b)) (pkey d a) v).run Tryz.prog w = .ok () w' ∧ MapFp okv w' b (n + 1) (putF F d a v) ∧ w.grownBy w' (some b) ∧ w'.heap.size = w.heap.size := by
  obtain ⟨D, h1, h2, h3⟩ := h
  obtain ⟨es, cl, hb, F0, hs, hD⟩ := h1
  obtain ⟨es', clock', hrun, F', hput, _⟩ := Maps.fit_store (R' := RVp okv) keyed ht hb F0 (Nat.lt_of_le_of_lt hs hn) (fun _ _ _ _ hz => hz) (key_ok hd ha) (RVp_of hv)
  obtain ⟨w2, hrun2, r1, r2⟩ := World.ownsMap.update ⟨es, cl, hb, F0, hs, hD⟩ keyed ht hn (key_ok hd ha) (RVp_of hv)
  have hw : w2 = ChangeMaps.setBlock w b (.map es' clock') := by
    rw [hrun] at hrun2
    injection hrun2 with _ e
    exact e.symm
  refine ⟨w2, hrun2, ⟨_, r1, h2.put _ _, ?_⟩, r2, by rw [hw]; simp [ChangeMaps.setBlock]⟩
  intro d' a' hd' ha' zd
  unfold putF
  by_cases e : d' = d ∧ a' = a
  · obtain ⟨rfl, rfl⟩ := e
    rw [if_pos ⟨rfl, rfl⟩, Maps.atKey_put_same h2 (keyed.key (key_ok hd ha))]
    rfl
  · rw [if_neg e, Maps.atKey_put_other (fun x => e (klit_inj hd' ha' hd ha x))]
    exact h3 d' a' hd' ha' zd
theorem wpList_mapPut {ops : Array Oper} {rest : List Oper} {o : Oper} {ac : Act} {Q : Exit → Act → World → Prop}
    (hg : o.guard = none) (m x v : Operand) (t e : TypeId) (hop : o.op = Op.mapUpdate t m x v) (ht : Tryz.prog.underlying t = some (.map 84 e)) (b n : Nat) (F : Nat → Nat → Option Value)
    (hm : ac.eval m = .map (some b)) (h : MapFp okv w b n F) (hn : n < maxLen) (d a : Nat) (hd : d < 4611686018427387904) (ha : a < 4611686018427387904) (val : Value) (hx : ac.eval x = pkey d a) (hv : ac.eval v = val) (hpv : okv val = true)
    (hK : ∀ w', MapFp okv w' b (n + 1) (putF F d a val) → w.grownBy w' (some b) → w'.heap.size = w.heap.size → wpList Tryz.prog ops Q rest (ac.put o.dst undef) w') :
    wpList Tryz.prog ops Q (o :: rest) ac w := by
  refine wpList_plain hg fun K' hK' => ?_
  obtain ⟨w', hrun, r1, r2, r3⟩ := h.put ht hn hd ha val hpv
  unfold Oper.wp
  simp [execOp, hop, hm, hx, hv, hrun, Result.andThen]
  exact hK' _ _ (hK w' r1 r2 r3)
end
end Go.Proofs.YthioanenljpclaaGreatDoor
