/-
  The walk of 'LabelOne': one drive that is left is enough; without any there is no record, and none is written.
-/
import Derived.Test.YtjnnmeolonbedaaDoorLabSlotsM
import Derived.Test.YtjnnmeolonbedaaDoorLabDocM
namespace Go.Proofs.YtjnnmeolonbedaaDoor
open Go Go.RowKit refRack Lab
set_option maxRecDepth 100000
set_option linter.unusedVariables false
namespace Lab
theorem umod (a k : Int) (hk : 0 < k) (hk2 : k ≤ 1000000) : ∃ n : Nat, wrap64 ((IntKind.u64.wrap a).tmod k) = (n : Int) ∧ (n : Int) < k := by
  have h0 : 0 ≤ IntKind.u64.wrap a := by rw [IntKind.wrap_u64]; omega
  have h1 := Int.tmod_nonneg k h0
  have h2 := Int.tmod_lt_of_pos (IntKind.u64.wrap a) hk
  refine ⟨((IntKind.u64.wrap a).tmod k).toNat, ?_, by omega⟩
  generalize (IntKind.u64.wrap a).tmod k = y at *
  unfold wrap64
  omega
end Lab
namespace labelOne
/-- the first d drives but one are lost -/
structure OInv (s : RS) (left d q : Nat) (X : Nat → Nat) : Prop where
  nd : s.nd = 5
  ns : s.ns = 9
  calm : s.calm
  gone : ∀ d', s.gone d' = (decide (d' < d) && !decide (d' = left))
  holds : ∀ a, s.holds left a = if a = q then X else zeros
  cost : s.cost ≤ 5
theorem OInv.start (left q : Nat) (X : Nat → Nat) (h : left < 5) : OInv (wall (RS.new 5 9) q X 5) left 0 q X := by
  obtain ⟨hl, hc⟩ := wall_like (RS.new 5 9) q X 5
  refine ⟨hl.nd, hl.ns, hl.calm (new_calm 5 9), fun d' => by rw [hl.gone]; simp [RS.new], fun a => ?_, hc⟩
  rw [wall_holds]
  by_cases e : a = q
  · rw [if_pos e, if_pos ⟨h, rfl, e⟩]
  · rw [if_neg e, if_neg (fun x => e x.2.2)]
    rfl
theorem OInv.skip {s : RS} {left q : Nat} {X : Nat → Nat} (h : OInv s left left q X) : OInv s left (left + 1) q X := by
  refine ⟨h.nd, h.ns, h.calm, fun d' => ?_, h.holds, h.cost⟩
  rw [h.gone]
  by_cases e : d' = left
  · subst e; simp
  · by_cases e2 : d' < left
    · have : d' < left + 1 := by omega
      simp [e, e2, this]
    · have : ¬ d' < left + 1 := by omega
      simp [e, e2, this]
theorem OInv.lose {s : RS} {left d q : Nat} {X : Nat → Nat} (h : OInv s left d q X) (hd : d ≠ left) : OInv (s.lost d) left (d + 1) q X := by
  refine ⟨h.nd, h.ns, h.calm, fun d' => ?_, fun a => ?_, h.cost⟩
  · show (if d' = d then true else s.gone d') = _
    by_cases e : d' = d
    · subst e
      rw [if_pos rfl]
      simp [hd]
    · rw [if_neg e, h.gone]
      by_cases e2 : d' < d
      · have : d' < d + 1 := by omega
        simp [e2, this]
      · have : ¬ d' < d + 1 := by omega
        simp [e2, this]
  · rw [holds_lost a (fun e => hd e.symm)]
    exact h.holds a
section
variable {s : RS} {left t n : Nat}
theorem OInv.newest (h : OInv s left 5 (t % 8) (lst (encL (rec_ t n)))) (hl : left < 5) (ht : 1 ≤ t) (ht2 : t ≤ 1000000) : newU s = (rec_ t n, 0) := by
  have hok := rec_ok (n := n) ht ht2
  have hg : s.gone left = false := by rw [h.gone]; simp
  refine newU_is h.calm.1 (by rw [h.ns]; omega) (by show (1 : Int) ≤ (t : Int); omega) ⟨left, t % 8, by rw [h.nd]; exact hl, by omega, ?_⟩ fun d a hd ha => ?_
  · exact (look_rec h.calm.1 (by rw [h.nd]; exact hl) (by rw [h.ns]; omega) hg hok (fun j _ => by rw [h.holds, if_pos rfl]) rec_mod).1
  · by_cases e : d = left
    · subst e
      by_cases e2 : a = t % 8
      · subst e2
        exact .inl (look_rec h.calm.1 hd (by rw [h.ns]; omega) hg hok (fun j _ => by rw [h.holds, if_pos rfl]) rec_mod).1
      · refine .inr ?_
        rw [(look_none h.calm.1 hd (by rw [h.ns]; omega) hg (by rw [h.holds, if_neg e2]; rfl)).1]
        show (0 : Int) < (t : Int)
        omega
    · refine .inr ?_
      have hd5 : d < 5 := by rw [h.nd] at hd; exact hd
      rw [(look_gone h.calm.1 hd (by rw [h.ns]; omega) (by rw [h.gone]; simp [hd5, e])).1]
      show (0 : Int) < (t : Int)
      omega
theorem cnt_one {q : Nat} {X : Nat → Nat} (h : OInv s left 5 q X) (hl : left < 5) : cntW s 5 = 1 := by
  have hg : ∀ d', d' < 5 → s.gone d' = !decide (d' = left) := fun d' hd => by rw [h.gone]; simp [hd]
  have h0 := hg 0 (by omega)
  have h1 := hg 1 (by omega)
  have h2 := hg 2 (by omega)
  have h3 := hg 3 (by omega)
  have h4 := hg 4 (by omega)
  unfold cntW cntW cntW cntW cntW cntW
  rw [h0, h1, h2, h3, h4]
  rcases (by omega : left = 0 ∨ left = 1 ∨ left = 2 ∨ left = 3 ∨ left = 4) with e | e | e | e | e <;> subst e <;> rfl
/-- all are lost -/
structure Dead (s : RS) : Prop where
  nd : s.nd = 5
  ns : s.ns = 9
  calm : s.calm
  gone : ∀ d, d < 5 → s.gone d = true
  cost : s.cost ≤ 10
theorem OInv.dead {q q' : Nat} {X X' : Nat → Nat} (h : OInv s left 5 q X) : Dead ((wall s q' X' 5).lost left) := by
  obtain ⟨hl, hc⟩ := wall_like s q' X' 5
  refine ⟨hl.nd.trans h.nd, hl.ns.trans h.ns, hl.calm h.calm, fun d hd => ?_, ?_⟩
  · show (if d = left then true else (wall s q' X' 5).gone d) = true
    by_cases e : d = left
    · rw [if_pos e]
    · rw [if_neg e, hl.gone, h.gone]
      simp [hd, e]
  · have := h.cost
    show (wall s q' X' 5).cost ≤ 10
    omega
theorem Dead.newest (h : Dead s) : newU s = (zeroU, 7) :=
  newU_none h.calm.1 (by rw [h.ns]; omega) fun d a hd ha => (look_gone h.calm.1 hd (by rw [h.ns]; omega) (h.gone d (by rw [h.nd] at hd; exact hd))).1
theorem Dead.wrote (h : Dead s) (ht : 1 ≤ t) (ht2 : t ≤ 1000000) : (wroteL s (rec_ t n)).2 = (0, 4) ∧ Dead (wroteL s (rec_ t n)).1 := by
  have hw := wroteL_calm h.calm (by rw [h.ns]; omega) (t := t) (p := P n) (rec_ok ht ht2).1
  have hc : cntW s s.nd = 0 := by
    rw [h.nd]
    unfold cntW cntW cntW cntW cntW cntW
    rw [h.gone 0 (by omega), h.gone 1 (by omega), h.gone 2 (by omega), h.gone 3 (by omega), h.gone 4 (by omega)]
    rfl
  have hs : wall s (t % 8) (lst (encL (rec_ t n))) s.nd = s := by
    rw [h.nd]
    unfold wall wall wall wall wall wall
    rw [h.gone 0 (by omega), h.gone 1 (by omega), h.gone 2 (by omega), h.gone 3 (by omega), h.gone 4 (by omega)]
    rfl
  rw [show wroteL s (rec_ t n) = _ from hw, hc]
  exact ⟨rfl, by show Dead (wall s (t % 8) (lst (encL (rec_ t n))) s.nd); rw [hs]; exact h⟩
end
set_option maxHeartbeats 3200000 in
theorem walk (a0 a1 : Int) (w : World) (w0 : (Lit.int .i64 a0).wf = true) (w1 : (Lit.int .i64 a1).wf = true) (hl : Laid w) :
    Calls Tryd.prog 7 #[.int .i64 a0, .int .i64 a1] w fun e w' => e = .returned (.bool true) ∧ Below w.heap.size w w' := by
  have HLD := Lib.hid hl
  have hpos := hl.pos
  obtain ⟨left, hat, hl5⟩ := umod a0 5 (by omega) (by omega)
  obtain ⟨t0, hat2, ht5⟩ := umod a1 100000 (by omega) (by omega)
  clear hl w0 w1
  go_enter Tryd.func7, Tryd.ntmps7
  go_wp2_with fail
  refine (law_known _ HLD.out).mono ?_
  rintro e w1 ⟨rfl, b1⟩
  have L1 := Lib.hid b1
  clear b1
  go_wp2_with fail
  refine (new_any w1 5 9 (by omega) (by omega) (by omega) (by omega)).mono ?_
  rintro e w2 ⟨⟨r, rfl, h2⟩, k2⟩
  have hBs : Hid (w.heap.size ≤ w1.heap.size) := Lib.hid L1.out.size
  have R2 := Lib.hid h2
  have K2 := Lib.hid k2
  have HB : Hid (0 < w1.heap.size) := Lib.hid (by have := hBs.out; omega)
  have HL1 := Lib.hid (HLD.out.below L1.out hpos)
  clear h2 k2
  generalize hwB : w1.heap.size = B at *
  clear hwB
  obtain ⟨t, ht⟩ : ∃ t, t = t0 + 1 := ⟨_, rfl⟩
  have ht1 : 1 ≤ t := by omega
  have ht2 : t ≤ 100000 := by omega
  have HTT : Hid ((1 : Int) + (t0 : Int) = (t : Int)) := Lib.hid (by omega)
  have HAT := Lib.hid hat
  clear hat
  have HT : Hid (1 ≤ t ∧ t ≤ 100000) := Lib.hid ⟨ht1, ht2⟩
  have HLF : Hid (left < 5) := Lib.hid (by omega)
  clear ht
  go_wp2_with fail
  rw [HTT.out, HAT.out]
  clear HAT hat2 HTT ht5
  refine (law_ptrL t _ (by omega)).mono ?_
  rintro e w3 ⟨pa, pz, pb, ps, hp, rfl, b3⟩
  have R3 := Lib.hid (R2.out.below b3)
  have K3 := Lib.hid (K2.out.new b3 R2.out.le)
  have HU : Hid ((#[.int .i64 (t : Int), .int .i64 pa, .int .i64 pz, .int .i64 pb, .string ps] : Array Value) = uA (rec_ t t)) := Lib.hid (uA_rec hp)
  clear b3 R2 K2 hp
  go_wp2_with fail
  rw [HU.out]
  have HW := Lib.hid (write_lab w3 r _ (rec_ t t) R3.out (rec_ok HT.out.1 (by omega)).2 (HL1.out.below K3.out.below HB.out) HB.out (by show 0 + 5 ≤ 1000000; omega))
  have hw0 : wroteL (RS.new 5 9) (rec_ t t) = (wall (RS.new 5 9) (t % 8) (lst (encL (rec_ t t))) 5, 5, 0) := wroteL_calm (new_calm 5 9) (by show 8 < 9; omega) (t := t) (p := P t) (rec_ok HT.out.1 (by omega)).1
  rw [hw0] at HW
  clear hw0
  have N4 := Lib.hid (OInv.start left (t % 8) (lst (encL (rec_ t t))) HLF.out)
  refine HW.out.mono ?_
  rintro e w4 ⟨rfl, h4, k4⟩
  have R4 := Lib.hid h4
  have K4 := Lib.hid (K3.out.trans k4)
  clear h4 k4 R3 K3 HW HU
  generalize wall (RS.new 5 9) (t % 8) (lst (encL (rec_ t t))) 5 = s4 at *
  dsimp only
  go_wp2_with fail
  go_loopw [9] (fun x wr => ∃ (d : Nat) (s : RS), d ≤ 5 ∧ x = .int .i64 d ∧ Hid (OInv s left d (t % 8) (lst (encL (rec_ t t)))) ∧ Hid (RackAt B wr r s) ∧ Hid (Keep B w1 wr)) (fun x _ => 5 - (intOf x).toNat)
  case atStart => exact ⟨0, s4, by omega, rfl, N4, R4, K4⟩
  case round =>
    obtain ⟨d, s, hd, rfl, N5, R5, K5⟩ := hrel
    clear N4 R4 K4
    by_cases hd5 : d < 5
    · have t1 : decide ((d : Int) < 5) = true := by simp; omega
      by_cases e : d = left
      · subst e
        have t2 : ((d : Int) != (d : Int)) = false := by simp
        have N6 := Lib.hid N5.out.skip
        go_wp2_with fail
        go_roundw
        case rel => exact ⟨d + 1, s, by omega, by go_num, N6, R5, K5⟩
        case measure => simp [intOf]; omega
      · have t2 : ((d : Int) != (left : Int)) = true := by simp; omega
        have N6 := Lib.hid (N5.out.lose e)
        clear e
        go_wp2_with fail
        refine (lose_ok _ r s d R5.out (by rw [N5.out.nd]; exact hd5)).mono ?_
        rintro e w6 ⟨rfl, h6, k6⟩
        have R6 := Lib.hid h6
        have K6 := Lib.hid (K5.out.trans k6)
        clear h6 k6 R5 K5 t1 t2
        go_wp2_with fail
        go_roundw
        case rel => exact ⟨d + 1, s.lost d, by omega, by go_num, N6, R6, K6⟩
        case measure => simp [intOf]; omega
    · have t1 : decide ((d : Int) < 5) = false := by simp; omega
      obtain rfl : d = 5 := by omega
      go_wp2_with fail
      clear t1
      have HN := Lib.hid (newest_lab wr r s R5.out (HL1.out.below K5.out.below HB.out) HB.out)
      rw [N5.out.newest HLF.out HT.out.1 (by have := HT.out.2; omega)] at HN
      refine HN.out.mono ?_
      rintro e w6 ⟨rfl, h6, k6⟩
      have R6 := Lib.hid h6
      have K6 := Lib.hid (K5.out.trans k6)
      clear h6 k6 R5 K5 HN
      obtain ⟨qa, qz, qb, qs, hq⟩ : ∃ qa qz qb qs, P t = ⟨qa, qz, qb, qs⟩ := ⟨_, _, _, _, rfl⟩
      have HU : Hid (uA (rec_ t t) = #[.int .i64 (t : Int), .int .i64 qa, .int .i64 qz, .int .i64 qb, .string qs]) := Lib.hid (uA_rec hq).symm
      rw [HU.out]
      clear hq
      have bV : Below w6.heap.size w6 (w6.alloc (.cells #[.int .i64 (t : Int), .int .i64 qa, .int .i64 qz, .int .i64 qb, .string qs] 25)) := (Below.refl _ _).alloc (Nat.le_refl _) _
      have R7 := Lib.hid (R6.out.below bV)
      have K7 := Lib.hid (K6.out.new bV R6.out.le)
      have X7 := Lib.hid (Blk.new w6 25 #[.int .i64 (t : Int), .int .i64 qa, .int .i64 qz, .int .i64 qb, .string qs])
      clear bV R6 K6 HU
      go_wp2_with fail
      refine (law_ptrL 1 _ (by omega)).mono ?_
      rintro e w8 ⟨pa, pz, pb, ps, hp, rfl, b8⟩
      have R8 := Lib.hid (R7.out.below b8)
      have K8 := Lib.hid (K7.out.new b8 R7.out.le)
      have X8 := Lib.hid (X7.out.new_ b8)
      have HU : Hid ((#[.int .i64 ((t : Int) + 1), .int .i64 pa, .int .i64 pz, .int .i64 pb, .string ps] : Array Value) = uA (rec_ (t + 1) 1)) := Lib.hid (uA_rec (t := t + 1) hp)
      have HU2 : Hid ((#[.int .i64 ((t : Int) + 2), .int .i64 pa, .int .i64 pz, .int .i64 pb, .string ps] : Array Value) = uA (rec_ (t + 2) 1)) := Lib.hid (uA_rec (t := t + 2) hp)
      clear b8 R7 K7 X7 hp
      go_wp2_with fail
      rw [HU.out]
      have HW := Lib.hid (write_lab w8 r s (rec_ (t + 1) 1) R8.out (rec_ok (by omega) (by have := HT.out.2; omega)).2 (HL1.out.below K8.out.below HB.out) HB.out (by have := N5.out.cost; have := N5.out.nd; omega))
      have hw0 : wroteL s (rec_ (t + 1) 1) = (wall s ((t + 1) % 8) (lst (encL (rec_ (t + 1) 1))) 5, 1, 0) := by
        have h := wroteL_calm N5.out.calm (by rw [N5.out.ns]; omega) (t := t + 1) (p := P 1) (rec_ok (by omega) (by have := HT.out.2; omega)).1
        rw [N5.out.nd, cnt_one N5.out HLF.out] at h
        exact h
      rw [hw0] at HW
      clear hw0
      have D9 := Lib.hid (N5.out.dead (q' := (t + 1) % 8) (X' := lst (encL (rec_ (t + 1) 1))))
      have hnd9 := (wall_like s ((t + 1) % 8) (lst (encL (rec_ (t + 1) 1))) 5).1.nd
      have HND9 : Hid ((wall s ((t + 1) % 8) (lst (encL (rec_ (t + 1) 1))) 5).nd = 5) := Lib.hid (hnd9.trans N5.out.nd)
      refine HW.out.mono ?_
      rintro e w9 ⟨rfl, h9, k9⟩
      have R9 := Lib.hid h9
      have K9 := Lib.hid (K8.out.trans k9)
      have X9 := Lib.hid (k9.block X8.out rfl)
      clear h9 k9 R8 K8 X8 HW HU N5 hnd9
      generalize wall s ((t + 1) % 8) (lst (encL (rec_ (t + 1) 1))) 5 = s9 at *
      dsimp only
      have d0 : w9.cell? ⟨w6.heap.size, 0, none⟩ = some (.int .i64 (t : Int)) := X9.out.cell 0
      have t3 : ((t : Int) != (t : Int)) = false := by simp
      go_wp2_with fail
      clear t3 d0 X9
      refine (lose_ok _ r s9 left R9.out (by rw [HND9.out]; exact HLF.out)).mono ?_
      rintro e w10 ⟨rfl, h10, k10⟩
      have R10 := Lib.hid h10
      have K10 := Lib.hid (K9.out.trans k10)
      clear h10 k10 R9 K9 HND9
      generalize s9.lost left = s10 at *
      go_wp2_with fail
      have HN := Lib.hid (newest_lab w10 r s10 R10.out (HL1.out.below K10.out.below HB.out) HB.out)
      rw [D9.out.newest] at HN
      refine HN.out.mono ?_
      rintro e w11 ⟨rfl, h11, k11⟩
      have bV : Below w11.heap.size w11 (w11.alloc (.cells #[.int .i64 0, .int .i64 0, .int .i64 0, .int .i64 0, .string ⟨#[]⟩] 25)) := (Below.refl _ _).alloc (Nat.le_refl _) _
      have R11 := Lib.hid (h11.below bV)
      have K11 := Lib.hid ((K10.out.trans k11).new bV h11.le)
      clear h11 k11 R10 K10 HN bV
      simp only [uA, zeroU, K.zeroP]
      go_wp2_with fail
      refine (law_ptrL 1 _ (by omega)).mono ?_
      rintro e w12 ⟨qa', qz', qb', qs', hp', rfl, b12⟩
      have R12 := Lib.hid (R11.out.below b12)
      have K12 := Lib.hid (K11.out.new b12 R11.out.le)
      have HU3 : Hid ((#[.int .i64 ((t : Int) + 2), .int .i64 qa', .int .i64 qz', .int .i64 qb', .string qs'] : Array Value) = uA (rec_ (t + 2) 1)) := Lib.hid (uA_rec (t := t + 2) hp')
      clear b12 R11 K11 hp' HU2
      go_wp2_with fail
      rw [HU3.out]
      have HW := Lib.hid (write_lab w12 r s10 (rec_ (t + 2) 1) R12.out (rec_ok (by omega) (by have := HT.out.2; omega)).2 (HL1.out.below K12.out.below HB.out) HB.out (by have := D9.out.cost; have := D9.out.nd; omega))
      obtain ⟨hwe, hwd⟩ := D9.out.wrote (t := t + 2) (n := 1) (by omega) (by have := HT.out.2; omega)
      rw [hwe] at HW
      have D12 := Lib.hid hwd
      clear hwe hwd
      refine HW.out.mono ?_
      rintro e w13 ⟨rfl, h13, k13⟩
      have R13 := Lib.hid h13
      have K13 := Lib.hid (K12.out.trans k13)
      clear h13 k13 R12 K12 HW HU3 D9
      generalize (wroteL s10 (rec_ (t + 2) 1)).1 = s13 at *
      dsimp only
      go_wp2_with fail
      have hden : s13.deny (left : Int) 0 = 3 := by
        have h := deny_of (d := left) (a := 0) D12.out.calm.1 (by rw [D12.out.nd]; exact HLF.out) (by rw [D12.out.ns]; omega)
        rw [if_pos (D12.out.gone left HLF.out)] at h
        exact h
      have HS := Lib.hid (slots_no w13 r s13 left R13.out (HL1.out.below K13.out.below HB.out) HB.out (by rw [D12.out.ns]; omega) (by rw [hden]; omega))
      rw [hden] at HS
      clear hden
      refine HS.out.mono ?_
      rintro e w14 ⟨rfl, h14, k14⟩
      have L14 := Lib.hid (L1.out.trans ((K13.out.trans k14).below.mono hBs.out))
      clear h14 k14 R13 K13 HS D12
      go_wp2_with fail
      go_ret
      exact ⟨rfl, L14.out⟩
end labelOne
end Go.Proofs.YtjnnmeolonbedaaDoor
