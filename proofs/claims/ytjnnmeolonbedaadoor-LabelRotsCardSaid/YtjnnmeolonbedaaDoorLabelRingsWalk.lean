/-
  The walk of 'LabelRings': of many transactions the last eight are in the slots, each in its own; the newest counts.
-/
import Derived.Test.YtjnnmeolonbedaaDoorLabelOneWalk
import Derived.Deep.DeepCutAuto
namespace Go.Proofs.YtjnnmeolonbedaaDoor
open Go Go.RowKit refRack Lab
set_option maxRecDepth 100000
set_option linter.unusedVariables false
namespace Lab
theorem load_t {W : World} {g : Nat} {u : U} (h : Blk W g 25 (uA u)) : (Instr.loadAt 3 (.pointer (some ⟨g, 0, none⟩))).run Tryd.prog W = .ok (.int .i64 u.t) W := load_one Tryd.underlying3 (by kernel_rfl) (h.cell 0)
theorem add_nat (a b : Nat) (h : a + b ≤ 1000000000) (w : World) : (binOp .add 3 (.int .i64 (a : Int)) (.int .i64 (b : Int))).run Tryd.prog w = .ok (.int .i64 ((a + b : Nat) : Int)) w := by
  rw [show binOp .add 3 (.int .i64 (a : Int)) (.int .i64 (b : Int)) = pure (.int .i64 (IntKind.i64.wrap ((a : Int) + (b : Int)))) from rfl, IntKind.wrap_i64]
  rw [show ((a : Int) + (b : Int) + 9223372036854775808) % 18446744073709551616 - 9223372036854775808 = ((a + b : Nat) : Int) by omega]
  rfl
theorem sub_one (a : Nat) (h : 1 ≤ a ∧ a ≤ 1000000000) (w : World) : (binOp .sub 3 (.int .i64 (a : Int)) (.int .i64 1)).run Tryd.prog w = .ok (.int .i64 ((a - 1 : Nat) : Int)) w := by
  rw [show binOp .sub 3 (.int .i64 (a : Int)) (.int .i64 1) = pure (.int .i64 (IntKind.i64.wrap ((a : Int) - 1))) from rfl, IntKind.wrap_i64]
  rw [show ((a : Int) - 1 + 9223372036854775808) % 18446744073709551616 - 9223372036854775808 = ((a - 1 : Nat) : Int) by omega]
  rfl
theorem eq_int (a b : Int) (h : a = b) (w : World) : (binOp .eql 3 (.int .i64 a) (.int .i64 b)).run Tryd.prog w = .ok (.bool true) w := by
  subst h
  rw [show binOp .eql 3 (.int .i64 a) (.int .i64 a) = pure (.bool (a == a)) from rfl, beq_self_eq_true]
  rfl
theorem eq_int_no (a b : Int) (h : a ≠ b) (w : World) : (binOp .eql 3 (.int .i64 a) (.int .i64 b)).run Tryd.prog w = .ok (.bool false) w := by
  rw [show binOp .eql 3 (.int .i64 a) (.int .i64 b) = pure (.bool (a == b)) from rfl, show (a == b) = false by simpa using h]
  rfl
end Lab
namespace labelRings
/-- the last of i transactions from F on that belongs into slot a -/
def ringT (F a : Nat) : Nat → Option Nat
  | 0 => none
  | i + 1 => if (F + i) % 8 = a then some (F + i) else ringT F a i
theorem ringT_succ (F a i : Nat) : ringT F a (i + 1) = if (F + i) % 8 = a then some (F + i) else ringT F a i := rfl
theorem ringT_spec {F a T : Nat} : ∀ {i}, ringT F a i = some T → F ≤ T ∧ T < F + i ∧ T % 8 = a
  | 0, h => by cases h
  | i + 1, h => by
    rw [ringT_succ] at h
    by_cases e : (F + i) % 8 = a
    · rw [if_pos e] at h
      injection h with h
      subst h
      exact ⟨by omega, by omega, e⟩
    · rw [if_neg e] at h
      obtain ⟨h1, h2, h3⟩ := ringT_spec h
      exact ⟨h1, by omega, h3⟩
def wantI (o : Option Nat) : Int := match o with | some T => (T : Int) | none => -1
def bytesT (o : Option Nat) : Nat → Nat := match o with | some T => lst (encL (rec_ T T)) | none => zeros
structure RInv (s : RS) (F i : Nat) : Prop where
  nd : s.nd = 3
  ns : s.ns = 9
  calm : s.calm
  gone : ∀ d, s.gone d = false
  cost : s.cost ≤ 3 * i
  holds : ∀ d a, d < 3 → s.holds d a = bytesT (ringT F a i)
theorem RInv.start (F : Nat) : RInv (RS.new 3 9) F 0 := ⟨rfl, rfl, new_calm 3 9, fun _ => rfl, Nat.le_refl _, fun _ _ _ => rfl⟩
section
variable {s : RS} {F i : Nat}
theorem RInv.wrote (h : RInv s F i) (ht : 1 ≤ F) (ht2 : F + i ≤ 1000000) : wroteL s (rec_ (F + i) (F + i)) = (wall s ((F + i) % 8) (lst (encL (rec_ (F + i) (F + i)))) 3, 3, 0) ∧ RInv (wall s ((F + i) % 8) (lst (encL (rec_ (F + i) (F + i)))) 3) F (i + 1) := by
  have hw := wroteL_calm h.calm (by rw [h.ns]; omega) (t := F + i) (p := P (F + i)) (rec_ok (n := F + i) (by omega) ht2).1
  have hc : cntW s s.nd = 3 := by
    rw [h.nd]
    unfold cntW cntW cntW cntW
    rw [h.gone, h.gone, h.gone]
    rfl
  rw [hc, h.nd] at hw
  obtain ⟨hl, hcost⟩ := wall_like s ((F + i) % 8) (lst (encL (rec_ (F + i) (F + i)))) 3
  refine ⟨hw, hl.nd.trans h.nd, hl.ns.trans h.ns, hl.calm h.calm, fun d => by rw [hl.gone]; exact h.gone d, by have := h.cost; omega, fun d a hd => ?_⟩
  rw [wall_holds, ringT_succ]
  by_cases e : (F + i) % 8 = a
  · rw [if_pos ⟨hd, h.gone d, e.symm⟩, if_pos e]
    rfl
  · rw [if_neg (fun x => e x.2.2.symm), if_neg e]
    exact h.holds d a hd
theorem RInv.look (h : RInv s F i) (ht : 1 ≤ F) (ht2 : F + i ≤ 1000000) {d a : Nat} (hd : d < 3) (ha : a < 8) :
    (∀ T, ringT F a i = some T → lookU s d a = rec_ T T ∧ lookE s d a = 0) ∧ (ringT F a i = none → lookU s d a = zeroU ∧ lookE s d a = 7) := by
  refine ⟨fun T hT => ?_, fun hT => ?_⟩
  · obtain ⟨h1, h2, h3⟩ := ringT_spec hT
    subst h3
    exact look_rec h.calm.1 (by rw [h.nd]; exact hd) (by rw [h.ns]; omega) (h.gone d) (rec_ok (by omega) (by omega)) (fun j _ => by rw [h.holds d _ hd, hT]; rfl) rec_mod
  · exact look_none h.calm.1 (by rw [h.nd]; exact hd) (by rw [h.ns]; omega) (h.gone d) (by rw [h.holds d _ hd, hT]; rfl)
theorem RInv.slot (h : RInv s F i) (ht : 1 ≤ F) (ht2 : F + i ≤ 1000000) {d a : Nat} (hd : d < 3) (ha : a < 8) : slotI s d a = wantI (ringT F a i) := by
  have hden : s.deny (d : Int) (a : Int) = 0 := by
    rw [deny_of h.calm.1 (by rw [h.nd]; exact hd) (by rw [h.ns]; omega), h.gone]
    rfl
  have hE : lookE s d a = if (found s d a).isSome = true then 0 else 7 := by unfold lookE; exact if_pos hden
  unfold slotI
  cases hT : ringT F a i with
  | some T =>
    obtain ⟨h1, h2⟩ := (h.look ht ht2 hd ha).1 T hT
    rw [h2] at hE
    by_cases hs : (found s d a).isSome = true
    · rw [if_pos hs, h1]; rfl
    · rw [if_neg hs] at hE; cases hE
  | none =>
    obtain ⟨h1, h2⟩ := (h.look ht ht2 hd ha).2 hT
    rw [h2] at hE
    by_cases hs : (found s d a).isSome = true
    · rw [if_pos hs] at hE; cases hE
    · rw [if_neg hs]; rfl
theorem RInv.newest (h : RInv s F (i + 1)) (ht : 1 ≤ F) (ht2 : F + i < 1000000) : newU s = (rec_ (F + i) (F + i), 0) := by
  have hT : ringT F ((F + i) % 8) (i + 1) = some (F + i) := if_pos rfl
  refine newU_is h.calm.1 (by rw [h.ns]; omega) (by show (1 : Int) ≤ ((F + i : Nat) : Int); omega) ⟨0, (F + i) % 8, by rw [h.nd]; omega, by omega, ((h.look ht (by omega) (by omega) (by omega)).1 _ hT).1⟩ fun d a hd ha => ?_
  rw [h.nd] at hd
  cases hL : ringT F a (i + 1) with
  | some T =>
    rw [((h.look ht (by omega) hd ha).1 T hL).1]
    obtain ⟨h1, h2, _⟩ := ringT_spec hL
    by_cases e : T = F + i
    · exact .inl (by rw [e])
    · refine .inr ?_
      show (T : Int) < ((F + i : Nat) : Int)
      omega
  | none =>
    rw [((h.look ht (by omega) hd ha).2 hL).1]
    refine .inr ?_
    show (0 : Int) < ((F + i : Nat) : Int)
    omega
end
set_option maxHeartbeats 3200000 in
theorem walk (a0 a1 : Int) (w : World) (w0 : (Lit.int .i64 a0).wf = true) (w1 : (Lit.int .i64 a1).wf = true) (hl : Laid w) :
    Calls Tryd.prog 6 #[.int .i64 a0, .int .i64 a1] w fun e w' => e = .returned (.bool true) ∧ Below w.heap.size w w' := by
  have HLD := Lib.hid hl
  have hpos := hl.pos
  obtain ⟨c0, hat, hc20⟩ := umod a0 20 (by omega) (by omega)
  obtain ⟨f0, hat2, hf20⟩ := umod a1 1000 (by omega) (by omega)
  clear hl w0 w1
  go_enter Tryd.func6, Tryd.ntmps6
  go_wp2_with fail
  refine (law_known _ HLD.out).mono ?_
  rintro e w1 ⟨rfl, b1⟩
  have L1 := Lib.hid b1
  clear b1
  go_wp2_with fail
  refine (new_any w1 3 9 (by omega) (by omega) (by omega) (by omega)).mono ?_
  rintro e w2 ⟨⟨r, rfl, h2⟩, k2⟩
  have hBs : Hid (w.heap.size ≤ w1.heap.size) := Lib.hid L1.out.size
  have R2 := Lib.hid h2
  have K2 := Lib.hid k2
  have HB : Hid (0 < w1.heap.size) := Lib.hid (by have := hBs.out; omega)
  have HL1 := Lib.hid (HLD.out.below L1.out hpos)
  clear h2 k2
  generalize hwB : w1.heap.size = B at *
  clear hwB
  obtain ⟨C, hC⟩ : ∃ C, C = c0 + 1 := ⟨_, rfl⟩
  obtain ⟨F, hF⟩ : ∃ F, F = f0 + 1 := ⟨_, rfl⟩
  have hC1 : 1 ≤ C := by omega
  have hC2 : C ≤ 20 := by omega
  have hF1 : 1 ≤ F := by omega
  have hF2 : F ≤ 1000 := by omega
  have HCC : Hid ((1 : Int) + (c0 : Int) = (C : Int)) := Lib.hid (by omega)
  have HFF : Hid ((1 : Int) + (f0 : Int) = (F : Int)) := Lib.hid (by omega)
  clear hC hF
  go_upto_region 7 with (fail)
  rw [HCC.out, HFF.out]
  clear HCC HFF hat hat2 hc20 hf20
  have N2 := Lib.hid (RInv.start F)
  generalize RS.new 3 9 = s2 at *
  go_wp2_with fail
  go_loopw [7, 8, 9] (fun x _ _ wr => ∃ (i : Nat) (s : RS), i ≤ C ∧ x = .int .i64 ((F + i : Nat) : Int) ∧ Hid (RInv s F i) ∧ Hid (RackAt B wr r s) ∧ Hid (Keep B w1 wr)) (fun x _ _ _ => F + C - (intOf x).toNat)
  case atStart => exact ⟨0, s2, by omega, rfl, N2, R2, K2⟩
  case round =>
    obtain ⟨i, s, hi, rfl, N3, R3, K3⟩ := hrel
    clear N2 R2 K2
    obtain ⟨T, hT⟩ : ∃ T, T = F + i := ⟨_, rfl⟩
    rw [← hT]
    have HTT := Lib.hid hT
    have hT1 : T ≤ F + C := by omega
    have hT0 : F ≤ T := by omega
    by_cases hiC : i < C
    · have t1 : decide ((T : Int) < (F : Int) + (C : Int)) = true := by simp; omega
      clear hT
      go_wp2_with fail
      refine (law_ptrL T _ (by omega)).mono ?_
      rintro e w4 ⟨pa, pz, pb, ps, hp, rfl, b4⟩
      have R4 := Lib.hid (R3.out.below b4)
      have K4 := Lib.hid (K3.out.new b4 R3.out.le)
      have HU : Hid ((#[.int .i64 (T : Int), .int .i64 pa, .int .i64 pz, .int .i64 pb, .string ps] : Array Value) = uA (rec_ T T)) := Lib.hid (uA_rec hp)
      clear b4 R3 K3 hp
      go_wp2_with fail
      rw [HU.out]
      have HW := Lib.hid (write_lab w4 r s (rec_ T T) R4.out (rec_ok (by omega) (by omega)).2 (HL1.out.below K4.out.below HB.out) HB.out (by have := N3.out.cost; have := N3.out.nd; omega))
      have hwn := N3.out.wrote hF1 (by omega)
      rw [← HTT.out] at hwn
      rw [hwn.1] at HW
      have N5 := Lib.hid hwn.2
      clear hwn
      refine HW.out.mono ?_
      rintro e w5 ⟨rfl, h5, k5⟩
      have R5 := Lib.hid h5
      have K5 := Lib.hid (K4.out.trans k5)
      clear h5 k5 R4 K4 HW HU N3 t1
      generalize wall s (T % 8) (lst (encL (rec_ T T))) 3 = s5 at *
      dsimp only
      go_wp2_with fail
      go_roundw
      case rel => exact ⟨i + 1, s5, by omega, by rw [HTT.out]; go_num, N5, R5, K5⟩
      case measure => have := HTT.out; simp [intOf]; omega
    · have t1 : decide ((T : Int) < (F : Int) + (C : Int)) = false := by simp; omega
      obtain rfl : i = C := by omega
      clear hT
      go_wp2_with fail
      clear t1
      go_loopw [10, 11, 12, 13, 14, 15] (fun x _ _ _ _ _ wr => ∃ (d : Nat), d ≤ 3 ∧ x = .int .i64 (d : Int) ∧ Hid (RackAt B wr r s) ∧ Hid (Keep B w1 wr)) (fun x _ _ _ _ _ _ => 3 - (intOf x).toNat)
      case atStart => exact ⟨0, by omega, rfl, R3, K3⟩
      case round =>
        obtain ⟨d, hd, rfl, R4, K4⟩ := hrel
        clear R3 K3
        by_cases hd3 : d < 3
        · have t1 : decide ((d : Int) < 3) = true := by simp; omega
          have hden : s.deny (d : Int) 0 = 0 := by
            have h := deny_of (d := d) (a := 0) N3.out.calm.1 (by rw [N3.out.nd]; exact hd3) (by rw [N3.out.ns]; omega)
            rw [N3.out.gone] at h
            exact h
          have HSL := Lib.hid (slots_yes wr r s d R4.out (HL1.out.below K4.out.below HB.out) HB.out (by rw [N3.out.ns]; omega) hden)
          clear hden
          go_wp2_with fail
          refine HSL.out.mono ?_
          rintro e w5 ⟨⟨g, rfl, _, hb⟩, h5, k5⟩
          have R5 := Lib.hid h5
          have K5 := Lib.hid (K4.out.trans k5)
          have X5 := Lib.hid hb
          clear h5 k5 hb R4 K4 HSL t1
          go_wp2_with fail
          go_loopw [13, 14, 15] (fun x _ _ wr => ∃ (a : Nat), a ≤ 8 ∧ x = .int .i64 (a : Int) ∧ Hid (RackAt B wr r s) ∧ Hid (Keep B w1 wr) ∧ Hid (Blk wr g 3 (intR 8 (slotI s d)))) (fun x _ _ _ => 8 - (intOf x).toNat)
          case atStart => exact ⟨0, by omega, rfl, R5, K5, X5⟩
          case round =>
            obtain ⟨a, ha, rfl, R6, K6, X6⟩ := hrel
            clear R5 K5 X5
            by_cases ha8 : a < 8
            · have t1 : decide ((a : Int) < 8) = true := by simp; omega
              go_wp2_with fail
              clear t1
              go_loopw [14, 15] (fun x y wr2 => ∃ (j : Nat) (V : Int), j ≤ i ∧ y = .int .i64 ((F + j : Nat) : Int) ∧ x = .int .i64 V ∧ Hid (V = wantI (ringT F a j)) ∧ Hid (RackAt B wr2 r s) ∧ Hid (Keep B w1 wr2) ∧ Hid (Blk wr2 g 3 (intR 8 (slotI s d)))) (fun _ y _ => F + i - (intOf y).toNat)
              case atStart => exact ⟨0, -1, by omega, rfl, rfl, Lib.hid rfl, R6, K6, X6⟩
              case round =>
                obtain ⟨j, V, hj, rfl, rfl, HV, R7, K7, X7⟩ := hrel
                clear R6 K6 X6
                obtain ⟨q, hq⟩ : ∃ q, q = F + j := ⟨_, rfl⟩
                rw [← hq]
                have HQ := Lib.hid hq
                have hq1 : q ≤ F + i := by omega
                have hq0 : F ≤ q := by omega
                by_cases hji : j < i
                · have t2 : decide ((q : Int) < (F : Int) + (i : Int)) = true := by simp; omega
                  clear hq
                  by_cases hm : q % 8 = a
                  · have t3 : ((q : Int) % 8 == (a : Int)) = true := by simp; omega
                    have HV2 : Hid ((q : Int) = wantI (ringT F a (j + 1))) := Lib.hid (by rw [ringT_succ, ← HQ.out, if_pos hm]; rfl)
                    clear hm HV
                    go_wp2_with fail
                    go_roundw
                    case rel => exact ⟨j + 1, (q : Int), by omega, by rw [HQ.out]; go_num, rfl, HV2, R7, K7, X7⟩
                    case measure => have := HQ.out; simp [intOf]; omega
                  · have t3 : ((q : Int) % 8 == (a : Int)) = false := by simp; omega
                    have HV2 : Hid (V = wantI (ringT F a (j + 1))) := Lib.hid (by rw [ringT_succ, ← HQ.out, if_neg hm]; exact HV.out)
                    clear hm HV
                    go_wp2_with fail
                    go_roundw
                    case rel => exact ⟨j + 1, V, by omega, by rw [HQ.out]; go_num, rfl, HV2, R7, K7, X7⟩
                    case measure => have := HQ.out; simp [intOf]; omega
                · have t2 : decide ((q : Int) < (F : Int) + (i : Int)) = false := by simp; omega
                  obtain rfl : j = i := by omega
                  have c0 : wr.cell? ⟨g, a, none⟩ = some (.int .i64 V) := by
                    rw [X7.out.cell a, intR_get ha8, N3.out.slot hF1 (by omega) hd3 ha8, HV.out]
                  have t4 : (V != V) = false := by simp
                  have i0 : (0 : Int) ≤ (a : Int) := by omega
                  have i1 : (a : Int) < 8 := by omega
                  clear hq HV
                  go_wp2_with fail
                  go_roundw
                  case rel => exact ⟨a + 1, by omega, by go_num, R7, K7, X7⟩
                  case measure => simp [intOf]; omega
            · have t1 : decide ((a : Int) < 8) = false := by simp; omega
              go_wp2_with fail
              go_roundw
              case rel => exact ⟨d + 1, by omega, by go_num, R6, K6⟩
              case measure => simp [intOf]; omega
        · have t1 : decide ((d : Int) < 3) = false := by simp; omega
          go_wp2_with fail
          clear t1
          obtain ⟨j, hj⟩ : ∃ j, i = j + 1 := ⟨i - 1, by omega⟩
          obtain ⟨Z, hZ⟩ : ∃ Z, Z = F + j := ⟨_, rfl⟩
          have HN := Lib.hid (newest_lab wr r s R4.out (HL1.out.below K4.out.below HB.out) HB.out)
          have hnw : newU s = (rec_ Z Z, 0) := by
            have h := N3.out
            rw [hj] at h
            rw [hZ]
            exact h.newest hF1 (by omega)
          rw [hnw] at HN
          clear hnw
          have hZL : Hid (Z ≤ 1000000) := Lib.hid (by omega)
          have hFC : Hid (F + i ≤ 1000000000) := Lib.hid (by omega)
          have hFC1 : Hid (1 ≤ F + i ∧ F + i ≤ 1000000000) := Lib.hid (by omega)
          have hTI : Hid ((Z : Int) = ((F + i - 1 : Nat) : Int)) := Lib.hid (by omega)
          refine HN.out.mono ?_
          rintro e w6 ⟨rfl, h6, k6⟩
          have R6 := Lib.hid h6
          have K6 := Lib.hid (K4.out.trans k6)
          clear h6 k6 R4 K4 HN hj hZ
          obtain ⟨qa, qz, qb, qs, hq⟩ : ∃ qa qz qb qs, P Z = ⟨qa, qz, qb, qs⟩ := ⟨_, _, _, _, rfl⟩
          have HU : Hid (uA (rec_ Z Z) = #[.int .i64 (Z : Int), .int .i64 qa, .int .i64 qz, .int .i64 qb, .string qs]) := Lib.hid (uA_rec hq).symm
          rw [HU.out]
          clear hq
          have bV : Below w6.heap.size w6 (w6.alloc (.cells #[.int .i64 (Z : Int), .int .i64 qa, .int .i64 qz, .int .i64 qb, .string qs] 25)) := (Below.refl _ _).alloc (Nat.le_refl _) _
          have R7 := Lib.hid (R6.out.below bV)
          have K7 := Lib.hid (K6.out.new bV R6.out.le)
          have X7 : Hid (Blk (w6.alloc (.cells #[.int .i64 (Z : Int), .int .i64 qa, .int .i64 qz, .int .i64 qb, .string qs] 25)) w6.heap.size 25 (uA (rec_ Z Z))) := Lib.hid (by rw [HU.out]; exact Blk.new _ _ _)
          have hden : s.deny ((3 : Nat) : Int) 0 = 1 := by
            have hp : s.isP ((3 : Nat) : Int) 0 = false := by
              have h1 : s.isD ((3 : Nat) : Int) = false := by rw [isD_nat, N3.out.nd]; rfl
              unfold RS.isP
              rw [h1]
              rfl
            unfold RS.deny RS.why
            rw [hp]
            rfl
          have HSL := Lib.hid (slots_no _ r s 3 R7.out (HL1.out.below K7.out.below HB.out) HB.out (by rw [N3.out.ns]; omega) (by rw [hden]; omega))
          rw [hden] at HSL
          clear bV R6 K6 HU hden
          go_wp2_with fail
          refine HSL.out.mono ?_
          rintro e w8 ⟨rfl, h8, k8⟩
          have HS : Hid (Blk w8.drew w6.heap.size 25 (uA (rec_ Z Z))) := Lib.hid ((k8.block X7.out rfl).drew)
          have L8 := Lib.hid (L1.out.trans ((K7.out.trans k8).below.mono hBs.out))
          clear h8 k8 R7 K7 X7 HSL N3
          generalize w6.heap.size = g6 at *
          go_wp2_with fail
          obtain ⟨T, hTZ⟩ : ∃ T, T = Z := ⟨_, rfl⟩
          obtain ⟨C, hCi⟩ : ∃ C, C = i := ⟨_, rfl⟩
          rw [← hTZ] at HS hZL hTI
          rw [← hCi] at hFC hFC1 hTI ⊢
          have hTL := hZL
          clear hTZ hCi hZL
          refine region_anyZ (fun w' => Blk w' g6 25 (uA (rec_ T T))) 24 (by kernel_rfl) ?_
          refine takeG 0 (.move (.tmp 6)) (some 110) none (.int .i64 0) (by kernel_rfl) (by kernel_rfl) (by kernel_rfl) (fun _ _ _ h => h) (fun o wq e hS => exec_move wq e (by kernel_rfl)) HS.out ?_
          refine takeG 1 (.binOp .eql 28 (.tmp 110) (.const (.int .i64 0)) 28) (some 111) none (.bool true) (by kernel_rfl) (by kernel_rfl) (by kernel_rfl) (fun _ _ _ h => h) (fun o wq e hS => exec_bin (u1 := .int .i64 0) (u2 := (.int .i64 0)) wq e (by kernel_rfl) (by kernel_rfl) (eqG_int ..) (by kernel_rfl)) HS.out ?_
          refine takeG 2 (.move (.tmp 111)) (some 112) none (.bool true) (by kernel_rfl) (by kernel_rfl) (by kernel_rfl) (fun _ _ _ h => h) (fun o wq e hS => exec_move wq e (by kernel_rfl)) HS.out ?_
          refine takeG 3 (.fieldAddr 25 (.tmp 16) 0) (some 113) (some (2, true)) (.pointer (some ⟨g6, 0, none⟩)) (by kernel_rfl) (by kernel_rfl) (by kernel_rfl) (fun _ _ _ h => h) (fun o wq e hS => exec_field (u := .pointer (some ⟨g6, 0, none⟩)) wq e (by kernel_rfl) (by kernel_rfl)) HS.out ?_
          refine takeG 4 (.load 3 (.tmp 113)) (some 114) (some (2, true)) (.int .i64 (T : Int)) (by kernel_rfl) (by kernel_rfl) (by kernel_rfl) (fun _ _ _ h => h) (fun o wq e hS => exec_load (x := (.tmp 113)) e (by kernel_rfl) (load_t hS)) HS.out ?_
          refine takeG 5 (.move (.tmp 1)) (some 115) (some (2, true)) (.int .i64 (F : Int)) (by kernel_rfl) (by kernel_rfl) (by kernel_rfl) (fun _ _ _ h => h) (fun o wq e hS => exec_move wq e (by kernel_rfl)) HS.out ?_
          refine takeG 6 (.move (.tmp 0)) (some 116) (some (2, true)) (.int .i64 (C : Int)) (by kernel_rfl) (by kernel_rfl) (by kernel_rfl) (fun _ _ _ h => h) (fun o wq e hS => exec_move wq e (by kernel_rfl)) HS.out ?_
          refine takeG 7 (.binOp .add 3 (.tmp 115) (.tmp 116) 3) (some 117) (some (2, true)) (.int .i64 ((F + C : Nat) : Int)) (by kernel_rfl) (by kernel_rfl) (by kernel_rfl) (fun _ _ _ h => h) (fun o wq e hS => exec_bin (u1 := .int .i64 (F : Int)) (u2 := .int .i64 (C : Int)) wq e (by kernel_rfl) (by kernel_rfl) (eqG_int ..) (add_nat F C hFC.out _)) HS.out ?_
          refine takeG 8 (.binOp .sub 3 (.tmp 117) (.const (.int .i64 1)) 3) (some 118) (some (2, true)) (.int .i64 ((F + C - 1 : Nat) : Int)) (by kernel_rfl) (by kernel_rfl) (by kernel_rfl) (fun _ _ _ h => h) (fun o wq e hS => exec_bin (u1 := .int .i64 ((F + C : Nat) : Int)) (u2 := (.int .i64 1)) wq e (by kernel_rfl) (by kernel_rfl) (eqG_int ..) (sub_one (F + C) hFC1.out _)) HS.out ?_
          refine takeG 9 (.binOp .eql 3 (.tmp 114) (.tmp 118) 3) (some 119) (some (2, true)) (.bool true) (by kernel_rfl) (by kernel_rfl) (by kernel_rfl) (fun _ _ _ h => h) (fun o wq e hS => exec_bin (u1 := .int .i64 (T : Int)) (u2 := .int .i64 ((F + C - 1 : Nat) : Int)) wq e (by kernel_rfl) (by kernel_rfl) (eqG_int ..) (eq_int _ _ hTI.out _)) HS.out ?_
          refine takeG 10 (.pick (.tmp 112) (.tmp 119) (.const (Value.bool false))) (some 120) none (.bool true) (by kernel_rfl) (by kernel_rfl) (by kernel_rfl) (fun _ _ _ h => h) (fun o wq e hS => exec_pick (b := true) wq e (by kernel_rfl) (by kernel_rfl)) HS.out ?_
          refine takeG 11 (.move (.tmp 120)) (some 121) none (.bool true) (by kernel_rfl) (by kernel_rfl) (by kernel_rfl) (fun _ _ _ h => h) (fun o wq e hS => exec_move wq e (by kernel_rfl)) HS.out ?_
          refine takeG 12 (.fieldAddr 25 (.tmp 16) 1) (some 122) (some (11, true)) (.pointer (some ⟨g6, 1, none⟩)) (by kernel_rfl) (by kernel_rfl) (by kernel_rfl) (fun _ _ _ h => h) (fun o wq e hS => exec_field (u := .pointer (some ⟨g6, 0, none⟩)) wq e (by kernel_rfl) (by kernel_rfl)) HS.out ?_
          refine takeG 13 (.load 23 (.tmp 122)) (some 123) (some (11, true)) (.agg (ptA (P T))) (by kernel_rfl) (by kernel_rfl) (by kernel_rfl) (fun _ _ _ h => h) (fun o wq e hS => exec_load (x := (.tmp 122)) e (by kernel_rfl) (load_root hS)) HS.out ?_
          refine takeG 14 (.fieldAddr 25 (.tmp 16) 0) (some 124) (some (11, true)) (.pointer (some ⟨g6, 0, none⟩)) (by kernel_rfl) (by kernel_rfl) (by kernel_rfl) (fun _ _ _ h => h) (fun o wq e hS => exec_field (u := .pointer (some ⟨g6, 0, none⟩)) wq e (by kernel_rfl) (by kernel_rfl)) HS.out ?_
          refine takeG 15 (.load 3 (.tmp 124)) (some 125) (some (11, true)) (.int .i64 (T : Int)) (by kernel_rfl) (by kernel_rfl) (by kernel_rfl) (fun _ _ _ h => h) (fun o wq e hS => exec_load (x := (.tmp 124)) e (by kernel_rfl) (load_t hS)) HS.out ?_
          refine loneG 16 (.call ⟨.value (.func 16), #[(.tmp 125)], #[3]⟩) (some 126) (some (11, true)) (by kernel_rfl) (by kernel_rfl) (by kernel_rfl) ?_
          intro o ho hod
          refine wp_callC (f := 16) (args := #[.int .i64 (T : Int)]) (by cases o; cases ho; kernel_rfl) (law_ptr T _ hTL.out) ?_
          rintro e w9 ⟨rfl, b9⟩
          refine ⟨.agg (ptA (P T)), rfl, ?_⟩
          rw [hod]
          clear hod ho
          have HS9 := Lib.hid (HS.out.new_ (b9 : Below w8.drew.heap.size w8.drew w9))
          have L9 := Lib.hid (L8.out.drew.trans (b9.mono L8.out.drew.size))
          clear b9 L8 HS
          refine ⟨fun _ => HS9.out, ?_⟩
          refine takeG 17 (.binOp .eql 23 (.tmp 123) (.tmp 126) 23) (some 127) (some (11, true)) (.bool true) (by kernel_rfl) (by kernel_rfl) (by kernel_rfl) (fun _ _ _ h => h) (fun o wq e hS => exec_bin (u1 := .agg (ptA (P T))) (u2 := .agg (ptA (P T))) wq e (by kernel_rfl) (by kernel_rfl) (eqG_agg _ _ _ _ _ _ (by kernel_rfl) _) (eq_ptr (P T) _)) HS9.out ?_
          refine takeG 18 (.pick (.tmp 121) (.tmp 127) (.const (Value.bool false))) (some 128) none (.bool true) (by kernel_rfl) (by kernel_rfl) (by kernel_rfl) (fun _ _ _ h => h) (fun o wq e hS => exec_pick (b := true) wq e (by kernel_rfl) (by kernel_rfl)) HS9.out ?_
          refine takeG 19 (.move (.tmp 128)) (some 129) none (.bool true) (by kernel_rfl) (by kernel_rfl) (by kernel_rfl) (fun _ _ _ h => h) (fun o wq e hS => exec_move wq e (by kernel_rfl)) HS9.out ?_
          refine takeG 20 (.move (.tmp 18)) (some 130) (some (19, true)) (.int .i64 1) (by kernel_rfl) (by kernel_rfl) (by kernel_rfl) (fun _ _ _ h => h) (fun o wq e hS => exec_move wq e (by kernel_rfl)) HS9.out ?_
          refine takeG 21 (.binOp .eql 28 (.tmp 130) (.const (.int .i64 1)) 28) (some 131) (some (19, true)) (.bool true) (by kernel_rfl) (by kernel_rfl) (by kernel_rfl) (fun _ _ _ h => h) (fun o wq e hS => exec_bin (u1 := .int .i64 1) (u2 := (.int .i64 1)) wq e (by kernel_rfl) (by kernel_rfl) (eqG_int ..) (by kernel_rfl)) HS9.out ?_
          refine takeG 22 (.pick (.tmp 129) (.tmp 131) (.const (Value.bool false))) (some 132) none (.bool true) (by kernel_rfl) (by kernel_rfl) (by kernel_rfl) (fun _ _ _ h => h) (fun o wq e hS => exec_pick (b := true) wq e (by kernel_rfl) (by kernel_rfl)) HS9.out ?_
          refine lastS 23 (.assign (.tmp 132)) (some 4) (.bool true) (by kernel_rfl) (by kernel_rfl) (by kernel_rfl) HS9.out (fun o e => exec_assign _ e (by kernel_rfl)) ?_
          simp only [put_some, put_none, List.setIfInBounds_toArray, List.set_cons_succ, List.set_cons_zero]
          go_wp2_with fail
          go_ret
          exact ⟨rfl, L9.out⟩
end labelRings
end Go.Proofs.YtjnnmeolonbedaaDoor
