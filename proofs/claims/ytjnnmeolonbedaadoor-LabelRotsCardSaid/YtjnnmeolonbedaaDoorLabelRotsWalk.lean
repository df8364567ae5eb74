/-
  The walk of 'LabelRots': rot in up to five drives of six changes nothing; where all rot, an older record, or none, is read.
-/
import Derived.Test.YtjnnmeolonbedaaDoorLabelRingsWalk
import Derived.Test.YtjnnmeolonbedaaDoorLabRotM
import Derived.Test.YtjnnmeolonbedaaDoorLabSlotsM
namespace Go.Proofs.YtjnnmeolonbedaaDoor
open Go Go.RowKit refRack Lab
set_option maxRecDepth 100000
set_option linter.unusedVariables false
namespace labelRots
open labelRings
/-- behind i transactions -/
structure QInv (s : RS) (i : Nat) : Prop where
  nd : s.nd = 6
  ns : s.ns = 10
  calm : s.calm
  gone : ∀ d, s.gone d = false
  cost : s.cost ≤ 6 * i
  holds : ∀ d a, d < 6 → s.holds d a = bytesT (ringT 1 a i)
theorem QInv.start : QInv (RS.new 6 10) 0 := ⟨rfl, rfl, new_calm 6 10, fun _ => rfl, Nat.le_refl _, fun _ _ _ => rfl⟩
theorem cntW_allR {s : RS} (h : ∀ d, s.gone d = false) : ∀ k, cntW s k = k
  | 0 => rfl
  | k + 1 => by rw [cntW_succ, if_neg (by rw [h]; simp), cntW_allR h k]
theorem QInv.wrote {s : RS} {i : Nat} (h : QInv s i) (hi : 1 + i ≤ 1000000) : wroteL s (rec_ (1 + i) (1 + i)) = (wall s ((1 + i) % 8) (lst (encL (rec_ (1 + i) (1 + i)))) 6, 6, 0) ∧ QInv (wall s ((1 + i) % 8) (lst (encL (rec_ (1 + i) (1 + i)))) 6) (i + 1) := by
  have hw := wroteL_calm h.calm (by rw [h.ns]; omega) (t := 1 + i) (p := P (1 + i)) (rec_ok (n := 1 + i) (by omega) hi).1
  rw [cntW_allR h.gone, h.nd] at hw
  obtain ⟨hl, hcost⟩ := wall_like s ((1 + i) % 8) (lst (encL (rec_ (1 + i) (1 + i)))) 6
  refine ⟨hw, hl.nd.trans h.nd, hl.ns.trans h.ns, hl.calm h.calm, fun d => (congrFun hl.gone d).trans (h.gone d), by have := h.cost; omega, fun d a hd => ?_⟩
  rw [wall_holds, ringT_succ]
  by_cases e : (1 + i) % 8 = a
  · rw [if_pos ⟨hd, h.gone d, e.symm⟩, if_pos e]
    rfl
  · rw [if_neg (fun x => e x.2.2.symm), if_neg e]
    exact h.holds d a hd
/-- flushed, and k drives rotten where the last record is -/
structure TInv (N : Nat → Nat) (s : RS) (C k : Nat) : Prop where
  nd : s.nd = 6
  ns : s.ns = 10
  calm : s.calm
  gone : ∀ d, s.gone d = false
  cost : s.cost ≤ 6 * C + k
  holds : ∀ d a, d < 6 → s.holds d a = if a = C % 8 ∧ d < k then rotF (lst (encL (rec_ C C))) (N d) else bytesT (ringT 1 a C)
theorem QInv.flushed {s : RS} {C : Nat} (h : QInv s C) (N : Nat → Nat) : TInv N s.flushed C 0 := by
  refine ⟨h.nd, h.ns, h.calm, h.gone, by have := h.cost; show s.cost ≤ _; omega, fun d a hd => ?_⟩
  rw [holds_flushed, if_neg (fun x => absurd x.2 (Nat.not_lt_zero _))]
  exact h.holds d a hd
theorem ring_last (C : Nat) (h : 1 ≤ C) : ringT 1 (C % 8) C = some C := by
  obtain ⟨k, rfl⟩ : ∃ k, C = k + 1 := ⟨C - 1, by omega⟩
  rw [ringT_succ, show 1 + k = k + 1 by omega]
  exact if_pos rfl
theorem TInv.rot {N : Nat → Nat} {s : RS} {C k : Nat} (h : TInv N s C k) (hC : 1 ≤ C) (hk : k < 6) : TInv N (s.rotted k (C % 8) (N k)) C (k + 1) := by
  obtain ⟨e1, e2, e3, e4, e5, e6, _⟩ := Lab.rotted_same s k (C % 8) (N k)
  refine ⟨e1.trans h.nd, e2.trans h.ns, ⟨e4.trans h.calm.1, e5.trans h.calm.2⟩, fun d => (congrFun e3 d).trans (h.gone d), by rw [e6]; have := h.cost; omega, fun d a hd => ?_⟩
  rw [Lab.holds_rotted, h.holds k _ hk, h.holds d a hd, if_neg (show ¬ (C % 8 = C % 8 ∧ k < k) from fun x => absurd x.2 (Nat.lt_irrefl _)), ring_last C hC]
  by_cases e : d = k ∧ a = C % 8
  · rw [if_pos e, if_pos ⟨e.2, by omega⟩, e.1]
    rfl
  · rw [if_neg e]
    by_cases e2 : a = C % 8 ∧ d < k
    · rw [if_pos e2, if_pos ⟨e2.1, by omega⟩]
    · rw [if_neg e2, if_neg (fun x => e2 ⟨x.1, by
        have : d ≠ k := fun y => e ⟨y, x.1⟩
        omega⟩)]
theorem look_bad {s : RS} {d a : Nat} (ho : s.off = false) (hd : d < s.nd) (ha : a < s.ns) (hg : s.gone d = false) (hx : ∀ u, ¬ Is (sec s d a) u) : lookU s d a = zeroU := by
  have h := deny_of ho hd ha
  rw [if_neg (by rw [hg]; simp)] at h
  have hf : found s d a = none := found_none fun u hu => hx u hu.1
  unfold lookU
  rw [h, if_pos rfl, hf]
  rfl
section
variable {N : Nat → Nat} {s : RS} {C k : Nat}
theorem TInv.bad (h : TInv N s C k) (h1 : 1 ≤ C) (h9 : C ≤ 9) {d : Nat} (hd : d < 6) (hk : d < k) : lookU s d (C % 8) = zeroU := by
  refine look_bad h.calm.1 (by rw [h.nd]; exact hd) (by rw [h.ns]; omega) (h.gone d) (rotten_not (t := C) (q := N d % 128) (m := 1 + N d / 128 % 255) h1 h9 (by omega) (by omega) (by omega) fun j hj => ?_)
  rw [sec_lst s d _ j hj, h.holds d _ hd, if_pos ⟨rfl, hk⟩]
  rfl
theorem TInv.good (h : TInv N s C k) (h9 : C ≤ 9) {d a : Nat} (hd : d < 6) (ha : a < 8) (hn : ¬ (a = C % 8 ∧ d < k)) : (∀ T, ringT 1 a C = some T → lookU s d a = rec_ T T) ∧ (ringT 1 a C = none → lookU s d a = zeroU) := by
  have hh := h.holds d a hd
  rw [if_neg hn] at hh
  refine ⟨fun T hT => ?_, fun hT => ?_⟩
  · obtain ⟨h1, h2, h3⟩ := ringT_spec hT
    rw [hT] at hh
    subst h3
    exact (look_rec h.calm.1 (by rw [h.nd]; exact hd) (by rw [h.ns]; omega) (h.gone d) (rec_ok (by omega) (by omega)) (fun j _ => by rw [hh]; rfl) rec_mod).1
  · rw [hT] at hh
    exact (look_none h.calm.1 (by rw [h.nd]; exact hd) (by rw [h.ns]; omega) (h.gone d) (by rw [hh]; rfl)).1
/-- any slot: that record, or an older one -/
theorem TInv.older (h : TInv N s C k) (h1 : 1 ≤ C) (h9 : C ≤ 9) {d a Z : Nat} (hd : d < 6) (ha : a < 8) (hZ : 1 ≤ Z) (hx : ∀ T, ringT 1 a C = some T → ¬ (a = C % 8 ∧ d < k) → T ≤ Z) : lookU s d a = rec_ Z Z ∨ (lookU s d a).t < (rec_ Z Z).t := by
  have hz : (zeroU).t < (rec_ Z Z).t := by show (0 : Int) < (Z : Int); omega
  by_cases hn : a = C % 8 ∧ d < k
  · rw [hn.1, h.bad h1 h9 hd hn.2]
    exact .inr hz
  · obtain ⟨g1, g2⟩ := h.good h9 hd ha hn
    cases hT : ringT 1 a C with
    | none => rw [g2 hT]; exact .inr hz
    | some T =>
      rw [g1 T hT]
      have := hx T hT hn
      by_cases e : T = Z
      · exact .inl (by rw [e])
      · refine .inr ?_
        show (T : Int) < (Z : Int)
        omega
theorem TInv.newest5 (h : TInv N s C 5) (h1 : 1 ≤ C) (h9 : C ≤ 9) : newU s = (rec_ C C, 0) := by
  refine newU_is h.calm.1 (by rw [h.ns]; omega) (by show (1 : Int) ≤ (C : Int); omega) ⟨5, C % 8, by rw [h.nd]; omega, by omega, (h.good h9 (by omega) (by omega) (fun x => by omega)).1 C (ring_last C h1)⟩ fun d a hd ha => ?_
  rw [h.nd] at hd
  exact h.older h1 h9 hd ha h1 fun T hT _ => by have := (ringT_spec hT).2.1; omega
theorem TInv.newest6 (h : TInv N s C 6) (h1 : 2 ≤ C) (h9 : C ≤ 9) : newU s = (rec_ (C - 1) (C - 1), 0) := by
  have hr : ringT 1 ((C - 1) % 8) C = some (C - 1) := by
    obtain ⟨k, rfl⟩ : ∃ k, C = k + 2 := ⟨C - 2, by omega⟩
    rw [show k + 2 - 1 = k + 1 by omega, ringT_succ, if_neg (by omega)]
    exact ring_last (k + 1) (by omega)
  refine newU_is h.calm.1 (by rw [h.ns]; omega) (by show (1 : Int) ≤ ((C - 1 : Nat) : Int); omega) ⟨0, (C - 1) % 8, by rw [h.nd]; omega, by omega, (h.good h9 (by omega) (by omega) (fun x => by omega)).1 (C - 1) hr⟩ fun d a hd ha => ?_
  rw [h.nd] at hd
  refine h.older (by omega) h9 hd ha (by omega) fun T hT hn => ?_
  obtain ⟨_, h2, h3⟩ := ringT_spec hT
  by_cases e : T = C
  · exact absurd ⟨by rw [← h3, e], hd⟩ hn
  · omega
theorem TInv.newest1 (h : TInv N s 1 6) : newU s = (zeroU, 7) := by
  refine newU_none h.calm.1 (by rw [h.ns]; omega) fun d a hd ha => ?_
  rw [h.nd] at hd
  by_cases e : a = 1 % 8
  · rw [e]
    exact h.bad (by omega) (by omega) hd hd
  · refine (h.good (by omega) hd ha (fun x => e x.1)).2 ?_
    rw [ringT_succ, if_neg (fun x => e x.symm)]
    rfl
end
set_option maxHeartbeats 3200000 in
theorem walk (a0 : Int) (A1 : Option Addr) (n1 c1 : Nat) (p1 : Nat → Int) (all : Bool) (w : World) (w0 : (Lit.int .i64 a0).wf = true)
    (h1 : RdI w w.heap.size A1 n1 p1) (l1 : n1 ≤ c1) (m1 : c1 ≤ maxLen) (e1 : A1 = none → c1 = 0) (r1 : c1 * 8 ≤ 140737488351232) (hl : Laid w) :
    Calls Tryd.prog 5 #[.int .i64 a0, .slice A1 n1 c1, .bool all] w fun e w' => e = .returned (.bool true) ∧ Below w.heap.size w w' := by
  unfold maxLen at m1
  have HLD := Lib.hid hl
  have hpos := hl.pos
  obtain ⟨c0, hat, hc9⟩ := umod a0 9 (by omega) (by omega)
  have H1 := Lib.hid h1
  have hn1 : n1 ≤ 9223372036854775806 := by omega
  obtain ⟨N, hN⟩ : ∃ N : Nat → Nat, ∀ d, (d < n1 → wrap64 ((IntKind.u64.wrap (p1 d)).tmod 100000) = (N d : Int)) ∧ (¬ d < n1 → N d = 100) ∧ N d < 100000 := by
    refine ⟨fun d => if d < n1 then (wrap64 ((IntKind.u64.wrap (p1 d)).tmod 100000)).toNat else 100, fun d => ?_⟩
    obtain ⟨q, hq, hq2⟩ := umod (p1 d) 100000 (by omega) (by omega)
    dsimp only
    by_cases e : d < n1
    · rw [if_pos e, hq]
      exact ⟨fun _ => by omega, fun x => absurd e x, by omega⟩
    · rw [if_neg e]
      exact ⟨fun x => absurd x e, fun _ => rfl, by omega⟩
  have HN := Lib.hid hN
  clear hl w0 h1 e1 r1 l1 m1 hN
  go_enter Tryd.func5, Tryd.ntmps5
  go_wp2_with fail
  refine (law_known _ HLD.out).mono ?_
  rintro e w1 ⟨rfl, b1⟩
  have L1 := Lib.hid b1
  clear b1
  go_wp2_with fail
  refine (new_any w1 6 10 (by omega) (by omega) (by omega) (by omega)).mono ?_
  rintro e w2 ⟨⟨r, rfl, h2⟩, k2⟩
  have hBs : Hid (w.heap.size ≤ w1.heap.size) := Lib.hid L1.out.size
  have R2 := Lib.hid h2
  have K2 := Lib.hid k2
  have HB : Hid (0 < w1.heap.size) := Lib.hid (by have := hBs.out; omega)
  have HLA := Lib.hid (HLD.out.below L1.out hpos)
  clear h2 k2
  generalize hwB : w1.heap.size = B at *
  clear hwB
  obtain ⟨C, hC⟩ : ∃ C, C = c0 + 1 := ⟨_, rfl⟩
  have hC1 : 1 ≤ C := by omega
  have hC2 : C ≤ 9 := by omega
  have HCC : Hid ((1 : Int) + (c0 : Int) = (C : Int)) := Lib.hid (by omega)
  clear hC
  go_upto_region 7 with (fail)
  rw [HCC.out]
  clear HCC hat hc9
  have N2 := Lib.hid QInv.start
  generalize RS.new 6 10 = s2 at *
  go_wp2_with fail
  go_loopw [9, 10, 11] (fun x _ _ wr => ∃ (i : Nat) (s : RS), i ≤ C ∧ x = .int .i64 ((1 + i : Nat) : Int) ∧ Hid (QInv s i) ∧ Hid (RackAt B wr r s) ∧ Hid (Keep B w1 wr)) (fun x _ _ _ => 1 + C - (intOf x).toNat)
  case atStart => exact ⟨0, s2, by omega, rfl, N2, R2, K2⟩
  case round =>
    obtain ⟨i, s, hi, rfl, N3, R3, K3⟩ := hrel
    clear N2 R2 K2
    obtain ⟨T, hT⟩ : ∃ T, T = 1 + i := ⟨_, rfl⟩
    rw [← hT]
    have HTT := Lib.hid hT
    have hT1 : T ≤ 1 + C := by omega
    have hT0 : 1 ≤ T := by omega
    by_cases hiC : i < C
    · have t1 : decide (T ≤ C) = true := by simp; omega
      clear hT
      go_wp2_with fail
      refine (law_ptrL T _ (by omega)).mono ?_
      rintro e w4 ⟨pa, pz, pb, ps, hp, rfl, b4⟩
      have R4 := Lib.hid (R3.out.below b4)
      have K4 := Lib.hid (K3.out.new b4 R3.out.le)
      have HU : Hid ((#[.int .i64 (T : Int), .int .i64 pa, .int .i64 pz, .int .i64 pb, .string ps] : Array Value) = uA (rec_ T T)) := Lib.hid (uA_rec hp)
      clear b4 R3 K3 hp
      go_wp2_with fail
      rw [HU.out]
      have HW := Lib.hid (write_lab w4 r s (rec_ T T) R4.out (rec_ok (by omega) (by omega)).2 (HLA.out.below K4.out.below HB.out) HB.out (by have := N3.out.cost; have := N3.out.nd; omega))
      have hwn := N3.out.wrote (by omega)
      rw [← HTT.out] at hwn
      rw [hwn.1] at HW
      have N5 := Lib.hid hwn.2
      clear hwn
      refine HW.out.mono ?_
      rintro e w5 ⟨rfl, h5, k5⟩
      have R5 := Lib.hid h5
      have K5 := Lib.hid (K4.out.trans k5)
      clear h5 k5 R4 K4 HW HU N3 t1
      generalize wall s (T % 8) (lst (encL (rec_ T T))) 6 = s5 at *
      dsimp only
      go_wp2_with fail
      go_roundw
      case rel => exact ⟨i + 1, s5, by omega, by rw [HTT.out]; go_num, N5, R5, K5⟩
      case measure => have := HTT.out; simp [intOf]; omega
    · have t1 : decide (T ≤ C) = false := by simp; omega
      obtain rfl : i = C := by omega
      clear hT hT0 hT1 hiC HTT hi
      go_wp2_with fail
      refine (flush_calm _ r s R3.out N3.out.calm).mono ?_
      rintro e w6 ⟨rfl, h6, k6⟩
      have R6 := Lib.hid h6
      have K6 := Lib.hid (K3.out.trans k6)
      have T6 := Lib.hid (N3.out.flushed N)
      clear h6 k6 R3 K3 N3 t1
      generalize s.flushed = s6 at *
      cases all with
      | false =>
        go_wp2_with fail
        go_loopw [13, 14] (fun x _ wr => ∃ (k : Nat) (s : RS), k ≤ 5 ∧ x = .int .i64 (k : Int) ∧ Hid (TInv N s i k) ∧ Hid (RackAt B wr r s) ∧ Hid (Keep B w1 wr)) (fun x _ _ => 5 - (intOf x).toNat)
        case atStart => exact ⟨0, s6, by omega, rfl, T6, R6, K6⟩
        case round =>
          obtain ⟨k, s7, hk, rfl, T7, R7, K7⟩ := hrel
          clear T6 R6 K6
          by_cases hk5 : k < 5
          · have t2 : decide ((k : Int) < 5) = true := by simp; omega
            have HCM : Hid (((i : Int)).tmod 8 = ((i % 8 : Nat) : Int)) := Lib.hid (by rw [Int.tmod_eq_emod_of_nonneg (by omega)]; omega)
            have HCM2 : Hid ((i : Int) % 8 = ((i % 8 : Nat) : Int)) := Lib.hid (by omega)
            by_cases hkn : k < n1
            · have t3 : decide (k < n1) = true := by simp; omega
              obtain ⟨fb, fo, hfa, hfB, hcl, hI⟩ := H1.out k hkn
              subst hfa
              have LW := L1.out.trans (K7.out.below.mono hBs.out)
              have c0 := (LW.cell (p := ⟨fb, fo + k, none⟩) hfB).trans hcl
              have HQ := Lib.hid ((HN.out k).1 hkn)
              have i1 : (0 : Int) ≤ (k : Int) := by omega
              have i2 : (k : Int) < (n1 : Int) := by omega
              obtain ⟨z, hz⟩ : ∃ z, z = p1 k := ⟨_, rfl⟩
              rw [← hz] at c0 HQ
              clear LW hcl hI hz
              go_wp2_with fail
              rw [HQ.out]
              clear c0 HQ hfB i1 i2
              go_wp2_with fail
              first
              | rw [HCM.out]
              | rw [HCM2.out]
              refine (rot_ok _ r s7 k (i % 8) (N k) R7.out (by rw [T7.out.nd]; omega) (by rw [T7.out.ns]; omega) (T7.out.gone k) (by have := (HN.out k).2.2; omega) (by have := T7.out.cost; omega)).mono ?_
              rintro e w8 ⟨rfl, h8, k8⟩
              have R8 := Lib.hid h8
              have K8 := Lib.hid (K7.out.trans k8)
              have T8 := Lib.hid (T7.out.rot hC1 (by omega))
              clear h8 k8 R7 K7 T7
              generalize s7.rotted k (i % 8) (N k) = s8 at *
              go_wp2_with fail
              go_roundw
              case rel => exact ⟨k + 1, s8, by omega, by go_num, T8, R8, K8⟩
              case measure => simp [intOf]; omega
            · have t3 : decide (k < n1) = false := by simp; omega
              have HQ := Lib.hid ((HN.out k).2.1 hkn)
              go_wp2_with fail
              have h100 : (100 : Int) = ((N k : Nat) : Int) := by rw [HQ.out]; rfl
              rw [h100]
              clear h100 HQ
              first
              | rw [HCM.out]
              | rw [HCM2.out]
              refine (rot_ok _ r s7 k (i % 8) (N k) R7.out (by rw [T7.out.nd]; omega) (by rw [T7.out.ns]; omega) (T7.out.gone k) (by have := (HN.out k).2.2; omega) (by have := T7.out.cost; omega)).mono ?_
              rintro e w8 ⟨rfl, h8, k8⟩
              have R8 := Lib.hid h8
              have K8 := Lib.hid (K7.out.trans k8)
              have T8 := Lib.hid (T7.out.rot hC1 (by omega))
              clear h8 k8 R7 K7 T7
              generalize s7.rotted k (i % 8) (N k) = s8 at *
              go_wp2_with fail
              go_roundw
              case rel => exact ⟨k + 1, s8, by omega, by go_num, T8, R8, K8⟩
              case measure => simp [intOf]; omega
          · have t2 : decide ((k : Int) < 5) = false := by simp; omega
            obtain rfl : k = 5 := by omega
            have HNW := Lib.hid (newest_lab _ r s7 R7.out (HLA.out.below K7.out.below HB.out) HB.out)
            rw [T7.out.newest5 hC1 hC2] at HNW
            clear hk hk5
            go_wp2_with fail
            refine HNW.out.mono ?_
            rintro e w8 ⟨rfl, h8, k8⟩
            obtain ⟨Z, hZ⟩ : ∃ Z, Z = i := ⟨_, rfl⟩
            rw [← hZ]
            have HZ := Lib.hid hZ
            have hZ9 : Hid (Z ≤ 1000000) := Lib.hid (by omega)
            obtain ⟨qa, qz, qb, qs, hq⟩ : ∃ qa qz qb qs, P Z = ⟨qa, qz, qb, qs⟩ := ⟨_, _, _, _, rfl⟩
            have HU : Hid (uA (rec_ Z Z) = #[.int .i64 (Z : Int), .int .i64 qa, .int .i64 qz, .int .i64 qb, .string qs]) := Lib.hid (uA_rec hq).symm
            rw [HU.out]
            clear hq hZ
            have L8 : Hid (Below w.heap.size w (w8.alloc (.cells #[.int .i64 (Z : Int), .int .i64 qa, .int .i64 qz, .int .i64 qb, .string qs] 25))) := Lib.hid ((L1.out.trans ((K7.out.trans k8).below.mono hBs.out)).alloc (L1.out.trans ((K7.out.trans k8).below.mono hBs.out)).size _)
            have HS : Hid (Blk (w8.alloc (.cells #[.int .i64 (Z : Int), .int .i64 qa, .int .i64 qz, .int .i64 qb, .string qs] 25)).drew w8.heap.size 25 (uA (rec_ Z Z))) := Lib.hid (by rw [HU.out]; exact (Blk.new _ _ _).drew)
            clear h8 k8 R7 K7 T7 HNW t2
            go_wp2_with fail
            generalize hw9 : w8.alloc (.cells #[.int .i64 (Z : Int), .int .i64 qa, .int .i64 qz, .int .i64 qb, .string qs] 25) = w9 at *
            generalize hg6 : w8.heap.size = g6 at *
            clear hw9 hg6 HU
            obtain rfl : Z = i := HZ.out
            refine region_anyZ (fun w' => Blk w' g6 25 (uA (rec_ Z Z))) 11 (by kernel_rfl) ?_
            refine takeG 0 (.move (.tmp 8)) (some 79) none (.int .i64 0) (by kernel_rfl) (by kernel_rfl) (by kernel_rfl) (fun _ _ _ h => h) (fun o wq e hS => exec_move wq e (by kernel_rfl)) HS.out ?_
            refine takeG 1 (.binOp .eql 28 (.tmp 79) (.const (.int .i64 0)) 28) (some 80) none (.bool true) (by kernel_rfl) (by kernel_rfl) (by kernel_rfl) (fun _ _ _ h => h) (fun o wq e hS => exec_bin (u1 := .int .i64 0) (u2 := (.int .i64 0)) wq e (by kernel_rfl) (by kernel_rfl) (eqG_int ..) (by kernel_rfl)) HS.out ?_
            refine takeG 2 (.move (.tmp 80)) (some 81) none (.bool true) (by kernel_rfl) (by kernel_rfl) (by kernel_rfl) (fun _ _ _ h => h) (fun o wq e hS => exec_move wq e (by kernel_rfl)) HS.out ?_
            refine takeG 3 (.load 25 (.tmp 15)) (some 82) (some (2, true)) (.agg (uA (rec_ Z Z))) (by kernel_rfl) (by kernel_rfl) (by kernel_rfl) (fun _ _ _ h => h) (fun o wq e hS => exec_load (x := (.tmp 15)) e (by kernel_rfl) (load_uber hS)) HS.out ?_
            refine takeG 4 (.move (.tmp 0)) (some 83) (some (2, true)) (.int .i64 (Z : Int)) (by kernel_rfl) (by kernel_rfl) (by kernel_rfl) (fun _ _ _ h => h) (fun o wq e hS => exec_move wq e (by kernel_rfl)) HS.out ?_
            refine takeG 5 (.move (.tmp 0)) (some 84) (some (2, true)) (.int .i64 (Z : Int)) (by kernel_rfl) (by kernel_rfl) (by kernel_rfl) (fun _ _ _ h => h) (fun o wq e hS => exec_move wq e (by kernel_rfl)) HS.out ?_
            refine loneG 6 (.call ⟨.value (.func 16), #[(.tmp 84)], #[3]⟩) (some 85) (some (2, true)) (by kernel_rfl) (by kernel_rfl) (by kernel_rfl) ?_
            intro o ho hod
            refine wp_callC (f := 16) (args := #[.int .i64 (Z : Int)]) (by cases o; cases ho; kernel_rfl) (law_ptr Z _ hZ9.out) ?_
            rintro e w10 ⟨rfl, b10⟩
            refine ⟨.agg (ptA (P Z)), rfl, ?_⟩
            rw [hod]
            clear hod ho
            have HS9 := Lib.hid (HS.out.new_ (b10 : Below w9.drew.heap.size w9.drew w10))
            have L9 := Lib.hid (L8.out.drew.trans (b10.mono L8.out.drew.size))
            clear b10 L8 HS
            refine ⟨fun _ => HS9.out, ?_⟩
            refine takeG 7 (.build 25 #[(0, (.tmp 83)), (1, (.tmp 85))]) (some 86) (some (2, true)) (.agg (uA (rec_ Z Z))) (by kernel_rfl) (by kernel_rfl) (by kernel_rfl) (fun _ _ _ h => h) (fun o wq e hS => exec_bld2 (u0 := .int .i64 (Z : Int)) (u1 := .agg (ptA (P Z))) wq e (by kernel_rfl) (by kernel_rfl) (build_uber (Z : Int) (P Z) _)) HS9.out ?_
            refine takeG 8 (.binOp .eql 25 (.tmp 82) (.tmp 86) 25) (some 87) (some (2, true)) (.bool true) (by kernel_rfl) (by kernel_rfl) (by kernel_rfl) (fun _ _ _ h => h) (fun o wq e hS => exec_bin (u1 := .agg (uA (rec_ Z Z))) (u2 := .agg (uA (rec_ Z Z))) wq e (by kernel_rfl) (by kernel_rfl) (eqG_agg _ _ _ _ _ _ (by kernel_rfl) _) (eq_uber (rec_ Z Z) _)) HS9.out ?_
            refine takeG 9 (.pick (.tmp 81) (.tmp 87) (.const (Value.bool false))) (some 88) none (.bool true) (by kernel_rfl) (by kernel_rfl) (by kernel_rfl) (fun _ _ _ h => h) (fun o wq e hS => exec_pick (b := true) wq e (by kernel_rfl) (by kernel_rfl)) HS9.out ?_
            refine lastS 10 (.assign (.tmp 88)) (some 6) (.bool true) (by kernel_rfl) (by kernel_rfl) (by kernel_rfl) HS9.out (fun o e => exec_assign _ e (by kernel_rfl)) ?_
            simp only [put_some, put_none, List.setIfInBounds_toArray, List.set_cons_succ, List.set_cons_zero]
            go_wp2_with fail
            go_ret
            exact ⟨rfl, L9.out⟩
      | true =>
        go_wp2_with fail
        go_loopw [13, 14] (fun x _ wr => ∃ (k : Nat) (s : RS), k ≤ 6 ∧ x = .int .i64 (k : Int) ∧ Hid (TInv N s i k) ∧ Hid (RackAt B wr r s) ∧ Hid (Keep B w1 wr)) (fun x _ _ => 6 - (intOf x).toNat)
        case atStart => exact ⟨0, s6, by omega, rfl, T6, R6, K6⟩
        case round =>
          obtain ⟨k, s7, hk, rfl, T7, R7, K7⟩ := hrel
          clear T6 R6 K6
          by_cases hk5 : k < 6
          · have t2 : decide ((k : Int) < 6) = true := by simp; omega
            have HCM : Hid (((i : Int)).tmod 8 = ((i % 8 : Nat) : Int)) := Lib.hid (by rw [Int.tmod_eq_emod_of_nonneg (by omega)]; omega)
            have HCM2 : Hid ((i : Int) % 8 = ((i % 8 : Nat) : Int)) := Lib.hid (by omega)
            by_cases hkn : k < n1
            · have t3 : decide (k < n1) = true := by simp; omega
              obtain ⟨fb, fo, hfa, hfB, hcl, hI⟩ := H1.out k hkn
              subst hfa
              have LW := L1.out.trans (K7.out.below.mono hBs.out)
              have c0 := (LW.cell (p := ⟨fb, fo + k, none⟩) hfB).trans hcl
              have HQ := Lib.hid ((HN.out k).1 hkn)
              have i1 : (0 : Int) ≤ (k : Int) := by omega
              have i2 : (k : Int) < (n1 : Int) := by omega
              obtain ⟨z, hz⟩ : ∃ z, z = p1 k := ⟨_, rfl⟩
              rw [← hz] at c0 HQ
              clear LW hcl hI hz
              go_wp2_with fail
              rw [HQ.out]
              clear c0 HQ hfB i1 i2
              go_wp2_with fail
              first
              | rw [HCM.out]
              | rw [HCM2.out]
              refine (rot_ok _ r s7 k (i % 8) (N k) R7.out (by rw [T7.out.nd]; omega) (by rw [T7.out.ns]; omega) (T7.out.gone k) (by have := (HN.out k).2.2; omega) (by have := T7.out.cost; omega)).mono ?_
              rintro e w8 ⟨rfl, h8, k8⟩
              have R8 := Lib.hid h8
              have K8 := Lib.hid (K7.out.trans k8)
              have T8 := Lib.hid (T7.out.rot hC1 (by omega))
              clear h8 k8 R7 K7 T7
              generalize s7.rotted k (i % 8) (N k) = s8 at *
              go_wp2_with fail
              go_roundw
              case rel => exact ⟨k + 1, s8, by omega, by go_num, T8, R8, K8⟩
              case measure => simp [intOf]; omega
            · have t3 : decide (k < n1) = false := by simp; omega
              have HQ := Lib.hid ((HN.out k).2.1 hkn)
              go_wp2_with fail
              have h100 : (100 : Int) = ((N k : Nat) : Int) := by rw [HQ.out]; rfl
              rw [h100]
              clear h100 HQ
              first
              | rw [HCM.out]
              | rw [HCM2.out]
              refine (rot_ok _ r s7 k (i % 8) (N k) R7.out (by rw [T7.out.nd]; omega) (by rw [T7.out.ns]; omega) (T7.out.gone k) (by have := (HN.out k).2.2; omega) (by have := T7.out.cost; omega)).mono ?_
              rintro e w8 ⟨rfl, h8, k8⟩
              have R8 := Lib.hid h8
              have K8 := Lib.hid (K7.out.trans k8)
              have T8 := Lib.hid (T7.out.rot hC1 (by omega))
              clear h8 k8 R7 K7 T7
              generalize s7.rotted k (i % 8) (N k) = s8 at *
              go_wp2_with fail
              go_roundw
              case rel => exact ⟨k + 1, s8, by omega, by go_num, T8, R8, K8⟩
              case measure => simp [intOf]; omega
          · have t2 : decide ((k : Int) < 6) = false := by simp; omega
            obtain rfl : k = 6 := by omega
            have HNW := Lib.hid (newest_lab _ r s7 R7.out (HLA.out.below K7.out.below HB.out) HB.out)
            clear hk hk5
            by_cases hi1 : i = 1
            · subst hi1
              rw [T7.out.newest1] at HNW
              go_wp2_with fail
              refine HNW.out.mono ?_
              rintro e w8 ⟨rfl, h8, k8⟩
              have L8 : Hid (Below w.heap.size w (w8.alloc (.cells #[.int .i64 0, .int .i64 0, .int .i64 0, .int .i64 0, .string ⟨#[]⟩] 25))) := Lib.hid ((L1.out.trans ((K7.out.trans k8).below.mono hBs.out)).alloc (L1.out.trans ((K7.out.trans k8).below.mono hBs.out)).size _)
              have X8 := Lib.hid (Blk.new w8 25 #[.int .i64 0, .int .i64 0, .int .i64 0, .int .i64 0, .string ⟨#[]⟩])
              obtain ⟨⟨d0, d1, d2, d3, d4⟩, _, _, _, _, _⟩ := uber_facts X8.out
              simp only [uA, zeroU, K.zeroP]
              clear h8 k8 R7 K7 T7 HNW
              go_wp2_with fail
              go_ret
              exact ⟨rfl, L8.out⟩
            · have t3 : ((i : Int) == 1) = false := by simp; omega
              have hi2 : 2 ≤ i := by omega
              rw [T7.out.newest6 hi2 hC2] at HNW
              clear hi1
              go_wp2_with fail
              refine HNW.out.mono ?_
              rintro e w8 ⟨rfl, h8, k8⟩
              obtain ⟨Z, hZ⟩ : ∃ Z, Z = i - 1 := ⟨_, rfl⟩
              rw [← hZ]
              have HZ := Lib.hid hZ
              have hZ9 : Hid (Z ≤ 1000000) := Lib.hid (by omega)
              obtain ⟨qa, qz, qb, qs, hq⟩ : ∃ qa qz qb qs, P Z = ⟨qa, qz, qb, qs⟩ := ⟨_, _, _, _, rfl⟩
              have HU : Hid (uA (rec_ Z Z) = #[.int .i64 (Z : Int), .int .i64 qa, .int .i64 qz, .int .i64 qb, .string qs]) := Lib.hid (uA_rec hq).symm
              rw [HU.out]
              clear hq hZ
              have L8 : Hid (Below w.heap.size w (w8.alloc (.cells #[.int .i64 (Z : Int), .int .i64 qa, .int .i64 qz, .int .i64 qb, .string qs] 25))) := Lib.hid ((L1.out.trans ((K7.out.trans k8).below.mono hBs.out)).alloc (L1.out.trans ((K7.out.trans k8).below.mono hBs.out)).size _)
              have HS : Hid (Blk (w8.alloc (.cells #[.int .i64 (Z : Int), .int .i64 qa, .int .i64 qz, .int .i64 qb, .string qs] 25)).drew w8.heap.size 25 (uA (rec_ Z Z))) := Lib.hid (by rw [HU.out]; exact (Blk.new _ _ _).drew)
              clear h8 k8 R7 K7 T7 HNW t2
              go_wp2_with fail
              generalize hw9 : w8.alloc (.cells #[.int .i64 (Z : Int), .int .i64 qa, .int .i64 qz, .int .i64 qb, .string qs] 25) = w9 at *
              generalize hg6 : w8.heap.size = g6 at *
              clear hw9 hg6 HU
              have hII : Hid (1 ≤ i ∧ i ≤ 1000000000) := Lib.hid (by omega)
              refine region_anyZ (fun w' => Blk w' g6 25 (uA (rec_ Z Z))) 13 (by kernel_rfl) ?_
              refine takeG 0 (.move (.tmp 8)) (some 98) none (.int .i64 0) (by kernel_rfl) (by kernel_rfl) (by kernel_rfl) (fun _ _ _ h => h) (fun o wq e hS => exec_move wq e (by kernel_rfl)) HS.out ?_
              refine takeG 1 (.binOp .eql 28 (.tmp 98) (.const (.int .i64 0)) 28) (some 99) none (.bool true) (by kernel_rfl) (by kernel_rfl) (by kernel_rfl) (fun _ _ _ h => h) (fun o wq e hS => exec_bin (u1 := .int .i64 0) (u2 := (.int .i64 0)) wq e (by kernel_rfl) (by kernel_rfl) (eqG_int ..) (by kernel_rfl)) HS.out ?_
              refine takeG 2 (.move (.tmp 99)) (some 100) none (.bool true) (by kernel_rfl) (by kernel_rfl) (by kernel_rfl) (fun _ _ _ h => h) (fun o wq e hS => exec_move wq e (by kernel_rfl)) HS.out ?_
              refine takeG 3 (.load 25 (.tmp 15)) (some 101) (some (2, true)) (.agg (uA (rec_ Z Z))) (by kernel_rfl) (by kernel_rfl) (by kernel_rfl) (fun _ _ _ h => h) (fun o wq e hS => exec_load (x := (.tmp 15)) e (by kernel_rfl) (load_uber hS)) HS.out ?_
              refine takeG 4 (.move (.tmp 0)) (some 102) (some (2, true)) (.int .i64 (i : Int)) (by kernel_rfl) (by kernel_rfl) (by kernel_rfl) (fun _ _ _ h => h) (fun o wq e hS => exec_move wq e (by kernel_rfl)) HS.out ?_
              refine takeG 5 (.binOp .sub 3 (.tmp 102) (.const (.int .i64 1)) 3) (some 103) (some (2, true)) (.int .i64 (Z : Int)) (by kernel_rfl) (by kernel_rfl) (by kernel_rfl) (fun _ _ _ h => h) (fun o wq e hS => exec_bin (u1 := .int .i64 (i : Int)) (u2 := (.int .i64 1)) wq e (by kernel_rfl) (by kernel_rfl) (eqG_int ..) ((sub_one i hII.out _).trans (by rw [← HZ.out]))) HS.out ?_
              refine takeG 6 (.move (.tmp 0)) (some 104) (some (2, true)) (.int .i64 (i : Int)) (by kernel_rfl) (by kernel_rfl) (by kernel_rfl) (fun _ _ _ h => h) (fun o wq e hS => exec_move wq e (by kernel_rfl)) HS.out ?_
              refine takeG 7 (.binOp .sub 3 (.tmp 104) (.const (.int .i64 1)) 3) (some 105) (some (2, true)) (.int .i64 (Z : Int)) (by kernel_rfl) (by kernel_rfl) (by kernel_rfl) (fun _ _ _ h => h) (fun o wq e hS => exec_bin (u1 := .int .i64 (i : Int)) (u2 := (.int .i64 1)) wq e (by kernel_rfl) (by kernel_rfl) (eqG_int ..) ((sub_one i hII.out _).trans (by rw [← HZ.out]))) HS.out ?_
              refine loneG 8 (.call ⟨.value (.func 16), #[(.tmp 105)], #[3]⟩) (some 106) (some (2, true)) (by kernel_rfl) (by kernel_rfl) (by kernel_rfl) ?_
              intro o ho hod
              refine wp_callC (f := 16) (args := #[.int .i64 (Z : Int)]) (by cases o; cases ho; kernel_rfl) (law_ptr Z _ hZ9.out) ?_
              rintro e w10 ⟨rfl, b10⟩
              refine ⟨.agg (ptA (P Z)), rfl, ?_⟩
              rw [hod]
              clear hod ho
              have HS9 := Lib.hid (HS.out.new_ (b10 : Below w9.drew.heap.size w9.drew w10))
              have L9 := Lib.hid (L8.out.drew.trans (b10.mono L8.out.drew.size))
              clear b10 L8 HS
              refine ⟨fun _ => HS9.out, ?_⟩
              refine takeG 9 (.build 25 #[(0, (.tmp 103)), (1, (.tmp 106))]) (some 107) (some (2, true)) (.agg (uA (rec_ Z Z))) (by kernel_rfl) (by kernel_rfl) (by kernel_rfl) (fun _ _ _ h => h) (fun o wq e hS => exec_bld2 (u0 := .int .i64 (Z : Int)) (u1 := .agg (ptA (P Z))) wq e (by kernel_rfl) (by kernel_rfl) (build_uber (Z : Int) (P Z) _)) HS9.out ?_
              refine takeG 10 (.binOp .eql 25 (.tmp 101) (.tmp 107) 25) (some 108) (some (2, true)) (.bool true) (by kernel_rfl) (by kernel_rfl) (by kernel_rfl) (fun _ _ _ h => h) (fun o wq e hS => exec_bin (u1 := .agg (uA (rec_ Z Z))) (u2 := .agg (uA (rec_ Z Z))) wq e (by kernel_rfl) (by kernel_rfl) (eqG_agg _ _ _ _ _ _ (by kernel_rfl) _) (eq_uber (rec_ Z Z) _)) HS9.out ?_
              refine takeG 11 (.pick (.tmp 100) (.tmp 108) (.const (Value.bool false))) (some 109) none (.bool true) (by kernel_rfl) (by kernel_rfl) (by kernel_rfl) (fun _ _ _ h => h) (fun o wq e hS => exec_pick (b := true) wq e (by kernel_rfl) (by kernel_rfl)) HS9.out ?_
              refine lastS 12 (.assign (.tmp 109)) (some 6) (.bool true) (by kernel_rfl) (by kernel_rfl) (by kernel_rfl) HS9.out (fun o e => exec_assign _ e (by kernel_rfl)) ?_
              simp only [put_some, put_none, List.setIfInBounds_toArray, List.set_cons_succ, List.set_cons_zero]
              go_wp2_with fail
              go_ret
              exact ⟨rfl, L9.out⟩
end labelRots
end Go.Proofs.YtjnnmeolonbedaaDoor
