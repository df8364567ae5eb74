/-
  The walk of 'LabelCrashes': behind a crash with any picks the newest is one of the last two, as long as a drive is left.
-/
import Derived.Test.YtjnnmeolonbedaaDoorLabelRingsWalk
import Derived.Test.YtjnnmeolonbedaaDoorLabSlotsM
import Derived.Deep.DeepCutAuto
namespace Go.Proofs.YtjnnmeolonbedaaDoor
open Go Go.RowKit refRack Lab
set_option maxRecDepth 100000
set_option linter.unusedVariables false
namespace Lab
theorem holds_nw0 {s : RS} (h : s.nw = 0) (d a : Nat) : s.holds d a = s.last d a := by
  unfold RS.holds
  rw [h]
  rfl
theorem cntW_lost (s : RS) (d : Nat) : ∀ k, cntW s k ≤ cntW (s.lost d) k + (if d < k then 1 else 0)
  | 0 => Nat.zero_le _
  | k + 1 => by
    have ih := cntW_lost s d k
    rw [cntW_succ, cntW_succ]
    have hg : (s.lost d).gone k = if k = d then true else s.gone k := rfl
    rw [hg]
    by_cases e : k = d
    · subst e
      rw [if_neg (Nat.lt_irrefl k)] at ih
      have e1 : (if k < k + 1 then 1 else 0) = 1 := if_pos (Nat.lt_succ_self k)
      rw [e1]
      simp only [if_true]
      split <;> omega
    · rw [if_neg e]
      by_cases h2 : d < k
      · rw [if_pos h2] at ih
        have e1 : (if d < k + 1 then 1 else 0) = 1 := if_pos (by omega)
        rw [e1]
        split <;> omega
      · rw [if_neg h2] at ih
        have e1 : (if d < k + 1 then 1 else 0) = 0 := if_neg (by omega)
        rw [e1]
        split <;> omega
theorem cntW_pos (s : RS) : ∀ k, 0 < cntW s k → ∃ d, d < k ∧ s.gone d = false
  | 0, h => absurd h (Nat.lt_irrefl _)
  | k + 1, h => by
    rw [cntW_succ] at h
    by_cases hg : s.gone k = true
    · rw [if_pos hg] at h
      obtain ⟨d, h1, h2⟩ := cntW_pos s k h
      exact ⟨d, by omega, h2⟩
    · exact ⟨k, by omega, by simpa using hg⟩
theorem cntW_all {s : RS} (h : ∀ d, s.gone d = false) : ∀ k, cntW s k = k
  | 0 => rfl
  | k + 1 => by rw [cntW_succ, if_neg (by rw [h]; simp), cntW_all h k]
theorem wall_waits {s : RS} (hg : ∀ d, s.gone d = false) (h0 : s.nw = 0) (q : Nat) (X : Nat → Nat) : ∀ k, (wall s q X k).nw = k ∧ ∀ j, j < k → (wall s q X k).W j = ⟨j, q, X⟩
  | 0 => ⟨h0, fun j hj => absurd hj (Nat.not_lt_zero _)⟩
  | k + 1 => by
    obtain ⟨h1, h2⟩ := wall_waits hg h0 q X k
    rw [wall_succ, if_neg (by rw [hg]; simp)]
    refine ⟨by show (wall s q X k).nw + 1 = _; rw [h1], fun j hj => ?_⟩
    show (if j = (wall s q X k).nw then (⟨k, q, X⟩ : Wt) else (wall s q X k).W j) = _
    rw [h1]
    by_cases e : j = k
    · rw [if_pos e, e]
    · rw [if_neg e]
      exact h2 j (by omega)
theorem lay_wall {s t : RS} {q : Nat} {X : Nat → Nat} (P : Nat → Bool) (d a : Nat) : ∀ k, (∀ j, j < k → s.W j = ⟨j, q, X⟩) → s.lay P k d a = if d < k ∧ P d = true ∧ a = q then X else s.last d a
  | 0, _ => by rw [if_neg (fun h => absurd h.1 (Nat.not_lt_zero _))]; rfl
  | k + 1, h => by
    have ih := lay_wall (t := t) P d a k fun j hj => h j (by omega)
    show (if P k = true ∧ (s.W k).d = d ∧ (s.W k).a = a then (s.W k).x else s.lay P k d a) = _
    rw [h k (Nat.lt_succ_self k), ih]
    show (if P k = true ∧ k = d ∧ q = a then X else _) = _
    by_cases e : P k = true ∧ k = d ∧ q = a
    · rw [if_pos e, if_pos ⟨by omega, by rw [← e.2.1]; exact e.1, e.2.2.symm⟩]
    · rw [if_neg e]
      by_cases e2 : d < k ∧ P d = true ∧ a = q
      · rw [if_pos e2, if_pos ⟨by omega, e2.2⟩]
      · rw [if_neg e2, if_neg (fun x => by
          by_cases hd : d = k
          · exact e ⟨by rw [← hd]; exact x.2.1, hd.symm, x.2.2.symm⟩
          · exact e2 ⟨by omega, x.2⟩)]
end Lab
namespace labelCrashes
open labelRings
/-- i transactions, all flushed -/
structure FInv (s : RS) (i : Nat) : Prop where
  nd : s.nd = 6
  ns : s.ns = 10
  calm : s.calm
  gone : ∀ d, s.gone d = false
  cost : s.cost ≤ 6 * i
  nw : s.nw = 0
  last : ∀ d a, d < 6 → s.last d a = bytesT (ringT 1 a i)
theorem FInv.start : FInv (RS.new 6 10) 0 := ⟨rfl, rfl, new_calm 6 10, fun _ => rfl, Nat.le_refl _, rfl, fun _ _ _ => rfl⟩
section
variable {s : RS} {i C : Nat}
theorem FInv.wrote (h : FInv s i) (hi : 1 + i ≤ 1000000) : wroteL s (rec_ (1 + i) (1 + i)) = (wall s ((1 + i) % 8) (lst (encL (rec_ (1 + i) (1 + i)))) 6, 6, 0) := by
  have hw := wroteL_calm h.calm (by rw [h.ns]; omega) (t := 1 + i) (p := P (1 + i)) (rec_ok (n := 1 + i) (by omega) hi).1
  rw [cntW_all h.gone, h.nd] at hw
  exact hw
theorem FInv.flushed (h : FInv s i) : FInv (wall s ((1 + i) % 8) (lst (encL (rec_ (1 + i) (1 + i)))) 6).flushed (i + 1) := by
  obtain ⟨hl, hcost⟩ := wall_like s ((1 + i) % 8) (lst (encL (rec_ (1 + i) (1 + i)))) 6
  refine ⟨hl.nd.trans h.nd, hl.ns.trans h.ns, hl.calm h.calm, fun d => (congrFun hl.gone d).trans (h.gone d), by have := h.cost; show (wall s _ _ 6).cost ≤ _; omega, rfl, fun d a hd => ?_⟩
  have e := holds_flushed (wall s ((1 + i) % 8) (lst (encL (rec_ (1 + i) (1 + i)))) 6) d a
  rw [holds_nw0 rfl] at e
  rw [e, wall_holds, ringT_succ]
  by_cases e : (1 + i) % 8 = a
  · rw [if_pos ⟨hd, h.gone d, e.symm⟩, if_pos e]
    rfl
  · rw [if_neg (fun x => e x.2.2.symm), if_neg e, holds_nw0 h.nw]
    exact h.last d a hd
/-- behind the crash, i drives lost -/
structure GInv (s : RS) (C : Nat) (Pk : Nat → Bool) (i : Nat) : Prop where
  nd : s.nd = 6
  ns : s.ns = 10
  calm : s.calm
  holds : ∀ d a, d < 6 → s.gone d = false → s.holds d a = if a = C % 8 ∧ Pk d = true then lst (encL (rec_ C C)) else bytesT (ringT 1 a (C - 1))
  left : 6 ≤ cntW s 6 + i
theorem FInv.crashed (h : FInv s (C - 1)) (hC : 1 ≤ C) (Pk : Nat → Bool) : GInv ((wall s (C % 8) (lst (encL (rec_ C C))) 6).crashed Pk) C Pk 0 := by
  obtain ⟨hl, _⟩ := wall_like s (C % 8) (lst (encL (rec_ C C))) 6
  obtain ⟨hw1, hw2⟩ := wall_waits h.gone h.nw (C % 8) (lst (encL (rec_ C C))) 6
  refine ⟨hl.nd.trans h.nd, hl.ns.trans h.ns, ⟨rfl, rfl⟩, fun d a hd _ => ?_, ?_⟩
  · rw [holds_crashed, hw1, lay_wall (t := s) Pk d a 6 hw2, hl.last, h.last d a hd]
    by_cases e : a = C % 8 ∧ Pk d = true
    · rw [if_pos e, if_pos ⟨hd, e.2, e.1⟩]
    · rw [if_neg e, if_neg (fun x => e ⟨x.2.2, x.2.1⟩)]
  · have hc : cntW ((wall s (C % 8) (lst (encL (rec_ C C))) 6).crashed Pk) 6 = 6 := cntW_all (fun d => (congrFun hl.gone d).trans (h.gone d)) 6
    omega
theorem GInv.lose {Pk : Nat → Bool} (h : GInv s C Pk i) {d : Nat} (hd : d < 6) : GInv (s.lost d) C Pk (i + 1) := by
  refine ⟨h.nd, h.ns, h.calm, fun d' a hd' hg => ?_, ?_⟩
  · have hg' : (if d' = d then true else s.gone d') = false := hg
    by_cases e : d' = d
    · rw [if_pos e] at hg'; cases hg'
    · rw [if_neg e] at hg'
      rw [holds_lost a e]
      exact h.holds d' a hd' hg'
  · have h1 := cntW_lost s d 6
    rw [if_pos hd] at h1
    have := h.left
    omega
theorem GInv.newest {Pk : Nat → Bool} (h : GInv s C Pk i) (hi : i ≤ 5) (hC : 2 ≤ C) (hC2 : C ≤ 1000) : ∃ Z, (Z = C ∨ Z + 1 = C) ∧ newU s = (rec_ Z Z, 0) := by
  obtain ⟨d0, hd0, hg0⟩ := cntW_pos s 6 (by have := h.left; omega)
  have hoff := h.calm.1
  have hnd := h.nd
  have hns := h.ns
  have old : ∀ d a, d < 6 → a < 8 → s.gone d = false → ¬ (a = C % 8 ∧ Pk d = true) → (∃ T, T < C ∧ lookU s d a = rec_ T T) ∨ lookU s d a = zeroU := fun d a hd ha hg hn => by
    have hh := h.holds d a hd hg
    rw [if_neg hn] at hh
    cases hT : ringT 1 a (C - 1) with
    | some T =>
      obtain ⟨h1, h2, h3⟩ := ringT_spec hT
      rw [hT] at hh
      subst h3
      exact .inl ⟨T, by omega, (look_rec hoff (by omega) (by omega) hg (rec_ok (by omega) (by omega)) (fun j _ => by rw [hh]; rfl) rec_mod).1⟩
    | none =>
      rw [hT] at hh
      exact .inr (look_none hoff (by omega) (by omega) hg (by rw [hh]; rfl)).1
  by_cases hx : ∃ d, d < 6 ∧ s.gone d = false ∧ Pk d = true
  · obtain ⟨d1, hd1, hg1, hp1⟩ := hx
    have new : ∀ d, d < 6 → s.gone d = false → Pk d = true → lookU s d (C % 8) = rec_ C C := fun d hd hg hp =>
      (look_rec hoff (by omega) (by omega) hg (rec_ok (by omega) (by omega)) (fun j _ => by rw [h.holds d _ hd hg, if_pos ⟨rfl, hp⟩]) rec_mod).1
    refine ⟨C, .inl rfl, newU_is hoff (by omega) (by show (1 : Int) ≤ (C : Int); omega) ⟨d1, C % 8, by omega, by omega, new d1 hd1 hg1 hp1⟩ fun d a hd ha => ?_⟩
    rw [hnd] at hd
    by_cases hg : s.gone d = false
    · by_cases e : a = C % 8 ∧ Pk d = true
      · exact .inl (by rw [e.1]; exact new d hd hg e.2)
      · rcases old d a hd ha hg e with ⟨T, h1, h2⟩ | h2
        · refine .inr ?_
          rw [h2]
          show (T : Int) < (C : Int)
          omega
        · refine .inr ?_
          rw [h2]
          show (0 : Int) < (C : Int)
          omega
    · refine .inr ?_
      rw [(look_gone hoff (by omega) (by omega) (by simpa using hg)).1]
      show (0 : Int) < (C : Int)
      omega
  · have hT : ringT 1 ((C - 1) % 8) (C - 1) = some (C - 1) := by
      obtain ⟨k, hk⟩ : ∃ k, C - 1 = k + 1 := ⟨C - 2, by omega⟩
      rw [hk, ringT_succ, show 1 + k = k + 1 by omega]
      exact if_pos rfl
    have hone : ∀ d, d < 6 → s.gone d = false → Pk d = false := fun d hd hg => by
      cases hp : Pk d with
      | false => rfl
      | true => exact absurd ⟨d, hd, hg, hp⟩ hx
    have hl0 : lookU s d0 ((C - 1) % 8) = rec_ (C - 1) (C - 1) :=
      (look_rec hoff (by omega) (by omega) hg0 (rec_ok (by omega) (by omega)) (fun j _ => by rw [h.holds d0 _ hd0 hg0, if_neg (fun x => by rw [hone d0 hd0 hg0] at x; cases x.2), hT]; rfl) rec_mod).1
    refine ⟨C - 1, .inr (by omega), newU_is hoff (by omega) (by show (1 : Int) ≤ ((C - 1 : Nat) : Int); omega) ⟨d0, (C - 1) % 8, by omega, by omega, hl0⟩ fun d a hd ha => ?_⟩
    rw [hnd] at hd
    by_cases hg : s.gone d = false
    · rcases old d a hd ha hg (fun x => by rw [hone d hd hg] at x; cases x.2) with ⟨T, h1, h2⟩ | h2
      · by_cases e : T = C - 1
        · exact .inl (by rw [h2, e])
        · refine .inr ?_
          rw [h2]
          show (T : Int) < ((C - 1 : Nat) : Int)
          omega
      · refine .inr ?_
        rw [h2]
        show (0 : Int) < ((C - 1 : Nat) : Int)
        omega
    · refine .inr ?_
      rw [(look_gone hoff (by omega) (by omega) (by simpa using hg)).1]
      show (0 : Int) < ((C - 1 : Nat) : Int)
      omega
end
set_option maxHeartbeats 3200000 in
theorem walk (a0 : Int) (A1 : Option Addr) (n1 c1 : Nat) (p1 : Nat → Int) (A2 : Option Addr) (n2 c2 : Nat) (p2 : Nat → Int) (w : World) (w0 : (Lit.int .i64 a0).wf = true)
    (h1 : RdI w w.heap.size A1 n1 p1) (l1 : n1 ≤ c1) (m1 : c1 ≤ maxLen) (e1 : A1 = none → c1 = 0) (r1 : c1 * 8 ≤ 140737488351232)
    (h2 : RdI w w.heap.size A2 n2 p2) (l2 : n2 ≤ c2) (m2 : c2 ≤ maxLen) (e2 : A2 = none → c2 = 0) (r2 : c2 * 8 ≤ 140737488351232) (hl : Laid w) :
    Calls Tryd.prog 4 #[.int .i64 a0, .slice A1 n1 c1, .slice A2 n2 c2] w fun e w' => e = .returned (.bool true) ∧ Below w.heap.size w w' := by
  unfold maxLen at m1 m2
  have HLD := Lib.hid hl
  have hpos := hl.pos
  obtain ⟨c0, hat, hc20⟩ := umod a0 20 (by omega) (by omega)
  have H1 := Lib.hid h1
  have H2 := Lib.hid h2
  have HL1 := Lib.hid l1
  have HE1 := Lib.hid e1
  have hn1 : Hid (n1 * 8 ≤ 140737488355328) := Lib.hid (by omega)
  have hn2 : n2 ≤ 9223372036854775806 := by omega
  clear hl w0 h1 h2 e1 e2 r1 r2 l1 l2 m1 m2
  go_enter Tryd.func4, Tryd.ntmps4
  go_wp2_with fail
  refine (law_known _ HLD.out).mono ?_
  rintro e w1 ⟨rfl, b1⟩
  have L1 := Lib.hid b1
  clear b1
  go_wp2_with fail
  refine (new_any w1 6 10 (by omega) (by omega) (by omega) (by omega)).mono ?_
  rintro e w2 ⟨⟨r, rfl, h2⟩, k2⟩
  have hBs : Hid (w.heap.size ≤ w1.heap.size) := Lib.hid L1.out.size
  have R2 := Lib.hid h2
  have K2 := Lib.hid k2
  have HB : Hid (0 < w1.heap.size) := Lib.hid (by have := hBs.out; omega)
  have HLA := Lib.hid (HLD.out.below L1.out hpos)
  clear h2 k2
  generalize hwB : w1.heap.size = B at *
  clear hwB
  obtain ⟨C, hC⟩ : ∃ C, C = c0 + 2 := ⟨_, rfl⟩
  have hC1 : 2 ≤ C := by omega
  have hC2 : C ≤ 21 := by omega
  have HCC : Hid ((2 : Int) + (c0 : Int) = (C : Int)) := Lib.hid (by omega)
  clear hC
  go_upto_region 7 with (fail)
  rw [HCC.out]
  clear HCC hat hc20
  have N2 := Lib.hid FInv.start
  generalize RS.new 6 10 = s2 at *
  go_wp2_with fail
  go_loopw [9, 10, 11] (fun x _ _ wr => ∃ (i : Nat) (s : RS), i ≤ C ∧ x = .int .i64 ((1 + i : Nat) : Int) ∧ Hid ((i < C → FInv s i) ∧ (i = C → ∃ s', FInv s' (C - 1) ∧ s = wall s' (C % 8) (lst (encL (rec_ C C))) 6)) ∧ Hid (RackAt B wr r s) ∧ Hid (Keep B w1 wr)) (fun x _ _ _ => 1 + C - (intOf x).toNat)
  case atStart => exact ⟨0, s2, by omega, rfl, Lib.hid ⟨fun _ => N2.out, fun h => by omega⟩, R2, K2⟩
  case round =>
    obtain ⟨i, s, hi, rfl, N3, R3, K3⟩ := hrel
    clear N2 R2 K2
    obtain ⟨T, hT⟩ : ∃ T, T = 1 + i := ⟨_, rfl⟩
    rw [← hT]
    have HTT := Lib.hid hT
    have hT1 : T ≤ 1 + C := by omega
    have hT0 : 1 ≤ T := by omega
    by_cases hiC : i < C
    · have t1 : decide (T ≤ C) = true := by simp; omega
      have F3 := Lib.hid (N3.out.1 hiC)
      clear hT N3
      go_wp2_with fail
      refine (law_ptrL T _ (by omega)).mono ?_
      rintro e w4 ⟨pa, pz, pb, ps, hp, rfl, b4⟩
      have R4 := Lib.hid (R3.out.below b4)
      have K4 := Lib.hid (K3.out.new b4 R3.out.le)
      have HU : Hid ((#[.int .i64 (T : Int), .int .i64 pa, .int .i64 pz, .int .i64 pb, .string ps] : Array Value) = uA (rec_ T T)) := Lib.hid (uA_rec hp)
      clear b4 R3 K3 hp
      go_wp2_with fail
      rw [HU.out]
      have HW := Lib.hid (write_lab w4 r s (rec_ T T) R4.out (rec_ok (by omega) (by omega)).2 (HLA.out.below K4.out.below HB.out) HB.out (by have := F3.out.cost; have := F3.out.nd; omega))
      have hwn := F3.out.wrote (by omega)
      rw [← HTT.out] at hwn
      rw [hwn] at HW
      have F5 := Lib.hid F3.out.flushed
      rw [← HTT.out] at F5
      have HS5 : Hid (i + 1 = C → ∃ s', FInv s' (C - 1) ∧ wall s (T % 8) (lst (encL (rec_ T T))) 6 = wall s' (C % 8) (lst (encL (rec_ C C))) 6) := Lib.hid fun e => ⟨s, by rw [show C - 1 = i by omega]; exact F3.out, by rw [show T = C by have := HTT.out; omega]⟩
      have CL5 : Hid (wall s (T % 8) (lst (encL (rec_ T T))) 6).calm := Lib.hid ((wall_like s (T % 8) (lst (encL (rec_ T T))) 6).1.calm F3.out.calm)
      clear hwn
      refine HW.out.mono ?_
      rintro e w5 ⟨rfl, h5, k5⟩
      have R5 := Lib.hid h5
      have K5 := Lib.hid (K4.out.trans k5)
      clear h5 k5 R4 K4 HW HU F3 t1
      generalize wall s (T % 8) (lst (encL (rec_ T T))) 6 = s5 at *
      dsimp only
      by_cases hlt : T < C
      · have t2 : decide (T < C) = true := by simp; omega
        go_wp2_with fail
        refine (flush_calm _ r s5 R5.out CL5.out).mono ?_
        rintro e w6 ⟨rfl, h6, k6⟩
        have R6 := Lib.hid h6
        have K6 := Lib.hid (K5.out.trans k6)
        clear h6 k6 R5 K5 t2
        generalize s5.flushed = s6 at *
        go_wp2_with fail
        go_roundw
        case rel => exact ⟨i + 1, s6, by omega, by rw [HTT.out]; go_num, Lib.hid ⟨fun _ => F5.out, fun e => by have := HTT.out; omega⟩, R6, K6⟩
        case measure => have := HTT.out; simp [intOf]; omega
      · have t2 : decide (T < C) = false := by simp; omega
        go_wp2_with fail
        go_roundw
        case rel => exact ⟨i + 1, s5, by omega, by rw [HTT.out]; go_num, Lib.hid ⟨fun e => by have := HTT.out; omega, HS5.out⟩, R5, K5⟩
        case measure => have := HTT.out; simp [intOf]; omega
    · have t1 : decide (T ≤ C) = false := by simp; omega
      obtain ⟨s', hF, hs⟩ := N3.out.2 (by omega)
      have G3 := Lib.hid (hF.crashed (by omega) (odd n1 p1))
      rw [← hs] at G3
      have RA : Hid (RackAt B (wr.alloc (.cells #[] 3)) r s) := Lib.hid (R3.out.alloc _)
      have KA := Lib.hid (K3.out.alloc R3.out.le (.cells #[] 3))
      have LW := Lib.hid (L1.out.trans (K3.out.below.mono hBs.out))
      have IA : Hid (RdI wr w.heap.size A1 n1 p1) := Lib.hid (H1.out.below LW.out)
      have LS := LW.out.size
      clear hT N3 hF hs hi hiC
      go_wp2_with (at_builtin; refine wpList_append_ints rfl (.tmp 58) (.tmp 59) rfl rfl rfl IA.out LS hn1.out HE1.out HL1.out ?_; intro A' c' w5 hI hb5)
      have I5 := Lib.hid hI
      have R5 := Lib.hid (R3.out.below hb5)
      have K5 := Lib.hid (K3.out.new hb5 R3.out.le)
      clear hI hb5 IA RA KA R3 K3 LS LW t1
      go_wp2_with fail
      refine (crash_any _ r s A' n1 c' p1 R5.out I5.out).mono ?_
      rintro e w6 ⟨rfl, h6, k6⟩
      have R6 := Lib.hid h6
      have K6 := Lib.hid (K5.out.trans k6)
      clear h6 k6 R5 K5 I5
      generalize s.crashed (odd n1 p1) = s6 at *
      go_wp2_with fail
      go_loopg [12] 5 (fun gk x wr => ∃ (j : Nat) (s : RS), gk = 5 - j ∧ j ≤ 5 ∧ j ≤ n2 ∧ x = .int .i64 j ∧ Hid (GInv s C (odd n1 p1) j) ∧ Hid (RackAt B wr r s) ∧ Hid (Keep B w1 wr))
      case atStart => exact ⟨0, s6, rfl, by omega, by omega, rfl, G3, R6, K6⟩
      case round =>
        obtain ⟨j, s7, rfl, hj5, hj, rfl, G7, R7, K7⟩ := hrel
        clear G3 R6 K6
        go_upto_region 15 with (fail)
        go_cut [69] (fun c wx => ∃ bb : Bool, c = .bool bb ∧ Hid (bb = decide (j < n2 ∧ j < 5)) ∧ wx = wr)
        case first =>
          by_cases h1 : j < n2
          · have t1 : decide (j < n2) = true := by simp; omega
            by_cases h2 : j < 5
            · have t2 : decide ((j : Int) < 5) = true := by simp; omega
              have hb : decide (j < n2 ∧ j < 5) = true := decide_eq_true ⟨h1, h2⟩
              go_wp2_with fail
              go_meet
              exact ⟨_, rfl, Lib.hid hb.symm, rfl⟩
            · have t2 : decide ((j : Int) < 5) = false := by simp; omega
              have hb : decide (j < n2 ∧ j < 5) = false := decide_eq_false fun q => h2 q.2
              go_wp2_with fail
              go_meet
              exact ⟨_, rfl, Lib.hid hb.symm, rfl⟩
          · have t1 : decide (j < n2) = false := by simp; omega
            have hb : decide (j < n2 ∧ j < 5) = false := decide_eq_false fun q => h1 q.1
            go_wp2_with fail
            go_meet
            exact ⟨_, rfl, Lib.hid hb.symm, rfl⟩
        case rest =>
        obtain ⟨bb, rfl, HBB, rfl⟩ := hcut
        by_cases hgo : j < n2 ∧ j < 5
        · obtain rfl : bb = true := HBB.out.trans (decide_eq_true hgo)
          clear HBB
          obtain ⟨hj0, hj4⟩ := hgo
          obtain ⟨fb, fo, hfa, hfB, hcl, hI⟩ := H2.out j hj0
          subst hfa
          have LW := L1.out.trans (K7.out.below.mono hBs.out)
          have c0 := (LW.cell (p := ⟨fb, fo + j, none⟩) hfB).trans hcl
          obtain ⟨q, hq, hq6⟩ := umod (p2 j) 6 (by omega) (by omega)
          have HQ := Lib.hid hq
          have hqn : Hid (q < 6) := Lib.hid (by omega)
          have i1 : (0 : Int) ≤ (j : Int) := by omega
          have i2 : (j : Int) < (n2 : Int) := by omega
          generalize p2 j = z at *
          have G8 := Lib.hid (G7.out.lose hqn.out)
          clear LW hcl hI hq
          go_wp2_with fail
          rw [HQ.out]
          clear c0 HQ hfB hq6 i1 i2
          refine (lose_ok _ r s7 q R7.out (by rw [G7.out.nd]; exact hqn.out)).mono ?_
          rintro e w8 ⟨rfl, h8, k8⟩
          have R8 := Lib.hid h8
          have K8 := Lib.hid (K7.out.trans k8)
          clear h8 k8 R7 K7 G7 hqn
          generalize s7.lost q = s8 at *
          go_wp2_with fail
          go_roundg (5 - (j + 1))
          case measure => omega
          case rel => exact ⟨j + 1, s8, rfl, by omega, by omega, by go_num, G8, R8, K8⟩
        · obtain rfl : bb = false := HBB.out.trans (decide_eq_false hgo)
          clear HBB hgo
          obtain ⟨Z, hZ, hnw⟩ := G7.out.newest hj5 hC1 (by omega)
          have HN := Lib.hid (newest_lab _ r s7 R7.out (HLA.out.below K7.out.below HB.out) HB.out)
          rw [hnw] at HN
          clear hnw hj hj5
          go_wp2_with fail
          refine HN.out.mono ?_
          rintro e w8 ⟨rfl, h8, k8⟩
          obtain ⟨qa, qz, qb, qs, hq⟩ : ∃ qa qz qb qs, P Z = ⟨qa, qz, qb, qs⟩ := ⟨_, _, _, _, rfl⟩
          have HU : Hid (uA (rec_ Z Z) = #[.int .i64 (Z : Int), .int .i64 qa, .int .i64 qz, .int .i64 qb, .string qs]) := Lib.hid (uA_rec hq).symm
          rw [HU.out]
          clear hq
          have L8 : Hid (Below w.heap.size w (w8.alloc (.cells #[.int .i64 (Z : Int), .int .i64 qa, .int .i64 qz, .int .i64 qb, .string qs] 25))) := Lib.hid ((L1.out.trans ((K7.out.trans k8).below.mono hBs.out)).alloc (L1.out.trans ((K7.out.trans k8).below.mono hBs.out)).size _)
          have HS : Hid (Blk (w8.alloc (.cells #[.int .i64 (Z : Int), .int .i64 qa, .int .i64 qz, .int .i64 qb, .string qs] 25)).drew w8.heap.size 25 (uA (rec_ Z Z))) := Lib.hid (by rw [HU.out]; exact Blk.new _ _ _)
          have hTL : Hid (Z ≤ 1000000) := Lib.hid (by omega)
          clear h8 k8 R7 K7 G7 HN
          go_wp2_with fail
          generalize hw9 : w8.alloc (.cells #[.int .i64 (Z : Int), .int .i64 qa, .int .i64 qz, .int .i64 qb, .string qs] 25) = w9 at *
          generalize hg6 : w8.heap.size = g6 at *
          clear hw9 hg6 HU
          rcases hZ with hZ | hZ
          · have hTI : Hid ((Z : Int) = (C : Int)) := Lib.hid (by omega)
            clear hZ
            refine region_anyZ (fun w' => Blk w' g6 25 (uA (rec_ Z Z))) 24 (by kernel_rfl) ?_
            refine takeG 0 (.move (.tmp 8)) (some 87) none (.int .i64 0) (by kernel_rfl) (by kernel_rfl) (by kernel_rfl) (fun _ _ _ h => h) (fun o wq e hS => exec_move wq e (by kernel_rfl)) HS.out ?_
            refine takeG 1 (.binOp .eql 28 (.tmp 87) (.const (.int .i64 0)) 28) (some 88) none (.bool true) (by kernel_rfl) (by kernel_rfl) (by kernel_rfl) (fun _ _ _ h => h) (fun o wq e hS => exec_bin (u1 := .int .i64 0) (u2 := (.int .i64 0)) wq e (by kernel_rfl) (by kernel_rfl) (eqG_int ..) (by kernel_rfl)) HS.out ?_
            refine takeG 2 (.move (.tmp 88)) (some 89) none (.bool true) (by kernel_rfl) (by kernel_rfl) (by kernel_rfl) (fun _ _ _ h => h) (fun o wq e hS => exec_move wq e (by kernel_rfl)) HS.out ?_
            refine takeG 3 (.fieldAddr 25 (.tmp 13) 0) (some 90) (some (2, true)) (.pointer (some ⟨g6, 0, none⟩)) (by kernel_rfl) (by kernel_rfl) (by kernel_rfl) (fun _ _ _ h => h) (fun o wq e hS => exec_field (u := .pointer (some ⟨g6, 0, none⟩)) wq e (by kernel_rfl) (by kernel_rfl)) HS.out ?_
            refine takeG 4 (.load 3 (.tmp 90)) (some 91) (some (2, true)) (.int .i64 (Z : Int)) (by kernel_rfl) (by kernel_rfl) (by kernel_rfl) (fun _ _ _ h => h) (fun o wq e hS => exec_load (x := (.tmp 90)) e (by kernel_rfl) (load_t hS)) HS.out ?_
            refine takeG 5 (.move (.tmp 0)) (some 92) (some (2, true)) (.int .i64 (C : Int)) (by kernel_rfl) (by kernel_rfl) (by kernel_rfl) (fun _ _ _ h => h) (fun o wq e hS => exec_move wq e (by kernel_rfl)) HS.out ?_
            refine takeG 6 (.binOp .eql 3 (.tmp 91) (.tmp 92) 3) (some 93) (some (2, true)) (.bool true) (by kernel_rfl) (by kernel_rfl) (by kernel_rfl) (fun _ _ _ h => h) (fun o wq e hS => exec_bin (u1 := .int .i64 (Z : Int)) (u2 := .int .i64 (C : Int)) wq e (by kernel_rfl) (by kernel_rfl) (eqG_int ..) (eq_int _ _ hTI.out _)) HS.out ?_
            refine takeG 7 (.move (.tmp 93)) (some 94) (some (2, true)) (.bool true) (by kernel_rfl) (by kernel_rfl) (by kernel_rfl) (fun _ _ _ h => h) (fun o wq e hS => exec_move wq e (by kernel_rfl)) HS.out ?_
            refine takeSkip 8 (.fieldAddr 25 (.tmp 13) 0) (some 95) (some (7, false)) (by kernel_rfl) (by kernel_rfl) (by kernel_rfl) (fun _ _ _ h => h) HS.out ?_
            refine takeSkip 9 (.load 3 (.tmp 95)) (some 96) (some (7, false)) (by kernel_rfl) (by kernel_rfl) (by kernel_rfl) (fun _ _ _ h => h) HS.out ?_
            refine takeSkip 10 (.move (.tmp 0)) (some 97) (some (7, false)) (by kernel_rfl) (by kernel_rfl) (by kernel_rfl) (fun _ _ _ h => h) HS.out ?_
            refine takeSkip 11 (.binOp .sub 3 (.tmp 97) (.const (.int .i64 1)) 3) (some 98) (some (7, false)) (by kernel_rfl) (by kernel_rfl) (by kernel_rfl) (fun _ _ _ h => h) HS.out ?_
            refine takeSkip 12 (.binOp .eql 3 (.tmp 96) (.tmp 98) 3) (some 99) (some (7, false)) (by kernel_rfl) (by kernel_rfl) (by kernel_rfl) (fun _ _ _ h => h) HS.out ?_
            refine takeG 13 (.pick (.tmp 94) (.const (Value.bool true)) (.tmp 99)) (some 100) (some (2, true)) (.bool true) (by kernel_rfl) (by kernel_rfl) (by kernel_rfl) (fun _ _ _ h => h) (fun o wq e hS => exec_pick (b := true) wq e (by kernel_rfl) (by kernel_rfl)) HS.out ?_
            refine takeG 14 (.pick (.tmp 89) (.tmp 100) (.const (Value.bool false))) (some 101) none (.bool true) (by kernel_rfl) (by kernel_rfl) (by kernel_rfl) (fun _ _ _ h => h) (fun o wq e hS => exec_pick (b := true) wq e (by kernel_rfl) (by kernel_rfl)) HS.out ?_
            refine takeG 15 (.move (.tmp 101)) (some 102) none (.bool true) (by kernel_rfl) (by kernel_rfl) (by kernel_rfl) (fun _ _ _ h => h) (fun o wq e hS => exec_move wq e (by kernel_rfl)) HS.out ?_
            refine takeG 16 (.fieldAddr 25 (.tmp 13) 1) (some 103) (some (15, true)) (.pointer (some ⟨g6, 1, none⟩)) (by kernel_rfl) (by kernel_rfl) (by kernel_rfl) (fun _ _ _ h => h) (fun o wq e hS => exec_field (u := .pointer (some ⟨g6, 0, none⟩)) wq e (by kernel_rfl) (by kernel_rfl)) HS.out ?_
            refine takeG 17 (.load 23 (.tmp 103)) (some 104) (some (15, true)) (.agg (ptA (P Z))) (by kernel_rfl) (by kernel_rfl) (by kernel_rfl) (fun _ _ _ h => h) (fun o wq e hS => exec_load (x := (.tmp 103)) e (by kernel_rfl) (load_root hS)) HS.out ?_
            refine takeG 18 (.fieldAddr 25 (.tmp 13) 0) (some 105) (some (15, true)) (.pointer (some ⟨g6, 0, none⟩)) (by kernel_rfl) (by kernel_rfl) (by kernel_rfl) (fun _ _ _ h => h) (fun o wq e hS => exec_field (u := .pointer (some ⟨g6, 0, none⟩)) wq e (by kernel_rfl) (by kernel_rfl)) HS.out ?_
            refine takeG 19 (.load 3 (.tmp 105)) (some 106) (some (15, true)) (.int .i64 (Z : Int)) (by kernel_rfl) (by kernel_rfl) (by kernel_rfl) (fun _ _ _ h => h) (fun o wq e hS => exec_load (x := (.tmp 105)) e (by kernel_rfl) (load_t hS)) HS.out ?_
            refine loneG 20 (.call ⟨.value (.func 16), #[(.tmp 106)], #[3]⟩) (some 107) (some (15, true)) (by kernel_rfl) (by kernel_rfl) (by kernel_rfl) ?_
            intro o ho hod
            refine wp_callC (f := 16) (args := #[.int .i64 (Z : Int)]) (by cases o; cases ho; kernel_rfl) (law_ptr Z _ hTL.out) ?_
            rintro e w10 ⟨rfl, b10⟩
            refine ⟨.agg (ptA (P Z)), rfl, ?_⟩
            rw [hod]
            clear hod ho
            have HS9 := Lib.hid (HS.out.new_ (b10 : Below w9.drew.heap.size w9.drew w10))
            have L9 := Lib.hid (L8.out.drew.trans (b10.mono L8.out.drew.size))
            clear b10 L8 HS
            refine ⟨fun _ => HS9.out, ?_⟩
            refine takeG 21 (.binOp .eql 23 (.tmp 104) (.tmp 107) 23) (some 108) (some (15, true)) (.bool true) (by kernel_rfl) (by kernel_rfl) (by kernel_rfl) (fun _ _ _ h => h) (fun o wq e hS => exec_bin (u1 := .agg (ptA (P Z))) (u2 := .agg (ptA (P Z))) wq e (by kernel_rfl) (by kernel_rfl) (eqG_agg _ _ _ _ _ _ (by kernel_rfl) _) (eq_ptr (P Z) _)) HS9.out ?_
            refine takeG 22 (.pick (.tmp 102) (.tmp 108) (.const (Value.bool false))) (some 109) none (.bool true) (by kernel_rfl) (by kernel_rfl) (by kernel_rfl) (fun _ _ _ h => h) (fun o wq e hS => exec_pick (b := true) wq e (by kernel_rfl) (by kernel_rfl)) HS9.out ?_
            refine lastS 23 (.assign (.tmp 109)) (some 6) (.bool true) (by kernel_rfl) (by kernel_rfl) (by kernel_rfl) HS9.out (fun o e => exec_assign _ e (by kernel_rfl)) ?_
            simp only [put_some, put_none, List.setIfInBounds_toArray, List.set_cons_succ, List.set_cons_zero]
            go_wp2_with fail
            go_ret
            exact ⟨rfl, L9.out⟩
          · have hTI : Hid ((Z : Int) ≠ (C : Int)) := Lib.hid (by omega)
            have hTJ : Hid ((Z : Int) = ((C - 1 : Nat) : Int)) := Lib.hid (by omega)
            have hCC : Hid (1 ≤ C ∧ C ≤ 1000000000) := Lib.hid (by omega)
            clear hZ
            refine region_anyZ (fun w' => Blk w' g6 25 (uA (rec_ Z Z))) 24 (by kernel_rfl) ?_
            refine takeG 0 (.move (.tmp 8)) (some 87) none (.int .i64 0) (by kernel_rfl) (by kernel_rfl) (by kernel_rfl) (fun _ _ _ h => h) (fun o wq e hS => exec_move wq e (by kernel_rfl)) HS.out ?_
            refine takeG 1 (.binOp .eql 28 (.tmp 87) (.const (.int .i64 0)) 28) (some 88) none (.bool true) (by kernel_rfl) (by kernel_rfl) (by kernel_rfl) (fun _ _ _ h => h) (fun o wq e hS => exec_bin (u1 := .int .i64 0) (u2 := (.int .i64 0)) wq e (by kernel_rfl) (by kernel_rfl) (eqG_int ..) (by kernel_rfl)) HS.out ?_
            refine takeG 2 (.move (.tmp 88)) (some 89) none (.bool true) (by kernel_rfl) (by kernel_rfl) (by kernel_rfl) (fun _ _ _ h => h) (fun o wq e hS => exec_move wq e (by kernel_rfl)) HS.out ?_
            refine takeG 3 (.fieldAddr 25 (.tmp 13) 0) (some 90) (some (2, true)) (.pointer (some ⟨g6, 0, none⟩)) (by kernel_rfl) (by kernel_rfl) (by kernel_rfl) (fun _ _ _ h => h) (fun o wq e hS => exec_field (u := .pointer (some ⟨g6, 0, none⟩)) wq e (by kernel_rfl) (by kernel_rfl)) HS.out ?_
            refine takeG 4 (.load 3 (.tmp 90)) (some 91) (some (2, true)) (.int .i64 (Z : Int)) (by kernel_rfl) (by kernel_rfl) (by kernel_rfl) (fun _ _ _ h => h) (fun o wq e hS => exec_load (x := (.tmp 90)) e (by kernel_rfl) (load_t hS)) HS.out ?_
            refine takeG 5 (.move (.tmp 0)) (some 92) (some (2, true)) (.int .i64 (C : Int)) (by kernel_rfl) (by kernel_rfl) (by kernel_rfl) (fun _ _ _ h => h) (fun o wq e hS => exec_move wq e (by kernel_rfl)) HS.out ?_
            refine takeG 6 (.binOp .eql 3 (.tmp 91) (.tmp 92) 3) (some 93) (some (2, true)) (.bool false) (by kernel_rfl) (by kernel_rfl) (by kernel_rfl) (fun _ _ _ h => h) (fun o wq e hS => exec_bin (u1 := .int .i64 (Z : Int)) (u2 := .int .i64 (C : Int)) wq e (by kernel_rfl) (by kernel_rfl) (eqG_int ..) (eq_int_no _ _ hTI.out _)) HS.out ?_
            refine takeG 7 (.move (.tmp 93)) (some 94) (some (2, true)) (.bool false) (by kernel_rfl) (by kernel_rfl) (by kernel_rfl) (fun _ _ _ h => h) (fun o wq e hS => exec_move wq e (by kernel_rfl)) HS.out ?_
            refine takeG 8 (.fieldAddr 25 (.tmp 13) 0) (some 95) (some (7, false)) (.pointer (some ⟨g6, 0, none⟩)) (by kernel_rfl) (by kernel_rfl) (by kernel_rfl) (fun _ _ _ h => h) (fun o wq e hS => exec_field (u := .pointer (some ⟨g6, 0, none⟩)) wq e (by kernel_rfl) (by kernel_rfl)) HS.out ?_
            refine takeG 9 (.load 3 (.tmp 95)) (some 96) (some (7, false)) (.int .i64 (Z : Int)) (by kernel_rfl) (by kernel_rfl) (by kernel_rfl) (fun _ _ _ h => h) (fun o wq e hS => exec_load (x := (.tmp 95)) e (by kernel_rfl) (load_t hS)) HS.out ?_
            refine takeG 10 (.move (.tmp 0)) (some 97) (some (7, false)) (.int .i64 (C : Int)) (by kernel_rfl) (by kernel_rfl) (by kernel_rfl) (fun _ _ _ h => h) (fun o wq e hS => exec_move wq e (by kernel_rfl)) HS.out ?_
            refine takeG 11 (.binOp .sub 3 (.tmp 97) (.const (.int .i64 1)) 3) (some 98) (some (7, false)) (.int .i64 ((C - 1 : Nat) : Int)) (by kernel_rfl) (by kernel_rfl) (by kernel_rfl) (fun _ _ _ h => h) (fun o wq e hS => exec_bin (u1 := .int .i64 (C : Int)) (u2 := (.int .i64 1)) wq e (by kernel_rfl) (by kernel_rfl) (eqG_int ..) (sub_one C hCC.out _)) HS.out ?_
            refine takeG 12 (.binOp .eql 3 (.tmp 96) (.tmp 98) 3) (some 99) (some (7, false)) (.bool true) (by kernel_rfl) (by kernel_rfl) (by kernel_rfl) (fun _ _ _ h => h) (fun o wq e hS => exec_bin (u1 := .int .i64 (Z : Int)) (u2 := .int .i64 ((C - 1 : Nat) : Int)) wq e (by kernel_rfl) (by kernel_rfl) (eqG_int ..) (eq_int _ _ hTJ.out _)) HS.out ?_
            refine takeG 13 (.pick (.tmp 94) (.const (Value.bool true)) (.tmp 99)) (some 100) (some (2, true)) (.bool true) (by kernel_rfl) (by kernel_rfl) (by kernel_rfl) (fun _ _ _ h => h) (fun o wq e hS => exec_pick (b := false) wq e (by kernel_rfl) (by kernel_rfl)) HS.out ?_
            refine takeG 14 (.pick (.tmp 89) (.tmp 100) (.const (Value.bool false))) (some 101) none (.bool true) (by kernel_rfl) (by kernel_rfl) (by kernel_rfl) (fun _ _ _ h => h) (fun o wq e hS => exec_pick (b := true) wq e (by kernel_rfl) (by kernel_rfl)) HS.out ?_
            refine takeG 15 (.move (.tmp 101)) (some 102) none (.bool true) (by kernel_rfl) (by kernel_rfl) (by kernel_rfl) (fun _ _ _ h => h) (fun o wq e hS => exec_move wq e (by kernel_rfl)) HS.out ?_
            refine takeG 16 (.fieldAddr 25 (.tmp 13) 1) (some 103) (some (15, true)) (.pointer (some ⟨g6, 1, none⟩)) (by kernel_rfl) (by kernel_rfl) (by kernel_rfl) (fun _ _ _ h => h) (fun o wq e hS => exec_field (u := .pointer (some ⟨g6, 0, none⟩)) wq e (by kernel_rfl) (by kernel_rfl)) HS.out ?_
            refine takeG 17 (.load 23 (.tmp 103)) (some 104) (some (15, true)) (.agg (ptA (P Z))) (by kernel_rfl) (by kernel_rfl) (by kernel_rfl) (fun _ _ _ h => h) (fun o wq e hS => exec_load (x := (.tmp 103)) e (by kernel_rfl) (load_root hS)) HS.out ?_
            refine takeG 18 (.fieldAddr 25 (.tmp 13) 0) (some 105) (some (15, true)) (.pointer (some ⟨g6, 0, none⟩)) (by kernel_rfl) (by kernel_rfl) (by kernel_rfl) (fun _ _ _ h => h) (fun o wq e hS => exec_field (u := .pointer (some ⟨g6, 0, none⟩)) wq e (by kernel_rfl) (by kernel_rfl)) HS.out ?_
            refine takeG 19 (.load 3 (.tmp 105)) (some 106) (some (15, true)) (.int .i64 (Z : Int)) (by kernel_rfl) (by kernel_rfl) (by kernel_rfl) (fun _ _ _ h => h) (fun o wq e hS => exec_load (x := (.tmp 105)) e (by kernel_rfl) (load_t hS)) HS.out ?_
            refine loneG 20 (.call ⟨.value (.func 16), #[(.tmp 106)], #[3]⟩) (some 107) (some (15, true)) (by kernel_rfl) (by kernel_rfl) (by kernel_rfl) ?_
            intro o ho hod
            refine wp_callC (f := 16) (args := #[.int .i64 (Z : Int)]) (by cases o; cases ho; kernel_rfl) (law_ptr Z _ hTL.out) ?_
            rintro e w10 ⟨rfl, b10⟩
            refine ⟨.agg (ptA (P Z)), rfl, ?_⟩
            rw [hod]
            clear hod ho
            have HS9 := Lib.hid (HS.out.new_ (b10 : Below w9.drew.heap.size w9.drew w10))
            have L9 := Lib.hid (L8.out.drew.trans (b10.mono L8.out.drew.size))
            clear b10 L8 HS
            refine ⟨fun _ => HS9.out, ?_⟩
            refine takeG 21 (.binOp .eql 23 (.tmp 104) (.tmp 107) 23) (some 108) (some (15, true)) (.bool true) (by kernel_rfl) (by kernel_rfl) (by kernel_rfl) (fun _ _ _ h => h) (fun o wq e hS => exec_bin (u1 := .agg (ptA (P Z))) (u2 := .agg (ptA (P Z))) wq e (by kernel_rfl) (by kernel_rfl) (eqG_agg _ _ _ _ _ _ (by kernel_rfl) _) (eq_ptr (P Z) _)) HS9.out ?_
            refine takeG 22 (.pick (.tmp 102) (.tmp 108) (.const (Value.bool false))) (some 109) none (.bool true) (by kernel_rfl) (by kernel_rfl) (by kernel_rfl) (fun _ _ _ h => h) (fun o wq e hS => exec_pick (b := true) wq e (by kernel_rfl) (by kernel_rfl)) HS9.out ?_
            refine lastS 23 (.assign (.tmp 109)) (some 6) (.bool true) (by kernel_rfl) (by kernel_rfl) (by kernel_rfl) HS9.out (fun o e => exec_assign _ e (by kernel_rfl)) ?_
            simp only [put_some, put_none, List.setIfInBounds_toArray, List.set_cons_succ, List.set_cons_zero]
            go_wp2_with fail
            go_ret
            exact ⟨rfl, L9.out⟩
end labelCrashes
end Go.Proofs.YtjnnmeolonbedaaDoor
