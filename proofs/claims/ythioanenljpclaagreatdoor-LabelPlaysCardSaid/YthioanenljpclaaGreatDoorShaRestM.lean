/-
  '(*sha.state).mix' by a contract: the numbers of one block are taken into the state. Conditions: the state lies in a block of its own, its numbers and the block's are below 2^32, the table of roots reads as it was laid.
-/
import Derived.Test.YthioanenljpclaaGreatDoorShaSpreadM
import Derived.Test.YthioanenljpclaaGreatDoorBytesM
namespace Go.Proofs.YthioanenljpclaaGreatDoor
set_option maxRecDepth 100000
open Go.RowKit
set_option linter.unusedVariables false

/-- the table reads as it was laid -/
def Laid (w : World) : Prop := ∀ t, t < 64 → w.cell? ⟨0, t, none⟩ = some (.int .u32 ((M.rt t : Nat) : Int))
theorem Laid.pos {w : World} (h : Laid w) : 0 < w.heap.size := block_lt_of_cell (h 0 (by omega))
theorem Laid.below {w w' : World} {B : Nat} (h : Laid w) (hb : Below B w w') (hB : 0 < B) : Laid w' := fun t ht => (hb.cell (p := ⟨0, t, none⟩) hB).trans (h t ht)
theorem Laid.only {w w' : World} {b : Nat} (h : Laid w) (hb : Only b w w') (hB : 0 < b) : Laid w' := h.below (hb.below (B := 1) (by omega) h.pos) (by omega)
theorem Laid.drewN {w : World} (h : Laid w) (n : Nat) : Laid (w.drewN n) := h
theorem Laid.alloc {w : World} (h : Laid w) (o : Obj) : Laid (w.alloc o) := h.below ((Below.refl 1 w).alloc h.pos o) (by omega)
/-- s, of which the first k numbers have those of t added -/
def plTo (s t : M.S8) (k j : Nat) : Nat := if j < k then (s.get j + t.get j) % 4294967296 else s.get j
theorem plTo_set (s t : M.S8) {k : Nat} (hk : k < 8) : (wArr 8 (plTo s t k)).setIfInBounds k (.int .u32 (((s.get k + t.get k) % 4294967296 : Nat) : Int)) = wArr 8 (plTo s t (k + 1)) := by
  rw [wArr_set hk]
  refine wArr_congr fun c hc => ?_
  unfold plTo
  by_cases e : c = k
  · subst e; rw [if_pos rfl, if_pos (by omega)]
  · rw [if_neg e]
    by_cases e2 : c < k
    · rw [if_pos e2, if_pos (by omega)]
    · rw [if_neg e2, if_neg (by omega)]
theorem plTo_done (s t : M.S8) : wArr 8 (plTo s t 8) = wArr 8 (M.plus s t).get := wArr_congr fun c hc => by
  unfold plTo
  rw [if_pos hc]
  rcases c with _ | _ | _ | _ | _ | _ | _ | _ | c <;> first | rfl | omega
theorem val_u32 {a b : Int} (h : a = b) : Value.int .u32 a = .int .u32 b := by rw [h]
def cpl (x : Nat) : Nat := 4294967295 ^^^ x
theorem cpl_lt {x : Nat} (h : x < 4294967296) : cpl x < 4294967296 := M.x32 (by omega) h
theorem cpl_eq {x : Nat} (h : x < 4294967296) : bits .xor .u32 IntKind.u32.max (x : Int) = ((cpl x : Nat) : Int) := u32_xor 4294967295 x (by omega) h

set_option maxRecDepth 100000 in
set_option maxHeartbeats 1600000 in
theorem mix_any (b : Nat) (s : M.S8) (W : Nat → Nat) (w : World) (hb : Blk w b 144 (wArr 8 s.get)) (hs : s.ok) (hW : ∀ t, t < 64 → W t < 4294967296) (hl : Laid w) (hb0 : 0 < b) :
    Calls Tryz.prog 101 #[.pointer (some ⟨b, 0, none⟩), .agg (wArr 64 W)] w fun e w' => e = .returned (.tuple #[]) ∧ Blk w' b 144 (wArr 8 (M.mixW s W).get) ∧ Only b w w' := by
  have B0 : Hid (Blk (w.alloc (.cells (wArr 64 W) 156)) b 144 (wArr 8 s.get)) := Lib.hid (hb.alloc _)
  have A0 : Hid (Blk (w.alloc (.cells (wArr 64 W) 156)) w.heap.size 156 (wArr 64 W)) := Lib.hid (Blk.new w _ _)
  have L0 : Hid (Laid (w.alloc (.cells (wArr 64 W) 156))) := Lib.hid (hl.alloc _)
  have O0 : Hid (Only b w (w.alloc (.cells (wArr 64 W) 156))) := Lib.hid ((Only.refl b w).alloc _)
  have HBL := Lib.hid hb.lt
  clear hb hl
  have q0 := B0.out.cell 0
  have q1 := B0.out.cell 1
  have q2 := B0.out.cell 2
  have q3 := B0.out.cell 3
  have q4 := B0.out.cell 4
  have q5 := B0.out.cell 5
  have q6 := B0.out.cell 6
  have q7 := B0.out.cell 7
  rw [wArr_get (by omega)] at q0 q1 q2 q3 q4 q5 q6 q7
  go_enter Tryz.func101, Tryz.ntmps101
  go_wp2_with fail
  generalize w.alloc (.cells (wArr 64 W) 156) = w1 at *
  go_quiet (fail)
  clear q0 q1 q2 q3 q4 q5 q6 q7
  have B1 : Hid (Blk (w1.drewN nq) b 144 (wArr 8 s.get)) := Lib.hid (B0.out.drewN nq)
  have A1 : Hid (Blk (w1.drewN nq) w.heap.size 156 (wArr 64 W)) := Lib.hid (A0.out.drewN nq)
  have L1 : Hid (Laid (w1.drewN nq)) := Lib.hid (L0.out.drewN nq)
  have O1 : Hid (Only b w (w1.drewN nq)) := Lib.hid (O0.out.drewN nq)
  clear B0 A0 L0 O0
  generalize w1.drewN nq = w2 at *
  generalize hh : w.heap.size = h at *
  have HH := Lib.hid hh
  clear hh
  go_wp2_with fail
  go_loopw [4, 5, 6, 7, 8, 9, 10, 11, 12, 13, 14, 47] (fun va vb vc vd ve vf vg vh _ _ _ x wr => ∃ k za zb zc zd ze zf zg zh : Nat, k ≤ 64 ∧ x = .int .i64 k ∧ va = .int .u32 za ∧ vb = .int .u32 zb ∧ vc = .int .u32 zc ∧ vd = .int .u32 zd ∧ ve = .int .u32 ze ∧ vf = .int .u32 zf ∧ vg = .int .u32 zg ∧ vh = .int .u32 zh ∧ Hid (M.rounds s W k = ⟨za, zb, zc, zd, ze, zf, zg, zh⟩) ∧ Hid (Blk wr b 144 (wArr 8 s.get)) ∧ Hid (Blk wr h 156 (wArr 64 W)) ∧ Hid (Laid wr) ∧ Hid (Only b w wr)) (fun _ _ _ _ _ _ _ _ _ _ _ x _ => 64 - (intOf x).toNat)
  case atStart => exact ⟨0, _, _, _, _, _, _, _, _, by omega, rfl, rfl, rfl, rfl, rfl, rfl, rfl, rfl, rfl, rfl, B1, A1, L1, O1⟩
  case round =>
    obtain ⟨k, za, zb, zc, zd, ze, zf, zg, zh, hk, rfl, rfl, rfl, rfl, rfl, rfl, rfl, rfl, rfl, HS, B2, A2, L2, O2⟩ := hrel
    clear B1 A1 L1 O1
    have hok := M.rounds_ok hs W k
    rw [HS.out] at hok
    obtain ⟨la, lb, lc, ld, le, lf, lg, lh⟩ := hok
    simp only at la lb lc ld le lf lg lh
    by_cases hlt : k < 64
    · have c1 : wr.cell? ⟨0, k, none⟩ = some (.int .u32 ((M.rt k : Nat) : Int)) := L2.out k hlt
      have c2 : wr.cell? ⟨h, k, none⟩ = some (.int .u32 ((W k : Nat) : Int)) := (A2.out.cell k).trans (wArr_get hlt)
      have i1 : (0 : Int) ≤ (k : Int) := by omega
      have i2 : (k : Int) < 64 := by omega
      have e1 := u32_xor _ _ (M.ror_lt 6 le) (M.ror_lt 11 le)
      have e2 : bits .xor .u32 ((M.ror ze 6 ^^^ M.ror ze 11 : Nat) : Int) ((M.ror ze 25 : Nat) : Int) = ((M.p1 ze : Nat) : Int) := u32_xor _ _ (M.x32 (M.ror_lt 6 le) (M.ror_lt 11 le)) (M.ror_lt 25 le)
      have e3 := u32_and ze zf le lf
      have e4 := cpl_eq le
      have e5 := u32_and (cpl ze) zg (cpl_lt le) lg
      have e6 : bits .xor .u32 ((ze &&& zf : Nat) : Int) ((cpl ze &&& zg : Nat) : Int) = ((M.ch ze zf zg : Nat) : Int) := u32_xor _ _ (M.a32 _ le) (M.a32 _ (cpl_lt le))
      have f1 := u32_xor _ _ (M.ror_lt 2 la) (M.ror_lt 13 la)
      have f2 : bits .xor .u32 ((M.ror za 2 ^^^ M.ror za 13 : Nat) : Int) ((M.ror za 22 : Nat) : Int) = ((M.p0 za : Nat) : Int) := u32_xor _ _ (M.x32 (M.ror_lt 2 la) (M.ror_lt 13 la)) (M.ror_lt 22 la)
      have f3 := u32_and za zb la lb
      have f4 := u32_and za zc la lc
      have f5 := u32_and zb zc lb lc
      have f6 := u32_xor _ _ (M.a32 zb la) (M.a32 zc la)
      have f7 : bits .xor .u32 (((za &&& zb) ^^^ (za &&& zc) : Nat) : Int) ((zb &&& zc : Nat) : Int) = ((M.maj za zb zc : Nat) : Int) := u32_xor _ _ (M.x32 (M.a32 zb la) (M.a32 zc la)) (M.a32 zc lb)
      go_wp2_with fail
      go_quiet ((go_at_call 105; (first | exact Calls.quiet_of_same (right_at ze 6 6 le rfl (by omega) (by omega) _) | exact Calls.quiet_of_same (right_at ze 11 11 le rfl (by omega) (by omega) _) | exact Calls.quiet_of_same (right_at ze 25 25 le rfl (by omega) (by omega) _))))
      have B3 : Hid (Blk (wr.drewN nq) b 144 (wArr 8 s.get)) := Lib.hid (B2.out.drewN nq)
      have A3 : Hid (Blk (wr.drewN nq) h 156 (wArr 64 W)) := Lib.hid (A2.out.drewN nq)
      have L3 : Hid (Laid (wr.drewN nq)) := Lib.hid (L2.out.drewN nq)
      have O3 : Hid (Only b w (wr.drewN nq)) := Lib.hid (O2.out.drewN nq)
      clear B2 A2 L2 O2 c1 c2
      generalize wr.drewN nq = w3 at *
      go_wp2_with fail
      refine (right_any za 2 la (by omega) (by omega) _).mono ?_
      rintro e w' ⟨rfl, rfl⟩
      go_wp2_with fail
      refine (right_any za 13 la (by omega) (by omega) _).mono ?_
      rintro e w' ⟨rfl, rfl⟩
      go_wp2_with fail
      refine (right_any za 22 la (by omega) (by omega) _).mono ?_
      rintro e w' ⟨rfl, rfl⟩
      go_wp2_with fail
      go_roundw
      case rel =>
        have E1 : ((M.t1 ⟨za, zb, zc, zd, ze, zf, zg, zh⟩ (M.rt k) (W k) : Nat) : Int) = (((zh : Nat) : Int) + ((M.p1 ze : Nat) : Int) + ((M.ch ze zf zg : Nat) : Int) + ((M.rt k : Nat) : Int) + ((W k : Nat) : Int)) % 4294967296 := by
          show (((((((zh + M.p1 ze) + M.ch ze zf zg) + M.rt k) + W k) % 4294967296 : Nat)) : Int) = _
          omega
        have E2 : ((M.t2 ⟨za, zb, zc, zd, ze, zf, zg, zh⟩ : Nat) : Int) = (((M.p0 za : Nat) : Int) + ((M.maj za zb zc : Nat) : Int)) % 4294967296 := by
          show (((M.p0 za + M.maj za zb zc) % 4294967296 : Nat) : Int) = _
          omega
        refine ⟨k + 1, (M.t1 ⟨za, zb, zc, zd, ze, zf, zg, zh⟩ (M.rt k) (W k) + M.t2 ⟨za, zb, zc, zd, ze, zf, zg, zh⟩) % 4294967296, za, zb, zc, (zd + M.t1 ⟨za, zb, zc, zd, ze, zf, zg, zh⟩ (M.rt k) (W k)) % 4294967296, ze, zf, zg, by omega, by go_num, val_u32 ?_, rfl, rfl, rfl, val_u32 ?_, rfl, rfl, rfl, ?_, B3, A3, L3, O3⟩
        · rw [← E1, ← E2]; omega
        · rw [← E1]; omega
        · show M.rnd (M.rounds s W k) (M.rt k) (W k) = _
          rw [HS.out]
          rfl
      case measure => simp [intOf]; omega
    · have hk64 : k = 64 := by omega
      rw [show ((k : Nat) : Int) = 64 by omega]
      subst hk64
      clear hlt
      have HP : Hid (M.mixW s W = M.plus s ⟨za, zb, zc, zd, ze, zf, zg, zh⟩) := by
        show M.plus s (M.rounds s W 64) = _
        rw [HS.out]
      clear A2
      generalize hT : (⟨za, zb, zc, zd, ze, zf, zg, zh⟩ : M.S8) = T at *
      have t0 : T.get 0 = za := by rw [← hT]; rfl
      have t1 : T.get 1 = zb := by rw [← hT]; rfl
      have t2 : T.get 2 = zc := by rw [← hT]; rfl
      have t3 : T.get 3 = zd := by rw [← hT]; rfl
      have t4 : T.get 4 = ze := by rw [← hT]; rfl
      have t5 : T.get 5 = zf := by rw [← hT]; rfl
      have t6 : T.get 6 = zg := by rw [← hT]; rfl
      have t7 : T.get 7 = zh := by rw [← hT]; rfl
      rw [← t0, ← t1, ← t2, ← t3, ← t4, ← t5, ← t6, ← t7]
      clear hT t0 t1 t2 t3 t4 t5 t6 t7 la lb lc ld le lf lg lh HS
      have P0 : Hid (Blk wr b 144 (wArr 8 (plTo s T 0))) := B2
      have G0 := O2
      clear B2 O2
      go_wp2_with fail
      have d0 : wr.cell? ⟨b, 0, none⟩ = some (.int .u32 ((s.get 0 : Nat) : Int)) := (P0.out.cell 0).trans (wArr_get (by omega))
      go_still_tail 8, (by kernel_rfl)
      change wpList _ _ _ _ _ wr.drew
      have p0 := Lib.hid (P0.out.drew)
      have g0 := Lib.hid (G0.out.drew)
      clear d0 P0 G0
      generalize wr.drew = x0 at *
      have c0 : x0.cell? ⟨b, 0, none⟩ = some (.int .u32 ((s.get 0 : Nat) : Int)) := (p0.out.cell 0).trans (wArr_get (by omega))
      have f0 := p0.out.frozen 0
      go_wp2_with fail
      have v0 : (((s.get 0 : Nat) : Int) + ((T.get 0 : Nat) : Int)) % 4294967296 = (((s.get 0 + T.get 0) % 4294967296 : Nat) : Int) := by omega
      rw [v0]
      have P1 := p0.out.set_ 0 (.int .u32 (((s.get 0 + T.get 0) % 4294967296 : Nat) : Int))
      rw [plTo_set s T (by omega)] at P1
      have P1 := Lib.hid P1
      have G1 := Lib.hid (g0.out.setCell 0 (.int .u32 (((s.get 0 + T.get 0) % 4294967296 : Nat) : Int)))
      clear p0 g0 c0 f0 v0
      generalize x0.setCell ⟨b, 0, none⟩ (.int .u32 (((s.get 0 + T.get 0) % 4294967296 : Nat) : Int)) = y1 at *
      have d1 : y1.cell? ⟨b, 1, none⟩ = some (.int .u32 ((s.get 1 : Nat) : Int)) := (P1.out.cell 1).trans (wArr_get (by omega))
      go_still_tail 8, (by kernel_rfl)
      change wpList _ _ _ _ _ y1.drew
      have p1 := Lib.hid (P1.out.drew)
      have g1 := Lib.hid (G1.out.drew)
      clear d1 P1 G1
      generalize y1.drew = x1 at *
      have c1 : x1.cell? ⟨b, 1, none⟩ = some (.int .u32 ((s.get 1 : Nat) : Int)) := (p1.out.cell 1).trans (wArr_get (by omega))
      have f1 := p1.out.frozen 1
      go_wp2_with fail
      have v1 : (((s.get 1 : Nat) : Int) + ((T.get 1 : Nat) : Int)) % 4294967296 = (((s.get 1 + T.get 1) % 4294967296 : Nat) : Int) := by omega
      rw [v1]
      have P2 := p1.out.set_ 1 (.int .u32 (((s.get 1 + T.get 1) % 4294967296 : Nat) : Int))
      rw [plTo_set s T (by omega)] at P2
      have P2 := Lib.hid P2
      have G2 := Lib.hid (g1.out.setCell 1 (.int .u32 (((s.get 1 + T.get 1) % 4294967296 : Nat) : Int)))
      clear p1 g1 c1 f1 v1
      generalize x1.setCell ⟨b, 1, none⟩ (.int .u32 (((s.get 1 + T.get 1) % 4294967296 : Nat) : Int)) = y2 at *
      have d2 : y2.cell? ⟨b, 2, none⟩ = some (.int .u32 ((s.get 2 : Nat) : Int)) := (P2.out.cell 2).trans (wArr_get (by omega))
      go_still_tail 8, (by kernel_rfl)
      change wpList _ _ _ _ _ y2.drew
      have p2 := Lib.hid (P2.out.drew)
      have g2 := Lib.hid (G2.out.drew)
      clear d2 P2 G2
      generalize y2.drew = x2 at *
      have c2 : x2.cell? ⟨b, 2, none⟩ = some (.int .u32 ((s.get 2 : Nat) : Int)) := (p2.out.cell 2).trans (wArr_get (by omega))
      have f2 := p2.out.frozen 2
      go_wp2_with fail
      have v2 : (((s.get 2 : Nat) : Int) + ((T.get 2 : Nat) : Int)) % 4294967296 = (((s.get 2 + T.get 2) % 4294967296 : Nat) : Int) := by omega
      rw [v2]
      have P3 := p2.out.set_ 2 (.int .u32 (((s.get 2 + T.get 2) % 4294967296 : Nat) : Int))
      rw [plTo_set s T (by omega)] at P3
      have P3 := Lib.hid P3
      have G3 := Lib.hid (g2.out.setCell 2 (.int .u32 (((s.get 2 + T.get 2) % 4294967296 : Nat) : Int)))
      clear p2 g2 c2 f2 v2
      generalize x2.setCell ⟨b, 2, none⟩ (.int .u32 (((s.get 2 + T.get 2) % 4294967296 : Nat) : Int)) = y3 at *
      have d3 : y3.cell? ⟨b, 3, none⟩ = some (.int .u32 ((s.get 3 : Nat) : Int)) := (P3.out.cell 3).trans (wArr_get (by omega))
      go_still_tail 8, (by kernel_rfl)
      change wpList _ _ _ _ _ y3.drew
      have p3 := Lib.hid (P3.out.drew)
      have g3 := Lib.hid (G3.out.drew)
      clear d3 P3 G3
      generalize y3.drew = x3 at *
      have c3 : x3.cell? ⟨b, 3, none⟩ = some (.int .u32 ((s.get 3 : Nat) : Int)) := (p3.out.cell 3).trans (wArr_get (by omega))
      have f3 := p3.out.frozen 3
      go_wp2_with fail
      have v3 : (((s.get 3 : Nat) : Int) + ((T.get 3 : Nat) : Int)) % 4294967296 = (((s.get 3 + T.get 3) % 4294967296 : Nat) : Int) := by omega
      rw [v3]
      have P4 := p3.out.set_ 3 (.int .u32 (((s.get 3 + T.get 3) % 4294967296 : Nat) : Int))
      rw [plTo_set s T (by omega)] at P4
      have P4 := Lib.hid P4
      have G4 := Lib.hid (g3.out.setCell 3 (.int .u32 (((s.get 3 + T.get 3) % 4294967296 : Nat) : Int)))
      clear p3 g3 c3 f3 v3
      generalize x3.setCell ⟨b, 3, none⟩ (.int .u32 (((s.get 3 + T.get 3) % 4294967296 : Nat) : Int)) = y4 at *
      have d4 : y4.cell? ⟨b, 4, none⟩ = some (.int .u32 ((s.get 4 : Nat) : Int)) := (P4.out.cell 4).trans (wArr_get (by omega))
      go_still_tail 8, (by kernel_rfl)
      change wpList _ _ _ _ _ y4.drew
      have p4 := Lib.hid (P4.out.drew)
      have g4 := Lib.hid (G4.out.drew)
      clear d4 P4 G4
      generalize y4.drew = x4 at *
      have c4 : x4.cell? ⟨b, 4, none⟩ = some (.int .u32 ((s.get 4 : Nat) : Int)) := (p4.out.cell 4).trans (wArr_get (by omega))
      have f4 := p4.out.frozen 4
      go_wp2_with fail
      have v4 : (((s.get 4 : Nat) : Int) + ((T.get 4 : Nat) : Int)) % 4294967296 = (((s.get 4 + T.get 4) % 4294967296 : Nat) : Int) := by omega
      rw [v4]
      have P5 := p4.out.set_ 4 (.int .u32 (((s.get 4 + T.get 4) % 4294967296 : Nat) : Int))
      rw [plTo_set s T (by omega)] at P5
      have P5 := Lib.hid P5
      have G5 := Lib.hid (g4.out.setCell 4 (.int .u32 (((s.get 4 + T.get 4) % 4294967296 : Nat) : Int)))
      clear p4 g4 c4 f4 v4
      generalize x4.setCell ⟨b, 4, none⟩ (.int .u32 (((s.get 4 + T.get 4) % 4294967296 : Nat) : Int)) = y5 at *
      have d5 : y5.cell? ⟨b, 5, none⟩ = some (.int .u32 ((s.get 5 : Nat) : Int)) := (P5.out.cell 5).trans (wArr_get (by omega))
      go_still_tail 8, (by kernel_rfl)
      change wpList _ _ _ _ _ y5.drew
      have p5 := Lib.hid (P5.out.drew)
      have g5 := Lib.hid (G5.out.drew)
      clear d5 P5 G5
      generalize y5.drew = x5 at *
      have c5 : x5.cell? ⟨b, 5, none⟩ = some (.int .u32 ((s.get 5 : Nat) : Int)) := (p5.out.cell 5).trans (wArr_get (by omega))
      have f5 := p5.out.frozen 5
      go_wp2_with fail
      have v5 : (((s.get 5 : Nat) : Int) + ((T.get 5 : Nat) : Int)) % 4294967296 = (((s.get 5 + T.get 5) % 4294967296 : Nat) : Int) := by omega
      rw [v5]
      have P6 := p5.out.set_ 5 (.int .u32 (((s.get 5 + T.get 5) % 4294967296 : Nat) : Int))
      rw [plTo_set s T (by omega)] at P6
      have P6 := Lib.hid P6
      have G6 := Lib.hid (g5.out.setCell 5 (.int .u32 (((s.get 5 + T.get 5) % 4294967296 : Nat) : Int)))
      clear p5 g5 c5 f5 v5
      generalize x5.setCell ⟨b, 5, none⟩ (.int .u32 (((s.get 5 + T.get 5) % 4294967296 : Nat) : Int)) = y6 at *
      have d6 : y6.cell? ⟨b, 6, none⟩ = some (.int .u32 ((s.get 6 : Nat) : Int)) := (P6.out.cell 6).trans (wArr_get (by omega))
      go_still_tail 8, (by kernel_rfl)
      change wpList _ _ _ _ _ y6.drew
      have p6 := Lib.hid (P6.out.drew)
      have g6 := Lib.hid (G6.out.drew)
      clear d6 P6 G6
      generalize y6.drew = x6 at *
      have c6 : x6.cell? ⟨b, 6, none⟩ = some (.int .u32 ((s.get 6 : Nat) : Int)) := (p6.out.cell 6).trans (wArr_get (by omega))
      have f6 := p6.out.frozen 6
      go_wp2_with fail
      have v6 : (((s.get 6 : Nat) : Int) + ((T.get 6 : Nat) : Int)) % 4294967296 = (((s.get 6 + T.get 6) % 4294967296 : Nat) : Int) := by omega
      rw [v6]
      have P7 := p6.out.set_ 6 (.int .u32 (((s.get 6 + T.get 6) % 4294967296 : Nat) : Int))
      rw [plTo_set s T (by omega)] at P7
      have P7 := Lib.hid P7
      have G7 := Lib.hid (g6.out.setCell 6 (.int .u32 (((s.get 6 + T.get 6) % 4294967296 : Nat) : Int)))
      clear p6 g6 c6 f6 v6
      generalize x6.setCell ⟨b, 6, none⟩ (.int .u32 (((s.get 6 + T.get 6) % 4294967296 : Nat) : Int)) = y7 at *
      have d7 : y7.cell? ⟨b, 7, none⟩ = some (.int .u32 ((s.get 7 : Nat) : Int)) := (P7.out.cell 7).trans (wArr_get (by omega))
      go_still_tail 8, (by kernel_rfl)
      change wpList _ _ _ _ _ y7.drew
      have p7 := Lib.hid (P7.out.drew)
      have g7 := Lib.hid (G7.out.drew)
      clear d7 P7 G7
      generalize y7.drew = x7 at *
      have c7 : x7.cell? ⟨b, 7, none⟩ = some (.int .u32 ((s.get 7 : Nat) : Int)) := (p7.out.cell 7).trans (wArr_get (by omega))
      have f7 := p7.out.frozen 7
      go_wp2_with fail
      have v7 : (((s.get 7 : Nat) : Int) + ((T.get 7 : Nat) : Int)) % 4294967296 = (((s.get 7 + T.get 7) % 4294967296 : Nat) : Int) := by omega
      rw [v7]
      have P8 := p7.out.set_ 7 (.int .u32 (((s.get 7 + T.get 7) % 4294967296 : Nat) : Int))
      rw [plTo_set s T (by omega)] at P8
      have P8 := Lib.hid P8
      have G8 := Lib.hid (g7.out.setCell 7 (.int .u32 (((s.get 7 + T.get 7) % 4294967296 : Nat) : Int)))
      clear p7 g7 c7 f7 v7
      generalize x7.setCell ⟨b, 7, none⟩ (.int .u32 (((s.get 7 + T.get 7) % 4294967296 : Nat) : Int)) = y8 at *
      go_wp2_with fail
      rw [HP.out, ← plTo_done]
      go_end0
      exact ⟨rfl, P8.out, G8.out⟩
end Go.Proofs.YthioanenljpclaaGreatDoor
namespace Go.Proofs.YthioanenljpclaaGreatDoor
set_option maxRecDepth 100000
open Go.RowKit
set_option linter.unusedVariables false

theorem RdB.place {w : World} {B n : Nat} {A : Option Addr} {X : Nat → Nat} (h : RdB w B A n X) (hn : 0 < n) : ∃ g o, A = some ⟨g, o, none⟩ ∧ g < B ∧ RdA w g o n X := by
  obtain ⟨g, o, rfl, hg, _, _⟩ := h 0 hn
  refine ⟨g, o, rfl, hg, fun j hj => ?_⟩
  obtain ⟨g', o', e, _, h3, _⟩ := h j hj
  injection e with e
  injection e with e1 e2
  subst e1; subst e2
  exact h3
theorem RdA.only {w w' : World} {g o n b : Nat} {X : Nat → Nat} (h : RdA w g o n X) (ho : Only b w w') (hne : g ≠ b) : RdA w' g o n X := fun j hj => ho.cell (h j hj) hne
theorem RdA.part {w : World} {g o n : Nat} {X : Nat → Nat} (h : RdA w g o n X) (s m : Nat) (hs : s + m ≤ n) : RdA w g (o + s) m (fun j => X (s + j)) := fun j hj => by
  rw [Nat.add_assoc]
  exact h (s + j) (by omega)
theorem isize_state : (Tryz.prog.info? 144).map (·.size) = some 8 := by kernel_rfl
theorem init_words : (#[.int .u32 1779033703, .int .u32 3144134277, .int .u32 1013904242, .int .u32 2773480762, .int .u32 1359893119, .int .u32 2600822924, .int .u32 528734635, .int .u32 1541459225] : Array Value) = wArr 8 M.init.get := by kernel_rfl

set_option maxHeartbeats 400000 in
theorem begin_any (w : World) : Calls Tryz.prog 94 #[] w fun e w' => e = .returned (.agg (wArr 8 M.init.get)) ∧ Below w.heap.size w w' := by
  have hz : ∀ w : World, (Sem.run Tryz.prog (zeroValue 144) w) = .ok (.agg #[.int .u32 0, .int .u32 0, .int .u32 0, .int .u32 0, .int .u32 0, .int .u32 0, .int .u32 0, .int .u32 0]) w := fun w => by kernel_rfl
  go_enter Tryz.func94, Tryz.ntmps94
  go_wp2_with fail
  rw [init_words]
  have HV := Lib.hid (loadVar_blk (Blk.new w 144 (wArr 8 M.init.get)) Tryz.underlying144 rfl (by rw [wArr_size]; exact isize_state))
  have L0 := Lib.hid ((Below.refl _ _).alloc (Nat.le_refl _) (.cells (wArr 8 M.init.get) 144) : Below w.heap.size w _)
  refine bodyPost_ret (results_cell rfl rfl HV.out) rfl ?_
  exact ⟨rfl, L0.out⟩

set_option maxRecDepth 100000 in
set_option maxHeartbeats 1600000 in
theorem add_any (b : Nat) (s : M.S8) (A : Option Addr) (n c : Nat) (X : Nat → Nat) (B : Nat) (w : World) (hb : Blk w b 144 (wArr 8 s.get)) (hs : s.ok) (hx : RdB w B A n X) (hX : ∀ j, X j < 256) (hB : B ≤ w.heap.size) (hne : ∀ g o, 0 < n → A = some ⟨g, o, none⟩ → g ≠ b)
    (hnc : n ≤ c) (hcm : c ≤ maxLen) (hl : Laid w) (hb0 : 0 < b) :
    Calls Tryz.prog 95 #[.pointer (some ⟨b, 0, none⟩), .slice A n c] w fun e w' => e = .returned (.tuple #[]) ∧ Blk w' b 144 (wArr 8 (M.addB s X (n / 64)).get) ∧ Only b w w' := by
  unfold maxLen at hcm
  have hA : Hid (∃ g o, g ≠ b ∧ (0 < n → A = some ⟨g, o, none⟩ ∧ g < w.heap.size ∧ RdA w g o n X)) := by
    by_cases hn : 0 < n
    · obtain ⟨g, o, rfl, h2, h3⟩ := hx.place hn
      exact ⟨g, o, hne _ _ hn rfl, fun _ => ⟨rfl, by omega, h3⟩⟩
    · exact ⟨b + 1, 0, by omega, fun h => absurd h hn⟩
  obtain ⟨g, o, hgb, hA⟩ := hA
  have HA := Lib.hid hA
  have B0 : Hid (Blk w b 144 (wArr 8 (M.addB s X 0).get)) := hb
  have L0 := Lib.hid hl
  have hbl := hb.lt
  clear hA hx hne hb hl
  go_enter Tryz.func95, Tryz.ntmps95
  go_wp2_with fail
  go_loopw [1] (fun v wr => ∃ (k m d : Nat) (A' : Option Addr), v = .slice A' m d ∧ m + 64 * k = n ∧ d + 64 * k = c ∧ (0 < m → A' = some ⟨g, o + 64 * k, none⟩) ∧ Hid (Blk wr b 144 (wArr 8 (M.addB s X k).get)) ∧ Hid (Laid wr) ∧ Hid (Only b w wr)) (fun v _ => match v with | .slice _ m _ => m | _ => 0)
  case atStart => exact ⟨0, n, c, A, rfl, by omega, by omega, fun h => (HA.out h).1, B0, L0, Only.refl b w⟩
  case round =>
    obtain ⟨k, m, d, A', rfl, hm, hd, hA', B1, L1, O1⟩ := hrel
    clear B0 L0
    by_cases hge : 64 ≤ m
    · obtain ⟨rfl⟩ := hA' (by omega)
      have t1 : (64 : Int) ≤ (m : Int) := by omega
      have t2 : (64 : Int) ≤ (d : Int) := by omega
      have hge' : 64 ≤ d := by omega
      obtain ⟨_, hgw, hrd⟩ := HA.out (by omega)
      have HR := Lib.hid ((hrd.only O1.out hgb).part (64 * k) 64 (by omega))
      have hgs : g < wr.heap.size := Nat.lt_of_lt_of_le hgw O1.out.size
      clear hrd hgw hA'
      go_wp2_with fail
      refine (spread_any g (o + 64 * k) d (fun j => X (64 * k + j)) wr (fun j => hX _) hge' (by unfold maxLen; omega) hgs HR.out).mono ?_
      rintro e w2 ⟨rfl, hb2⟩
      have B2 := Lib.hid (B1.out.below hb2 B1.out.lt)
      have L2 := Lib.hid (L1.out.below hb2 L1.out.pos)
      have O2 := Lib.hid (O1.out.trans (Only.of_below hb2 b))
      clear hb2 B1 L1 O1 HR
      go_wp2_with fail
      refine (mix_any b (M.addB s X k) (M.wd fun j => X (64 * k + j)) w2 B2.out (M.addB_ok hs X k) (fun t _ => M.wd_lt (fun j => hX _) t) L2.out hb0).mono ?_
      rintro e w3 ⟨rfl, hb3, ho3⟩
      have B3 : Hid (Blk w3 b 144 (wArr 8 (M.addB s X (k + 1)).get)) := hb3
      have L3 := Lib.hid (L2.out.only ho3 hb0)
      have O3 := Lib.hid (O2.out.trans ho3)
      clear hb3 ho3 B2 L2 O2
      go_wp2_with fail
      refine ⟨⟨k + 1, m - 64, d - 64, _, rfl, by omega, by omega, fun h => ?_, B3, L3, O3⟩, ?_⟩
      · rw [if_neg (by omega), show o + 64 * (k + 1) = o + 64 * k + 64 by omega]
      · show m - 64 < m; omega
    · have hk : k = n / 64 := by omega
      have t1 : (m : Int) < 64 := by omega
      clear hge
      go_wp2_with fail
      go_end0
      rw [← hk]
      exact ⟨rfl, B1.out, O1.out⟩
end Go.Proofs.YthioanenljpclaaGreatDoor
namespace Go.Proofs.YthioanenljpclaaGreatDoor
set_option maxRecDepth 100000
open Go Go.RowKit
set_option linter.unusedVariables false

theorem restTo_zero (n : Nat) (X : Nat → Nat) (j : Nat) (h : j < M.restN n) : (if j = n % 64 then 128 else if j < n % 64 then X (n / 64 * 64 + j) else 0) = M.restTo n X 0 j := by
  unfold M.restTo
  by_cases h1 : j = n % 64
  · rw [if_pos h1, if_neg (by omega), if_pos h1]
  · rw [if_neg h1]
    by_cases h2 : j < n % 64
    · rw [if_pos h2, if_pos h2]
    · rw [if_neg h2, if_neg h2, if_neg h1, if_neg (by omega)]
theorem restN_or (n : Nat) : M.restN n = 64 ∨ M.restN n = 128 := by
  unfold M.restN
  split
  · exact .inr rfl
  · exact .inl rfl
theorem restN_fits (n : Nat) : n % 64 + 9 ≤ M.restN n := by
  unfold M.restN
  split <;> omega
theorem restTo_set (n : Nat) (X : Nat → Nat) (k : Nat) (hk : k < 8) : (rowArr (M.restN n) (M.restTo n X k)).setIfInBounds (M.restN n - 1 - k) (.int .u8 ((((n * 8) >>> (8 * k)) % 256 : Nat) : Int)) = rowArr (M.restN n) (M.restTo n X (k + 1)) := by
  have hf := restN_fits n
  rw [rowArr_set (by omega)]
  refine rowArr_congr fun c hc => ?_
  unfold M.restTo
  by_cases e : c = M.restN n - 1 - k
  · rw [if_pos e, if_neg (by omega), if_neg (by omega), if_pos (by omega), show M.restN n - 1 - c = k by omega]
  · rw [if_neg e]
    by_cases h1 : c < n % 64
    · rw [if_pos h1, if_pos h1]
    · rw [if_neg h1, if_neg h1]
      by_cases h2 : c = n % 64
      · rw [if_pos h2, if_pos h2]
      · rw [if_neg h2, if_neg h2]
        by_cases h3 : M.restN n - k ≤ c ∧ c < M.restN n
        · rw [if_pos h3, if_pos (by omega)]
        · rw [if_neg h3, if_neg (by omega)]

set_option maxRecDepth 100000 in
set_option maxHeartbeats 1600000 in
theorem rest_any (A : Option Addr) (n c B : Nat) (X : Nat → Nat) (w : World) (hx : RdB w B A n X) (hB : B ≤ w.heap.size) (hnc : n ≤ c) (hn : n ≤ 1099511627776) :
    Calls Tryz.prog 96 #[.slice A n c] w fun e w' => e = .returned (.slice (some ⟨w.heap.size, 0, none⟩) (M.restN n) (M.restN n)) ∧ Blk w' w.heap.size 5 (rowArr (M.restN n) (M.rest n X)) ∧ Below w.heap.size w w' := by
  obtain ⟨q, hq⟩ : ∃ q, q = n / 64 := ⟨_, rfl⟩
  obtain ⟨m, hm⟩ : ∃ m, m = n % 64 := ⟨_, rfl⟩
  obtain ⟨N, hN⟩ : ∃ N, N = M.restN n := ⟨_, rfl⟩
  have hNle : N = 64 ∨ N = 128 := hN ▸ restN_or n
  have hfit : m + 9 ≤ N := by rw [hN, hm]; exact restN_fits n
  have hsub := hx.sub (lo := q * 64) hnc
  rw [show n - q * 64 = m by omega] at hsub
  have HS := Lib.hid hsub
  have e1 : (n : Int) / 64 = (q : Int) := by omega
  have hsl := fun w => slice_from A n c (q * 64) ((q : Int) * 64) (by omega) (by omega) w
  rw [show n - q * 64 = m by omega] at hsl
  have HN : Hid (N = M.restN n) := Lib.hid hN
  have HM : Hid (m = n % 64) := Lib.hid hm
  have HQ : Hid (q = n / 64) := Lib.hid hq
  have q64 : q * 64 ≤ n := by omega
  have hNif : N = if 64 < m + 1 + 8 then 128 else 64 := by rw [hN, hm]; rfl
  clear hx hsub hq hN hm
  generalize subA A c (q * 64) = S at *
  by_cases hbig : 64 < m + 1 + 8
  · rw [if_pos hbig] at hNif
    subst hNif
    have t1 : decide ((64 : Int) < (m : Int) + 1 + 8) = true := by simp; omega
    have hmk := fun W => make_bytes 128 (by omega) W 128 rfl
    have hm1 : m < 128 := by omega
    have hm2 : (m : Int) < 128 := by omega
    have BS : Hid (B ≤ w.heap.size) := Lib.hid hB
    clear hB
    go_enter Tryz.func96, Tryz.ntmps96
    have HR0 := Lib.hid (HS.out.below ((Below.refl w.heap.size w).alloc (Nat.le_refl _) (.cells (rowArr 128 fun _ => 0) 5)) BS.out)
    have L0 : Hid (Below w.heap.size w (w.alloc (.cells (rowArr 128 fun _ => 0) 5))) := Lib.hid ((Below.refl _ _).alloc (Nat.le_refl _) _)
    go_wp2_with ((with_reducible refine wpList_copyRd rfl (.tmp 21) (.tmp 22) _ _ rfl Tryz.underlying51 w.heap.size 128 m _ B S rfl rfl (fun _ => 0) (fun j => X (q * 64 + j)) (Blk.new w 5 _) HR0.out (by omega) ?_); intro w2 hb2 ho2 hs2; refine of_hid ?_)
    refine Lib.hid ?_
    have B2 : Hid (Blk w2 w.heap.size 5 (rowArr 128 (fun j => if j < m then X (q * 64 + j) else 0))) := Lib.hid hb2
    have L2 := Lib.hid (L0.out.trans (ho2.below (Nat.le_refl _) (by simp)))
    clear hb2 ho2 hs2 HR0 L0 hmk hsl
    have c0 : w2.cell? ⟨w.heap.size, m, none⟩ = some (.int .u8 (((if m < m then X (q * 64 + m) else 0 : Nat)) : Int)) := (B2.out.cell m).trans (rowArr_get hm1)
    have f0 := B2.out.frozen m
    generalize (if m < m then X (q * 64 + m) else 0) = z0 at c0
    go_wp2_with fail
    have B3 : Hid (Blk (w2.setCell ⟨w.heap.size, m, none⟩ (.int .u8 128)) w.heap.size 5 (rowArr 128 (M.restTo n X 0))) := by
      have h := B2.out.set_ m (.int .u8 (((128 : Nat) : Nat) : Int))
      rw [rowArr_set hm1] at h
      have e : rowArr 128 (M.restTo n X 0) = rowArr 128 (fun j => if j = m then 128 else if j < m then X (q * 64 + j) else 0) := rowArr_congr fun j hj => by
        rw [HM.out, HQ.out]
        exact (restTo_zero n X j (by rw [← HN.out]; exact hj)).symm
      rw [e]
      exact h
    have L3 := Lib.hid (L2.out.setCell (p := ⟨w.heap.size, m, none⟩) (Nat.le_refl _) (.int .u8 128))
    clear B2 L2 c0 f0
    generalize w2.setCell ⟨w.heap.size, m, none⟩ (.int .u8 128) = w3 at *
    generalize hh : w.heap.size = h at *
    have HH := Lib.hid hh
    clear hh
    go_loopw [7, 32] (fun _ x wr => ∃ k : Nat, k ≤ 8 ∧ x = .int .i64 k ∧ Hid (Blk wr h 5 (rowArr 128 (M.restTo n X k))) ∧ Hid (Below h w wr)) (fun _ x _ => 8 - (intOf x).toNat)
    case atStart => exact ⟨0, by omega, rfl, B3, L3⟩
    case round =>
      obtain ⟨k, hk, rfl, B4, L4⟩ := hrel
      clear B3 L3
      by_cases hlt : k < 8
      · have i1 : (0 : Int) ≤ (k : Int) := by omega
        have i2 : (k : Int) < 8 := by omega
        have a1 : IntKind.i64.wrap (127 - (k : Int)) = 127 - (k : Int) := by rw [IntKind.wrap_i64]; omega
        have a2 : (k : Int) ≤ 127 := by omega
        have a3 : 127 - (k : Int) < 128 := by omega
        have a4 : (127 - (k : Int)).toNat = 127 - k := by omega
        have a5 : min (8 * k) 64 = 8 * k := by omega
        have c1 : wr.cell? ⟨h, 127 - k, none⟩ = some (.int .u8 ((M.restTo n X k (127 - k) : Nat) : Int)) := (B4.out.cell _).trans (rowArr_get (by omega))
        have f1 := B4.out.frozen (127 - k)
        go_wp2_with fail
        have ev : (n : Int) * 8 / 2 ^ (8 * k) % 256 = ((((n * 8) >>> (8 * k)) % 256 : Nat) : Int) := by
          rw [Nat.shiftRight_eq_div_pow, Int.natCast_emod, Int.natCast_ediv, Int.natCast_pow, Int.natCast_mul]; rfl
        rw [ev]
        have B5 : Hid (Blk (wr.setCell ⟨h, 127 - k, none⟩ (.int .u8 ((((n * 8) >>> (8 * k)) % 256 : Nat) : Int))) h 5 (rowArr 128 (M.restTo n X (k + 1)))) := by
          have h5 := restTo_set n X k hlt
          rw [← HN.out] at h5
          have h6 := B4.out.set_ (127 - k) (.int .u8 ((((n * 8) >>> (8 * k)) % 256 : Nat) : Int))
          rw [h5] at h6
          exact Lib.hid h6
        have L5 := Lib.hid (L4.out.setCell (p := ⟨h, 127 - k, none⟩) (Nat.le_refl _) (.int .u8 ((((n * 8) >>> (8 * k)) % 256 : Nat) : Int)))
        clear B4 L4 c1 f1
        go_roundw
        case rel => exact ⟨k + 1, by omega, by go_num, B5, L5⟩
        case measure => simp [intOf]; omega
      · obtain rfl : k = 8 := by omega
        clear hlt
        go_wp2_with fail
        go_ret
        rw [HH.out, ← HN.out]
        exact ⟨rfl, B4.out, L4.out⟩
  · rw [if_neg hbig] at hNif
    subst hNif
    have t1 : decide ((64 : Int) < (m : Int) + 1 + 8) = false := by simp; omega
    have hmk := fun W => make_bytes 64 (by omega) W 64 rfl
    have hm1 : m < 64 := by omega
    have hm2 : (m : Int) < 64 := by omega
    have BS : Hid (B ≤ w.heap.size) := Lib.hid hB
    clear hB
    go_enter Tryz.func96, Tryz.ntmps96
    have HR0 := Lib.hid (HS.out.below ((Below.refl w.heap.size w).alloc (Nat.le_refl _) (.cells (rowArr 64 fun _ => 0) 5)) BS.out)
    have L0 : Hid (Below w.heap.size w (w.alloc (.cells (rowArr 64 fun _ => 0) 5))) := Lib.hid ((Below.refl _ _).alloc (Nat.le_refl _) _)
    go_wp2_with ((with_reducible refine wpList_copyRd rfl (.tmp 21) (.tmp 22) _ _ rfl Tryz.underlying51 w.heap.size 64 m _ B S rfl rfl (fun _ => 0) (fun j => X (q * 64 + j)) (Blk.new w 5 _) HR0.out (by omega) ?_); intro w2 hb2 ho2 hs2; refine of_hid ?_)
    refine Lib.hid ?_
    have B2 : Hid (Blk w2 w.heap.size 5 (rowArr 64 (fun j => if j < m then X (q * 64 + j) else 0))) := Lib.hid hb2
    have L2 := Lib.hid (L0.out.trans (ho2.below (Nat.le_refl _) (by simp)))
    clear hb2 ho2 hs2 HR0 L0 hmk hsl
    have c0 : w2.cell? ⟨w.heap.size, m, none⟩ = some (.int .u8 (((if m < m then X (q * 64 + m) else 0 : Nat)) : Int)) := (B2.out.cell m).trans (rowArr_get hm1)
    have f0 := B2.out.frozen m
    generalize (if m < m then X (q * 64 + m) else 0) = z0 at c0
    go_wp2_with fail
    have B3 : Hid (Blk (w2.setCell ⟨w.heap.size, m, none⟩ (.int .u8 128)) w.heap.size 5 (rowArr 64 (M.restTo n X 0))) := by
      have h := B2.out.set_ m (.int .u8 (((128 : Nat) : Nat) : Int))
      rw [rowArr_set hm1] at h
      have e : rowArr 64 (M.restTo n X 0) = rowArr 64 (fun j => if j = m then 128 else if j < m then X (q * 64 + j) else 0) := rowArr_congr fun j hj => by
        rw [HM.out, HQ.out]
        exact (restTo_zero n X j (by rw [← HN.out]; exact hj)).symm
      rw [e]
      exact h
    have L3 := Lib.hid (L2.out.setCell (p := ⟨w.heap.size, m, none⟩) (Nat.le_refl _) (.int .u8 128))
    clear B2 L2 c0 f0
    generalize w2.setCell ⟨w.heap.size, m, none⟩ (.int .u8 128) = w3 at *
    generalize hh : w.heap.size = h at *
    have HH := Lib.hid hh
    clear hh
    go_loopw [7, 32] (fun _ x wr => ∃ k : Nat, k ≤ 8 ∧ x = .int .i64 k ∧ Hid (Blk wr h 5 (rowArr 64 (M.restTo n X k))) ∧ Hid (Below h w wr)) (fun _ x _ => 8 - (intOf x).toNat)
    case atStart => exact ⟨0, by omega, rfl, B3, L3⟩
    case round =>
      obtain ⟨k, hk, rfl, B4, L4⟩ := hrel
      clear B3 L3
      by_cases hlt : k < 8
      · have i1 : (0 : Int) ≤ (k : Int) := by omega
        have i2 : (k : Int) < 8 := by omega
        have a1 : IntKind.i64.wrap (63 - (k : Int)) = 63 - (k : Int) := by rw [IntKind.wrap_i64]; omega
        have a2 : (k : Int) ≤ 63 := by omega
        have a3 : 63 - (k : Int) < 64 := by omega
        have a4 : (63 - (k : Int)).toNat = 63 - k := by omega
        have a5 : min (8 * k) 64 = 8 * k := by omega
        have c1 : wr.cell? ⟨h, 63 - k, none⟩ = some (.int .u8 ((M.restTo n X k (63 - k) : Nat) : Int)) := (B4.out.cell _).trans (rowArr_get (by omega))
        have f1 := B4.out.frozen (63 - k)
        go_wp2_with fail
        have ev : (n : Int) * 8 / 2 ^ (8 * k) % 256 = ((((n * 8) >>> (8 * k)) % 256 : Nat) : Int) := by
          rw [Nat.shiftRight_eq_div_pow, Int.natCast_emod, Int.natCast_ediv, Int.natCast_pow, Int.natCast_mul]; rfl
        rw [ev]
        have B5 : Hid (Blk (wr.setCell ⟨h, 63 - k, none⟩ (.int .u8 ((((n * 8) >>> (8 * k)) % 256 : Nat) : Int))) h 5 (rowArr 64 (M.restTo n X (k + 1)))) := by
          have h5 := restTo_set n X k hlt
          rw [← HN.out] at h5
          have h6 := B4.out.set_ (63 - k) (.int .u8 ((((n * 8) >>> (8 * k)) % 256 : Nat) : Int))
          rw [h5] at h6
          exact Lib.hid h6
        have L5 := Lib.hid (L4.out.setCell (p := ⟨h, 63 - k, none⟩) (Nat.le_refl _) (.int .u8 ((((n * 8) >>> (8 * k)) % 256 : Nat) : Int)))
        clear B4 L4 c1 f1
        go_roundw
        case rel => exact ⟨k + 1, by omega, by go_num, B5, L5⟩
        case measure => simp [intOf]; omega
      · obtain rfl : k = 8 := by omega
        clear hlt
        go_wp2_with fail
        go_ret
        rw [HH.out, ← HN.out]
        exact ⟨rfl, B4.out, L4.out⟩
end Go.Proofs.YthioanenljpclaaGreatDoor
