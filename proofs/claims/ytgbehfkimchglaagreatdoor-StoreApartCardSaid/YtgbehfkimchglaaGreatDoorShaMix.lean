/-
 '(*sha.state).mix' by a contract: the numbers of one block are taken into the state. Conditions: the state lies in a block of its own, its numbers and the block's are below 2^32, the table of roots reads as it was laid.
-/
import Derived.Test.YtgbehfkimchglaaGreatDoorShaSpreadM
namespace Go.Proofs.YtgbehfkimchglaaGreatDoor
set_option maxRecDepth 100000
open Go.RowKit
set_option linter.unusedVariables false
def Laid (w : World) : Prop := ∀ t, t < 64 → w.cell? ⟨0, t, none⟩ = some (.int .u32 ((M.rt t : Nat) : Int))
theorem Laid.pos {w : World} (h : Laid w) : 0 < w.heap.size := block_lt_of_cell (h 0 (by omega))
theorem Laid.below {w w' : World} {B : Nat} (h : Laid w) (hb : Below B w w') (hB : 0 < B) : Laid w' := fun t ht => (hb.cell (p := ⟨0, t, none⟩) hB).trans (h t ht)
theorem Laid.only {w w' : World} {b : Nat} (h : Laid w) (hb : Only b w w') (hB : 0 < b) : Laid w' := h.below (hb.below (B := 1) (by omega) h.pos) (by omega)
theorem Laid.drewN {w : World} (h : Laid w) (n : Nat) : Laid (w.drewN n) := h
theorem Laid.alloc {w : World} (h : Laid w) (o : Obj) : Laid (w.alloc o) := h.below ((Below.refl 1 w).alloc h.pos o) (by omega)
def plTo (s t : M.S8) (k j : Nat) : Nat := if j < k then (s.get j + t.get j) % 4294967296 else s.get j
theorem plTo_set (s t : M.S8) {k : Nat} (hk : k < 8) : (wArr 8 (plTo s t k)).setIfInBounds k (.int .u32 (((s.get k + t.get k) % 4294967296 : Nat) : Int)) = wArr 8 (plTo s t (k + 1)) := by
 rw [wArr_set hk]
 refine wArr_congr fun c hc => ?_
 unfold plTo
 by_cases e : c = k
 ·subst e; rw [if_pos rfl, if_pos (by omega)]
 ·rw [if_neg e]
  by_cases e2 : c < k
  ·rw [if_pos e2, if_pos (by omega)]
  ·rw [if_neg e2, if_neg (by omega)]
theorem plTo_done (s t : M.S8) : wArr 8 (plTo s t 8) = wArr 8 (M.plus s t).get := wArr_congr fun c hc => by
 unfold plTo
 rw [if_pos hc]
 rcases c with _ | _ | _ | _ | _ | _ | _ | _ | c <;> first | rfl | omega
theorem only_below {B b : Nat} {a w : World} (h : Only b a w) (hB : B ≤ b) (hs : B ≤ a.heap.size) : Below B a w := h.below hB hs
theorem val_u32 {a b : Int} (h : a = b) : Value.int .u32 a = .int .u32 b := by rw [h]
def cpl (x : Nat) : Nat := 4294967295 ^^^ x
theorem cpl_lt {x : Nat} (h : x < 4294967296) : cpl x < 4294967296 := M.x32 (by omega) h
theorem cpl_eq {x : Nat} (h : x < 4294967296) : bits .xor .u32 IntKind.u32.max (x : Int) = ((cpl x : Nat) : Int) := u32_xor 4294967295 x (by omega) h
set_option maxRecDepth 100000 in
set_option maxHeartbeats 1600000 in
theorem mix_any (b : Nat) (s : M.S8) (W : Nat → Nat) (w : World) (hb : Blk w b 194 (wArr 8 s.get)) (hs : s.ok) (hW : ∀ t, t < 64 → W t < 4294967296) (hl : Laid w) (hb0 : 0 < b) :
  Calls Tryz.prog 170 #[.pointer (some ⟨b, 0, none⟩), .agg (wArr 64 W)] w fun e w' => e = .returned (.tuple #[]) ∧ Blk w' b 194 (wArr 8 (M.mixW s W).get) ∧ Only b w w' := by
 have B0 : Hid (Blk (w.alloc (.cells (wArr 64 W) 254)) b 194 (wArr 8 s.get)) := Lib.hid (hb.alloc _)
 have A0 : Hid (Blk (w.alloc (.cells (wArr 64 W) 254)) w.heap.size 254 (wArr 64 W)) := Lib.hid (Blk.new w _ _)
 have L0 : Hid (Laid (w.alloc (.cells (wArr 64 W) 254))) := Lib.hid (hl.alloc _)
 have O0 : Hid (Only b w (w.alloc (.cells (wArr 64 W) 254))) := Lib.hid ((Only.refl b w).alloc _)
 have HBL := Lib.hid hb.lt
 clear hb hl
 have q0 := B0.out.cell 0
 have q1 := B0.out.cell 1
 have q2 := B0.out.cell 2
 have q3 := B0.out.cell 3
 have q4 := B0.out.cell 4
 have q5 := B0.out.cell 5
 have q6 := B0.out.cell 6
 have q7 := B0.out.cell 7
 rw [wArr_get (by omega)] at q0 q1 q2 q3 q4 q5 q6 q7
 go_enter Tryz.func170, Tryz.ntmps170
 go_wp2_with fail
 generalize w.alloc (.cells (wArr 64 W) 254) = w1 at *
 go_quiet (fail)
 clear q0 q1 q2 q3 q4 q5 q6 q7
 have B1 : Hid (Blk (w1.drewN nq) b 194 (wArr 8 s.get)) := Lib.hid (B0.out.drewN nq)
 have A1 : Hid (Blk (w1.drewN nq) w.heap.size 254 (wArr 64 W)) := Lib.hid (A0.out.drewN nq)
 have L1 : Hid (Laid (w1.drewN nq)) := Lib.hid (L0.out.drewN nq)
 have O1 : Hid (Only b w (w1.drewN nq)) := Lib.hid (O0.out.drewN nq)
 clear B0 A0 L0 O0
 generalize w1.drewN nq = w2 at *
 generalize hh : w.heap.size = h at *
 have HH := Lib.hid hh
 clear hh
 go_wp2_with fail
 go_loopw [4, 5, 6, 7, 8, 9, 10, 11, 12, 13, 14, 47] (fun va vb vc vd ve vf vg vh _ _ _ x wr => ∃ k za zb zc zd ze zf zg zh : Nat, k ≤ 64 ∧ x = .int .i64 k ∧ va = .int .u32 za ∧ vb = .int .u32 zb ∧ vc = .int .u32 zc ∧ vd = .int .u32 zd ∧ ve = .int .u32 ze ∧ vf = .int .u32 zf ∧ vg = .int .u32 zg ∧ vh = .int .u32 zh ∧ Hid (M.rounds s W k = ⟨za, zb, zc, zd, ze, zf, zg, zh⟩) ∧ Hid (Blk wr b 194 (wArr 8 s.get)) ∧ Hid (Blk wr h 254 (wArr 64 W)) ∧ Hid (Laid wr) ∧ Hid (Only b w wr)) (fun _ _ _ _ _ _ _ _ _ _ _ x _ => 64 - (intOf x).toNat)
 case atStart => exact ⟨0, _, _, _, _, _, _, _, _, by omega, rfl, rfl, rfl, rfl, rfl, rfl, rfl, rfl, rfl, rfl, B1, A1, L1, O1⟩
 case round =>
  obtain ⟨k, za, zb, zc, zd, ze, zf, zg, zh, hk, rfl, rfl, rfl, rfl, rfl, rfl, rfl, rfl, rfl, HS, B2, A2, L2, O2⟩ := hrel
  clear B1 A1 L1 O1
  have hok := M.rounds_ok hs W k
  rw [HS.out] at hok
  obtain ⟨la, lb, lc, ld, le, lf, lg, lh⟩ := hok
  simp only at la lb lc ld le lf lg lh
  by_cases hlt : k < 64
  ·have c1 : wr.cell? ⟨0, k, none⟩ = some (.int .u32 ((M.rt k : Nat) : Int)) := L2.out k hlt
   have c2 : wr.cell? ⟨h, k, none⟩ = some (.int .u32 ((W k : Nat) : Int)) := (A2.out.cell k).trans (wArr_get hlt)
   have i1 : (0 : Int) ≤ (k : Int) := by omega
   have i2 : (k : Int) < 64 := by omega
   have e1 := u32_xor _ _ (M.ror_lt 6 le) (M.ror_lt 11 le)
   have e2 : bits .xor .u32 ((M.ror ze 6 ^^^ M.ror ze 11 : Nat) : Int) ((M.ror ze 25 : Nat) : Int) = ((M.p1 ze : Nat) : Int) := u32_xor _ _ (M.x32 (M.ror_lt 6 le) (M.ror_lt 11 le)) (M.ror_lt 25 le)
   have e3 := u32_and ze zf le lf
   have e4 := cpl_eq le
   have e5 := u32_and (cpl ze) zg (cpl_lt le) lg
   have e6 : bits .xor .u32 ((ze &&& zf : Nat) : Int) ((cpl ze &&& zg : Nat) : Int) = ((M.ch ze zf zg : Nat) : Int) := u32_xor _ _ (M.a32 _ le) (M.a32 _ (cpl_lt le))
   have f1 := u32_xor _ _ (M.ror_lt 2 la) (M.ror_lt 13 la)
   have f2 : bits .xor .u32 ((M.ror za 2 ^^^ M.ror za 13 : Nat) : Int) ((M.ror za 22 : Nat) : Int) = ((M.p0 za : Nat) : Int) := u32_xor _ _ (M.x32 (M.ror_lt 2 la) (M.ror_lt 13 la)) (M.ror_lt 22 la)
   have f3 := u32_and za zb la lb
   have f4 := u32_and za zc la lc
   have f5 := u32_and zb zc lb lc
   have f6 := u32_xor _ _ (M.a32 zb la) (M.a32 zc la)
   have f7 : bits .xor .u32 (((za &&& zb) ^^^ (za &&& zc) : Nat) : Int) ((zb &&& zc : Nat) : Int) = ((M.maj za zb zc : Nat) : Int) := u32_xor _ _ (M.x32 (M.a32 zb la) (M.a32 zc la)) (M.a32 zc lb)
   go_wp2_with fail
   go_quiet ((go_at_call 202; (first | exact Calls.quiet_of_same (right_at ze 6 6 le rfl (by omega) (by omega) _) | exact Calls.quiet_of_same (right_at ze 11 11 le rfl (by omega) (by omega) _) | exact Calls.quiet_of_same (right_at ze 25 25 le rfl (by omega) (by omega) _))))
   have B3 : Hid (Blk (wr.drewN nq) b 194 (wArr 8 s.get)) := Lib.hid (B2.out.drewN nq)
   have A3 : Hid (Blk (wr.drewN nq) h 254 (wArr 64 W)) := Lib.hid (A2.out.drewN nq)
   have L3 : Hid (Laid (wr.drewN nq)) := Lib.hid (L2.out.drewN nq)
   have O3 : Hid (Only b w (wr.drewN nq)) := Lib.hid (O2.out.drewN nq)
   clear B2 A2 L2 O2 c1 c2
   generalize wr.drewN nq = w3 at *
   go_wp2_with fail
   refine (right_any za 2 la (by omega) (by omega) _).mono ?_
   rintro e w' ⟨rfl, rfl⟩
   go_wp2_with fail
   refine (right_any za 13 la (by omega) (by omega) _).mono ?_
   rintro e w' ⟨rfl, rfl⟩
   go_wp2_with fail
   refine (right_any za 22 la (by omega) (by omega) _).mono ?_
   rintro e w' ⟨rfl, rfl⟩
   go_wp2_with fail
   go_roundw
   case rel =>
    have E1 : ((M.t1 ⟨za, zb, zc, zd, ze, zf, zg, zh⟩ (M.rt k) (W k) : Nat) : Int) = (((zh : Nat) : Int) + ((M.p1 ze : Nat) : Int) + ((M.ch ze zf zg : Nat) : Int) + ((M.rt k : Nat) : Int) + ((W k : Nat) : Int)) % 4294967296 := by
     show (((((((zh + M.p1 ze) + M.ch ze zf zg) + M.rt k) + W k) % 4294967296 : Nat)) : Int) = _
     omega
    have E2 : ((M.t2 ⟨za, zb, zc, zd, ze, zf, zg, zh⟩ : Nat) : Int) = (((M.p0 za : Nat) : Int) + ((M.maj za zb zc : Nat) : Int)) % 4294967296 := by
     show (((M.p0 za + M.maj za zb zc) % 4294967296 : Nat) : Int) = _
     omega
    refine ⟨k + 1, (M.t1 ⟨za, zb, zc, zd, ze, zf, zg, zh⟩ (M.rt k) (W k) + M.t2 ⟨za, zb, zc, zd, ze, zf, zg, zh⟩) % 4294967296, za, zb, zc, (zd + M.t1 ⟨za, zb, zc, zd, ze, zf, zg, zh⟩ (M.rt k) (W k)) % 4294967296, ze, zf, zg, by omega, by go_num, val_u32 ?_, rfl, rfl, rfl, val_u32 ?_, rfl, rfl, rfl, ?_, B3, A3, L3, O3⟩
    ·rw [← E1, ← E2]; omega
    ·rw [← E1]; omega
    ·show M.rnd (M.rounds s W k) (M.rt k) (W k) = _
     rw [HS.out]
     rfl
   case measure => simp [intOf]; omega
  ·have hk64 : k = 64 := by omega
   rw [show ((k : Nat) : Int) = 64 by omega]
   subst hk64
   clear hlt
   have HP : Hid (M.mixW s W = M.plus s ⟨za, zb, zc, zd, ze, zf, zg, zh⟩) := by
    show M.plus s (M.rounds s W 64) = _
    rw [HS.out]
   clear A2
   generalize hT : (⟨za, zb, zc, zd, ze, zf, zg, zh⟩ : M.S8) = T at *
   have t0 : T.get 0 = za := by rw [← hT]; rfl
   have t1 : T.get 1 = zb := by rw [← hT]; rfl
   have t2 : T.get 2 = zc := by rw [← hT]; rfl
   have t3 : T.get 3 = zd := by rw [← hT]; rfl
   have t4 : T.get 4 = ze := by rw [← hT]; rfl
   have t5 : T.get 5 = zf := by rw [← hT]; rfl
   have t6 : T.get 6 = zg := by rw [← hT]; rfl
   have t7 : T.get 7 = zh := by rw [← hT]; rfl
   rw [← t0, ← t1, ← t2, ← t3, ← t4, ← t5, ← t6, ← t7]
   clear hT t0 t1 t2 t3 t4 t5 t6 t7 la lb lc ld le lf lg lh HS
   have P0 : Hid (Blk wr b 194 (wArr 8 (plTo s T 0))) := B2
   have G0 := O2
   clear B2 O2
   go_wp2_with fail
   have d0 : wr.cell? ⟨b, 0, none⟩ = some (.int .u32 ((s.get 0 : Nat) : Int)) := (P0.out.cell 0).trans (wArr_get (by omega))
   go_still_tail 8, (by kernel_rfl)
   change wpList _ _ _ _ _ wr.drew
   have p0 := Lib.hid (P0.out.drew)
   have g0 := Lib.hid (G0.out.drew)
   clear d0 P0 G0
   generalize wr.drew = x0 at *
   have c0 : x0.cell? ⟨b, 0, none⟩ = some (.int .u32 ((s.get 0 : Nat) : Int)) := (p0.out.cell 0).trans (wArr_get (by omega))
   have f0 := p0.out.frozen 0
   go_wp2_with fail
   have v0 : (((s.get 0 : Nat) : Int) + ((T.get 0 : Nat) : Int)) % 4294967296 = (((s.get 0 + T.get 0) % 4294967296 : Nat) : Int) := by omega
   rw [v0]
   have P1 := p0.out.set_ 0 (.int .u32 (((s.get 0 + T.get 0) % 4294967296 : Nat) : Int))
   rw [plTo_set s T (by omega)] at P1
   have P1 := Lib.hid P1
   have G1 := Lib.hid (g0.out.setCell 0 (.int .u32 (((s.get 0 + T.get 0) % 4294967296 : Nat) : Int)))
   clear p0 g0 c0 f0 v0
   generalize x0.setCell ⟨b, 0, none⟩ (.int .u32 (((s.get 0 + T.get 0) % 4294967296 : Nat) : Int)) = y1 at *
   have d1 : y1.cell? ⟨b, 1, none⟩ = some (.int .u32 ((s.get 1 : Nat) : Int)) := (P1.out.cell 1).trans (wArr_get (by omega))
   go_still_tail 8, (by kernel_rfl)
   change wpList _ _ _ _ _ y1.drew
   have p1 := Lib.hid (P1.out.drew)
   have g1 := Lib.hid (G1.out.drew)
   clear d1 P1 G1
   generalize y1.drew = x1 at *
   have c1 : x1.cell? ⟨b, 1, none⟩ = some (.int .u32 ((s.get 1 : Nat) : Int)) := (p1.out.cell 1).trans (wArr_get (by omega))
   have f1 := p1.out.frozen 1
   go_wp2_with fail
   have v1 : (((s.get 1 : Nat) : Int) + ((T.get 1 : Nat) : Int)) % 4294967296 = (((s.get 1 + T.get 1) % 4294967296 : Nat) : Int) := by omega
   rw [v1]
   have P2 := p1.out.set_ 1 (.int .u32 (((s.get 1 + T.get 1) % 4294967296 : Nat) : Int))
   rw [plTo_set s T (by omega)] at P2
   have P2 := Lib.hid P2
   have G2 := Lib.hid (g1.out.setCell 1 (.int .u32 (((s.get 1 + T.get 1) % 4294967296 : Nat) : Int)))
   clear p1 g1 c1 f1 v1
   generalize x1.setCell ⟨b, 1, none⟩ (.int .u32 (((s.get 1 + T.get 1) % 4294967296 : Nat) : Int)) = y2 at *
   have d2 : y2.cell? ⟨b, 2, none⟩ = some (.int .u32 ((s.get 2 : Nat) : Int)) := (P2.out.cell 2).trans (wArr_get (by omega))
   go_still_tail 8, (by kernel_rfl)
   change wpList _ _ _ _ _ y2.drew
   have p2 := Lib.hid (P2.out.drew)
   have g2 := Lib.hid (G2.out.drew)
   clear d2 P2 G2
   generalize y2.drew = x2 at *
   have c2 : x2.cell? ⟨b, 2, none⟩ = some (.int .u32 ((s.get 2 : Nat) : Int)) := (p2.out.cell 2).trans (wArr_get (by omega))
   have f2 := p2.out.frozen 2
   go_wp2_with fail
   have v2 : (((s.get 2 : Nat) : Int) + ((T.get 2 : Nat) : Int)) % 4294967296 = (((s.get 2 + T.get 2) % 4294967296 : Nat) : Int) := by omega
   rw [v2]
   have P3 := p2.out.set_ 2 (.int .u32 (((s.get 2 + T.get 2) % 4294967296 : Nat) : Int))
   rw [plTo_set s T (by omega)] at P3
   have P3 := Lib.hid P3
   have G3 := Lib.hid (g2.out.setCell 2 (.int .u32 (((s.get 2 + T.get 2) % 4294967296 : Nat) : Int)))
   clear p2 g2 c2 f2 v2
   generalize x2.setCell ⟨b, 2, none⟩ (.int .u32 (((s.get 2 + T.get 2) % 4294967296 : Nat) : Int)) = y3 at *
   have d3 : y3.cell? ⟨b, 3, none⟩ = some (.int .u32 ((s.get 3 : Nat) : Int)) := (P3.out.cell 3).trans (wArr_get (by omega))
   go_still_tail 8, (by kernel_rfl)
   change wpList _ _ _ _ _ y3.drew
   have p3 := Lib.hid (P3.out.drew)
   have g3 := Lib.hid (G3.out.drew)
   clear d3 P3 G3
   generalize y3.drew = x3 at *
   have c3 : x3.cell? ⟨b, 3, none⟩ = some (.int .u32 ((s.get 3 : Nat) : Int)) := (p3.out.cell 3).trans (wArr_get (by omega))
   have f3 := p3.out.frozen 3
   go_wp2_with fail
   have v3 : (((s.get 3 : Nat) : Int) + ((T.get 3 : Nat) : Int)) % 4294967296 = (((s.get 3 + T.get 3) % 4294967296 : Nat) : Int) := by omega
   rw [v3]
   have P4 := p3.out.set_ 3 (.int .u32 (((s.get 3 + T.get 3) % 4294967296 : Nat) : Int))
   rw [plTo_set s T (by omega)] at P4
   have P4 := Lib.hid P4
   have G4 := Lib.hid (g3.out.setCell 3 (.int .u32 (((s.get 3 + T.get 3) % 4294967296 : Nat) : Int)))
   clear p3 g3 c3 f3 v3
   generalize x3.setCell ⟨b, 3, none⟩ (.int .u32 (((s.get 3 + T.get 3) % 4294967296 : Nat) : Int)) = y4 at *
   have d4 : y4.cell? ⟨b, 4, none⟩ = some (.int .u32 ((s.get 4 : Nat) : Int)) := (P4.out.cell 4).trans (wArr_get (by omega))
   go_still_tail 8, (by kernel_rfl)
   change wpList _ _ _ _ _ y4.drew
   have p4 := Lib.hid (P4.out.drew)
   have g4 := Lib.hid (G4.out.drew)
   clear d4 P4 G4
   generalize y4.drew = x4 at *
   have c4 : x4.cell? ⟨b, 4, none⟩ = some (.int .u32 ((s.get 4 : Nat) : Int)) := (p4.out.cell 4).trans (wArr_get (by omega))
   have f4 := p4.out.frozen 4
   go_wp2_with fail
   have v4 : (((s.get 4 : Nat) : Int) + ((T.get 4 : Nat) : Int)) % 4294967296 = (((s.get 4 + T.get 4) % 4294967296 : Nat) : Int) := by omega
   rw [v4]
   have P5 := p4.out.set_ 4 (.int .u32 (((s.get 4 + T.get 4) % 4294967296 : Nat) : Int))
   rw [plTo_set s T (by omega)] at P5
   have P5 := Lib.hid P5
   have G5 := Lib.hid (g4.out.setCell 4 (.int .u32 (((s.get 4 + T.get 4) % 4294967296 : Nat) : Int)))
   clear p4 g4 c4 f4 v4
   generalize x4.setCell ⟨b, 4, none⟩ (.int .u32 (((s.get 4 + T.get 4) % 4294967296 : Nat) : Int)) = y5 at *
   have d5 : y5.cell? ⟨b, 5, none⟩ = some (.int .u32 ((s.get 5 : Nat) : Int)) := (P5.out.cell 5).trans (wArr_get (by omega))
   go_still_tail 8, (by kernel_rfl)
   change wpList _ _ _ _ _ y5.drew
   have p5 := Lib.hid (P5.out.drew)
   have g5 := Lib.hid (G5.out.drew)
   clear d5 P5 G5
   generalize y5.drew = x5 at *
   have c5 : x5.cell? ⟨b, 5, none⟩ = some (.int .u32 ((s.get 5 : Nat) : Int)) := (p5.out.cell 5).trans (wArr_get (by omega))
   have f5 := p5.out.frozen 5
   go_wp2_with fail
   have v5 : (((s.get 5 : Nat) : Int) + ((T.get 5 : Nat) : Int)) % 4294967296 = (((s.get 5 + T.get 5) % 4294967296 : Nat) : Int) := by omega
   rw [v5]
   have P6 := p5.out.set_ 5 (.int .u32 (((s.get 5 + T.get 5) % 4294967296 : Nat) : Int))
   rw [plTo_set s T (by omega)] at P6
   have P6 := Lib.hid P6
   have G6 := Lib.hid (g5.out.setCell 5 (.int .u32 (((s.get 5 + T.get 5) % 4294967296 : Nat) : Int)))
   clear p5 g5 c5 f5 v5
   generalize x5.setCell ⟨b, 5, none⟩ (.int .u32 (((s.get 5 + T.get 5) % 4294967296 : Nat) : Int)) = y6 at *
   have d6 : y6.cell? ⟨b, 6, none⟩ = some (.int .u32 ((s.get 6 : Nat) : Int)) := (P6.out.cell 6).trans (wArr_get (by omega))
   go_still_tail 8, (by kernel_rfl)
   change wpList _ _ _ _ _ y6.drew
   have p6 := Lib.hid (P6.out.drew)
   have g6 := Lib.hid (G6.out.drew)
   clear d6 P6 G6
   generalize y6.drew = x6 at *
   have c6 : x6.cell? ⟨b, 6, none⟩ = some (.int .u32 ((s.get 6 : Nat) : Int)) := (p6.out.cell 6).trans (wArr_get (by omega))
   have f6 := p6.out.frozen 6
   go_wp2_with fail
   have v6 : (((s.get 6 : Nat) : Int) + ((T.get 6 : Nat) : Int)) % 4294967296 = (((s.get 6 + T.get 6) % 4294967296 : Nat) : Int) := by omega
   rw [v6]
   have P7 := p6.out.set_ 6 (.int .u32 (((s.get 6 + T.get 6) % 4294967296 : Nat) : Int))
   rw [plTo_set s T (by omega)] at P7
   have P7 := Lib.hid P7
   have G7 := Lib.hid (g6.out.setCell 6 (.int .u32 (((s.get 6 + T.get 6) % 4294967296 : Nat) : Int)))
   clear p6 g6 c6 f6 v6
   generalize x6.setCell ⟨b, 6, none⟩ (.int .u32 (((s.get 6 + T.get 6) % 4294967296 : Nat) : Int)) = y7 at *
   have d7 : y7.cell? ⟨b, 7, none⟩ = some (.int .u32 ((s.get 7 : Nat) : Int)) := (P7.out.cell 7).trans (wArr_get (by omega))
   go_still_tail 8, (by kernel_rfl)
   change wpList _ _ _ _ _ y7.drew
   have p7 := Lib.hid (P7.out.drew)
   have g7 := Lib.hid (G7.out.drew)
   clear d7 P7 G7
   generalize y7.drew = x7 at *
   have c7 : x7.cell? ⟨b, 7, none⟩ = some (.int .u32 ((s.get 7 : Nat) : Int)) := (p7.out.cell 7).trans (wArr_get (by omega))
   have f7 := p7.out.frozen 7
   go_wp2_with fail
   have v7 : (((s.get 7 : Nat) : Int) + ((T.get 7 : Nat) : Int)) % 4294967296 = (((s.get 7 + T.get 7) % 4294967296 : Nat) : Int) := by omega
   rw [v7]
   have P8 := p7.out.set_ 7 (.int .u32 (((s.get 7 + T.get 7) % 4294967296 : Nat) : Int))
   rw [plTo_set s T (by omega)] at P8
   have P8 := Lib.hid P8
   have G8 := Lib.hid (g7.out.setCell 7 (.int .u32 (((s.get 7 + T.get 7) % 4294967296 : Nat) : Int)))
   clear p7 g7 c7 f7 v7
   generalize x7.setCell ⟨b, 7, none⟩ (.int .u32 (((s.get 7 + T.get 7) % 4294967296 : Nat) : Int)) = y8 at *
   go_wp2_with fail
   rw [HP.out, ← plTo_done]
   go_end0
   exact ⟨rfl, P8.out, G8.out⟩
end Go.Proofs.YtgbehfkimchglaaGreatDoor
