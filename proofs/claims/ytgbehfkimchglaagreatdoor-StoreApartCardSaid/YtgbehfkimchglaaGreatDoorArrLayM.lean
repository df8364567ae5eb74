/-
 'array.sectors' by a contract: a block's bytes in sectors, noughts behind the end. Conditions: one to 1024 bytes.
-/
import Derived.Test.YtgbehfkimchglaaGreatDoorArrWrM
import Derived.Test.YtgbehfkimchglaaGreatDoorParWholeM
import Derived.Test.YtgbehfkimchglaaGreatDoorArrCellM
namespace Go.Proofs.YtgbehfkimchglaaGreatDoor
open Go Go.RowKit refRack
set_option maxRecDepth 100000
set_option linter.unusedVariables false
namespace Arr
set_option maxHeartbeats 3200000 in
theorem sectors_any (A : Option Addr) (n c B : Nat) (X : Nat → Nat) (w : World) (hx : RdB w B A n X) (hB : B ≤ w.heap.size) (hnc : n ≤ c) (hcm : c ≤ maxLen) (h1 : 1 ≤ n) (hn : n ≤ 1024) :
  Calls Tryz.prog 166 #[.slice A n c] w fun e w' => e = .returned (.slice (some ⟨w.heap.size, 0, none⟩) (secs n) (secs n)) ∧ WholeAt w w' 128 (secs n) (secs n) (secD n X) := by
 have hs8 := secs_le hn
 have hsp := secs_pos h1
 have hsg := secs_ge n
 have hsl := secs_last h1
 have HP := Lib.hid (parts_any w n 128 (by omega) (by omega) (by omega))
 have e0 : (n + 128 - 1) / 128 = secs n := by unfold secs; omega
 rw [e0] at HP
 generalize hk : secs n = k at *
 have HK := Lib.hid hk
 have HX := Lib.hid hx
 have HBB := Lib.hid hB
 unfold maxLen at hcm
 clear hk e0 hx hB
 go_enter Tryz.func166, Tryz.ntmps166
 go_wp2_with fail
 refine HP.out.mono ?_
 rintro e w1 ⟨rfl, rfl⟩
 have hmk : ∀ W : World, (Instr.makeSlice 189 (.int .i64 (k : Int)) (.int .i64 (k : Int))).run Tryz.prog W = .ok (.slice (some ⟨W.heap.size, 0, none⟩) k k) (W.alloc (.cells (hdP k 128 0 (fun j => w1.heap.size + 1 + j)) 76)) := fun W => make_rows k 128 (fun j => w1.heap.size + 1 + j) (by omega) W
 have hmb := fun W => make_bytes 128 (by omega) W 128 rfl
 have J0 : Hid (WholeAt w1 (w1.alloc (.cells (hdP k 128 0 (fun j => w1.heap.size + 1 + j)) 76)) 128 k 0 (secD n X)) :=
  Lib.hid ⟨Blk.new _ _ _, fun j hj => absurd hj (by omega), by simp, (Below.refl _ _).alloc (Nat.le_refl _) _⟩
 go_wp2_with fail
 clear hmk
 generalize hwz : w1.heap.size = z at *
 have HWZ := Lib.hid hwz
 clear hwz
 go_loopw [11] (fun x' wr => ∃ i : Nat, i ≤ k ∧ x' = .int .i64 i ∧ Hid (WholeAt w1 wr 128 k i (secD n X))) (fun x' _ => k - (intOf x').toNat)
 case atStart => exact ⟨0, by omega, rfl, J0⟩
 case round =>
  clear J0
  obtain ⟨i, hi, rfl, H⟩ := hrel
  by_cases hlt : i < k
  ·have hsz := H.out.size
   rw [HWZ.out] at hsz
   have hh := H.out.head
   rw [HWZ.out] at hh
   have HBE := Lib.hid (H.out.below)
   have hzl := hh.lt
   have c1 : ∀ o, (wr.alloc o).cell? ⟨z, i, none⟩ = some (.slice none 0 0) := fun o => by
    rw [(hh.alloc o).cell, hdP_get hlt, if_neg (by omega)]
   have f1 : ∀ o, (wr.alloc o).frozen? ⟨z, i, none⟩ = false := fun o => (hh.alloc o).frozen i
   obtain ⟨W, hW⟩ : ∃ W, W = (wr.alloc (.cells (rowArr 128 fun _ => 0) 5)).setCell ⟨z, i, none⟩ (.slice (some ⟨z + 1 + i, 0, none⟩) 128 128) := ⟨_, rfl⟩
   have G1 : Hid (Blk W (z + 1 + i) 5 (rowArr 128 fun _ => 0)) := by
    have h := (Blk.new wr 5 (rowArr 128 fun _ => 0)).far (p := ⟨z, i, none⟩) (show wr.heap.size ≠ z by omega) (.slice (some ⟨z + 1 + i, 0, none⟩) 128 128)
    rw [hW]
    rw [hsz] at h
    exact h
   have D1 : Hid (Blk W z 76 (hdP k 128 (i + 1) (fun j => z + 1 + j))) := by
    have h := (hh.alloc (.cells (rowArr 128 fun _ => 0) 5)).set_ i (.slice (some ⟨z + 1 + i, 0, none⟩) 128 128)
    rw [hdP_set (R := fun j => z + 1 + j) hlt] at h
    rw [hW]
    exact h
   have E1 : Hid (∀ j, j < i → Blk W (z + 1 + j) 5 (rowArr 128 (secD n X j))) := by
    intro j hj
    have h := H.out.row j hj
    rw [HWZ.out] at h
    rw [hW]
    exact (h.alloc _).far (p := ⟨z, i, none⟩) (show z + 1 + j ≠ z by omega) _
   have S1 : Hid (W.heap.size = z + 1 + i + 1) := by
    show _ = _
    rw [hW]
    simp [hsz]
   have B1 : Hid (Below z wr W) := by
    rw [hW]
    exact ((Below.refl z wr).alloc (by omega) _).setCell (p := ⟨z, i, none⟩) (Nat.le_refl _) _
   have B0 : Hid (Below z w1 W) := Lib.hid ((HWZ.out ▸ HBE.out).trans B1.out)
   have d1 : W.cell? ⟨z, i, none⟩ = some (.slice (some ⟨z + 1 + i, 0, none⟩) 128 128) := by rw [D1.out.cell, hdP_get hlt, if_pos (by omega)]
   have HWW := Lib.hid hW
   have HRX : Hid (RdB W B (subA A c (i * 128)) (n - i * 128) (fun j => X (i * 128 + j))) := Lib.hid ((HX.out.below B0.out (by have := HBB.out; omega)).sub hnc)
   have hlo : i * 128 < n := by omega
   have hsl2 : ∀ W : World, (Instr.sliceAt 76 (.slice A n c) (some (.int .i64 (IntKind.i64.wrap ((i : Int) * 128)))) none none).run Tryz.prog W = .ok (.slice (subA A c (i * 128)) (n - i * 128) (c - i * 128)) W := fun W => slice_from A n c (i * 128) _ (by rw [IntKind.wrap_i64]; omega) (by omega) W
   clear hW hh
   go_upto_region 6 with (fail)
   rw [← HWW.out]
   have zl : z ≤ W.heap.size := by have := S1.out; omega
   clear c1 f1 hmb HWW hzl
   generalize subA A c (i * 128) = A2 at *
   generalize hm2 : n - i * 128 = m2 at *
   generalize c - i * 128 = c2 at *
   have HM2 := Lib.hid hm2
   clear hm2
   refine region_quiet_tail 8 (by kernel_rfl) (by kernel_rfl) ?_
   simp only [List.take_succ_cons, List.take_zero, List.drop_succ_cons, List.drop_zero]
   repeat (quiet_step (fail))
   refine wpQuiet_nil ?_
   rintro _ ⟨nq, rfl⟩
   have G2 := Lib.hid (G1.out.drewN nq)
   have HR2 : Hid (RdB (W.drewN nq) B A2 m2 (fun j => X (i * 128 + j))) := Lib.hid HRX.out
   have D2 := Lib.hid (D1.out.drewN nq)
   have E2 : Hid (∀ j, j < i → Blk (W.drewN nq) (z + 1 + j) 5 (rowArr 128 (secD n X j))) := Lib.hid fun j hj => (E1.out j hj).drewN nq
   have S2 : Hid ((W.drewN nq).heap.size = z + 1 + i + 1) := S1
   have B2 := Lib.hid (below_drewN B0.out nq)
   have HY : Hid (∀ v, v < 128 → (if v < m2 then X (i * 128 + v) else 0) = secD n X i v) := Lib.hid fun v hv => by
    have := HM2.out
    unfold secD
    by_cases h : v < m2
    ·rw [if_pos h, if_pos (by omega)]
    ·rw [if_neg h, if_neg (by omega)]
   generalize W.drewN nq = W2 at *
   clear G1 HRX D1 E1 S1 B0 B1 d1 zl
   by_cases h128 : 128 ≤ m2
   ·refine wpList_copyFull rfl (.tmp 21) (.tmp 25) _ _ rfl Tryz.underlying76 (z + 1 + i) 128 m2 c2 B A2 rfl rfl (fun _ => 0) (fun j => X (i * 128 + j)) G2.out HR2.out h128 ?_
    intro w2 hb2 ho2 hs2
    have H2 := Lib.hid (WholeAt.next HWZ.out D2.out E2.out S2.out B2.out hb2 ho2 hs2 (fun v hv => by have := HY.out v hv; rw [if_pos (by omega)] at this; exact this))
    clear hb2 ho2 hs2
    go_wp2_with fail
    go_roundw
    case rel => exact ⟨i + 1, by omega, by go_num, H2⟩
    case measure => simp [intOf]; omega
   ·refine wpList_copyRd rfl (.tmp 21) (.tmp 25) _ _ rfl Tryz.underlying76 (z + 1 + i) 128 m2 c2 B A2 rfl rfl (fun _ => 0) (fun j => X (i * 128 + j)) G2.out HR2.out (by omega) ?_
    intro w2 hb2 ho2 hs2
    have H2 := Lib.hid (WholeAt.next HWZ.out D2.out E2.out S2.out B2.out hb2 ho2 hs2 (fun v hv => HY.out v hv))
    clear hb2 ho2 hs2
    go_wp2_with fail
    go_roundw
    case rel => exact ⟨i + 1, by omega, by go_num, H2⟩
    case measure => simp [intOf]; omega
  ·obtain rfl : i = k := by omega
   go_wp2_with fail
   go_ret
   exact ⟨by rw [HWZ.out]; rfl, H.out⟩
end Arr
end Go.Proofs.YtgbehfkimchglaaGreatDoor
namespace Go.Proofs.YtgbehfkimchglaaGreatDoor
open Go Go.RowKit refRack
set_option maxRecDepth 100000
set_option linter.unusedVariables false
namespace Arr
theorem slice_tailR (b o n c lo : Nat) (h : lo ≤ n) (W : World) :
  (Instr.sliceAt 189 (.slice (some ⟨b, o, none⟩) n c) (some (.int .i64 (lo : Int))) none none).run Tryz.prog W = .ok (.slice (some ⟨b, o + (if c = lo then 0 else lo), none⟩) (n - lo) (c - lo)) W := by
 have hu : Tryz.prog.underlying 189 = some (.slice (Tryz.prog.elem 189)) := by kernel_rfl
 have he : Tryz.prog.elem 189 = 76 := by kernel_rfl
 rw [run_sliceAt_slice (P := Tryz.prog) (w := W) (h := hu), run_slice_l (P := Tryz.prog) (w := W) 189 _ n c hu .i64 (lo : Int) (by omega) (by omega), he, sizeOf_bytes]
 by_cases e : c = lo
 ·subst e; simp [sliced]
 ·simp [sliced, e, add_plain]
structure Rws (w : World) (base lo : Nat) (v : Value) (n : Nat) (H : Nat → Hd) (X : Nat → Nat → Nat) : Prop where
 own : OwnS w base v n H
 row : ∀ j, j < n → ∃ R c, H j = (some ⟨R, 0, none⟩, 128, c) ∧ 128 ≤ c ∧ c ≤ maxLen ∧ lo ≤ R ∧ RowG w R 128 (X j)
section
variable {w w' : World} {base lo n m : Nat} {v v' : Value} {H G : Nat → Hd} {X Y : Nat → Nat → Nat}
theorem Rws.nil (w : World) (base lo : Nat) (H : Nat → Hd) (X : Nat → Nat → Nat) : Rws w base lo (.slice none 0 0) 0 H X := ⟨OwnS.nil _ _ _, fun j hj => absurd hj (by omega)⟩
theorem Rws.below (h : Rws w base lo v n H X) {B : Nat} (hb : Below B w w') (hB : w.heap.size ≤ B) : Rws w' base lo v n H X :=
 ⟨h.own.below hb hB, fun j hj => by
  obtain ⟨R, c, e1, e2, e3, e4, e5⟩ := h.row j hj
  exact ⟨R, c, e1, e2, e3, e4, e5.below hb (Nat.lt_of_lt_of_le e5.lt hB)⟩⟩
theorem Rws.app (h : Rws w base lo v n H X) (ho : OwnS w' base v' (n + m) (catS n H G)) (hg : w.grownBy w' v.ownBlock) (hr : ∀ j, j < m → ∃ R c, G j = (some ⟨R, 0, none⟩, 128, c) ∧ 128 ≤ c ∧ c ≤ maxLen ∧ lo ≤ R ∧ RowG w R 128 (X (n + j))) :
  Rws w' base lo v' (n + m) (catS n H G) X := by
 refine ⟨ho, fun j hj => ?_⟩
 unfold catS
 by_cases e : j < n
 ·rw [if_pos e]
  obtain ⟨R, c, e1, e2, e3, e4, e5⟩ := h.row j e
  exact ⟨R, c, e1, e2, e3, e4, e5.heap (hg.block _ e5.lt (h.own.neG e5))⟩
 ·rw [if_neg e]
  obtain ⟨R, c, e1, e2, e3, e4, e5⟩ := hr (j - n) (by omega)
  rw [show n + (j - n) = j by omega] at e5
  exact ⟨R, c, e1, e2, e3, e4, e5.heap (hg.block _ e5.lt (h.own.neG e5))⟩
end
set_option maxHeartbeats 3200000 in
theorem lay_any (A : Option Addr) (n c B N : Nat) (X : Nat → Nat) (w : World) (hx : RdB w B A n X) (hX : ∀ j, j < n → X j < 256) (hB : B ≤ w.heap.size) (hnc : n ≤ c) (hcm : c ≤ maxLen) (h1 : 1 ≤ n) (hn : n ≤ 1024) (hN : 5 ≤ N) (hN2 : N ≤ 16) :
  Calls Tryz.prog 108 #[.slice A n c, .int .i64 ((N - 3 : Nat) : Int)] w fun e w' => ∃ v, e = .returned v ∧ (∃ H, Rws w' w.heap.size w.heap.size v (cost N n) H (cellX N n X)) ∧ Below w.heap.size w w' := by
 have hs8 := secs_le hn
 have hsp := secs_pos h1
 have hrw := rws_le (N := N) hN hsp
 have HX := Lib.hid hX
 have HSX : Hid (∀ j v, secD n X j v < 256) := Lib.hid (secD_lt hX)
 have HSC := Lib.hid (sectors_any A n c B X w hx hB hnc hcm h1 hn)
 have HCST : Hid (cost N n = secs n + 3 * rws N (secs n)) := Lib.hid rfl
 have HRC : Hid (∀ r, r < rws N (secs n) → 1 ≤ kR N (secs n) r ∧ kR N (secs n) r ≤ N - 3 ∧ kR N (secs n) r + 3 = min N (secs n + 3 * rws N (secs n) - r * N) ∧ r * N + (kR N (secs n) r + 3) ≤ secs n + 3 * rws N (secs n) ∧ r * (N - 3) + kR N (secs n) r ≤ secs n) := Lib.hid fun r hr => row_cells hN hsp hr
 have HRN : Hid (∀ r, r < rws N (secs n) → (if r + 1 < rws N (secs n) then kR N (secs n) r = N - 3 else (r * N + (kR N (secs n) r + 3) = secs n + 3 * rws N (secs n) ∧ r * (N - 3) + kR N (secs n) r = secs n))) := Lib.hid fun r hr => row_next hN hsp hr
 have HRM : Hid (∀ r, r < rws N (secs n) ↔ r * (N - 3) < secs n) := Lib.hid fun r => row_more hN hsp
 have HRS := Lib.hid (rws_spec hN hsp)
 have HRA : Hid (∀ r, r * N = r * (N - 3) + 3 * r) := Lib.hid (row_at hN)
 have HKR : Hid (∀ r, kR N (secs n) r = min (N - 3) (secs n - r * (N - 3))) := Lib.hid fun r => rfl
 have HCP : Hid (∀ r p v, p < 3 → cellX N n X (r * N + p) v = M.par (kR N (secs n) r) p (fun t => secD n X (r * (N - 3) + t)) v) := Lib.hid fun r p v hp => cellX_par n X v (by omega) hp
 have HCD : Hid (∀ r t v, t + 3 < N → cellX N n X (r * N + 3 + t) v = secD n X (r * (N - 3) + t) v) := Lib.hid fun r t v ht => cellX_data n X v ht
 generalize hk : secs n = k at *
 generalize hR : rws N k = R at *
 generalize hcst : cost N n = C at *
 generalize hsd : secD n X = D at *
 generalize hcx : cellX N n X = Y at *
 generalize hkr : kR N k = K at *
 clear hk hR hcst hsd hcx hkr hX hx hnc hcm
 go_enter Tryz.func108, Tryz.ntmps108
 go_wp2_with fail
 refine HSC.out.mono ?_
 rintro e w1 ⟨rfl, hw1⟩
 have W1 := Lib.hid hw1
 have B1 := Lib.hid hw1.below
 clear hw1 HSC
 have J0 : Hid (Rws w1 w1.heap.size w.heap.size (.slice none 0 0) 0 (fun _ => (none, 0, 0)) Y) := Lib.hid (Rws.nil _ _ _ _ _)
 generalize hz : w.heap.size = z at *
 have HZ := Lib.hid hz
 clear hz
 go_wp2_with fail
 go_loopw [5, 6] (fun y x' wr => ∃ r q i o : Nat, ∃ H, q ≤ k ∧ x' = .slice (some ⟨z, o, none⟩) (k - q) (k - q) ∧ Hid (r ≤ R ∧ (r < R → q = r * (N - 3) ∧ i = r * N ∧ o = q) ∧ (r = R → q = k ∧ i = C)) ∧ Hid (Rws wr w1.heap.size z y i H Y) ∧ Hid (Below w1.heap.size w1 wr)) (fun _ x' _ => match x' with | .slice _ n _ => n | _ => 0)
 case atStart =>
  have hR1 := HRS.out.1
  exact ⟨0, 0, 0, 0, fun _ => (none, 0, 0), by omega, rfl, Lib.hid ⟨by omega, fun _ => ⟨by rw [Nat.zero_mul], by rw [Nat.zero_mul], rfl⟩, fun e => by omega⟩, J0, Lib.hid (Below.refl _ _)⟩
 case round =>
  clear J0
  obtain ⟨r, q, i, o, H, hqk, rfl, HQ, HW, HB2⟩ := hrel
  by_cases hlt : r < R
  ·obtain ⟨hq, hi, ho⟩ := HQ.out.2.1 hlt
   have hm0 := (HRM.out r).1 hlt
   obtain ⟨g1, g2, g3, g4, g5⟩ := HRC.out r hlt
   have g6 := HRN.out r hlt
   have g7 := HKR.out r
   have g8 := HRA.out r
   have g9 := HRA.out (r + 1)
   have g10 := HCP.out r
   have g11 := HCD.out r
   rw [← hq] at hm0 g5 g6 g7 g8 g11
   rw [← hi] at g3 g4 g6 g8 g10 g11
   have HY : Hid (∀ j, j < K r + 3 → ∀ v, Y (i + j) v = if j < 3 then M.par (K r) j (fun t => D (q + t)) v else D (q + (j - 3)) v) := Lib.hid fun j hj v => by
    by_cases e : j < 3
    ·rw [if_pos e, g10 j v e, hq]
    ·rw [if_neg e, ← g11 (j - 3) v (by omega), show i + 3 + (j - 3) = i + j by omega]
   have hm1 := HRM.out (r + 1)
   have HN2 : Hid (r + 1 ≤ R ∧ (r + 1 < R → q + K r = (r + 1) * (N - 3) ∧ i + 3 + K r = (r + 1) * N ∧ q + K r < k) ∧ (r + 1 = R → q + K r = k ∧ i + 3 + K r = C)) := Lib.hid (by
    have e1 : (r + 1) * (N - 3) = q + (N - 3) := by rw [Nat.succ_mul, hq]
    have e2 := HCST.out
    refine ⟨by omega, fun h => ?_, fun h => ?_⟩
    ·rw [if_pos h] at g6
     have := hm1.1 h
     omega
    ·rw [if_neg (by omega)] at g6
     omega)
   subst ho
   obtain ⟨p, hp⟩ : ∃ p, p = k - o := ⟨_, rfl⟩
   have hp1 : 1 ≤ p := by omega
   have hp8 : p ≤ 8 := by omega
   rw [← hp] at g7 ⊢
   generalize hn1 : K r = n1 at *
   have hn1p : n1 ≤ p := by omega
   have hn1q : 1 ≤ n1 := g1
   have hn13 : n1 ≤ 13 := by omega
   have t1 : min ((N - 3 : Nat) : Int) (p : Int) = (n1 : Int) := by omega
   have t2 : (0 : Int) < (p : Int) := by omega
   have HP := Lib.hid (⟨hp, hn1, hq, hi⟩ : _ ∧ _ ∧ _ ∧ _)
   have hsl : ∀ W : World, (Instr.sliceAt 189 (.slice (some ⟨z, o, none⟩) p p) none (some (.int .i64 (n1 : Int))) none).run Tryz.prog W = .ok (.slice (some ⟨z, o, none⟩) n1 p) W := fun W => slice_headR z o p p n1 hn1p W
   have hst : ∀ W : World, (Instr.sliceAt 189 (.slice (some ⟨z, o, none⟩) p p) (some (.int .i64 (n1 : Int))) none none).run Tryz.prog W = .ok (.slice (some ⟨z, o + (if p = n1 then 0 else n1), none⟩) (p - n1) (p - n1)) W := fun W => slice_tailR z o p p n1 hn1p W
   obtain ⟨o2, ho2⟩ : ∃ o2, o2 = o + (if p = n1 then 0 else n1) := ⟨_, rfl⟩
   rw [← ho2] at hst
   have HO2 : Hid (p ≠ n1 → o2 = o + n1) := Lib.hid fun h => by rw [ho2, if_neg h]
   -- the rows of data in memory
   have HROW : Hid (∀ j, j < n1 → w1.cell? ⟨z, o + j, none⟩ = some (.slice (some ⟨z + 1 + (o + j), 0, none⟩) 128 128) ∧ Blk w1 (z + 1 + (o + j)) 5 (rowArr 128 (D (o + j)))) := Lib.hid fun j hj => by
    have h1 := W1.out.head
    have h2 := W1.out.row (o + j) (by omega)
    rw [HZ.out] at h1 h2
    refine ⟨?_, h2⟩
    rw [h1.cell, hdP_get (by omega), if_pos (by omega)]
   have HLT : Hid (z < w1.heap.size ∧ ∀ j, j < n1 → z + 1 + (o + j) < w1.heap.size) := Lib.hid (by
    have h1 := W1.out.head.lt
    rw [HZ.out] at h1
    exact ⟨h1, fun j hj => (HROW.out j hj).2.lt⟩)
   have HRD : Hid (∀ W, Below w1.heap.size w1 W → RdR W w1.heap.size (some ⟨z, o, none⟩) n1 (fun j => some ⟨z + 1 + (o + j), 0, none⟩) (fun _ => 128) (fun _ => 128) (fun j => D (o + j))) := Lib.hid fun W hW j hj => by
    obtain ⟨h1, h2⟩ := HROW.out j hj
    refine ⟨z, o, rfl, HLT.out.1, (hW.cell (p := ⟨z, o + j, none⟩) HLT.out.1).trans h1, fun v hv => ⟨_, 0, rfl, HLT.out.2 j hj, ?_, HSX.out _ _⟩⟩
    rw [Nat.zero_add, (h2.below hW (HLT.out.2 j hj)).cell, rowArr_get hv]
   have HMK := Lib.hid (make_cols n1 p w1.heap.size (some ⟨z, o, none⟩) (fun j => some ⟨z + 1 + (o + j), 0, none⟩) (fun _ => 128) (fun _ => 128) (fun j => D (o + j)) wr (HRD.out wr HB2.out) HB2.out.size g1 hn13 ⟨by decide, by decide, fun _ _ => rfl⟩)
   clear hm1 g1 g2 g3 g4 g5 g6 g7 g8 g9 g10 g11 hm0 hq hi hp hn1 ho2 hn13 hqk HRC HRN HKR HRA HCP HCD HRM HQ
   go_wp2_with fail
   refine HMK.out.mono ?_
   rintro e w3 ⟨v3, R3, rfl, hc3, hb3⟩
   obtain ⟨A3, c3, rfl, h3a, h3b, h3c, h3d, h3e⟩ := hc3.own.shape
   have C3 := Lib.hid hc3
   have S3 := Lib.hid (⟨h3a, h3b, h3c, h3e⟩ : _ ∧ _ ∧ _ ∧ _)
   have W3 := Lib.hid (HW.out.below hb3 (Nat.le_refl _))
   have B3 := Lib.hid (HB2.out.trans (hb3.mono HB2.out.size))
   clear hc3 h3a h3b h3c h3d h3e hb3 HMK
   have HIL : Hid (i + 3 ≤ 100000 ∧ i + 3 + n1 ≤ 100000) := Lib.hid (by
    have h1 := HP.out.2.2.2
    have h2 : r * N ≤ 8 * 16 := Nat.mul_le_mul (by omega) hN2
    omega)
   go_wp2_with (at_builtin; refine wpList_append_hd rfl (.tmp 26) (.tmp 27) rfl rfl rfl W3.out.own S3.out.1 S3.out.2.2.2 S3.out.2.1 HIL.out.1 B3.out.size ?_; intro v4 w4 ho4 hg4 hv4; refine of_hid ?_)
   refine Lib.hid ?_
   have W4 : Hid (Rws w4 w1.heap.size z v4 (i + 3) (catS i H fun j => (some ⟨R3 j, 0, none⟩, 128, 128)) Y) := Lib.hid (W3.out.app ho4 hg4 fun j hj => by
    obtain ⟨h1, h2⟩ := C3.out.row j hj
    have := B3.out.size
    have := HB2.out.size
    refine ⟨R3 j, 128, rfl, by omega, by unfold maxLen; omega, by have := HLT.out.1; omega, h2.congr fun v hv => ?_⟩
    rw [HY.out j (by omega) v, if_pos hj])
   have B4 : Hid (Below w1.heap.size w1 w4) := Lib.hid (B3.out.trans ⟨hg4.os, hg4.tape, hg4.output, hg4.size, fun g hg => hg4.block g (by have := B3.out.size; omega) (fun e => by have := (W3.out.own.lt e.symm).2; omega)⟩)
   have R4 := Lib.hid ((HRD.out w4 B4.out).heads)
   clear ho4 hg4 hv4 C3 S3 W3 B3
   go_wp2_with (at_builtin; refine wpList_append_hd rfl (.tmp 29) (.tmp 32) rfl rfl rfl W4.out.own R4.out (fun e => by cases e) hn1p HIL.out.2 B4.out.size ?_; intro v5 w5 ho5 hg5 hv5; refine of_hid ?_)
   refine Lib.hid ?_
   have W5 : Hid (∃ H, Rws w5 w1.heap.size z v5 (i + 3 + n1) H Y) := Lib.hid ⟨_, W4.out.app ho5 hg5 fun j hj => by
    obtain ⟨_, h2⟩ := HROW.out j hj
    refine ⟨z + 1 + (o + j), 128, rfl, by omega, by unfold maxLen; omega, by omega, (RowG.of_blk (h2.below B4.out (HLT.out.2 j hj)) (Nat.le_refl _)).congr fun v hv => ?_⟩
    rw [show i + 3 + j = i + (3 + j) by omega, HY.out (3 + j) (by omega) v, if_neg (by omega), show 3 + j - 3 = j by omega]⟩
   have B5 : Hid (Below w1.heap.size w1 w5) := Lib.hid (B4.out.trans ⟨hg5.os, hg5.tape, hg5.output, hg5.size, fun g hg => hg5.block g (by have := B4.out.size; omega) (fun e => by have := (W4.out.own.lt e.symm).2; omega)⟩)
   clear ho5 hg5 hv5 W4 B4 R4
   go_wp2_with fail
   go_roundw
   case rel =>
    obtain ⟨H5, h5⟩ := W5.out
    have hpp := HP.out.1
    refine ⟨r + 1, o + n1, i + 3 + n1, o2, H5, by omega, by rw [show k - (o + n1) = p - n1 by omega], Lib.hid ⟨HN2.out.1, fun h => ?_, HN2.out.2.2⟩, Lib.hid h5, B5⟩
    obtain ⟨e1, e2, e3⟩ := HN2.out.2.1 h
    exact ⟨e1, e2, HO2.out fun e => by omega⟩
   case measure =>
    show p - n1 < p
    omega
  ·obtain rfl : r = R := by have := HQ.out.1; omega
   obtain ⟨rfl, rfl⟩ := HQ.out.2.2 rfl
   rw [Nat.sub_self]
   go_wp2_with fail
   go_ret
   have hsz := B1.out.size
   rw [HZ.out] at hsz
   exact ⟨_, rfl, ⟨H, by rw [HZ.out]; exact ⟨HW.out.own.base hsz, HW.out.row⟩⟩, by rw [HZ.out]; exact B1.out.trans (HB2.out.mono hsz)⟩
end Arr
end Go.Proofs.YtgbehfkimchglaaGreatDoor
