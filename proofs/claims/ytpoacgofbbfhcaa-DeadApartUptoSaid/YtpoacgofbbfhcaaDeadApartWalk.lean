/-
  'hoardlaw11.DeadApart': the walk. The conditions: the line and the block can be read, the line's rows have room, also one behind the other.
-/
import Derived.Test.YtpoacgofbbfhcaaDeadWr
import Derived.Test.YtpoacgofbbfhcaaDeadGoesWalk
namespace Go.Proofs.Ytpoacgofbbfhcaa
open Go Go.RowKit
set_option maxRecDepth 100000
set_option linter.unusedVariables false
namespace Dd
theorem sizeOf_pt (w : World) : (sizeOf 27).run Try.prog w = .ok 4 w := by
  obtain ⟨i0, hi, hz0, hz1, hz2⟩ := info_parts infoP
  simp [sizeOf, typeInfo, hi, hz1]
/-- 'x[:cap(x)]' -/
theorem pslc_cap (b m : Nat) (w : World) :
    (Instr.sliceAt 23 (.slice (some ⟨b, 0, none⟩) m (m + 2)) none (some (.int .i64 ((m : Int) + 2))) none).run Try.prog w = .ok (.slice (some ⟨b, 0, none⟩) (m + 2) (m + 2)) w := by
  have hu : Try.prog.underlying 23 = some (.slice (Try.prog.elem 23)) := by kernel_rfl
  have he : Try.prog.elem 23 = 27 := by kernel_rfl
  rw [run_sliceAt_slice (P := Try.prog) (w := w) (h := hu), run_slice_h (P := Try.prog) (w := w) 23 _ m (m + 2) hu .i64 ((m : Int) + 2) (by omega) (by omega), he, sizeOf_pt]
  simp [sliced, Addr.add, show ((m : Int) + 2).toNat = m + 2 by omega]
set_option maxHeartbeats 51200000 in
theorem apart_walk (w : World) (L : Ln) (p : Pt) (k : Int) (A A' : Option Addr) (c c' : Nat) (hf : Fit L) (ht : Tight L) (hsm : Small L) (hs : RdS w A L.snaps) (hsn : A = none → c = 0) (hd : RdP w A' L.dead) (hdn : A' = none → c' = 0) (hp : Z64 p.birth) :
    Calls Try.prog 6 #[.agg #[.int .i64 L.base, .slice A L.snaps.length c, .slice A' L.dead.length c'], .agg #[.int .i64 p.addr, .int .i64 p.size, .int .i64 p.birth, .string p.sum], .int .i64 k] w fun e w' => e = .returned (.bool true) ∧ Below w.heap.size w w' := by
  obtain ⟨n, hn⟩ : ∃ n, n = L.snaps.length := ⟨_, rfl⟩
  obtain ⟨m, hm⟩ : ∃ m, m = L.dead.length := ⟨_, rfl⟩
  obtain ⟨bs, hbs⟩ : ∃ bs, bs = L.base := ⟨_, rfl⟩
  have HN := Lib.hid hn
  have HM := Lib.hid hm
  have HBS := Lib.hid hbs
  have HFL := Lib.hid (⟨hf, hsm⟩ : _ ∧ _)
  have hnb : n ≤ 4194304 := by rw [hn]; exact hsm.1
  have hmb : m ≤ 4194304 := by rw [hm]; exact hsm.2.1
  obtain ⟨KK, hKK⟩ : ∃ KK, KK = killS L p := ⟨_, rfl⟩
  obtain ⟨La, ba, ea⟩ := KK
  obtain ⟨SS, hSS⟩ : ∃ SS, SS = snapS L 1152921504606846976 := ⟨_, rfl⟩
  obtain ⟨Lb, eb⟩ := SS
  obtain ⟨DD, hDD⟩ : ∃ DD, DD = desS L k := ⟨_, rfl⟩
  obtain ⟨Lc, Fc, ec⟩ := DD
  have HFA : Hid (Fit La) := Lib.hid (by have h := fit_kill hf ht p hp; rw [← hKK] at h; exact h)
  have HFB : Hid (Fit Lb) := Lib.hid (by have h := fit_snap hf ht 1152921504606846976 ⟨by decide, by decide⟩; rw [← hSS] at h; exact h)
  have HFC : Hid (Fit Lc) := Lib.hid (by have h := fit_des hf hsm k; rw [← hDD] at h; exact h)
  have HFF : Hid (Fc.length ≤ 4194304) := Lib.hid (by have h := free_len hsm k; rw [← hDD] at h; exact h)
  obtain ⟨W_1, hw0⟩ : ∃ W9, W9 = w.alloc (.cells #[.int .i64 bs, .slice A n c, .slice A' m c'] 25) := ⟨_, rfl⟩
  obtain ⟨W, hw1⟩ : ∃ W9, W9 = W_1.alloc (.cells #[.int .i64 p.addr, .int .i64 p.size, .int .i64 p.birth, .string p.sum] 27) := ⟨_, rfl⟩
  obtain ⟨r3, hr0⟩ : ∃ r9, r9 = w.heap.size := ⟨_, rfl⟩
  have hs0 : W_1.heap.size = r3 + 1 := by rw [hw0]; simp; omega
  obtain ⟨r4, hr1⟩ : ∃ r9, r9 = r3 + 1 := ⟨_, rfl⟩
  have hs1 : W.heap.size = r4 + 1 := by rw [hw1]; simp; omega
  have hb0 : Below w.heap.size w W_1 := by rw [hw0]; exact (Below.refl _ _).alloc (Nat.le_refl _) _
  have hb1 : Below w.heap.size w W := by rw [hw1]; exact hb0.alloc hb0.size _
  have Xr3 : Blk W r3 25 #[.int .i64 bs, .slice A n c, .slice A' m c'] := by
    have h := Blk.new w 25 #[.int .i64 bs, .slice A n c, .slice A' m c']
    rw [← hr0] at h
    rw [hw1, hw0]
    exact h.alloc _
  have Xr4 : Blk W r4 27 #[.int .i64 p.addr, .int .i64 p.size, .int .i64 p.birth, .string p.sum] := by
    have h := Blk.new W_1 27 #[.int .i64 p.addr, .int .i64 p.size, .int .i64 p.birth, .string p.sum]
    rw [hs0, ← hr1] at h
    rw [hw1]
    exact h
  have HE : Hid (r3 = w.heap.size ∧ r4 = r3 + 1) := Lib.hid ⟨hr0, hr1⟩
  have HW0 := Lib.hid hw0
  have HW1 := Lib.hid hw1
  have HWZ := Lib.hid hs1
  have hb := hb1
  have hR : ∀ W2, Below W.heap.size W W2 → RdS W2 A L.snaps ∧ RdP W2 A' L.dead := fun W2 hb2 => ⟨(hs.below hb).below hb2, (hd.below hb).below hb2⟩
  have HRR : Hid (∀ W2, Below W.heap.size W W2 → RdS W2 A L.snaps ∧ RdP W2 A' L.dead) := Lib.hid hR
  have HOF : Hid (∀ W2, Below W.heap.size W W2 → Calls Try.prog 10 #[.agg #[.int .i64 bs, .slice A n c, .slice A' m c']] W2 fun e w' => OfPost W2 L e w') := Lib.hid fun W2 hb2 => by rw [hn, hm, hbs]; exact of_at W2 L A A' c c' hf (hR W2 hb2).1 hsn (hR W2 hb2).2 hdn
  have HKI : Hid (∀ (W2 : World) (b : Nat) (A1 : Option Addr) (c1 : Nat) (A5 : Option Addr) (c5 : Nat) (vs : List SV), LnO 65 W2 b A1 c1 A5 c5 vs L → Calls Try.prog 13 #[.agg #[.int .i64 bs, .slice A1 n c1, .slice A5 m c5], .agg #[.int .i64 p.addr, .int .i64 p.size, .int .i64 p.birth, .string p.sum]] W2 fun e w' => KillPost 65 W2 (La, ba, ea) e w') := Lib.hid fun W2 b A1 c1 A5 c5 vs h => by rw [hn, hm, hbs, hKK]; exact kill_at W2 L p A1 A5 c1 c5 hf h.rs.1 h.rs.2 h.rd.1 h.rd.2
  have HSN : Hid (∀ (W2 : World) (b : Nat) (A1 : Option Addr) (c1 : Nat) (A5 : Option Addr) (c5 : Nat) (vs : List SV), LnO 65 W2 b A1 c1 A5 c5 vs L → Calls Try.prog 17 #[.agg #[.int .i64 bs, .slice A1 n c1, .slice A5 m c5], .int .i64 1152921504606846976] W2 fun e w' => SnapPost 65 W2 (Lb, eb) e w') := Lib.hid fun W2 b A1 c1 A5 c5 vs h => by rw [hn, hm, hbs, hSS]; exact snapshot_at W2 L _ A1 A5 c1 c5 hf h.rs.1 h.rs.2 h.rd.1 h.rd.2
  have HDE : Hid (∀ (W2 : World) (b : Nat) (A1 : Option Addr) (c1 : Nat) (A5 : Option Addr) (c5 : Nat) (vs : List SV), LnO 65 W2 b A1 c1 A5 c5 vs L → Calls Try.prog 19 #[.agg #[.int .i64 bs, .slice A1 n c1, .slice A5 m c5], .int .i64 k] W2 fun e w' => DesPost 65 W2 (Lc, Fc, ec) e w') := Lib.hid fun W2 b A1 c1 A5 c5 vs h => by rw [hn, hm, hbs, hDD]; exact destroy_at W2 L k A1 A5 c1 c5 hf hsm h.rs.1 h.rs.2 h.rd.1 h.rd.2
  have HX := Lib.hid (⟨Xr3, Xr4⟩ : _ ∧ _)
  have LW := Lib.hid hb
  rw [← hn, ← hm, ← hbs]
  clear hn hm hbs hf hs hsn hd hdn hb hR Xr3 Xr4 hsm ht hp hKK hSS hDD hw0 hr0 hs0 hb0 hw1 hr1 hs1 hb1
  go_enter Try.func6, Try.ntmps6
  go_upto_region 1 with (fail)
  rw [← HW0.out, ← HW1.out, ← HE.out.1, ← HE.out.2]
  go_wp2_with fail
  refine (known_at W).mono ?_
  rintro e U0 ⟨rfl, b0⟩
  have LU0 := Lib.hid b0
  have x0 := HX.out.1.below b0 HX.out.1.lt
  have q0 : U0.cell? ⟨r3, 0, none⟩ = some (.int .i64 bs) := x0.cell 0
  have q1 : U0.cell? ⟨r3, 1, none⟩ = some (.slice A n c) := x0.cell 1
  have q2 : U0.cell? ⟨r3, 2, none⟩ = some (.slice A' m c') := x0.cell 2
  clear b0 x0
  go_wp2_with fail
  refine (HOF.out _ LU0.out).mono ?_
  rintro e U1 ⟨A1, c1, A5, c5, vs0, rfl, hO, hsp1, hsp2, b1⟩
  rw [← HN.out, ← HM.out, ← HBS.out]
  rw [← HM.out] at hsp2
  -- what is handed in, in memory
  obtain ⟨U, hU⟩ : ∃ U, U = U1.alloc (.cells #[.int .i64 bs, .slice A1 n c1, .slice A5 m c5] 33) := ⟨_, rfl⟩
  obtain ⟨g7, hg7⟩ : ∃ g7, g7 = U1.heap.size := ⟨_, rfl⟩
  obtain ⟨B, hB⟩ : ∃ B, B = U.heap.size := ⟨_, rfl⟩
  have hb1 : Below U1.heap.size U1 U := by rw [hU]; exact (Below.refl _ _).alloc (Nat.le_refl _) _
  have h01 : Below W.heap.size W U1 := LU0.out.trans (b1.mono LU0.out.size)
  have hWU : Below W.heap.size W U := h01.trans (hb1.mono h01.size)
  have hX7 : Blk U g7 33 #[.int .i64 bs, .slice A1 n c1, .slice A5 m c5] := by rw [hU, hg7]; exact Blk.new _ _ _
  have HOU := Lib.hid (hO.below hb1 (Nat.le_refl _))
  have HS1 : Hid (Spared U vs0 L.snaps) := Lib.hid (hsp1.ptr fun g cur h => hb1.block g h.lt)
  have HS2 : Hid (SpR U (.slice A5 m c5) L.dead) := Lib.hid (hsp2.ptr fun g cur h => hb1.block g h.lt)
  have HX7 := Lib.hid hX7
  have LU := Lib.hid hWU
  have HBU := Lib.hid hB
  have HU := Lib.hid (⟨hU, hg7⟩ : _ ∧ _)
  have HXU := Lib.hid (⟨HX.out.1.below hWU HX.out.1.lt, HX.out.2.below hWU HX.out.2.lt⟩ : _ ∧ _)
  have i0 : U.cell? ⟨g7, 0, none⟩ = some (.int .i64 bs) := hX7.cell 0
  have i1 : U.cell? ⟨g7, 1, none⟩ = some (.slice A1 n c1) := hX7.cell 1
  have i2 : U.cell? ⟨g7, 2, none⟩ = some (.slice A5 m c5) := hX7.cell 2
  have y0 : U.cell? ⟨r4, 0, none⟩ = some (.int .i64 p.addr) := HXU.out.2.cell 0
  have y1 : U.cell? ⟨r4, 1, none⟩ = some (.int .i64 p.size) := HXU.out.2.cell 1
  have y2 : U.cell? ⟨r4, 2, none⟩ = some (.int .i64 p.birth) := HXU.out.2.cell 2
  have y3 : U.cell? ⟨r4, 3, none⟩ = some (.string p.sum) := HXU.out.2.cell 3
  clear hU hg7 hB hb1 h01 hWU hX7 hO hsp1 hsp2 b1 q0 q1 q2
  go_upto_region 4 with (fail)
  rw [← HU.out.1, ← HU.out.2]
  clear HU
  go_wp2_with fail
  refine (HKI.out _ _ _ _ _ _ _ HOU.out).mono ?_
  rintro e V1 ⟨va, rfl, ⟨Aa, ca, Da, da, vsa, rfl, hOa⟩, b1⟩
  have B1 := Lib.hid b1
  have HOa := Lib.hid hOa
  obtain ⟨V2, hV2⟩ : ∃ V2, V2 = V1.alloc (.cells #[.int .i64 La.base, .slice Aa La.snaps.length ca, .slice Da La.dead.length da] 33) := ⟨_, rfl⟩
  obtain ⟨g8, hg8⟩ : ∃ g8, g8 = V1.heap.size := ⟨_, rfl⟩
  have hb2 : Below V1.heap.size V1 V2 := by rw [hV2]; exact (Below.refl _ _).alloc (Nat.le_refl _) _
  have BV2 := Lib.hid (b1.trans (hb2.mono b1.size))
  have HOa2 := Lib.hid (hOa.below hb2 (Nat.le_refl _))
  have HG8 : Hid (Blk V2 g8 33 #[.int .i64 La.base, .slice Aa La.snaps.length ca, .slice Da La.dead.length da]) := Lib.hid (by rw [hV2, hg8]; exact Blk.new _ _ _)
  have HV2 := Lib.hid (⟨hV2, hg8⟩ : _ ∧ _)
  have z7 := HX7.out.below BV2.out HX7.out.lt
  have j0 : V2.cell? ⟨g7, 0, none⟩ = some (.int .i64 bs) := z7.cell 0
  have j1 : V2.cell? ⟨g7, 1, none⟩ = some (.slice A1 n c1) := z7.cell 1
  have j2 : V2.cell? ⟨g7, 2, none⟩ = some (.slice A5 m c5) := z7.cell 2
  clear hV2 hg8 hb2 b1 hOa z7 i0 i1 i2 y0 y1 y2 y3
  go_upto_region 5 with (fail)
  rw [← HV2.out.1, ← HV2.out.2]
  clear HV2
  go_wp2_with fail
  refine (HSN.out _ _ _ _ _ _ _ (HOU.out.below BV2.out (Nat.le_refl _))).mono ?_
  rintro e V3 ⟨vb, rfl, ⟨Ab, cb, Db, db, vsb, rfl, hOb⟩, b3⟩
  obtain ⟨V4, hV4⟩ : ∃ V4, V4 = V3.alloc (.cells #[.int .i64 Lb.base, .slice Ab Lb.snaps.length cb, .slice Db Lb.dead.length db] 33) := ⟨_, rfl⟩
  obtain ⟨g11, hg11⟩ : ∃ g11, g11 = V3.heap.size := ⟨_, rfl⟩
  have hb4 : Below V3.heap.size V3 V4 := by rw [hV4]; exact (Below.refl _ _).alloc (Nat.le_refl _) _
  have b24 : Below V2.heap.size V2 V4 := b3.trans (hb4.mono b3.size)
  have BV4 := Lib.hid (BV2.out.trans (b24.mono BV2.out.size))
  have HOa4 := Lib.hid (HOa2.out.below b24 (Nat.le_refl _))
  have HOb4 := Lib.hid ((hOb.below hb4 (Nat.le_refl _)).base_ (b := U.heap.size) BV2.out.size)
  have HG84 := Lib.hid (HG8.out.below b24 HG8.out.lt)
  have HG11 : Hid (Blk V4 g11 33 #[.int .i64 Lb.base, .slice Ab Lb.snaps.length cb, .slice Db Lb.dead.length db]) := Lib.hid (by rw [hV4, hg11]; exact Blk.new _ _ _)
  have HV4 := Lib.hid (⟨hV4, hg11⟩ : _ ∧ _)
  have z7 := HX7.out.below BV4.out HX7.out.lt
  have j0 : V4.cell? ⟨g7, 0, none⟩ = some (.int .i64 bs) := z7.cell 0
  have j1 : V4.cell? ⟨g7, 1, none⟩ = some (.slice A1 n c1) := z7.cell 1
  have j2 : V4.cell? ⟨g7, 2, none⟩ = some (.slice A5 m c5) := z7.cell 2
  clear hV4 hg11 hb4 b24 b3 hOb z7
  go_upto_region 6 with (fail)
  rw [← HV4.out.1, ← HV4.out.2]
  clear HV4
  go_wp2_with fail
  refine (HDE.out _ _ _ _ _ _ _ (HOU.out.below BV4.out (Nat.le_refl _))).mono ?_
  rintro e V5 ⟨vc, fc, rfl, ⟨Ac, cc, Dc, dc, vsc, rfl, hOc⟩, ofc, b5⟩
  obtain ⟨Af, cf, hff, _, _, _, _, _⟩ := ofc.shape (fun _ => rfl)
  obtain ⟨nf, hnf⟩ : ∃ nf, nf = Fc.length := ⟨_, rfl⟩
  have hff' : fc = .slice Af nf cf := by rw [hnf]; exact hff
  clear hff
  subst hff'
  have HNF := Lib.hid hnf
  obtain ⟨V6, hV6⟩ : ∃ V6, V6 = V5.alloc (.cells #[.int .i64 Lc.base, .slice Ac Lc.snaps.length cc, .slice Dc Lc.dead.length dc] 33) := ⟨_, rfl⟩
  obtain ⟨g13, hg13⟩ : ∃ g13, g13 = V5.heap.size := ⟨_, rfl⟩
  have hb6 : Below V5.heap.size V5 V6 := by rw [hV6]; exact (Below.refl _ _).alloc (Nat.le_refl _) _
  have b46 : Below V4.heap.size V4 V6 := b5.trans (hb6.mono b5.size)
  have BV6 := Lib.hid (BV4.out.trans (b46.mono BV4.out.size))
  have HOa6 := Lib.hid (HOa4.out.below b46 (Nat.le_refl _))
  have HOb6 := Lib.hid (HOb4.out.below b46 (Nat.le_refl _))
  have HOc6 := Lib.hid ((hOc.below hb6 (Nat.le_refl _)).base_ (b := U.heap.size) BV4.out.size)
  have HOf6 := Lib.hid (own_base (base' := U.heap.size) (ofc.below hb6 (Nat.le_refl _)) BV4.out.size)
  have z8 := HG84.out.below b46 HG84.out.lt
  have z11 := HG11.out.below b46 HG11.out.lt
  have z13 : Blk V6 g13 33 #[.int .i64 Lc.base, .slice Ac Lc.snaps.length cc, .slice Dc Lc.dead.length dc] := by rw [hV6, hg13]; exact Blk.new _ _ _
  have HV6 := Lib.hid (⟨hV6, hg13⟩ : _ ∧ _)
  have k0 : V6.cell? ⟨g8, 0, none⟩ = some (.int .i64 La.base) := z8.cell 0
  have k1 : V6.cell? ⟨g8, 1, none⟩ = some (.slice Aa La.snaps.length ca) := z8.cell 1
  have k2 : V6.cell? ⟨g8, 2, none⟩ = some (.slice Da La.dead.length da) := z8.cell 2
  have l0 : V6.cell? ⟨g11, 0, none⟩ = some (.int .i64 Lb.base) := z11.cell 0
  have l1 : V6.cell? ⟨g11, 1, none⟩ = some (.slice Ab Lb.snaps.length cb) := z11.cell 1
  have l2 : V6.cell? ⟨g11, 2, none⟩ = some (.slice Db Lb.dead.length db) := z11.cell 2
  have n0 : V6.cell? ⟨g13, 0, none⟩ = some (.int .i64 Lc.base) := z13.cell 0
  have n1 : V6.cell? ⟨g13, 1, none⟩ = some (.slice Ac Lc.snaps.length cc) := z13.cell 1
  have n2 : V6.cell? ⟨g13, 2, none⟩ = some (.slice Dc Lc.dead.length dc) := z13.cell 2
  -- the three lines, one behind the other
  obtain ⟨V, hV⟩ : ∃ V, V = V6.alloc (.cells #[.int .i64 La.base, .slice Aa La.snaps.length ca, .slice Da La.dead.length da, .int .i64 Lb.base, .slice Ab Lb.snaps.length cb, .slice Db Lb.dead.length db, .int .i64 Lc.base, .slice Ac Lc.snaps.length cc, .slice Dc Lc.dead.length dc] 33) := ⟨_, rfl⟩
  obtain ⟨gL, hgL⟩ : ∃ gL, gL = V6.heap.size := ⟨_, rfl⟩
  have hbV : Below V6.heap.size V6 V := by rw [hV]; exact (Below.refl _ _).alloc (Nat.le_refl _) _
  have BV := Lib.hid (BV6.out.trans (hbV.mono BV6.out.size))
  have HGL : Hid (Blk V gL 33 #[.int .i64 La.base, .slice Aa La.snaps.length ca, .slice Da La.dead.length da, .int .i64 Lb.base, .slice Ab Lb.snaps.length cb, .slice Db Lb.dead.length db, .int .i64 Lc.base, .slice Ac Lc.snaps.length cc, .slice Dc Lc.dead.length dc]) := Lib.hid (by rw [hV, hgL]; exact Blk.new _ _ _)
  obtain ⟨fL, hfL⟩ : ∃ fL : Nat → Ln, fL = fun i => match i with | 0 => La | 1 => Lb | _ => Lc := ⟨_, rfl⟩
  obtain ⟨fA, hfA⟩ : ∃ fA : Nat → Option Addr, fA = fun i => match i with | 0 => Aa | 1 => Ab | _ => Ac := ⟨_, rfl⟩
  obtain ⟨fc', hfc⟩ : ∃ fc' : Nat → Nat, fc' = fun i => match i with | 0 => ca | 1 => cb | _ => cc := ⟨_, rfl⟩
  obtain ⟨fD, hfD⟩ : ∃ fD : Nat → Option Addr, fD = fun i => match i with | 0 => Da | 1 => Db | _ => Dc := ⟨_, rfl⟩
  obtain ⟨fd, hfd⟩ : ∃ fd : Nat → Nat, fd = fun i => match i with | 0 => da | 1 => db | _ => dc := ⟨_, rfl⟩
  obtain ⟨fv, hfv⟩ : ∃ fv : Nat → List SV, fv = fun i => match i with | 0 => vsa | 1 => vsb | _ => vsc := ⟨_, rfl⟩
  have HALL : Hid (∀ i, i < 3 → LnO 65 V U.heap.size (fA i) (fc' i) (fD i) (fd i) (fv i) (fL i) ∧ Fit (fL i)) := Lib.hid fun i hi => by
    rw [hfL, hfA, hfc, hfD, hfd, hfv]
    match i, hi with
    | 0, _ => exact ⟨HOa6.out.below hbV (Nat.le_refl _) |>.base_ (Nat.le_refl _), HFA.out⟩
    | 1, _ => exact ⟨HOb6.out.below hbV (Nat.le_refl _), HFB.out⟩
    | 2, _ => exact ⟨HOc6.out.below hbV (Nat.le_refl _), HFC.out⟩
  have HCEL : Hid (∀ i, i < 3 → ∀ w', Wr U.heap.size V w' → w'.cell? ⟨gL, i * 3 + 1, none⟩ = some (.slice (fA i) (fL i).snaps.length (fc' i)) ∧ w'.cell? ⟨gL, i * 3 + 2, none⟩ = some (.slice (fD i) (fL i).dead.length (fd i))) := Lib.hid fun i hi w' hw => by
    have h1 := hw.ln gL _ HGL.out
    rw [hfL, hfA, hfc, hfD, hfd]
    match i, hi with
    | 0, _ => exact ⟨h1.cell 1, h1.cell 2⟩
    | 1, _ => exact ⟨h1.cell 4, h1.cell 5⟩
    | 2, _ => exact ⟨h1.cell 7, h1.cell 8⟩
  have HOFV := Lib.hid (HOf6.out.below hbV (Nat.le_refl _))
  have HVV := Lib.hid (⟨hV, hgL⟩ : _ ∧ _)
  have HWR0 := Lib.hid (Wr.refl U.heap.size V)
  clear hV6 hg13 hb6 b46 b5 hOc ofc z8 z11 z13 j0 j1 j2 hV hgL hbV hnf hfL hfA hfc hfD hfd hfv HOa HOa2 HOa4 HOb4 HG8 HG84 HG11 HKI HSN HDE HOa6 HOb6 HOc6 HOf6 HGL
  go_upto_region 7 with (fail)
  rw [← HV6.out.1, ← HV6.out.2]
  clear HV6
  go_upto_region 8 with (fail)
  rw [← HVV.out.1, ← HVV.out.2]
  clear HVV k0 k1 k2 l0 l1 l2 n0 n1 n2
  go_wp2_with fail
  go_loopw [17] (fun y wr => ∃ i : Nat, i ≤ 3 ∧ y = .int .i64 (i : Int) ∧ Hid (Wr U.heap.size V wr)) (fun y _ => 3 - (intOf y).toNat)
  case atStart => exact ⟨0, by omega, rfl, HWR0⟩
  case round =>
    clear HWR0
    obtain ⟨i, hi3, rfl, HWR⟩ := hrel
    by_cases hlt : i < 3
    · have i1 : (i : Int) < 3 := by omega
      have HI := Lib.hid hlt
      obtain ⟨mi, hmi⟩ : ∃ mi, mi = (fL i).dead.length := ⟨_, rfl⟩
      obtain ⟨ni, hni⟩ : ∃ ni, ni = (fL i).snaps.length := ⟨_, rfl⟩
      have hmib : mi ≤ 4611686018427387904 := by rw [hmi]; exact (HALL.out i hlt).2.nd
      have hnib : ni ≤ 4611686018427387904 := by rw [hni]; exact (HALL.out i hlt).2.ns
      have HC1 : Hid (∀ w', Wr U.heap.size V w' → w'.cell? ⟨gL, i * 3 + 1, none⟩ = some (.slice (fA i) ni (fc' i)) ∧ w'.cell? ⟨gL, i * 3 + 2, none⟩ = some (.slice (fD i) mi (fd i))) := Lib.hid fun w' h => by rw [hni, hmi]; exact HCEL.out i hlt w' h
      have HMI := Lib.hid hmi
      have HNI := Lib.hid hni
      obtain ⟨Ai, hAi⟩ : ∃ Ai, Ai = fA i := ⟨_, rfl⟩
      obtain ⟨ci, hci⟩ : ∃ ci, ci = fc' i := ⟨_, rfl⟩
      obtain ⟨Di, hDi⟩ : ∃ Di, Di = fD i := ⟨_, rfl⟩
      obtain ⟨di, hdi⟩ : ∃ di, di = fd i := ⟨_, rfl⟩
      have HLI : Hid (LnO 65 V U.heap.size Ai ci Di di (fv i) (fL i)) := Lib.hid (by rw [hAi, hci, hDi, hdi]; exact (HALL.out i hlt).1)
      rw [← hAi, ← hci, ← hDi, ← hdi] at HC1
      obtain ⟨wo, hwo⟩ : ∃ wo, wo = wr := ⟨_, rfl⟩
      subst hwo
      clear hmi hni hAi hci hDi hdi
      go_wp2_with fail
      go_loopw [18] (fun y wr => ∃ j : Nat, j ≤ mi ∧ y = .int .i64 (j : Int) ∧ Hid (Wr U.heap.size V wr)) (fun y _ => mi - (intOf y).toNat)
      case atStart => exact ⟨0, by omega, rfl, HWR⟩
      case round =>
        clear HWR
        obtain ⟨j, hj, rfl, HWR⟩ := hrel
        have c2 := (HC1.out wr HWR.out).2
        by_cases hjl : j < mi
        · have i2 : (j : Int) < (mi : Int) := by omega
          obtain ⟨g, cur, hA, hgB, hblk, hsz⟩ := HWR.out.can HLI.out.oD rfl (by rw [← HMI.out]; exact hjl)
          subst hA
          obtain ⟨v0, hv0⟩ : ∃ v0, wr.cell? ⟨g, j * 4, none⟩ = some v0 := ⟨_, by rw [hblk.cell, Array.getElem?_eq_getElem (by omega)]⟩
          have f0 : wr.frozen? ⟨g, j * 4, none⟩ = false := hblk.frozen _
          have hblk1 := hblk.set_ (j * 4) (.int .i64 (-9))
          obtain ⟨v1, hv1⟩ : ∃ v1, (wr.setCell ⟨g, j * 4, none⟩ (.int .i64 (-9))).cell? ⟨g, j * 4 + 1, none⟩ = some v1 := ⟨_, by rw [hblk1.cell, Array.getElem?_eq_getElem (by simp; omega)]⟩
          have f1 : (wr.setCell ⟨g, j * 4, none⟩ (.int .i64 (-9))).frozen? ⟨g, j * 4 + 1, none⟩ = false := hblk1.frozen _
          have hblk2 := hblk1.set_ (j * 4 + 1) (.int .i64 0)
          obtain ⟨v2, hv2⟩ : ∃ v2, ((wr.setCell ⟨g, j * 4, none⟩ (.int .i64 (-9))).setCell ⟨g, j * 4 + 1, none⟩ (.int .i64 0)).cell? ⟨g, j * 4 + 2, none⟩ = some v2 := ⟨_, by rw [hblk2.cell, Array.getElem?_eq_getElem (by simp; omega)]⟩
          have f2 : ((wr.setCell ⟨g, j * 4, none⟩ (.int .i64 (-9))).setCell ⟨g, j * 4 + 1, none⟩ (.int .i64 0)).frozen? ⟨g, j * 4 + 2, none⟩ = false := hblk2.frozen _
          have hblk3 := hblk2.set_ (j * 4 + 2) (.int .i64 0)
          obtain ⟨v3, hv3⟩ : ∃ v3, (((wr.setCell ⟨g, j * 4, none⟩ (.int .i64 (-9))).setCell ⟨g, j * 4 + 1, none⟩ (.int .i64 0)).setCell ⟨g, j * 4 + 2, none⟩ (.int .i64 0)).cell? ⟨g, j * 4 + 3, none⟩ = some v3 := ⟨_, by rw [hblk3.cell, Array.getElem?_eq_getElem (by simp; omega)]⟩
          have f3 : (((wr.setCell ⟨g, j * 4, none⟩ (.int .i64 (-9))).setCell ⟨g, j * 4 + 1, none⟩ (.int .i64 0)).setCell ⟨g, j * 4 + 2, none⟩ (.int .i64 0)).frozen? ⟨g, j * 4 + 3, none⟩ = false := hblk3.frozen _
          have ZW := Lib.hid ((((HWR.out.setPt hblk hgB (j * 4) (.int .i64 (-9))).setPt hblk1 hgB (j * 4 + 1) (.int .i64 0)).setPt hblk2 hgB (j * 4 + 2) (.int .i64 0)).setPt hblk3 hgB (j * 4 + 3) (.string ⟨#[]⟩))
          have hBLK := Lib.hid hblk
          clear hblk hblk1 hblk2 hblk3 hgB hsz
          go_wp2_with fail
          go_roundw
          case rel => exact ⟨j + 1, by omega, by go_num, ZW⟩
          case measure => simp [intOf]; omega
        · have i2 : ¬ ((j : Int) < (mi : Int)) := by omega
          obtain ⟨w2, hw2⟩ : ∃ w2, w2 = wr := ⟨_, rfl⟩
          subst hw2
          go_wp2_with fail
          go_loopw [19] (fun y wr => ∃ q : Nat, q ≤ ni ∧ y = .int .i64 (q : Int) ∧ Hid (Wr U.heap.size V wr)) (fun y _ => ni - (intOf y).toNat)
          case atStart => exact ⟨0, by omega, rfl, HWR⟩
          case round =>
            clear HWR c2
            obtain ⟨q, hq, rfl, HWR⟩ := hrel
            have c1' := (HC1.out wr HWR.out).1
            by_cases hql : q < ni
            · have i3 : (q : Int) < (ni : Int) := by omega
              obtain ⟨x, hx⟩ : ∃ x, (fv i)[q]? = some x := ⟨_, List.getElem?_eq_getElem (by rw [HLI.out.oH.1, ← HNI.out]; exact hql)⟩
              obtain ⟨gs, curS, hA, hgB, hblk, hsz, hcx⟩ := HWR.out.snap HLI.out.oS hx
              subst hA
              obtain ⟨s, hsq⟩ : ∃ s, (fL i).snaps[q]? = some s := ⟨_, List.getElem?_eq_getElem (by rw [← HNI.out]; exact hql)⟩
              obtain ⟨x', e1, _, e3, e4⟩ := HLI.out.oH.2 q s hsq
              rw [hx] at e1
              injection e1 with e1
              subst e1
              obtain ⟨xA, hxA⟩ : ∃ xA, xA = x.A := ⟨_, rfl⟩
              obtain ⟨xn, hxn⟩ : ∃ xn, xn = x.n := ⟨_, rfl⟩
              obtain ⟨xc, hxc⟩ : ∃ xc, xc = x.c := ⟨_, rfl⟩
              have HRX : Hid (OwnP V U.heap.size (.slice xA xn xc) s.dead ∧ xn = s.dead.length) := Lib.hid ⟨by rw [hxA, hxn, hxc]; exact e4, by rw [hxn]; exact e3⟩
              have hxnb : xn ≤ 4611686018427387904 := by rw [hxn, e3]; exact (HALL.out i HI.out).2.sd s (List.mem_of_getElem? hsq)
              have HSC : Hid (∀ w', Wr U.heap.size V w' → w'.cell? ⟨gs, q * 2 + 1, none⟩ = some (.slice xA xn xc)) := Lib.hid fun w' h => by
                obtain ⟨g9, c9, e5, _, _, _, e6⟩ := h.snap HLI.out.oS hx
                injection e5 with e5
                injection e5 with e5
                subst e5
                rw [hxA, hxn, hxc]
                exact e6
              have HX9 := Lib.hid (⟨hx, hgB⟩ : _ ∧ _)
              have d1 := HSC.out wr HWR.out
              obtain ⟨w3, hw3⟩ : ∃ w3, w3 = wr := ⟨_, rfl⟩
              subst hw3
              clear hx hblk hsz hcx hsq e3 e4 hxA hxn hxc hgB
              go_wp2_with fail
              go_loopw [20] (fun y wr => ∃ r : Nat, r ≤ xn ∧ y = .int .i64 (r : Int) ∧ Hid (Wr U.heap.size V wr)) (fun y _ => xn - (intOf y).toNat)
              case atStart => exact ⟨0, by omega, rfl, HWR⟩
              case round =>
                clear HWR c1' d1
                obtain ⟨r, hr, rfl, HWR⟩ := hrel
                have c1' := (HC1.out wr HWR.out).1
                have d1 := HSC.out wr HWR.out
                by_cases hrl : r < xn
                · have i4 : (r : Int) < (xn : Int) := by omega
                  obtain ⟨g, cur, hA, hgB, hblk, hsz⟩ := HWR.out.can HRX.out.1 HRX.out.2 hrl
                  subst hA
                  obtain ⟨v0, hv0⟩ : ∃ v0, wr.cell? ⟨g, r * 4, none⟩ = some v0 := ⟨_, by rw [hblk.cell, Array.getElem?_eq_getElem (by omega)]⟩
                  have f0 : wr.frozen? ⟨g, r * 4, none⟩ = false := hblk.frozen _
                  have hblk1 := hblk.set_ (r * 4) (.int .i64 (-8))
                  obtain ⟨v1, hv1⟩ : ∃ v1, (wr.setCell ⟨g, r * 4, none⟩ (.int .i64 (-8))).cell? ⟨g, r * 4 + 1, none⟩ = some v1 := ⟨_, by rw [hblk1.cell, Array.getElem?_eq_getElem (by simp; omega)]⟩
                  have f1 : (wr.setCell ⟨g, r * 4, none⟩ (.int .i64 (-8))).frozen? ⟨g, r * 4 + 1, none⟩ = false := hblk1.frozen _
                  have hblk2 := hblk1.set_ (r * 4 + 1) (.int .i64 0)
                  obtain ⟨v2, hv2⟩ : ∃ v2, ((wr.setCell ⟨g, r * 4, none⟩ (.int .i64 (-8))).setCell ⟨g, r * 4 + 1, none⟩ (.int .i64 0)).cell? ⟨g, r * 4 + 2, none⟩ = some v2 := ⟨_, by rw [hblk2.cell, Array.getElem?_eq_getElem (by simp; omega)]⟩
                  have f2 : ((wr.setCell ⟨g, r * 4, none⟩ (.int .i64 (-8))).setCell ⟨g, r * 4 + 1, none⟩ (.int .i64 0)).frozen? ⟨g, r * 4 + 2, none⟩ = false := hblk2.frozen _
                  have hblk3 := hblk2.set_ (r * 4 + 2) (.int .i64 0)
                  obtain ⟨v3, hv3⟩ : ∃ v3, (((wr.setCell ⟨g, r * 4, none⟩ (.int .i64 (-8))).setCell ⟨g, r * 4 + 1, none⟩ (.int .i64 0)).setCell ⟨g, r * 4 + 2, none⟩ (.int .i64 0)).cell? ⟨g, r * 4 + 3, none⟩ = some v3 := ⟨_, by rw [hblk3.cell, Array.getElem?_eq_getElem (by simp; omega)]⟩
                  have f3 : (((wr.setCell ⟨g, r * 4, none⟩ (.int .i64 (-8))).setCell ⟨g, r * 4 + 1, none⟩ (.int .i64 0)).setCell ⟨g, r * 4 + 2, none⟩ (.int .i64 0)).frozen? ⟨g, r * 4 + 3, none⟩ = false := hblk3.frozen _
                  have ZW := Lib.hid ((((HWR.out.setPt hblk hgB (r * 4) (.int .i64 (-8))).setPt hblk1 hgB (r * 4 + 1) (.int .i64 0)).setPt hblk2 hgB (r * 4 + 2) (.int .i64 0)).setPt hblk3 hgB (r * 4 + 3) (.string ⟨#[]⟩))
                  clear hblk hblk1 hblk2 hblk3 hgB hsz
                  go_wp2_with fail
                  go_roundw
                  case rel => exact ⟨r + 1, by omega, by go_num, ZW⟩
                  case measure => simp [intOf]; omega
                · have i4 : ¬ ((r : Int) < (xn : Int)) := by omega
                  obtain ⟨g9, cS, e5, hgB, hblk, hsz, _⟩ := HWR.out.snap HLI.out.oS HX9.out.1
                  injection e5 with e5
                  injection e5 with e5
                  subst e5
                  obtain ⟨v0, hv0⟩ : ∃ v0, wr.cell? ⟨gs, q * 2, none⟩ = some v0 := ⟨_, by rw [hblk.cell, Array.getElem?_eq_getElem (by omega)]⟩
                  have f0 : wr.frozen? ⟨gs, q * 2, none⟩ = false := hblk.frozen _
                  have ZW := Lib.hid (HWR.out.setTxg hblk hgB q (.int .i64 (-7)))
                  clear hblk hsz hgB hrl
                  go_wp2_with fail
                  go_roundw
                  case rel => exact ⟨q + 1, by omega, by go_num, ZW⟩
                  case measure => simp [intOf]; omega
            · have i3 : ¬ ((q : Int) < (ni : Int)) := by omega
              clear hql
              go_wp2_with fail
              go_roundw
              case rel => exact ⟨i + 1, by omega, by go_num, HWR⟩
              case measure => simp [intOf]; omega
    · have i1 : ¬ ((i : Int) < 3) := by omega
      clear hlt hi3
      obtain ⟨w5, hw5⟩ : ∃ w5, w5 = wr := ⟨_, rfl⟩
      subst hw5
      have hnfb : nf ≤ 4194304 := by rw [HNF.out]; exact HFF.out
      go_wp2_with fail
      go_loopw [21] (fun y wr => ∃ j : Nat, j ≤ nf ∧ y = .int .i64 (j : Int) ∧ Hid (Wr U.heap.size V wr)) (fun y _ => nf - (intOf y).toNat)
      case atStart => exact ⟨0, by omega, rfl, HWR⟩
      case round =>
        clear HWR
        obtain ⟨j, hj, rfl, HWR⟩ := hrel
        by_cases hjl : j < nf
        · have i2 : (j : Int) < (nf : Int) := by omega
          obtain ⟨g, cur, hA, hgB, hblk, hsz⟩ := HWR.out.can HOFV.out HNF.out hjl
          subst hA
          obtain ⟨v0, hv0⟩ : ∃ v0, wr.cell? ⟨g, j * 4, none⟩ = some v0 := ⟨_, by rw [hblk.cell, Array.getElem?_eq_getElem (by omega)]⟩
          have f0 : wr.frozen? ⟨g, j * 4, none⟩ = false := hblk.frozen _
          have hblk1 := hblk.set_ (j * 4) (.int .i64 (-6))
          obtain ⟨v1, hv1⟩ : ∃ v1, (wr.setCell ⟨g, j * 4, none⟩ (.int .i64 (-6))).cell? ⟨g, j * 4 + 1, none⟩ = some v1 := ⟨_, by rw [hblk1.cell, Array.getElem?_eq_getElem (by simp; omega)]⟩
          have f1 : (wr.setCell ⟨g, j * 4, none⟩ (.int .i64 (-6))).frozen? ⟨g, j * 4 + 1, none⟩ = false := hblk1.frozen _
          have hblk2 := hblk1.set_ (j * 4 + 1) (.int .i64 0)
          obtain ⟨v2, hv2⟩ : ∃ v2, ((wr.setCell ⟨g, j * 4, none⟩ (.int .i64 (-6))).setCell ⟨g, j * 4 + 1, none⟩ (.int .i64 0)).cell? ⟨g, j * 4 + 2, none⟩ = some v2 := ⟨_, by rw [hblk2.cell, Array.getElem?_eq_getElem (by simp; omega)]⟩
          have f2 : ((wr.setCell ⟨g, j * 4, none⟩ (.int .i64 (-6))).setCell ⟨g, j * 4 + 1, none⟩ (.int .i64 0)).frozen? ⟨g, j * 4 + 2, none⟩ = false := hblk2.frozen _
          have hblk3 := hblk2.set_ (j * 4 + 2) (.int .i64 0)
          obtain ⟨v3, hv3⟩ : ∃ v3, (((wr.setCell ⟨g, j * 4, none⟩ (.int .i64 (-6))).setCell ⟨g, j * 4 + 1, none⟩ (.int .i64 0)).setCell ⟨g, j * 4 + 2, none⟩ (.int .i64 0)).cell? ⟨g, j * 4 + 3, none⟩ = some v3 := ⟨_, by rw [hblk3.cell, Array.getElem?_eq_getElem (by simp; omega)]⟩
          have f3 : (((wr.setCell ⟨g, j * 4, none⟩ (.int .i64 (-6))).setCell ⟨g, j * 4 + 1, none⟩ (.int .i64 0)).setCell ⟨g, j * 4 + 2, none⟩ (.int .i64 0)).frozen? ⟨g, j * 4 + 3, none⟩ = false := hblk3.frozen _
          have ZW := Lib.hid ((((HWR.out.setPt hblk hgB (j * 4) (.int .i64 (-6))).setPt hblk1 hgB (j * 4 + 1) (.int .i64 0)).setPt hblk2 hgB (j * 4 + 2) (.int .i64 0)).setPt hblk3 hgB (j * 4 + 3) (.string ⟨#[]⟩))
          clear hblk hblk1 hblk2 hblk3 hgB hsz
          go_wp2_with fail
          go_roundw
          case rel => exact ⟨j + 1, by omega, by go_num, ZW⟩
          case measure => simp [intOf]; omega
        · have i2 : ¬ ((j : Int) < (nf : Int)) := by omega
          clear hjl hj
          -- all that was handed in is as it was
          have HBE : Hid (Below U.heap.size U wr) := Lib.hid (BV.out.trans HWR.out.below)
          rename World => X
          obtain ⟨gd, hsd, hbd⟩ := HS2.out
          injection hsd with e1 e2 e3
          have e3' : c5 = m + 2 := by rw [e3, HM.out]
          clear e2 e3
          subst e1 e3'
          have HBD := Lib.hid (hbd.below HBE.out hbd.lt)
          have p7 := HX7.out.below HBE.out HX7.out.lt
          have u1 : X.cell? ⟨g7, 1, none⟩ = some (.slice A1 n c1) := p7.cell 1
          have u2 : X.cell? ⟨g7, 2, none⟩ = some (.slice (some ⟨gd, 0, none⟩) m (m + 2)) := p7.cell 2
          have HNZ : ∀ W', (binOp .neq 27 (.agg #[.int .i64 0, .int .i64 0, .int .i64 0, .string ⟨#[]⟩]) (.agg #[.int .i64 0, .int .i64 0, .int .i64 0, .string ⟨#[]⟩])).run Try.prog W' = .ok (.bool false) W' := neq_z
          have S2 : ∀ W' : World, (Instr.sliceAt 23 (.slice (some ⟨gd, 0, none⟩) m (m + 2)) none (some (.int .i64 ((m : Int) + 2))) none).run Try.prog W' = .ok (.slice (some ⟨gd, 0, none⟩) (m + 2) (m + 2)) W' := fun W' => pslc_cap gd m W'
          clear hbd p7
          go_wp2_with fail
          go_loopw [23] (fun y wr => ∃ j : Nat, m ≤ j ∧ j ≤ m + 2 ∧ y = .int .i64 (j : Int) ∧ wr = X) (fun y _ => m + 2 - (intOf y).toNat)
          case atStart => exact ⟨m, by omega, by omega, rfl, rfl⟩
          case round =>
            obtain ⟨j, hj1, hj2, rfl, hwr⟩ := hrel
            have hwr' := hwr.symm
            clear hwr
            subst hwr'
            by_cases hjl : j < m + 2
            · have i3 : (j : Int) < (m : Int) + 2 := by omega
              obtain ⟨z0, z1, z2, z3⟩ := spare_zero HBD.out HM.out hj1 hjl
              go_wp2_with fail
              go_roundw
              case rel => exact ⟨j + 1, by omega, by omega, by go_num, by first | rfl | trivial⟩
              case measure => simp [intOf]; omega
            · have i3 : ¬ ((j : Int) < (m : Int) + 2) := by omega
              clear hjl hj1 hj2
              go_wp2_with fail
              go_loopw [24] (fun y wr => ∃ q : Nat, q ≤ n ∧ y = .int .i64 (q : Int) ∧ ∃ d, wr = X.drewN d) (fun y _ => n - (intOf y).toNat)
              case atStart => exact ⟨0, by omega, rfl, 0, rfl⟩
              case round =>
                obtain ⟨q, hq, rfl, dw, hwr⟩ := hrel
                have HWD := Lib.hid hwr
                have p7 : Blk wr g7 33 #[.int .i64 bs, .slice A1 n c1, .slice (some ⟨gd, 0, none⟩) m (m + 2)] := by rw [hwr]; exact HX7.out.below (below_drewN HBE.out dw) HX7.out.lt
                have u1 : wr.cell? ⟨g7, 1, none⟩ = some (.slice A1 n c1) := p7.cell 1
                have HP7 := Lib.hid p7
                clear hwr p7
                by_cases hql : q < n
                · have i4 : (q : Int) < (n : Int) := by omega
                  obtain ⟨s, hsq⟩ : ∃ s, L.snaps[q]? = some s := ⟨_, List.getElem?_eq_getElem (by rw [← HN.out]; exact hql)⟩
                  obtain ⟨x, hx, g, hsr, hbg⟩ := HS1.out.2 q s hsq
                  obtain ⟨gs, curS, hA, hgB, hblk, hsz, hcx⟩ := (Wr.refl _ U).snap HOU.out.oS hx
                  subst hA
                  obtain ⟨xn, hxn⟩ : ∃ xn, xn = s.dead.length := ⟨_, rfl⟩
                  have hrow : (Value.slice x.A x.n x.c) = .slice (some ⟨g, 0, none⟩) xn (xn + 2) := by rw [hxn]; exact hsr
                  rw [hrow] at hcx
                  have hXX : Below U.heap.size U wr := by rw [HWD.out]; exact below_drewN HBE.out dw
                  have d1 : wr.cell? ⟨gs, q * 2 + 1, none⟩ = some (.slice (some ⟨g, 0, none⟩) xn (xn + 2)) := (hXX.cell (p := ⟨gs, q * 2 + 1, none⟩) hblk.lt).trans hcx
                  have hxnb : xn ≤ 4194304 := by rw [hxn]; exact HFL.out.2.2.2 s (List.mem_of_getElem? hsq)
                  have HBG := Lib.hid (hbg.below HBE.out hbg.lt)
                  have HXN := Lib.hid hxn
                  have S3 : ∀ W' : World, (Instr.sliceAt 23 (.slice (some ⟨g, 0, none⟩) xn (xn + 2)) none (some (.int .i64 ((xn : Int) + 2))) none).run Try.prog W' = .ok (.slice (some ⟨g, 0, none⟩) (xn + 2) (xn + 2)) W' := fun W' => pslc_cap g xn W'
                  clear hsq hx hsr hbg hblk hsz hcx hxn hrow hXX hgB
                  go_upto_region 36 with (fail)
                  go_quiet (fail)
                  go_wp2_with fail
                  go_loopw [26] (fun y w9 => ∃ j : Nat, xn ≤ j ∧ j ≤ xn + 2 ∧ y = .int .i64 (j : Int) ∧ ∃ d, w9 = X.drewN d) (fun y _ => xn + 2 - (intOf y).toNat)
                  case atStart => exact ⟨xn, by omega, by omega, rfl, dw + nq, by rw [HWD.out]; simp [World.drewN_drewN]⟩
                  case round =>
                    obtain ⟨j, hj1, hj2, rfl, d9, hw9⟩ := hrel
                    by_cases hjl : j < xn + 2
                    · have i5 : (j : Int) < (xn : Int) + 2 := by omega
                      have hbw : Blk wr g 27 (s.dead.flatMap csP ++ (zcs 2).toList).toArray := by rw [hw9]; exact HBG.out
                      obtain ⟨z0, z1, z2, z3⟩ := spare_zero hbw HXN.out hj1 hjl
                      have HW9 := Lib.hid hw9
                      clear hw9 hbw
                      go_wp2_with fail
                      go_roundw
                      case rel => exact ⟨j + 1, by omega, by omega, by go_num, _, HW9.out⟩
                      case measure => simp [intOf]; omega
                    · have i5 : ¬ ((j : Int) < (xn : Int) + 2) := by omega
                      have HW9 := Lib.hid hw9
                      clear hw9 hjl
                      go_wp2_with fail
                      go_roundw
                      case rel => exact ⟨q + 1, by omega, by go_num, _, HW9.out⟩
                      case measure => simp [intOf]; omega
                · have i4 : ¬ ((q : Int) < (n : Int)) := by omega
                  rename World => Y
                  have hUY : Below U.heap.size U Y := by rw [HWD.out]; exact below_drewN HBE.out dw
                  have HTT : Hid (∀ w', Below Y.heap.size Y w' → Blk w' g7 33 #[.int .i64 bs, .slice A1 n c1, .slice (some ⟨gd, 0, none⟩) m (m + 2)] ∧ Blk w' r3 25 #[.int .i64 bs, .slice A n c, .slice A' m c']) := Lib.hid fun w' h => ⟨HP7.out.below h HP7.out.lt, (HXU.out.1.below hUY HXU.out.1.lt).below h (HXU.out.1.below hUY HXU.out.1.lt).lt⟩
                  have LZ0 : Hid (Below Y.heap.size Y Y.drew) := Lib.hid (Below.refl _ _).drew
                  have HT0 : Hid (Blk Y.drew g7 33 #[.int .i64 bs, .slice A1 n c1, .slice (some ⟨gd, 0, none⟩) m (m + 2)] ∧ Blk Y.drew r3 25 #[.int .i64 bs, .slice A n c, .slice A' m c']) := Lib.hid (HTT.out _ LZ0.out)
                  have hOY := HOU.out.below hUY (Nat.le_refl _)
                  have HBK : Hid (∀ w', Below Y.heap.size Y w' → Calls Try.prog 15 #[.agg #[.int .i64 bs, .slice A1 n c1, .slice (some ⟨gd, 0, none⟩) m (m + 2)]] w' fun e w9 => BackPost w' L (some ⟨gd, 0, none⟩) m (m + 2) e w9) := Lib.hid fun w' h => by
                    have h1 := back_at w' L A1 (some ⟨gd, 0, none⟩) c1 (m + 2) m HFL.out.1 (hOY.rs.1.below h)
                    rw [← HN.out, ← HBS.out] at h1
                    exact h1
                  have hWY : Below W.heap.size W Y := LU.out.trans (hUY.mono LU.out.size)
                  have HSL : Hid (∀ (w' : World) (BA : Option Addr) (bq : Nat), Below Y.heap.size Y w' → RdS w' BA L.snaps → Calls Try.prog 14 #[.agg #[.int .i64 bs, .slice BA n bq, .slice (some ⟨gd, 0, none⟩) m (m + 2)], .agg #[.int .i64 bs, .slice A n c, .slice A' m c']] w' fun e w9 => e = .returned (.bool true) ∧ Below w'.heap.size w' w9) := Lib.hid fun w' BA bq h hr => by
                    have hW' := hWY.trans (h.mono hWY.size)
                    have h1 := sameline_at w' L BA (some ⟨gd, 0, none⟩) A A' bq (m + 2) c c' HFL.out.1 hr (hOY.rd.1.below h) (HRR.out _ hW').1 (HRR.out _ hW').2
                    rw [← HN.out, ← HM.out, ← HBS.out] at h1
                    exact h1
                  have LY := Lib.hid hWY
                  clear hUY hOY hWY hql
                  go_upto_region 42 with (fail)
                  refine region_anyZ (fun w' => Blk w' g7 33 #[.int .i64 bs, .slice A1 n c1, .slice (some ⟨gd, 0, none⟩) m (m + 2)] ∧ Blk w' r3 25 #[.int .i64 bs, .slice A n c, .slice A' m c']) 5 (by kernel_rfl) ?_
                  refine takeG 0 (.load 33 (.tmp 7)) (some 193) none (.agg #[.int .i64 bs, .slice A1 n c1, .slice (some ⟨gd, 0, none⟩) m (m + 2)]) (by kernel_rfl) (by kernel_rfl) (by kernel_rfl) (fun _ _ _ h => h) (fun o' wq e hS => exec_load (x := (.tmp 7)) e (by kernel_rfl) (load_ln hS.1)) HT0.out ?_
                  refine takeG 2 (.load 25 (.tmp 3)) (some 195) none (.agg #[.int .i64 bs, .slice A n c, .slice A' m c']) (by kernel_rfl) (by kernel_rfl) (by kernel_rfl) (fun _ _ _ h => h) (fun o' wq e hS => exec_load (x := (.tmp 3)) e (by kernel_rfl) (load_rln hS.2)) HT0.out ?_
                  refine loneG 1 (.call ⟨.value (.func 15), #[(.tmp 193)], #[33]⟩) (some 194) none (by kernel_rfl) (by kernel_rfl) (by kernel_rfl) ?_
                  intro o' ho hod
                  refine wp_callC (f := 15) (args := #[.agg #[.int .i64 bs, .slice A1 n c1, .slice (some ⟨gd, 0, none⟩) m (m + 2)]]) (by cases o'; cases ho; kernel_rfl) (HBK.out _ LZ0.out) ?_
                  rintro ee V1 ⟨BA, bq, rfl, hrs, hbq, bb⟩
                  have LZ1 := Lib.hid (LZ0.out.trans (bb.mono LZ0.out.size))
                  have HT1 := Lib.hid (HTT.out _ LZ1.out)
                  rw [← HN.out, ← HBS.out]
                  have HRS1 := Lib.hid hrs
                  refine ⟨.agg #[.int .i64 bs, .slice BA n bq, .slice (some ⟨gd, 0, none⟩) m (m + 2)], rfl, ?_⟩
                  rw [hod]
                  clear hod ho bb
                  refine ⟨fun _ => HT1.out, ?_⟩
                  refine loneG 3 (.call ⟨.value (.func 14), #[(.tmp 194), (.tmp 195)], #[25, 25]⟩) (some 196) none (by kernel_rfl) (by kernel_rfl) (by kernel_rfl) ?_
                  intro o' ho hod
                  refine wp_callC (f := 14) (args := #[.agg #[.int .i64 bs, .slice BA n bq, .slice (some ⟨gd, 0, none⟩) m (m + 2)], .agg #[.int .i64 bs, .slice A n c, .slice A' m c']]) (by cases o'; cases ho; kernel_rfl) (HSL.out _ _ _ LZ1.out HRS1.out) ?_
                  rintro ee V2 ⟨rfl, bb⟩
                  have LZ2 := Lib.hid (LZ1.out.trans (bb.mono LZ1.out.size))
                  have HT2 := Lib.hid (HTT.out _ LZ2.out)
                  refine ⟨.bool true, rfl, ?_⟩
                  rw [hod]
                  clear hod ho bb
                  refine ⟨fun _ => HT2.out, ?_⟩
                  refine lastS 4 (.assign (.tmp 196)) (some 6) (.bool true) (by kernel_rfl) (by kernel_rfl) (by kernel_rfl) HT2.out (fun o' e => exec_assign _ e (by kernel_rfl)) ?_
                  simp only [put_some, put_none, List.setIfInBounds_toArray, List.set_cons_succ, List.set_cons_zero]
                  have LFIN := Lib.hid (LW.out.trans ((LY.out.trans (LZ2.out.mono LY.out.size)).mono LW.out.size))
                  clear HT0 HT1 HT2 LZ0 LZ1 LZ2
                  go_wp2_with fail
                  go_ret
                  exact ⟨rfl, LFIN.out⟩
end Dd
namespace deadApart
theorem walk (L0 : Dd.Ln) (a0 b0 : Option Addr) (c0 e0 : Nat) (p0 p1 p2 : Int) (p3 : ByteArray) (k : Int) (W : World) (f0 : Dd.Fit L0) (t0 : Dd.Tight L0) (y0 : Dd.RdS W a0 L0.snaps) (n0 : a0 = none → c0 = 0) (x0 : Dd.RdP W b0 L0.dead) (m0 : b0 = none → e0 = 0) (s0 : Dd.Small L0) (w0 : (Lit.int .i64 p0).wf = true) (w1 : (Lit.int .i64 p1).wf = true) (w2 : (Lit.int .i64 p2).wf = true) (z3 : p3.size ≤ maxLen) (w4 : (Lit.int .i64 k).wf = true) :
    Calls Try.prog 6 #[.agg #[.int .i64 L0.base, .slice a0 L0.snaps.length c0, .slice b0 L0.dead.length e0], .agg #[.int .i64 p0, .int .i64 p1, .int .i64 p2, .string p3], .int .i64 k] W fun e w' => e = .returned (.bool true) ∧ Below W.heap.size W w' :=
  Dd.apart_walk W L0 ⟨p0, p1, p2, p3⟩ k a0 b0 c0 e0 f0 t0 s0 y0 n0 x0 m0 (Dd.bnd w2)
end deadApart
end Go.Proofs.Ytpoacgofbbfhcaa
