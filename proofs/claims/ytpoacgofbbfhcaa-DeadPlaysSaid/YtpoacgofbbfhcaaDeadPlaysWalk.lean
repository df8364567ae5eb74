/-
  'hoardlaw11.DeadPlays': the walk. The conditions: the line and the block can be read, the line's rows have room.
-/
import Derived.Test.YtpoacgofbbfhcaaDeadFit
namespace Go.Proofs.Ytpoacgofbbfhcaa
open Go Go.RowKit
set_option maxRecDepth 100000
set_option linter.unusedVariables false
namespace Dd
theorem load_pt4 {w : World} {g : Nat} {p : Pt} (h : Blk w g 27 #[.int .i64 p.addr, .int .i64 p.size, .int .i64 p.birth, .string p.sum]) : (Instr.loadAt 27 (.pointer (some ⟨g, 0, none⟩))).run Try.prog w = .ok (.agg #[.int .i64 p.addr, .int .i64 p.size, .int .i64 p.birth, .string p.sum]) w := load_pt ⟨h.cell 0, h.cell 1, h.cell 2, h.cell 3⟩
set_option maxHeartbeats 25600000 in
theorem plays_walk (w : World) (L : Ln) (p : Pt) (t : Int) (A A' : Option Addr) (c c' : Nat) (hf : Fit L) (ht : Tight L) (hs : RdS w A L.snaps) (hsn : A = none → c = 0) (hd : RdP w A' L.dead) (hdn : A' = none → c' = 0) (hp : Z64 p.birth) (hz : Z64 t) :
    Calls Try.prog 3 #[.agg #[.int .i64 L.base, .slice A L.snaps.length c, .slice A' L.dead.length c'], .agg #[.int .i64 p.addr, .int .i64 p.size, .int .i64 p.birth, .string p.sum], .int .i64 t] w fun e w' => e = .returned (.bool true) ∧ Below w.heap.size w w' := by
  obtain ⟨n, hn⟩ : ∃ n, n = L.snaps.length := ⟨_, rfl⟩
  obtain ⟨m, hm⟩ : ∃ m, m = L.dead.length := ⟨_, rfl⟩
  obtain ⟨bs, hbs⟩ : ∃ bs, bs = L.base := ⟨_, rfl⟩
  have HN := Lib.hid hn
  have HM := Lib.hid hm
  have HBS := Lib.hid hbs
  obtain ⟨RR, hRR⟩ : ∃ RR, RR = rightL L := ⟨_, rfl⟩
  obtain ⟨ck, hck⟩ : ∃ ck : Int, ck = if RR then 0 else 2 := ⟨_, rfl⟩
  have HCE := Lib.hid hck
  obtain ⟨KK, hKK⟩ : ∃ KK, KK = killS L p := ⟨_, rfl⟩
  obtain ⟨La, ba, ea⟩ := KK
  obtain ⟨SS, hSS⟩ : ∃ SS, SS = snapS L t := ⟨_, rfl⟩
  obtain ⟨Lb, eb⟩ := SS
  have HFA : Hid (Fit La) := Lib.hid (by have h := fit_kill hf ht p hp; rw [← hKK] at h; exact h)
  have HFB : Hid (Fit Lb) := Lib.hid (by have h := fit_snap hf ht t hz; rw [← hSS] at h; exact h)
  obtain ⟨W_1, hw0⟩ : ∃ W9, W9 = w.alloc (.cells #[.int .i64 bs, .slice A n c, .slice A' m c'] 25) := ⟨_, rfl⟩
  obtain ⟨W, hw1⟩ : ∃ W9, W9 = W_1.alloc (.cells #[.int .i64 p.addr, .int .i64 p.size, .int .i64 p.birth, .string p.sum] 27) := ⟨_, rfl⟩
  obtain ⟨r3, hr0⟩ : ∃ r9, r9 = w.heap.size := ⟨_, rfl⟩
  have hs0 : W_1.heap.size = r3 + 1 := by rw [hw0]; simp; omega
  obtain ⟨r4, hr1⟩ : ∃ r9, r9 = r3 + 1 := ⟨_, rfl⟩
  have hs1 : W.heap.size = r4 + 1 := by rw [hw1]; simp; omega
  have hb0 : Below w.heap.size w W_1 := by rw [hw0]; exact (Below.refl _ _).alloc (Nat.le_refl _) _
  have hb1 : Below w.heap.size w W := by rw [hw1]; exact hb0.alloc hb0.size _
  have Xr3 : Blk W r3 25 #[.int .i64 bs, .slice A n c, .slice A' m c'] := by
    have h := Blk.new w 25 #[.int .i64 bs, .slice A n c, .slice A' m c']
    rw [← hr0] at h
    rw [hw1, hw0]
    exact h.alloc _
  have Xr4 : Blk W r4 27 #[.int .i64 p.addr, .int .i64 p.size, .int .i64 p.birth, .string p.sum] := by
    have h := Blk.new W_1 27 #[.int .i64 p.addr, .int .i64 p.size, .int .i64 p.birth, .string p.sum]
    rw [hs0, ← hr1] at h
    rw [hw1]
    exact h
  have HE : Hid (r3 = w.heap.size ∧ r4 = r3 + 1) := Lib.hid ⟨hr0, hr1⟩
  have HW0 := Lib.hid hw0
  have HW1 := Lib.hid hw1
  have HWZ := Lib.hid hs1
  have hb := hb1
  have hR : ∀ W2, Below W.heap.size W W2 → RdS W2 A L.snaps ∧ RdP W2 A' L.dead := fun W2 hb2 => ⟨(hs.below hb).below hb2, (hd.below hb).below hb2⟩
  have HOF : Hid (∀ W2, Below W.heap.size W W2 → Calls Try.prog 10 #[.agg #[.int .i64 bs, .slice A n c, .slice A' m c']] W2 fun e w' => OfPost W2 L e w') := Lib.hid fun W2 hb2 => by rw [hn, hm, hbs]; exact of_at W2 L A A' c c' hf (hR W2 hb2).1 hsn (hR W2 hb2).2 hdn
  have HRT : Hid (∀ W2, Below W.heap.size W W2 → Calls Try.prog 11 #[.agg #[.int .i64 bs, .slice A n c, .slice A' m c']] W2 fun e w' => e = .returned (.bool RR) ∧ Below W2.heap.size W2 w') := Lib.hid fun W2 hb2 => by rw [hn, hm, hbs, hRR]; exact rright_at W2 L A A' c c' hf (hR W2 hb2).1 (hR W2 hb2).2
  have HDK : Hid (∀ W2, Below W.heap.size W W2 → Calls Try.prog 12 #[.agg #[.int .i64 bs, .slice A n c, .slice A' m c'], .agg #[.int .i64 p.addr, .int .i64 p.size, .int .i64 p.birth, .string p.sum]] W2 fun e w' => KillPost 72 W2 (La, ba, ea) e w') := Lib.hid fun W2 hb2 => by rw [hn, hm, hbs, hKK]; exact dockill_at W2 L p A A' c c' hf (hR W2 hb2).1 hsn (hR W2 hb2).2 hdn
  have HDS : Hid (∀ W2, Below W.heap.size W W2 → Calls Try.prog 16 #[.agg #[.int .i64 bs, .slice A n c, .slice A' m c'], .int .i64 t] W2 fun e w' => SnapPost 72 W2 (Lb, eb) e w') := Lib.hid fun W2 hb2 => by rw [hn, hm, hbs, hSS]; exact docsnap_at W2 L t A A' c c' hf (hR W2 hb2).1 hsn (hR W2 hb2).2 hdn
  have HCK : Hid (∀ (W2 : World) (b : Nat) (A1 : Option Addr) (c1 : Nat) (A5 : Option Addr) (c5 : Nat) (vs : List SV), LnO 65 W2 b A1 c1 A5 c5 vs L → Calls Try.prog 9 #[.agg #[.int .i64 bs, .slice A1 n c1, .slice A5 m c5]] W2 fun e w' => e = .returned (.int .i64 ck) ∧ Below W2.heap.size W2 w') := Lib.hid fun W2 b A1 c1 A5 c5 vs h => by rw [hn, hm, hbs, hck, hRR]; exact check_at W2 L A1 A5 c1 c5 hf h.rs.1 h.rd.1
  have HKI : Hid (∀ (W2 : World) (b : Nat) (A1 : Option Addr) (c1 : Nat) (A5 : Option Addr) (c5 : Nat) (vs : List SV), LnO 65 W2 b A1 c1 A5 c5 vs L → Calls Try.prog 13 #[.agg #[.int .i64 bs, .slice A1 n c1, .slice A5 m c5], .agg #[.int .i64 p.addr, .int .i64 p.size, .int .i64 p.birth, .string p.sum]] W2 fun e w' => KillPost 65 W2 (La, ba, ea) e w') := Lib.hid fun W2 b A1 c1 A5 c5 vs h => by rw [hn, hm, hbs, hKK]; exact kill_at W2 L p A1 A5 c1 c5 hf h.rs.1 h.rs.2 h.rd.1 h.rd.2
  have HSN : Hid (∀ (W2 : World) (b : Nat) (A1 : Option Addr) (c1 : Nat) (A5 : Option Addr) (c5 : Nat) (vs : List SV), LnO 65 W2 b A1 c1 A5 c5 vs L → Calls Try.prog 17 #[.agg #[.int .i64 bs, .slice A1 n c1, .slice A5 m c5], .int .i64 t] W2 fun e w' => SnapPost 65 W2 (Lb, eb) e w') := Lib.hid fun W2 b A1 c1 A5 c5 vs h => by rw [hn, hm, hbs, hSS]; exact snapshot_at W2 L t A1 A5 c1 c5 hf h.rs.1 h.rs.2 h.rd.1 h.rd.2
  have HSS : Hid (∀ w', Below W.heap.size W w' → Blk w' r3 25 #[.int .i64 bs, .slice A n c, .slice A' m c'] ∧ Blk w' r4 27 #[.int .i64 p.addr, .int .i64 p.size, .int .i64 p.birth, .string p.sum]) := Lib.hid fun w' h => ⟨Xr3.below h Xr3.lt, Xr4.below h Xr4.lt⟩
  have LW := Lib.hid hb
  have LX0 : Hid (Below W.heap.size W W.drew) := Lib.hid (Below.refl _ _).drew
  have HS0 : Hid (Blk W.drew r3 25 #[.int .i64 bs, .slice A n c, .slice A' m c'] ∧ Blk W.drew r4 27 #[.int .i64 p.addr, .int .i64 p.size, .int .i64 p.birth, .string p.sum]) := Lib.hid (HSS.out _ LX0.out)
  rw [← hn, ← hm, ← hbs]
  clear hn hm hbs hf hs hsn hd hdn hb hR Xr3 Xr4 ht hp hz hRR hKK hSS hck hw0 hr0 hs0 hb0 hw1 hr1 hs1 hb1
  go_enter Try.func3, Try.ntmps3
  go_upto_region 1 with (fail)
  rw [← HW0.out, ← HW1.out, ← HE.out.1, ← HE.out.2]
  refine region_anyZ (fun w' => Blk w' r3 25 #[.int .i64 bs, .slice A n c, .slice A' m c'] ∧ Blk w' r4 27 #[.int .i64 p.addr, .int .i64 p.size, .int .i64 p.birth, .string p.sum]) 11 (by kernel_rfl) ?_
  refine loneG 0 (.call ⟨.value (.func 8), #[], #[]⟩) (some 13) none (by kernel_rfl) (by kernel_rfl) (by kernel_rfl) ?_
  intro o' ho hod
  refine wp_callC (f := 8) (args := #[]) (by cases o'; cases ho; kernel_rfl) (known_at _) ?_
  rintro ee V1 ⟨rfl, bb⟩
  have LX1 := Lib.hid (LX0.out.trans (bb.mono LX0.out.size))
  have HS1 := Lib.hid (HSS.out _ LX1.out)
  refine ⟨.bool true, rfl, ?_⟩
  rw [hod]
  clear hod ho bb 
  refine ⟨fun _ => HS1.out, ?_⟩
  refine takeG 1 (.unOp .not 4 (.tmp 13)) (some 14) none (.bool false) (by kernel_rfl) (by kernel_rfl) (by kernel_rfl) (fun _ _ _ h => h) (fun o' wq e hS => exec_un (u := .bool true) wq e (by kernel_rfl) (by kernel_rfl)) HS1.out ?_
  refine takeG 2 (.move (.tmp 14)) (some 15) none (.bool false) (by kernel_rfl) (by kernel_rfl) (by kernel_rfl) (fun _ _ _ h => h) (fun o' wq e hS => exec_move wq e (by kernel_rfl)) HS1.out ?_
  refine takeG 3 (.load 25 (.tmp 3)) (some 16) (some (2, false)) (.agg #[.int .i64 bs, .slice A n c, .slice A' m c']) (by kernel_rfl) (by kernel_rfl) (by kernel_rfl) (fun _ _ _ h => h) (fun o' wq e hS => exec_load (x := (.tmp 3)) e (by kernel_rfl) (load_rln hS.1)) HS1.out ?_
  refine takeG 7 (.load 25 (.tmp 3)) (some 20) (some (2, false)) (.agg #[.int .i64 bs, .slice A n c, .slice A' m c']) (by kernel_rfl) (by kernel_rfl) (by kernel_rfl) (fun _ _ _ h => h) (fun o' wq e hS => exec_load (x := (.tmp 3)) e (by kernel_rfl) (load_rln hS.1)) HS1.out ?_
  refine loneG 4 (.call ⟨.value (.func 10), #[(.tmp 16)], #[25]⟩) (some 17) (some (2, false)) (by kernel_rfl) (by kernel_rfl) (by kernel_rfl) ?_
  intro o' ho hod
  refine wp_callC (f := 10) (args := #[.agg #[.int .i64 bs, .slice A n c, .slice A' m c']]) (by cases o'; cases ho; kernel_rfl) (HOF.out _ LX1.out) ?_
  rintro ee V2 ⟨A1, c1, A5, c5, vs1, rfl, hO1, hx1, hx2, bb⟩
  have LX2 := Lib.hid (LX1.out.trans (bb.mono LX1.out.size))
  have HS2 := Lib.hid (HSS.out _ LX2.out)
  rw [← HN.out, ← HM.out, ← HBS.out]
  have HO1 := Lib.hid hO1
  refine ⟨.agg #[.int .i64 bs, .slice A1 n c1, .slice A5 m c5], rfl, ?_⟩
  rw [hod]
  clear hod ho bb hO1 hx1 hx2
  refine ⟨fun _ => HS2.out, ?_⟩
  refine loneG 5 (.call ⟨.value (.func 9), #[(.tmp 17)], #[33]⟩) (some 18) (some (2, false)) (by kernel_rfl) (by kernel_rfl) (by kernel_rfl) ?_
  intro o' ho hod
  refine wp_callC (f := 9) (args := #[.agg #[.int .i64 bs, .slice A1 n c1, .slice A5 m c5]]) (by cases o'; cases ho; kernel_rfl) (HCK.out _ _ _ _ _ _ _ HO1.out) ?_
  rintro ee V3 ⟨rfl, bb⟩
  have LX3 := Lib.hid (LX2.out.trans (bb.mono LX2.out.size))
  have HS3 := Lib.hid (HSS.out _ LX3.out)
  refine ⟨.int .i64 ck, rfl, ?_⟩
  rw [hod]
  clear hod ho bb 
  refine ⟨fun _ => HS3.out, ?_⟩
  refine takeG 6 (.binOp .eql 29 (.tmp 18) (.const (.int .i64 0)) 29) (some 19) (some (2, false)) (.bool RR) (by kernel_rfl) (by kernel_rfl) (by kernel_rfl) (fun _ _ _ h => h) (fun o' wq e hS => exec_bin (u1 := .int .i64 ck) (u2 := (.int .i64 0)) wq e (by kernel_rfl) (by kernel_rfl) (eqG_int ..) (eq_ck2 HCE.out _)) HS3.out ?_
  refine loneG 8 (.call ⟨.value (.func 11), #[(.tmp 20)], #[25]⟩) (some 21) (some (2, false)) (by kernel_rfl) (by kernel_rfl) (by kernel_rfl) ?_
  intro o' ho hod
  refine wp_callC (f := 11) (args := #[.agg #[.int .i64 bs, .slice A n c, .slice A' m c']]) (by cases o'; cases ho; kernel_rfl) (HRT.out _ LX3.out) ?_
  rintro ee V4 ⟨rfl, bb⟩
  have LX4 := Lib.hid (LX3.out.trans (bb.mono LX3.out.size))
  have HS4 := Lib.hid (HSS.out _ LX4.out)
  refine ⟨.bool RR, rfl, ?_⟩
  rw [hod]
  clear hod ho bb 
  refine ⟨fun _ => HS4.out, ?_⟩
  refine takeG 9 (.binOp .neq 4 (.tmp 19) (.tmp 21) 4) (some 22) (some (2, false)) (.bool false) (by kernel_rfl) (by kernel_rfl) (by kernel_rfl) (fun _ _ _ h => h) (fun o' wq e hS => exec_bin (u1 := .bool RR) (u2 := .bool RR) wq e (by kernel_rfl) (by kernel_rfl) (eqG_bool ..) (neq_bb RR _)) HS4.out ?_
  refine lastS 10 (.pick (.tmp 15) (.const (Value.bool true)) (.tmp 22)) (some 23) (.bool false) (by kernel_rfl) (by kernel_rfl) (by kernel_rfl) HS4.out (fun o' e => exec_pick (b := false) _ e (by kernel_rfl) (by kernel_rfl)) ?_
  simp only [put_some, put_none, List.setIfInBounds_toArray, List.set_cons_succ, List.set_cons_zero]
  obtain ⟨U, hU⟩ : ∃ U, U = V4 := ⟨_, rfl⟩
  subst hU
  have LU := Lib.hid LX4.out
  have q0 : U.cell? ⟨r3, 0, none⟩ = some (.int .i64 bs) := HS4.out.1.cell 0
  have q1 : U.cell? ⟨r3, 1, none⟩ = some (.slice A n c) := HS4.out.1.cell 1
  have q2 : U.cell? ⟨r3, 2, none⟩ = some (.slice A' m c') := HS4.out.1.cell 2
  have y0 : U.cell? ⟨r4, 0, none⟩ = some (.int .i64 p.addr) := HS4.out.2.cell 0
  have y1 : U.cell? ⟨r4, 1, none⟩ = some (.int .i64 p.size) := HS4.out.2.cell 1
  have y2 : U.cell? ⟨r4, 2, none⟩ = some (.int .i64 p.birth) := HS4.out.2.cell 2
  have y3 : U.cell? ⟨r4, 3, none⟩ = some (.string p.sum) := HS4.out.2.cell 3
  clear HS0 HS1 HS2 HS3 HS4 LX0 LX1 LX2 LX3 LX4 HO1
  go_wp2_with fail
  refine (HDK.out _ LU.out).mono ?_
  rintro e U1 ⟨v3, rfl, ⟨A3, c3, A4, c4, vs3, rfl, hO3⟩, bb⟩
  obtain ⟨U2, hU2⟩ : ∃ U2, U2 = U1.alloc (.cells #[.int .i64 La.base, .slice A3 La.snaps.length c3, .slice A4 La.dead.length c4] 25) := ⟨_, rfl⟩
  obtain ⟨r7, hr7⟩ : ∃ r7, r7 = U1.heap.size := ⟨_, rfl⟩
  have hb12 : Below U1.heap.size U1 U2 := by rw [hU2]; exact (Below.refl _ _).alloc (Nat.le_refl _) _
  have hbU : Below W.heap.size W U2 := (LU.out.trans (bb.mono LU.out.size)).trans (hb12.mono (LU.out.trans (bb.mono LU.out.size)).size)
  have HA7 : Hid (Blk U2 r7 25 #[.int .i64 La.base, .slice A3 La.snaps.length c3, .slice A4 La.dead.length c4]) := Lib.hid (by rw [hU2, hr7]; exact Blk.new _ _ _)
  have HOA := Lib.hid (hO3.below hb12 (Nat.le_refl _))
  have LU2 := Lib.hid hbU
  have HR7X : Hid (W.heap.size ≤ r7) := Lib.hid (by rw [hr7]; exact (LU.out.trans (bb.mono LU.out.size)).size)
  have HU2 := Lib.hid (⟨hU2, hr7⟩ : _ ∧ _)
  clear hU2 hr7 hb12 hbU hO3 bb q0 q1 q2 y0 y1 y2 y3
  go_upto_region 4 with (fail)
  rw [← HU2.out.1, ← HU2.out.2]
  clear HU2
  -- from here on all is told of U2
  have HSSW := HSS
  have HSS : Hid (∀ w', Below U2.heap.size U2 w' → Blk w' r3 25 #[.int .i64 bs, .slice A n c, .slice A' m c'] ∧ Blk w' r4 27 #[.int .i64 p.addr, .int .i64 p.size, .int .i64 p.birth, .string p.sum]) := Lib.hid fun w' h => HSSW.out w' (LU2.out.trans (h.mono LU2.out.size))
  have HOFW := HOF
  have HOF : Hid (∀ W2, Below U2.heap.size U2 W2 → Calls Try.prog 10 #[.agg #[.int .i64 bs, .slice A n c, .slice A' m c']] W2 fun e w' => OfPost W2 L e w') := Lib.hid fun W2 h => HOFW.out W2 (LU2.out.trans (h.mono LU2.out.size))
  have HR7W : Hid (W.heap.size ≤ r7) := Lib.hid HR7X.out
  have HA7B : Hid (∀ w', Below U2.heap.size U2 w' → r7 < w'.heap.size) := Lib.hid fun w' h => Nat.lt_of_lt_of_le HA7.out.lt h.size
  have LX0 : Hid (Below U2.heap.size U2 U2.drew) := Lib.hid (Below.refl _ _).drew
  have HS0 : Hid (Blk U2.drew r3 25 #[.int .i64 bs, .slice A n c, .slice A' m c'] ∧ Blk U2.drew r4 27 #[.int .i64 p.addr, .int .i64 p.size, .int .i64 p.birth, .string p.sum]) := Lib.hid (HSS.out _ LX0.out)
  go_cut [10, 11, 12] (fun s10 s11 s12 wx => ∃ (g10 : Nat) (A7 A8 : Option Addr) (c7 c8 : Nat) (vs7 : List SV), s10 = .pointer (some ⟨g10, 0, none⟩) ∧ s11 = .bool ba ∧ s12 = .int .i64 ea ∧ Hid (Blk wx g10 33 #[.int .i64 La.base, .slice A7 La.snaps.length c7, .slice A8 La.dead.length c8] ∧ LnO 65 wx U2.heap.size A7 c7 A8 c8 vs7 La ∧ Blk wx r7 25 #[.int .i64 La.base, .slice A3 La.snaps.length c3, .slice A4 La.dead.length c4] ∧ Below U2.heap.size U2 wx ∧ r7 < g10))
  case first =>
    refine region_anyZ (fun w' => Blk w' r3 25 #[.int .i64 bs, .slice A n c, .slice A' m c'] ∧ Blk w' r4 27 #[.int .i64 p.addr, .int .i64 p.size, .int .i64 p.birth, .string p.sum]) 12 (by kernel_rfl) ?_
    refine takeG 0 (.load 25 (.tmp 3)) (some 32) none (.agg #[.int .i64 bs, .slice A n c, .slice A' m c']) (by kernel_rfl) (by kernel_rfl) (by kernel_rfl) (fun _ _ _ h => h) (fun o' wq e hS => exec_load (x := (.tmp 3)) e (by kernel_rfl) (load_rln hS.1)) HS0.out ?_
    refine takeG 2 (.load 27 (.tmp 4)) (some 34) none (.agg #[.int .i64 p.addr, .int .i64 p.size, .int .i64 p.birth, .string p.sum]) (by kernel_rfl) (by kernel_rfl) (by kernel_rfl) (fun _ _ _ h => h) (fun o' wq e hS => exec_load (x := (.tmp 4)) e (by kernel_rfl) (load_pt4 hS.2)) HS0.out ?_
    refine twoG (i := 1) (j := 8) (op1 := (.call ⟨.value (.func 10), #[(.tmp 32)], #[25]⟩)) (op2 := (.alloc 33)) (d1 := some 33) (d2 := some 10) (by kernel_rfl) (by kernel_rfl) (by kernel_rfl) ?A ?B
    case A =>
      intro o' ho hod
      refine wp_callC (f := 10) (args := #[.agg #[.int .i64 bs, .slice A n c, .slice A' m c']]) (by cases o'; cases ho; kernel_rfl) (HOF.out _ LX0.out) ?_
      rintro ee V1 ⟨A1, c1, A5, c5, vs1, rfl, hO1, hx1, hx2, bb⟩
      rw [← HN.out, ← HM.out, ← HBS.out]
      have HO1 := Lib.hid hO1
      have LX1 := Lib.hid (LX0.out.trans (bb.mono LX0.out.size))
      have HS1 := Lib.hid (HSS.out _ LX1.out)
      refine ⟨.agg #[.int .i64 bs, .slice A1 n c1, .slice A5 m c5], rfl, ?_⟩
      rw [hod]
      clear hod ho
      refine ⟨fun _ => HS1.out, ?_⟩
      refine twoG (i := 3) (j := 8) (op1 := (.call ⟨.value (.func 13), #[(.tmp 33), (.tmp 34)], #[33, 27]⟩)) (op2 := (.alloc 33)) (d1 := some 35) (d2 := some 10) (by kernel_rfl) (by kernel_rfl) (by kernel_rfl) ?AA ?AB
      case AA =>
        intro o' ho hod
        refine wp_callC (f := 13) (args := #[.agg #[.int .i64 bs, .slice A1 n c1, .slice A5 m c5], .agg #[.int .i64 p.addr, .int .i64 p.size, .int .i64 p.birth, .string p.sum]]) (by cases o'; cases ho; kernel_rfl) (HKI.out _ _ _ _ _ _ _ HO1.out) ?_
        rintro ee V2 ⟨v7, rfl, ⟨A7, c7, A8, c8, vs7, rfl, hO7⟩, bk⟩
        have HO7 := Lib.hid (hO7.base_ (b := U2.heap.size) LX1.out.size)
        have LX2 := Lib.hid (LX1.out.trans (bk.mono LX1.out.size))
        have HS2 := Lib.hid (HSS.out _ LX2.out)
        refine ⟨.tuple #[.agg #[.int .i64 La.base, .slice A7 La.snaps.length c7, .slice A8 La.dead.length c8], .bool ba, .int .i64 ea], rfl, ?_⟩
        rw [hod]
        clear hod ho
        refine ⟨fun _ => HS2.out, ?_⟩
        refine takeG 4 (.move (.tmp 35)) (some 31) none (.tuple #[.agg #[.int .i64 La.base, .slice A7 La.snaps.length c7, .slice A8 La.dead.length c8], .bool ba, .int .i64 ea]) (by kernel_rfl) (by kernel_rfl) (by kernel_rfl) (fun _ _ _ h => h) (fun o' wq e hS => exec_move wq e (by kernel_rfl)) HS2.out ?_
        refine takeG 5 (.extract (.tmp 31) 0) (some 36) none (.agg #[.int .i64 La.base, .slice A7 La.snaps.length c7, .slice A8 La.dead.length c8]) (by kernel_rfl) (by kernel_rfl) (by kernel_rfl) (fun _ _ _ h => h) (fun o' wq e hS => exec_ext (vs := #[.agg #[.int .i64 La.base, .slice A7 La.snaps.length c7, .slice A8 La.dead.length c8], .bool ba, .int .i64 ea]) wq e (by kernel_rfl) (by rfl)) HS2.out ?_
        refine takeG 6 (.extract (.tmp 31) 1) (some 37) none (.bool ba) (by kernel_rfl) (by kernel_rfl) (by kernel_rfl) (fun _ _ _ h => h) (fun o' wq e hS => exec_ext (vs := #[.agg #[.int .i64 La.base, .slice A7 La.snaps.length c7, .slice A8 La.dead.length c8], .bool ba, .int .i64 ea]) wq e (by kernel_rfl) (by rfl)) HS2.out ?_
        refine takeG 7 (.extract (.tmp 31) 2) (some 38) none (.int .i64 ea) (by kernel_rfl) (by kernel_rfl) (by kernel_rfl) (fun _ _ _ h => h) (fun o' wq e hS => exec_ext (vs := #[.agg #[.int .i64 La.base, .slice A7 La.snaps.length c7, .slice A8 La.dead.length c8], .bool ba, .int .i64 ea]) wq e (by kernel_rfl) (by rfl)) HS2.out ?_
        refine loneG 8 (.alloc 33) (some 10) none (by kernel_rfl) (by kernel_rfl) (by kernel_rfl) ?_
        intro o' ho hod
        refine wp_val (exec_alloc ho (alloc_ln _)) ?_
        rw [hod]
        clear hod ho
        have ba2 : Below V2.heap.size V2 (V2.alloc (.cells #[.int .i64 0, .slice none 0 0, .slice none 0 0] 33)) := (Below.refl _ _).alloc (Nat.le_refl _) _
        have LX3 : Hid (Below U2.heap.size U2 (V2.alloc (.cells #[.int .i64 0, .slice none 0 0, .slice none 0 0] 33))) := Lib.hid (LX2.out.trans (ba2.mono LX2.out.size))
        have HS3 := Lib.hid (HSS.out _ LX3.out)
        have HX9 : Hid (Blk (V2.alloc (.cells #[.int .i64 0, .slice none 0 0, .slice none 0 0] 33)) V2.heap.size 33 #[.int .i64 0, .slice none 0 0, .slice none 0 0]) := Lib.hid (Blk.new _ _ _)
        have HGG : r7 < V2.heap.size ∧ U2.heap.size ≤ V2.heap.size := ⟨HA7B.out _ LX2.out, LX2.out.size⟩
        have HOK := Lib.hid (HO7.out.below ba2 (Nat.le_refl _))
        refine ⟨fun _ => HS3.out, ?_⟩
        obtain ⟨w4, hst, hb4, hk4, hz4, hl4⟩ := store3 (w := (V2.alloc (.cells #[.int .i64 0, .slice none 0 0, .slice none 0 0] 33))) (g := V2.heap.size) (T := 33) (x0 := .int .i64 La.base) (x1 := .slice A7 La.snaps.length c7) (x2 := .slice A8 La.dead.length c8) size_ln HX9.out rfl rfl rfl
        have LY := Lib.hid (LX3.out.trans ((hl4.below (B := U2.heap.size) (by have := LX3.out.size; have := HGG; omega) LX3.out.size)))
        have HY := Lib.hid (HSS.out _ LY.out)
        have HO9 := Lib.hid (HOK.out.notline HX9.out (by decide) (by decide) hk4)
        have HX10 := Lib.hid (⟨hb4, hb4.lt⟩ : _ ∧ _)
        have HK7 := Lib.hid (hk4 r7 (by have := HGG; omega))
        refine loneG 9 (.store 33 (.tmp 10) (.tmp 36)) none none (by kernel_rfl) (by kernel_rfl) (by kernel_rfl) ?_
        intro o' ho hod
        refine wp_st (exec_store (v := .agg #[.int .i64 La.base, .slice A7 La.snaps.length c7, .slice A8 La.dead.length c8]) (p := .pointer (some ⟨V2.heap.size, 0, none⟩)) ho (by kernel_rfl) (by kernel_rfl) hst) ?_
        rw [hod]
        clear hod ho hst hb4 hk4 hz4 hl4
        refine ⟨fun _ => HY.out, ?_⟩
        refine takeG 10 (.assign (.tmp 37)) (some 11) none (.bool ba) (by kernel_rfl) (by kernel_rfl) (by kernel_rfl) (fun _ _ _ h => h) (fun o' wq e hS => exec_assign wq e (by kernel_rfl)) HY.out ?_
        refine lastS 11 (.assign (.tmp 38)) (some 12) (.int .i64 ea) (by kernel_rfl) (by kernel_rfl) (by kernel_rfl) HY.out (fun o' e => exec_assign _ e (by kernel_rfl)) ?_
        simp only [put_some, put_none, List.setIfInBounds_toArray, List.set_cons_succ, List.set_cons_zero]
        clear HS0
        go_wp2_with fail
        go_meet
        exact ⟨_, A7, A8, c7, c8, vs7, rfl, rfl, rfl, Lib.hid ⟨HX10.out.1, HO9.out, (HK7.out.trans ((HA7.out.below LX3.out HA7.out.lt) : Blk _ _ _ _)), LY.out, HGG.1⟩⟩
      case AB =>
        intro o' ho hod
        refine wp_val (exec_alloc ho (alloc_ln _)) ?_
        rw [hod]
        clear hod ho
        have ba1 : Below V1.heap.size V1 (V1.alloc (.cells #[.int .i64 0, .slice none 0 0, .slice none 0 0] 33)) := (Below.refl _ _).alloc (Nat.le_refl _) _
        have LX2 : Hid (Below U2.heap.size U2 (V1.alloc (.cells #[.int .i64 0, .slice none 0 0, .slice none 0 0] 33))) := Lib.hid (LX1.out.trans (ba1.mono LX1.out.size))
        have HS2 := Lib.hid (HSS.out _ LX2.out)
        have HX9 : Hid (Blk (V1.alloc (.cells #[.int .i64 0, .slice none 0 0, .slice none 0 0] 33)) V1.heap.size 33 #[.int .i64 0, .slice none 0 0, .slice none 0 0]) := Lib.hid (Blk.new _ _ _)
        refine ⟨fun _ => HS2.out, ?_⟩
        have HO1b := Lib.hid (HO1.out.below ba1 (Nat.le_refl _))
        have hgg := (⟨HA7B.out _ LX1.out, LX1.out.size⟩ : r7 < V1.heap.size ∧ U2.heap.size ≤ V1.heap.size)
        refine loneG 3 (.call ⟨.value (.func 13), #[(.tmp 33), (.tmp 34)], #[33, 27]⟩) (some 35) none (by kernel_rfl) (by kernel_rfl) (by kernel_rfl) ?_
        intro o' ho hod
        refine wp_callC (f := 13) (args := #[.agg #[.int .i64 bs, .slice A1 n c1, .slice A5 m c5], .agg #[.int .i64 p.addr, .int .i64 p.size, .int .i64 p.birth, .string p.sum]]) (by cases o'; cases ho; kernel_rfl) (HKI.out _ _ _ _ _ _ _ HO1b.out) ?_
        rintro ee V3 ⟨v7, rfl, ⟨A7, c7, A8, c8, vs7, rfl, hO7⟩, bk⟩
        have HO7 := Lib.hid (hO7.base_ (b := U2.heap.size) LX2.out.size)
        have LX3 := Lib.hid (LX2.out.trans (bk.mono LX2.out.size))
        have HS3 := Lib.hid (HSS.out _ LX3.out)
        have HX9b := Lib.hid (HX9.out.below bk HX9.out.lt)
        have HGG : r7 < V1.heap.size ∧ U2.heap.size ≤ V1.heap.size := hgg
        refine ⟨.tuple #[.agg #[.int .i64 La.base, .slice A7 La.snaps.length c7, .slice A8 La.dead.length c8], .bool ba, .int .i64 ea], rfl, ?_⟩
        rw [hod]
        clear hod ho
        refine ⟨fun _ => HS3.out, ?_⟩
        refine takeG 4 (.move (.tmp 35)) (some 31) none (.tuple #[.agg #[.int .i64 La.base, .slice A7 La.snaps.length c7, .slice A8 La.dead.length c8], .bool ba, .int .i64 ea]) (by kernel_rfl) (by kernel_rfl) (by kernel_rfl) (fun _ _ _ h => h) (fun o' wq e hS => exec_move wq e (by kernel_rfl)) HS3.out ?_
        refine takeG 5 (.extract (.tmp 31) 0) (some 36) none (.agg #[.int .i64 La.base, .slice A7 La.snaps.length c7, .slice A8 La.dead.length c8]) (by kernel_rfl) (by kernel_rfl) (by kernel_rfl) (fun _ _ _ h => h) (fun o' wq e hS => exec_ext (vs := #[.agg #[.int .i64 La.base, .slice A7 La.snaps.length c7, .slice A8 La.dead.length c8], .bool ba, .int .i64 ea]) wq e (by kernel_rfl) (by rfl)) HS3.out ?_
        refine takeG 6 (.extract (.tmp 31) 1) (some 37) none (.bool ba) (by kernel_rfl) (by kernel_rfl) (by kernel_rfl) (fun _ _ _ h => h) (fun o' wq e hS => exec_ext (vs := #[.agg #[.int .i64 La.base, .slice A7 La.snaps.length c7, .slice A8 La.dead.length c8], .bool ba, .int .i64 ea]) wq e (by kernel_rfl) (by rfl)) HS3.out ?_
        refine takeG 7 (.extract (.tmp 31) 2) (some 38) none (.int .i64 ea) (by kernel_rfl) (by kernel_rfl) (by kernel_rfl) (fun _ _ _ h => h) (fun o' wq e hS => exec_ext (vs := #[.agg #[.int .i64 La.base, .slice A7 La.snaps.length c7, .slice A8 La.dead.length c8], .bool ba, .int .i64 ea]) wq e (by kernel_rfl) (by rfl)) HS3.out ?_
        obtain ⟨w4, hst, hb4, hk4, hz4, hl4⟩ := store3 (w := V3) (g := V1.heap.size) (T := 33) (x0 := .int .i64 La.base) (x1 := .slice A7 La.snaps.length c7) (x2 := .slice A8 La.dead.length c8) size_ln HX9b.out rfl rfl rfl
        have LY := Lib.hid (LX3.out.trans ((hl4.below (B := U2.heap.size) (by have := LX3.out.size; have := HGG; omega) LX3.out.size)))
        have HY := Lib.hid (HSS.out _ LY.out)
        have HO9 := Lib.hid (HO7.out.notline HX9b.out (by decide) (by decide) hk4)
        have HX10 := Lib.hid (⟨hb4, hb4.lt⟩ : _ ∧ _)
        have HK7 := Lib.hid (hk4 r7 (by have := HGG; omega))
        refine loneG 9 (.store 33 (.tmp 10) (.tmp 36)) none none (by kernel_rfl) (by kernel_rfl) (by kernel_rfl) ?_
        intro o' ho hod
        refine wp_st (exec_store (v := .agg #[.int .i64 La.base, .slice A7 La.snaps.length c7, .slice A8 La.dead.length c8]) (p := .pointer (some ⟨V1.heap.size, 0, none⟩)) ho (by kernel_rfl) (by kernel_rfl) hst) ?_
        rw [hod]
        clear hod ho hst hb4 hk4 hz4 hl4
        refine ⟨fun _ => HY.out, ?_⟩
        refine takeG 10 (.assign (.tmp 37)) (some 11) none (.bool ba) (by kernel_rfl) (by kernel_rfl) (by kernel_rfl) (fun _ _ _ h => h) (fun o' wq e hS => exec_assign wq e (by kernel_rfl)) HY.out ?_
        refine lastS 11 (.assign (.tmp 38)) (some 12) (.int .i64 ea) (by kernel_rfl) (by kernel_rfl) (by kernel_rfl) HY.out (fun o' e => exec_assign _ e (by kernel_rfl)) ?_
        simp only [put_some, put_none, List.setIfInBounds_toArray, List.set_cons_succ, List.set_cons_zero]
        clear HS0
        go_wp2_with fail
        go_meet
        exact ⟨_, A7, A8, c7, c8, vs7, rfl, rfl, rfl, Lib.hid ⟨HX10.out.1, HO9.out, (HK7.out.trans ((HA7.out.below LX3.out HA7.out.lt) : Blk _ _ _ _)), LY.out, HGG.1⟩⟩
    case B =>
      intro o' ho hod
      refine wp_val (exec_alloc ho (alloc_ln _)) ?_
      rw [hod]
      clear hod ho
      have ba0 : Below U2.drew.heap.size U2.drew (U2.drew.alloc (.cells #[.int .i64 0, .slice none 0 0, .slice none 0 0] 33)) := (Below.refl _ _).alloc (Nat.le_refl _) _
      have LX1 : Hid (Below U2.heap.size U2 (U2.drew.alloc (.cells #[.int .i64 0, .slice none 0 0, .slice none 0 0] 33))) := Lib.hid (LX0.out.trans (ba0.mono LX0.out.size))
      have HS1 := Lib.hid (HSS.out _ LX1.out)
      have HX9 : Hid (Blk (U2.drew.alloc (.cells #[.int .i64 0, .slice none 0 0, .slice none 0 0] 33)) U2.drew.heap.size 33 #[.int .i64 0, .slice none 0 0, .slice none 0 0]) := Lib.hid (Blk.new _ _ _)
      refine ⟨fun _ => HS1.out, ?_⟩
      have HGG : r7 < U2.drew.heap.size ∧ U2.heap.size ≤ U2.drew.heap.size := ⟨HA7.out.lt, Nat.le_refl _⟩
      refine loneG 1 (.call ⟨.value (.func 10), #[(.tmp 32)], #[25]⟩) (some 33) none (by kernel_rfl) (by kernel_rfl) (by kernel_rfl) ?_
      intro o' ho hod
      refine wp_callC (f := 10) (args := #[.agg #[.int .i64 bs, .slice A n c, .slice A' m c']]) (by cases o'; cases ho; kernel_rfl) (HOF.out _ LX1.out) ?_
      rintro ee V2 ⟨A1, c1, A5, c5, vs1, rfl, hO1, hx1, hx2, bb⟩
      rw [← HN.out, ← HM.out, ← HBS.out]
      have HO1 := Lib.hid hO1
      have LX2 := Lib.hid (LX1.out.trans (bb.mono LX1.out.size))
      have HS2 := Lib.hid (HSS.out _ LX2.out)
      have HX9b := Lib.hid (HX9.out.below bb HX9.out.lt)
      refine ⟨.agg #[.int .i64 bs, .slice A1 n c1, .slice A5 m c5], rfl, ?_⟩
      rw [hod]
      clear hod ho
      refine ⟨fun _ => HS2.out, ?_⟩
      refine loneG 3 (.call ⟨.value (.func 13), #[(.tmp 33), (.tmp 34)], #[33, 27]⟩) (some 35) none (by kernel_rfl) (by kernel_rfl) (by kernel_rfl) ?_
      intro o' ho hod
      refine wp_callC (f := 13) (args := #[.agg #[.int .i64 bs, .slice A1 n c1, .slice A5 m c5], .agg #[.int .i64 p.addr, .int .i64 p.size, .int .i64 p.birth, .string p.sum]]) (by cases o'; cases ho; kernel_rfl) (HKI.out _ _ _ _ _ _ _ HO1.out) ?_
      rintro ee V3 ⟨v7, rfl, ⟨A7, c7, A8, c8, vs7, rfl, hO7⟩, bk⟩
      have HO7 := Lib.hid (hO7.base_ (b := U2.heap.size) LX2.out.size)
      have LX3 := Lib.hid (LX2.out.trans (bk.mono LX2.out.size))
      have HS3 := Lib.hid (HSS.out _ LX3.out)
      have HX9c := Lib.hid (HX9b.out.below bk HX9b.out.lt)
      refine ⟨.tuple #[.agg #[.int .i64 La.base, .slice A7 La.snaps.length c7, .slice A8 La.dead.length c8], .bool ba, .int .i64 ea], rfl, ?_⟩
      rw [hod]
      clear hod ho
      refine ⟨fun _ => HS3.out, ?_⟩
      refine takeG 4 (.move (.tmp 35)) (some 31) none (.tuple #[.agg #[.int .i64 La.base, .slice A7 La.snaps.length c7, .slice A8 La.dead.length c8], .bool ba, .int .i64 ea]) (by kernel_rfl) (by kernel_rfl) (by kernel_rfl) (fun _ _ _ h => h) (fun o' wq e hS => exec_move wq e (by kernel_rfl)) HS3.out ?_
      refine takeG 5 (.extract (.tmp 31) 0) (some 36) none (.agg #[.int .i64 La.base, .slice A7 La.snaps.length c7, .slice A8 La.dead.length c8]) (by kernel_rfl) (by kernel_rfl) (by kernel_rfl) (fun _ _ _ h => h) (fun o' wq e hS => exec_ext (vs := #[.agg #[.int .i64 La.base, .slice A7 La.snaps.length c7, .slice A8 La.dead.length c8], .bool ba, .int .i64 ea]) wq e (by kernel_rfl) (by rfl)) HS3.out ?_
      refine takeG 6 (.extract (.tmp 31) 1) (some 37) none (.bool ba) (by kernel_rfl) (by kernel_rfl) (by kernel_rfl) (fun _ _ _ h => h) (fun o' wq e hS => exec_ext (vs := #[.agg #[.int .i64 La.base, .slice A7 La.snaps.length c7, .slice A8 La.dead.length c8], .bool ba, .int .i64 ea]) wq e (by kernel_rfl) (by rfl)) HS3.out ?_
      refine takeG 7 (.extract (.tmp 31) 2) (some 38) none (.int .i64 ea) (by kernel_rfl) (by kernel_rfl) (by kernel_rfl) (fun _ _ _ h => h) (fun o' wq e hS => exec_ext (vs := #[.agg #[.int .i64 La.base, .slice A7 La.snaps.length c7, .slice A8 La.dead.length c8], .bool ba, .int .i64 ea]) wq e (by kernel_rfl) (by rfl)) HS3.out ?_
      obtain ⟨w4, hst, hb4, hk4, hz4, hl4⟩ := store3 (w := V3) (g := U2.drew.heap.size) (T := 33) (x0 := .int .i64 La.base) (x1 := .slice A7 La.snaps.length c7) (x2 := .slice A8 La.dead.length c8) size_ln HX9c.out rfl rfl rfl
      have LY := Lib.hid (LX3.out.trans ((hl4.below (B := U2.heap.size) (by have := LX3.out.size; have := HGG; omega) LX3.out.size)))
      have HY := Lib.hid (HSS.out _ LY.out)
      have HO9 := Lib.hid (HO7.out.notline HX9c.out (by decide) (by decide) hk4)
      have HX10 := Lib.hid (⟨hb4, hb4.lt⟩ : _ ∧ _)
      have HK7 := Lib.hid (hk4 r7 (by have := HGG; omega))
      refine loneG 9 (.store 33 (.tmp 10) (.tmp 36)) none none (by kernel_rfl) (by kernel_rfl) (by kernel_rfl) ?_
      intro o' ho hod
      refine wp_st (exec_store (v := .agg #[.int .i64 La.base, .slice A7 La.snaps.length c7, .slice A8 La.dead.length c8]) (p := .pointer (some ⟨U2.drew.heap.size, 0, none⟩)) ho (by kernel_rfl) (by kernel_rfl) hst) ?_
      rw [hod]
      clear hod ho hst hb4 hk4 hz4 hl4
      refine ⟨fun _ => HY.out, ?_⟩
      refine takeG 10 (.assign (.tmp 37)) (some 11) none (.bool ba) (by kernel_rfl) (by kernel_rfl) (by kernel_rfl) (fun _ _ _ h => h) (fun o' wq e hS => exec_assign wq e (by kernel_rfl)) HY.out ?_
      refine lastS 11 (.assign (.tmp 38)) (some 12) (.int .i64 ea) (by kernel_rfl) (by kernel_rfl) (by kernel_rfl) HY.out (fun o' e => exec_assign _ e (by kernel_rfl)) ?_
      simp only [put_some, put_none, List.setIfInBounds_toArray, List.set_cons_succ, List.set_cons_zero]
      clear HS0
      go_wp2_with fail
      go_meet
      exact ⟨_, A7, A8, c7, c8, vs7, rfl, rfl, rfl, Lib.hid ⟨HX10.out.1, HO9.out, (HK7.out.trans ((HA7.out.below LX3.out HA7.out.lt) : Blk _ _ _ _)), LY.out, HGG.1⟩⟩
  case rest =>
  obtain ⟨g10, A7, A8, c7, c8, vs7, rfl, rfl, rfl, HC⟩ := hcut
  obtain ⟨X, hX⟩ : ∃ X, X = wc := ⟨_, rfl⟩
  subst hX
  clear HS0 LX0
  have HTT : Hid (∀ w', Below X.heap.size X w' → Blk w' r7 25 #[.int .i64 La.base, .slice A3 La.snaps.length c3, .slice A4 La.dead.length c4] ∧ Blk w' g10 33 #[.int .i64 La.base, .slice A7 La.snaps.length c7, .slice A8 La.dead.length c8]) := Lib.hid fun w' h => ⟨HC.out.2.2.1.below h HC.out.2.2.1.lt, HC.out.1.below h HC.out.1.lt⟩
  have LZ0 : Hid (Below X.heap.size X X.drew) := Lib.hid (Below.refl _ _).drew
  have HT0 : Hid (Blk X.drew r7 25 #[.int .i64 La.base, .slice A3 La.snaps.length c3, .slice A4 La.dead.length c4] ∧ Blk X.drew g10 33 #[.int .i64 La.base, .slice A7 La.snaps.length c7, .slice A8 La.dead.length c8]) := Lib.hid (HTT.out _ LZ0.out)
  have HBK : Hid (∀ w', Below X.heap.size X w' → Calls Try.prog 15 #[.agg #[.int .i64 La.base, .slice A7 La.snaps.length c7, .slice A8 La.dead.length c8]] w' fun e w9 => BackPost w' La A8 La.dead.length c8 e w9) := Lib.hid fun w' h => back_at w' La A7 A8 c7 c8 _ HFA.out (HC.out.2.1.rs.1.below h)
  have HSL : Hid (∀ (w' : World) (BA : Option Addr) (bq : Nat), Below X.heap.size X w' → RdS w' BA La.snaps → Calls Try.prog 14 #[.agg #[.int .i64 La.base, .slice A3 La.snaps.length c3, .slice A4 La.dead.length c4], .agg #[.int .i64 La.base, .slice BA La.snaps.length bq, .slice A8 La.dead.length c8]] w' fun e w9 => e = .returned (.bool true) ∧ Below w'.heap.size w' w9) := Lib.hid fun w' BA bq h hr => by
    have hA := HOA.out.below HC.out.2.2.2.1 (Nat.le_refl _)
    exact sameline_at w' La A3 A4 BA A8 c3 c4 bq c8 HFA.out (hA.rs.1.below h) (hA.rd.1.below h) hr (HC.out.2.1.rd.1.below h)
  go_upto_region 5 with (fail)
  refine region_anyZ (fun w' => Blk w' r7 25 #[.int .i64 La.base, .slice A3 La.snaps.length c3, .slice A4 La.dead.length c4] ∧ Blk w' g10 33 #[.int .i64 La.base, .slice A7 La.snaps.length c7, .slice A8 La.dead.length c8]) 15 (by kernel_rfl) ?_
  refine takeG 0 (.load 25 (.tmp 7)) (some 39) none (.agg #[.int .i64 La.base, .slice A3 La.snaps.length c3, .slice A4 La.dead.length c4]) (by kernel_rfl) (by kernel_rfl) (by kernel_rfl) (fun _ _ _ h => h) (fun o' wq e hS => exec_load (x := (.tmp 7)) e (by kernel_rfl) (load_rln hS.1)) HT0.out ?_
  refine takeG 1 (.load 33 (.tmp 10)) (some 40) none (.agg #[.int .i64 La.base, .slice A7 La.snaps.length c7, .slice A8 La.dead.length c8]) (by kernel_rfl) (by kernel_rfl) (by kernel_rfl) (fun _ _ _ h => h) (fun o' wq e hS => exec_load (x := (.tmp 10)) e (by kernel_rfl) (load_ln hS.2)) HT0.out ?_
  refine loneG 2 (.call ⟨.value (.func 15), #[(.tmp 40)], #[33]⟩) (some 41) none (by kernel_rfl) (by kernel_rfl) (by kernel_rfl) ?_
  intro o' ho hod
  refine wp_callC (f := 15) (args := #[.agg #[.int .i64 La.base, .slice A7 La.snaps.length c7, .slice A8 La.dead.length c8]]) (by cases o'; cases ho; kernel_rfl) (HBK.out _ LZ0.out) ?_
  rintro ee V1 ⟨BA, bq, rfl, hrs, hbq, bb⟩
  have LZ1 := Lib.hid (LZ0.out.trans (bb.mono LZ0.out.size))
  have HT1 := Lib.hid (HTT.out _ LZ1.out)
  have HRS1 := Lib.hid hrs
  refine ⟨.agg #[.int .i64 La.base, .slice BA La.snaps.length bq, .slice A8 La.dead.length c8], rfl, ?_⟩
  rw [hod]
  clear hod ho bb hrs hbq
  refine ⟨fun _ => HT1.out, ?_⟩
  refine loneG 3 (.call ⟨.value (.func 14), #[(.tmp 39), (.tmp 41)], #[25, 25]⟩) (some 42) none (by kernel_rfl) (by kernel_rfl) (by kernel_rfl) ?_
  intro o' ho hod
  refine wp_callC (f := 14) (args := #[.agg #[.int .i64 La.base, .slice A3 La.snaps.length c3, .slice A4 La.dead.length c4], .agg #[.int .i64 La.base, .slice BA La.snaps.length bq, .slice A8 La.dead.length c8]]) (by cases o'; cases ho; kernel_rfl) (HSL.out _ _ _ LZ1.out HRS1.out) ?_
  rintro ee V2 ⟨rfl, bb⟩
  have LZ2 := Lib.hid (LZ1.out.trans (bb.mono LZ1.out.size))
  have HT2 := Lib.hid (HTT.out _ LZ2.out)
  refine ⟨.bool true, rfl, ?_⟩
  rw [hod]
  clear hod ho bb
  refine ⟨fun _ => HT2.out, ?_⟩
  refine takeG 4 (.unOp .not 4 (.tmp 42)) (some 43) none (.bool false) (by kernel_rfl) (by kernel_rfl) (by kernel_rfl) (fun _ _ _ h => h) (fun o' wq e hS => exec_un (u := .bool true) wq e (by kernel_rfl) (by kernel_rfl)) HT2.out ?_
  refine takeG 5 (.move (.tmp 43)) (some 44) none (.bool false) (by kernel_rfl) (by kernel_rfl) (by kernel_rfl) (fun _ _ _ h => h) (fun o' wq e hS => exec_move wq e (by kernel_rfl)) HT2.out ?_
  refine takeG 6 (.move (.tmp 8)) (some 45) (some (5, false)) (.bool ba) (by kernel_rfl) (by kernel_rfl) (by kernel_rfl) (fun _ _ _ h => h) (fun o' wq e hS => exec_move wq e (by kernel_rfl)) HT2.out ?_
  refine takeG 7 (.move (.tmp 11)) (some 46) (some (5, false)) (.bool ba) (by kernel_rfl) (by kernel_rfl) (by kernel_rfl) (fun _ _ _ h => h) (fun o' wq e hS => exec_move wq e (by kernel_rfl)) HT2.out ?_
  refine takeG 8 (.binOp .neq 4 (.tmp 45) (.tmp 46) 4) (some 47) (some (5, false)) (.bool false) (by kernel_rfl) (by kernel_rfl) (by kernel_rfl) (fun _ _ _ h => h) (fun o' wq e hS => exec_bin (u1 := .bool ba) (u2 := .bool ba) wq e (by kernel_rfl) (by kernel_rfl) (eqG_bool ..) (neq_bb ba _)) HT2.out ?_
  refine takeG 9 (.pick (.tmp 44) (.const (Value.bool true)) (.tmp 47)) (some 48) none (.bool false) (by kernel_rfl) (by kernel_rfl) (by kernel_rfl) (fun _ _ _ h => h) (fun o' wq e hS => exec_pick (b := false) wq e (by kernel_rfl) (by kernel_rfl)) HT2.out ?_
  refine takeG 10 (.move (.tmp 48)) (some 49) none (.bool false) (by kernel_rfl) (by kernel_rfl) (by kernel_rfl) (fun _ _ _ h => h) (fun o' wq e hS => exec_move wq e (by kernel_rfl)) HT2.out ?_
  refine takeG 11 (.move (.tmp 9)) (some 50) (some (10, false)) (.int .i64 ea) (by kernel_rfl) (by kernel_rfl) (by kernel_rfl) (fun _ _ _ h => h) (fun o' wq e hS => exec_move wq e (by kernel_rfl)) HT2.out ?_
  refine takeG 12 (.move (.tmp 12)) (some 51) (some (10, false)) (.int .i64 ea) (by kernel_rfl) (by kernel_rfl) (by kernel_rfl) (fun _ _ _ h => h) (fun o' wq e hS => exec_move wq e (by kernel_rfl)) HT2.out ?_
  refine takeG 13 (.binOp .neq 29 (.tmp 50) (.tmp 51) 29) (some 52) (some (10, false)) (.bool false) (by kernel_rfl) (by kernel_rfl) (by kernel_rfl) (fun _ _ _ h => h) (fun o' wq e hS => exec_bin (u1 := .int .i64 ea) (u2 := .int .i64 ea) wq e (by kernel_rfl) (by kernel_rfl) (eqG_int ..) (neq_er ea _)) HT2.out ?_
  refine lastS 14 (.pick (.tmp 49) (.const (Value.bool true)) (.tmp 52)) (some 53) (.bool false) (by kernel_rfl) (by kernel_rfl) (by kernel_rfl) HT2.out (fun o' e => exec_pick (b := false) _ e (by kernel_rfl) (by kernel_rfl)) ?_
  simp only [put_some, put_none, List.setIfInBounds_toArray, List.set_cons_succ, List.set_cons_zero]
  obtain ⟨Y, hY⟩ : ∃ Y, Y = V2 := ⟨_, rfl⟩
  subst hY
  have LY : Hid (Below W.heap.size W Y) := Lib.hid ((LU2.out.trans (HC.out.2.2.2.1.mono LU2.out.size)).trans (LZ2.out.mono (LU2.out.trans (HC.out.2.2.2.1.mono LU2.out.size)).size))
  have HY7 := Lib.hid HT2.out
  have HR7 : Hid (r7 < g10 ∧ W.heap.size ≤ r7) := Lib.hid ⟨HC.out.2.2.2.2, HR7W.out⟩
  have HSY := Lib.hid (HSSW.out _ LY.out)
  have q0 : Y.cell? ⟨r3, 0, none⟩ = some (.int .i64 bs) := HSY.out.1.cell 0
  have q1 : Y.cell? ⟨r3, 1, none⟩ = some (.slice A n c) := HSY.out.1.cell 1
  have q2 : Y.cell? ⟨r3, 2, none⟩ = some (.slice A' m c') := HSY.out.1.cell 2
  clear HT0 HT1 HT2 LZ0 LZ1 LZ2 HTT HBK HSL HRS1 HC HOA HA7 HA7B HSS HOF
  go_wp2_with fail
  refine (HDS.out _ LY.out).mono ?_
  rintro e Y1 ⟨v13, rfl, ⟨A13, c13, A14, c14, vs13, rfl, hO13⟩, bb⟩
  have Y1a := HY7.out.1.below bb HY7.out.1.lt
  have Y1b := HY7.out.2.below bb HY7.out.2.lt
  obtain ⟨Y2, hY2⟩ : ∃ Y2, Y2 = ((Y1.setCell ⟨r7, 0, none⟩ (.int .i64 Lb.base)).setCell ⟨r7, 1, none⟩ (.slice A13 Lb.snaps.length c13)).setCell ⟨r7, 2, none⟩ (.slice A14 Lb.dead.length c14) := ⟨_, rfl⟩
  have hk2 : ∀ g, g ≠ r7 → Y2.heap[g]? = Y1.heap[g]? := fun g hg => by
    rw [hY2]
    exact ((Below.heap_setCell _ ⟨r7, 2, none⟩ _ g hg).trans (Below.heap_setCell _ ⟨r7, 1, none⟩ _ g hg)).trans (Below.heap_setCell _ ⟨r7, 0, none⟩ _ g hg)
  have hlW : Below W.heap.size W Y1 := LY.out.trans (bb.mono LY.out.size)
  have hw7 : W.heap.size ≤ r7 := HR7.out.2
  have hl2 : Below W.heap.size W Y2 := by rw [hY2]; exact ((hlW.setCell (p := ⟨r7, 0, none⟩) hw7 _).setCell (p := ⟨r7, 1, none⟩) hw7 _).setCell (p := ⟨r7, 2, none⟩) hw7 _
  have Y2a : Blk Y2 r7 25 #[.int .i64 Lb.base, .slice A13 Lb.snaps.length c13, .slice A14 Lb.dead.length c14] := by rw [hY2]; exact ((Y1a.set_ 0 _).set_ 1 _).set_ 2 _
  have Y2b : Blk Y2 g10 33 #[.int .i64 La.base, .slice A7 La.snaps.length c7, .slice A8 La.dead.length c8] := (hk2 g10 (by have := HR7.out; omega)).trans Y1b
  have HO13 := Lib.hid (hO13.notline (w' := Y2) Y1a (by decide) (by decide) hk2)
  have LY2 := Lib.hid hl2
  have HY2b := Lib.hid (⟨Y2a, Y2b⟩ : _ ∧ _)
  have HSY2 := Lib.hid (HSSW.out _ hl2)
  have HY2 := Lib.hid hY2
  have u0 : Y1.cell? ⟨r7, 0, none⟩ = some (.int .i64 La.base) := Y1a.cell 0
  have u1 : Y1.cell? ⟨r7, 1, none⟩ = some (.slice A3 La.snaps.length c3) := Y1a.cell 1
  have u2 : Y1.cell? ⟨r7, 2, none⟩ = some (.slice A4 La.dead.length c4) := Y1a.cell 2
  have uf0 : Y1.frozen? ⟨r7, 0, none⟩ = false := Y1a.frozen 0
  have uf1 : Y1.frozen? ⟨r7, 1, none⟩ = false := Y1a.frozen 1
  have uf2 : Y1.frozen? ⟨r7, 2, none⟩ = false := Y1a.frozen 2
  clear hY2 hk2 hlW hw7 hl2 Y2a Y2b hO13 bb Y1b q0 q1 q2 Y1a
  go_upto_region 8 with (fail)
  rw [← HY2.out]
  clear u0 u1 u2 uf0 uf1 uf2 HY2
  have q0 : Y2.cell? ⟨r3, 0, none⟩ = some (.int .i64 bs) := HSY2.out.1.cell 0
  have q1 : Y2.cell? ⟨r3, 1, none⟩ = some (.slice A n c) := HSY2.out.1.cell 1
  have q2 : Y2.cell? ⟨r3, 2, none⟩ = some (.slice A' m c') := HSY2.out.1.cell 2
  go_wp2_with fail
  refine (HOFW.out _ LY2.out).mono ?_
  rintro e Y3 ⟨A1, c1, A5, c5, vs1, rfl, hO1, hx1, hx2, b3⟩
  rw [← HN.out, ← HM.out, ← HBS.out]
  have HO1 := Lib.hid hO1
  have B3 := Lib.hid b3
  clear hO1 hx1 hx2 b3 q0 q1 q2
  go_wp2_with fail
  refine (HSN.out _ _ _ _ _ _ _ HO1.out).mono ?_
  rintro e Y4 ⟨v17, rfl, ⟨A17, c17, A18, c18, vs17, rfl, hO17⟩, b4⟩
  have b24 : Below Y2.heap.size Y2 Y4 := B3.out.trans (b4.mono B3.out.size)
  have Y4a := HY2b.out.1.below b24 HY2b.out.1.lt
  have Y4b := HY2b.out.2.below b24 HY2b.out.2.lt
  have hO13b := HO13.out.below b24 (Nat.le_refl _)
  obtain ⟨Y5, hY5⟩ : ∃ Y5, Y5 = ((Y4.setCell ⟨g10, 0, none⟩ (.int .i64 Lb.base)).setCell ⟨g10, 1, none⟩ (.slice A17 Lb.snaps.length c17)).setCell ⟨g10, 2, none⟩ (.slice A18 Lb.dead.length c18) := ⟨_, rfl⟩
  have hk5 : ∀ g, g ≠ g10 → Y5.heap[g]? = Y4.heap[g]? := fun g hg => by
    rw [hY5]
    exact ((Below.heap_setCell _ ⟨g10, 2, none⟩ _ g hg).trans (Below.heap_setCell _ ⟨g10, 1, none⟩ _ g hg)).trans (Below.heap_setCell _ ⟨g10, 0, none⟩ _ g hg)
  have hl4 : Below W.heap.size W Y4 := LY2.out.trans (b24.mono LY2.out.size)
  have hw10 : W.heap.size ≤ g10 := by have := HR7.out; omega
  have hl5 : Below W.heap.size W Y5 := by rw [hY5]; exact ((hl4.setCell (p := ⟨g10, 0, none⟩) hw10 _).setCell (p := ⟨g10, 1, none⟩) hw10 _).setCell (p := ⟨g10, 2, none⟩) hw10 _
  have Y5b : Blk Y5 g10 33 #[.int .i64 Lb.base, .slice A17 Lb.snaps.length c17, .slice A18 Lb.dead.length c18] := by rw [hY5]; exact ((Y4b.set_ 0 _).set_ 1 _).set_ 2 _
  have Y5a := (hk5 r7 (by have := HR7.out; omega)).trans Y4a
  have HO13 := Lib.hid (hO13b.notline (w' := Y5) Y4b (by decide) (by decide) hk5)
  have HO17 := Lib.hid (hO17.notline (w' := Y5) Y4b (by decide) (by decide) hk5)
  have LY5 := Lib.hid hl5
  have HY5b := Lib.hid (⟨Y5a, Y5b⟩ : Blk Y5 r7 25 #[.int .i64 Lb.base, .slice A13 Lb.snaps.length c13, .slice A14 Lb.dead.length c14] ∧ _)
  have HY5 := Lib.hid hY5
  have u0 : Y4.cell? ⟨g10, 0, none⟩ = some (.int .i64 La.base) := Y4b.cell 0
  have u1 : Y4.cell? ⟨g10, 1, none⟩ = some (.slice A7 La.snaps.length c7) := Y4b.cell 1
  have u2 : Y4.cell? ⟨g10, 2, none⟩ = some (.slice A8 La.dead.length c8) := Y4b.cell 2
  have uf0 : Y4.frozen? ⟨g10, 0, none⟩ = false := Y4b.frozen 0
  have uf1 : Y4.frozen? ⟨g10, 1, none⟩ = false := Y4b.frozen 1
  have uf2 : Y4.frozen? ⟨g10, 2, none⟩ = false := Y4b.frozen 2
  clear hY5 hk5 hl4 hw10 hl5 Y5a Y5b hO17 b4 b24 Y4a Y4b hO13b
  go_upto_region 9 with (fail)
  rw [← HY5.out]
  clear u0 u1 u2 uf0 uf1 uf2 HY5
  have HTT : Hid (∀ w', Below Y5.heap.size Y5 w' → Blk w' r7 25 #[.int .i64 Lb.base, .slice A13 Lb.snaps.length c13, .slice A14 Lb.dead.length c14] ∧ Blk w' g10 33 #[.int .i64 Lb.base, .slice A17 Lb.snaps.length c17, .slice A18 Lb.dead.length c18]) := Lib.hid fun w' h => ⟨HY5b.out.1.below h HY5b.out.1.lt, HY5b.out.2.below h HY5b.out.2.lt⟩
  have LZ0 : Hid (Below Y5.heap.size Y5 Y5.drew) := Lib.hid (Below.refl _ _).drew
  have HT0 : Hid (Blk Y5.drew r7 25 #[.int .i64 Lb.base, .slice A13 Lb.snaps.length c13, .slice A14 Lb.dead.length c14] ∧ Blk Y5.drew g10 33 #[.int .i64 Lb.base, .slice A17 Lb.snaps.length c17, .slice A18 Lb.dead.length c18]) := Lib.hid (HTT.out _ LZ0.out)
  have HBK : Hid (∀ w', Below Y5.heap.size Y5 w' → Calls Try.prog 15 #[.agg #[.int .i64 Lb.base, .slice A17 Lb.snaps.length c17, .slice A18 Lb.dead.length c18]] w' fun e w9 => BackPost w' Lb A18 Lb.dead.length c18 e w9) := Lib.hid fun w' h => back_at w' Lb A17 A18 c17 c18 _ HFB.out (HO17.out.rs.1.below h)
  have HSL : Hid (∀ (w' : World) (BA : Option Addr) (bq : Nat), Below Y5.heap.size Y5 w' → RdS w' BA Lb.snaps → Calls Try.prog 14 #[.agg #[.int .i64 Lb.base, .slice A13 Lb.snaps.length c13, .slice A14 Lb.dead.length c14], .agg #[.int .i64 Lb.base, .slice BA Lb.snaps.length bq, .slice A18 Lb.dead.length c18]] w' fun e w9 => e = .returned (.bool true) ∧ Below w'.heap.size w' w9) := Lib.hid fun w' BA bq h hr =>
    sameline_at w' Lb A13 A14 BA A18 c13 c14 bq c18 HFB.out (HO13.out.rs.1.below h) (HO13.out.rd.1.below h) hr (HO17.out.rd.1.below h)
  refine region_anyZ (fun w' => Blk w' r7 25 #[.int .i64 Lb.base, .slice A13 Lb.snaps.length c13, .slice A14 Lb.dead.length c14] ∧ Blk w' g10 33 #[.int .i64 Lb.base, .slice A17 Lb.snaps.length c17, .slice A18 Lb.dead.length c18]) 10 (by kernel_rfl) ?_
  refine takeG 0 (.load 25 (.tmp 7)) (some 67) none (.agg #[.int .i64 Lb.base, .slice A13 Lb.snaps.length c13, .slice A14 Lb.dead.length c14]) (by kernel_rfl) (by kernel_rfl) (by kernel_rfl) (fun _ _ _ h => h) (fun o' wq e hS => exec_load (x := (.tmp 7)) e (by kernel_rfl) (load_rln hS.1)) HT0.out ?_
  refine takeG 1 (.load 33 (.tmp 10)) (some 68) none (.agg #[.int .i64 Lb.base, .slice A17 Lb.snaps.length c17, .slice A18 Lb.dead.length c18]) (by kernel_rfl) (by kernel_rfl) (by kernel_rfl) (fun _ _ _ h => h) (fun o' wq e hS => exec_load (x := (.tmp 10)) e (by kernel_rfl) (load_ln hS.2)) HT0.out ?_
  refine loneG 2 (.call ⟨.value (.func 15), #[(.tmp 68)], #[33]⟩) (some 69) none (by kernel_rfl) (by kernel_rfl) (by kernel_rfl) ?_
  intro o' ho hod
  refine wp_callC (f := 15) (args := #[.agg #[.int .i64 Lb.base, .slice A17 Lb.snaps.length c17, .slice A18 Lb.dead.length c18]]) (by cases o'; cases ho; kernel_rfl) (HBK.out _ LZ0.out) ?_
  rintro ee V1 ⟨BA, bq, rfl, hrs, hbq, bb⟩
  have LZ1 := Lib.hid (LZ0.out.trans (bb.mono LZ0.out.size))
  have HT1 := Lib.hid (HTT.out _ LZ1.out)
  have HRS1 := Lib.hid hrs
  refine ⟨.agg #[.int .i64 Lb.base, .slice BA Lb.snaps.length bq, .slice A18 Lb.dead.length c18], rfl, ?_⟩
  rw [hod]
  clear hod ho bb hrs hbq
  refine ⟨fun _ => HT1.out, ?_⟩
  refine loneG 3 (.call ⟨.value (.func 14), #[(.tmp 67), (.tmp 69)], #[25, 25]⟩) (some 70) none (by kernel_rfl) (by kernel_rfl) (by kernel_rfl) ?_
  intro o' ho hod
  refine wp_callC (f := 14) (args := #[.agg #[.int .i64 Lb.base, .slice A13 Lb.snaps.length c13, .slice A14 Lb.dead.length c14], .agg #[.int .i64 Lb.base, .slice BA Lb.snaps.length bq, .slice A18 Lb.dead.length c18]]) (by cases o'; cases ho; kernel_rfl) (HSL.out _ _ _ LZ1.out HRS1.out) ?_
  rintro ee V2 ⟨rfl, bb⟩
  have LZ2 := Lib.hid (LZ1.out.trans (bb.mono LZ1.out.size))
  have HT2 := Lib.hid (HTT.out _ LZ2.out)
  refine ⟨.bool true, rfl, ?_⟩
  rw [hod]
  clear hod ho bb
  refine ⟨fun _ => HT2.out, ?_⟩
  refine takeG 4 (.move (.tmp 70)) (some 71) none (.bool true) (by kernel_rfl) (by kernel_rfl) (by kernel_rfl) (fun _ _ _ h => h) (fun o' wq e hS => exec_move wq e (by kernel_rfl)) HT2.out ?_
  refine takeG 5 (.move (.tmp 9)) (some 72) (some (4, true)) (.int .i64 eb) (by kernel_rfl) (by kernel_rfl) (by kernel_rfl) (fun _ _ _ h => h) (fun o' wq e hS => exec_move wq e (by kernel_rfl)) HT2.out ?_
  refine takeG 6 (.move (.tmp 12)) (some 73) (some (4, true)) (.int .i64 eb) (by kernel_rfl) (by kernel_rfl) (by kernel_rfl) (fun _ _ _ h => h) (fun o' wq e hS => exec_move wq e (by kernel_rfl)) HT2.out ?_
  refine takeG 7 (.binOp .eql 29 (.tmp 72) (.tmp 73) 29) (some 74) (some (4, true)) (.bool true) (by kernel_rfl) (by kernel_rfl) (by kernel_rfl) (fun _ _ _ h => h) (fun o' wq e hS => exec_bin (u1 := .int .i64 eb) (u2 := .int .i64 eb) wq e (by kernel_rfl) (by kernel_rfl) (eqG_int ..) (eql_er eb _)) HT2.out ?_
  refine takeG 8 (.pick (.tmp 71) (.tmp 74) (.const (Value.bool false))) (some 75) none (.bool true) (by kernel_rfl) (by kernel_rfl) (by kernel_rfl) (fun _ _ _ h => h) (fun o' wq e hS => exec_pick (b := true) wq e (by kernel_rfl) (by kernel_rfl)) HT2.out ?_
  refine lastS 9 (.assign (.tmp 75)) (some 6) (.bool true) (by kernel_rfl) (by kernel_rfl) (by kernel_rfl) HT2.out (fun o' e => exec_assign _ e (by kernel_rfl)) ?_
  simp only [put_some, put_none, List.setIfInBounds_toArray, List.set_cons_succ, List.set_cons_zero]
  have LFIN := Lib.hid (LW.out.trans ((LY5.out.trans (LZ2.out.mono LY5.out.size)).mono LW.out.size))
  clear HT0 HT1 HT2 LZ0 LZ1 LZ2
  go_wp2_with fail
  go_ret
  exact ⟨rfl, LFIN.out⟩
end Dd
namespace deadPlays
theorem walk (L0 : Dd.Ln) (a0 b0 : Option Addr) (c0 e0 : Nat) (p0 p1 p2 : Int) (p3 : ByteArray) (t : Int) (W : World) (f0 : Dd.Fit L0) (t0 : Dd.Tight L0) (y0 : Dd.RdS W a0 L0.snaps) (n0 : a0 = none → c0 = 0) (x0 : Dd.RdP W b0 L0.dead) (m0 : b0 = none → e0 = 0) (w0 : (Lit.int .i64 p0).wf = true) (w1 : (Lit.int .i64 p1).wf = true) (w2 : (Lit.int .i64 p2).wf = true) (z3 : p3.size ≤ maxLen) (w4 : (Lit.int .i64 t).wf = true) :
    Calls Try.prog 3 #[.agg #[.int .i64 L0.base, .slice a0 L0.snaps.length c0, .slice b0 L0.dead.length e0], .agg #[.int .i64 p0, .int .i64 p1, .int .i64 p2, .string p3], .int .i64 t] W fun e w' => e = .returned (.bool true) ∧ Below W.heap.size W w' :=
  Dd.plays_walk W L0 ⟨p0, p1, p2, p3⟩ t a0 b0 c0 e0 f0 t0 y0 n0 x0 m0 (Dd.bnd w2) (Dd.bnd w4)
end deadPlays
end Go.Proofs.Ytpoacgofbbfhcaa
