/-
  'Snapshot' by a contract. The conditions: the line can be read, its rows have room.
-/
import Derived.Test.YtefgofoocabkkaaDeadOwn
namespace Go.Proofs.Ytefgofoocabkkaa
open Go Go.RowKit
set_option maxRecDepth 100000
set_option linter.unusedVariables false
namespace Dd
def snapS (L : Ln) (t : Int) : Ln × Int :=
  if rightL L then (if t ≤ aheadL L L.snaps.length then (lnZero, 1) else (⟨L.base, L.snaps ++ [⟨t, L.dead⟩], []⟩, 0)) else (lnZero, 2)
def SnapPost (E : TypeId) (w : World) (r : Ln × Int) (e : Ending) (w' : World) : Prop := ∃ v, e = .returned (.tuple #[v, .int .i64 r.2]) ∧ LnV E w' w.heap.size v r.1 ∧ Below w.heap.size w w'
set_option maxHeartbeats 12800000 in
theorem snapshot_at (w : World) (L : Ln) (t : Int) (A A' : Option Addr) (c c' : Nat) (hf : Fit L) (hs : RdS w A L.snaps) (hsn : A = none → c = 0) (hd : RdP w A' L.dead) (hdn : A' = none → c' = 0) :
    Calls Try.prog 7 #[.agg #[.int .i64 L.base, .slice A L.snaps.length c, .slice A' L.dead.length c'], .int .i64 t] w fun e w' => SnapPost 51 w (snapS L t) e w' := by
  obtain ⟨n, hn⟩ : ∃ n, n = L.snaps.length := ⟨_, rfl⟩
  obtain ⟨m, hm⟩ : ∃ m, m = L.dead.length := ⟨_, rfl⟩
  obtain ⟨bs, hbs⟩ : ∃ bs, bs = L.base := ⟨_, rfl⟩
  have HF := Lib.hid hf
  have HN := Lib.hid hn
  have HM := Lib.hid hm
  have HBS := Lib.hid hbs
  have HCLO : Hid (∀ W2, Below w.heap.size w W2 → Calls Try.prog 12 #[.agg #[.int .i64 bs, .slice A n c, .slice A' m c']] W2 fun e w' => CloneL W2 L e w') := Lib.hid fun W2 hb2 => by rw [hn, hm, hbs]; exact clone_o W2 L A A' c c' hf (hs.below hb2) hsn (hd.below hb2) hdn
  have HCK : Hid (∀ W2, Below w.heap.size w W2 → Calls Try.prog 9 #[.agg #[.int .i64 bs, .slice A n c, .slice A' m c']] W2 fun e w' => e = .returned (.int .i64 (if rightL L then 0 else 2)) ∧ Below W2.heap.size W2 w') := Lib.hid fun W2 hb2 => by rw [hn, hm, hbs]; exact check_at W2 L A A' c c' hf (hs.below hb2) (hd.below hb2)
  have HLA : Hid (∀ W2, Below w.heap.size w W2 → Calls Try.prog 13 #[.agg #[.int .i64 bs, .slice A n c, .slice A' m c']] W2 fun e w' => e = .returned (.int .i64 (aheadL L n)) ∧ Below W2.heap.size W2 w') := Lib.hid fun W2 hb2 => by rw [hbs]; exact last_at W2 L A A' c c' n m hn (hs.below hb2) (by rw [hn]; exact hf.ns)
  obtain ⟨R, hRR⟩ : ∃ R : Ln × Int, R = snapS L t := ⟨_, rfl⟩
  have HR := Lib.hid hRR
  rw [← hRR]
  rw [← hn, ← hm, ← hbs]
  obtain ⟨W_1, hw0⟩ : ∃ W9, W9 = w.alloc (.cells #[.int .i64 bs, .slice A n c, .slice A' m c'] 28) := ⟨_, rfl⟩
  obtain ⟨W, hw1⟩ : ∃ W9, W9 = W_1.alloc (.cells #[.int .i64 0, .slice none 0 0, .slice none 0 0] 28) := ⟨_, rfl⟩
  obtain ⟨r0, hr0⟩ : ∃ r9, r9 = w.heap.size := ⟨_, rfl⟩
  have hs0 : W_1.heap.size = r0 + 1 := by rw [hw0]; simp; omega
  obtain ⟨r4, hr1⟩ : ∃ r9, r9 = r0 + 1 := ⟨_, rfl⟩
  have hs1 : W.heap.size = r4 + 1 := by rw [hw1]; simp; omega
  have hb0 : Below w.heap.size w W_1 := by rw [hw0]; exact (Below.refl _ _).alloc (Nat.le_refl _) _
  have hb1 : Below w.heap.size w W := by rw [hw1]; exact hb0.alloc hb0.size _
  have Xr0 : Blk W r0 28 #[.int .i64 bs, .slice A n c, .slice A' m c'] := by
    have h := Blk.new w 28 #[.int .i64 bs, .slice A n c, .slice A' m c']
    rw [← hr0] at h
    rw [hw1, hw0]
    exact h.alloc _
  have Xr4 : Blk W r4 28 #[.int .i64 0, .slice none 0 0, .slice none 0 0] := by
    have h := Blk.new W_1 28 #[.int .i64 0, .slice none 0 0, .slice none 0 0]
    rw [hs0, ← hr1] at h
    rw [hw1]
    exact h
  have HE : Hid (r0 = w.heap.size ∧ r4 = r0 + 1) := Lib.hid ⟨hr0, hr1⟩
  have HW0 := Lib.hid hw0
  have HW1 := Lib.hid hw1
  have HWZ := Lib.hid hs1
  have hb := hb1
  have HX := Lib.hid (⟨Xr0, Xr4⟩ : _ ∧ _)
  have LW := Lib.hid hb
  have q0 : W.cell? ⟨r0, 0, none⟩ = some (.int .i64 bs) := Xr0.cell 0
  have q1 : W.cell? ⟨r0, 1, none⟩ = some (.slice A n c) := Xr0.cell 1
  have q2 : W.cell? ⟨r0, 2, none⟩ = some (.slice A' m c') := Xr0.cell 2
  clear hn hm hbs hf hs hsn hd hdn hRR hb Xr0 Xr4 hw0 hr0 hs0 hb0 hw1 hr1 hs1 hb1
  go_enter Try.func7, Try.ntmps7
  go_upto_region 1 with (fail)
  rw [← HW0.out, ← HW1.out, ← HE.out.1, ← HE.out.2]
  go_wp2_with fail
  refine (HCK.out W LW.out).mono ?_
  rintro e W1 ⟨rfl, b1⟩
  have hr4 : w.heap.size ≤ r4 := by have := HE.out; omega
  have hr0 : w.heap.size ≤ r0 := by have := HE.out; omega
  have L1 := Lib.hid (LW.out.trans (b1.mono LW.out.size))
  have X1 := Lib.hid (⟨HX.out.1.below b1 HX.out.1.lt, HX.out.2.below b1 HX.out.2.lt⟩ : _ ∧ _)
  have HSZ1 : Hid (r4 + 1 ≤ W1.heap.size) := Lib.hid (by have := b1.size; have := HWZ.out; omega)
  clear q0 q1 q2 b1 HCK HX LW
  cases hR : rightL L with
  | false =>
    have HQ : Hid (R = (lnZero, 2)) := Lib.hid (by rw [HR.out, snapS, hR]; rfl)
    have p0 : W1.cell? ⟨r4, 0, none⟩ = some (.int .i64 0) := X1.out.2.cell 0
    have p1 : W1.cell? ⟨r4, 1, none⟩ = some (.slice none 0 0) := X1.out.2.cell 1
    have p2 : W1.cell? ⟨r4, 2, none⟩ = some (.slice none 0 0) := X1.out.2.cell 2
    have pf0 : W1.frozen? ⟨r4, 0, none⟩ = false := X1.out.2.frozen 0
    have pf1 : W1.frozen? ⟨r4, 1, none⟩ = false := X1.out.2.frozen 1
    have pf2 : W1.frozen? ⟨r4, 2, none⟩ = false := X1.out.2.frozen 2
    have hif : (if false = true then (0 : Int) else 2) = 2 := rfl
    rw [hif]
    clear hif hR
    go_wp2_with fail
    have T5 := ((X1.out.2.set_ 0 (.int .i64 0)).set_ 1 (.slice none 0 0)).set_ 2 (.slice none 0 0)
    refine bodyPost_ret (results_cell2 rfl rfl (loadVar_blk T5 Try.underlying28 rfl size_ln) rfl) rfl ?_
    rw [HQ.out]
    exact ⟨_, rfl, LnV.zero _ _ _, ((L1.out.setCell (p := ⟨r4, 0, none⟩) hr4 _).setCell (p := ⟨r4, 1, none⟩) hr4 _).setCell (p := ⟨r4, 2, none⟩) hr4 _⟩
  | true =>
    have hif : (if true = true then (0 : Int) else 2) = 0 := rfl
    rw [hif]
    clear hif
    have q0 : W1.cell? ⟨r0, 0, none⟩ = some (.int .i64 bs) := X1.out.1.cell 0
    have q1 : W1.cell? ⟨r0, 1, none⟩ = some (.slice A n c) := X1.out.1.cell 1
    have q2 : W1.cell? ⟨r0, 2, none⟩ = some (.slice A' m c') := X1.out.1.cell 2
    obtain ⟨a, ha⟩ : ∃ a, a = aheadL L n := ⟨_, rfl⟩
    rw [← ha] at HLA
    have HA := Lib.hid ha
    have HRT := Lib.hid hR
    clear ha hR
    go_wp2_with fail
    refine (HLA.out W1 L1.out).mono ?_
    rintro e W2 ⟨rfl, b2⟩
    have L2 := Lib.hid (L1.out.trans (b2.mono L1.out.size))
    have X2 := Lib.hid (⟨X1.out.1.below b2 X1.out.1.lt, X1.out.2.below b2 X1.out.2.lt⟩ : _ ∧ _)
    have HSZ2 : Hid (r4 + 1 ≤ W2.heap.size) := Lib.hid (Nat.le_trans HSZ1.out b2.size)
    clear q0 q1 q2 b2 HLA X1 L1 HSZ1
    by_cases hl : t ≤ a
    · have HQ : Hid (R = (lnZero, 1)) := Lib.hid (by rw [HR.out, snapS, HRT.out, if_pos rfl, ← HN.out, ← HA.out, if_pos hl])
      have p0 : W2.cell? ⟨r4, 0, none⟩ = some (.int .i64 0) := X2.out.2.cell 0
      have p1 : W2.cell? ⟨r4, 1, none⟩ = some (.slice none 0 0) := X2.out.2.cell 1
      have p2 : W2.cell? ⟨r4, 2, none⟩ = some (.slice none 0 0) := X2.out.2.cell 2
      have pf0 : W2.frozen? ⟨r4, 0, none⟩ = false := X2.out.2.frozen 0
      have pf1 : W2.frozen? ⟨r4, 1, none⟩ = false := X2.out.2.frozen 1
      have pf2 : W2.frozen? ⟨r4, 2, none⟩ = false := X2.out.2.frozen 2
      go_wp2_with fail
      have T5 := ((X2.out.2.set_ 0 (.int .i64 0)).set_ 1 (.slice none 0 0)).set_ 2 (.slice none 0 0)
      refine bodyPost_ret (results_cell2 rfl rfl (loadVar_blk T5 Try.underlying28 rfl size_ln) rfl) rfl ?_
      rw [HQ.out]
      exact ⟨_, rfl, LnV.zero _ _ _, ((L2.out.setCell (p := ⟨r4, 0, none⟩) hr4 _).setCell (p := ⟨r4, 1, none⟩) hr4 _).setCell (p := ⟨r4, 2, none⟩) hr4 _⟩
    · have HQ : Hid (R = (⟨L.base, L.snaps ++ [⟨t, L.dead⟩], []⟩, 0)) := Lib.hid (by rw [HR.out, snapS, HRT.out, if_pos rfl, ← HN.out, ← HA.out, if_neg hl])
      have q0 : W2.cell? ⟨r0, 0, none⟩ = some (.int .i64 bs) := X2.out.1.cell 0
      have q1 : W2.cell? ⟨r0, 1, none⟩ = some (.slice A n c) := X2.out.1.cell 1
      have q2 : W2.cell? ⟨r0, 2, none⟩ = some (.slice A' m c') := X2.out.1.cell 2
      have HCL := Lib.hid (HCLO.out W2 L2.out)
      clear HCLO
      go_wp2_with fail
      refine HCL.out.mono ?_
      rintro e W3 ⟨A1, c1, A5, c5, vs, rfl, hO, b3⟩
      rw [← HN.out, ← HM.out, ← HBS.out]
      have L3 := Lib.hid (L2.out.trans (b3.mono L2.out.size))
      have X3 := Lib.hid (⟨X2.out.1.below b3 X2.out.1.lt, X2.out.2.below b3 X2.out.2.lt⟩ : _ ∧ _)
      obtain ⟨B2, hB2⟩ : ∃ B2, B2 = W2.heap.size := ⟨_, rfl⟩
      have HB2 : Hid (r4 + 1 ≤ B2 ∧ B2 ≤ W3.heap.size) := Lib.hid ⟨by rw [hB2]; exact HSZ2.out, by rw [hB2]; exact b3.size⟩
      rw [← hB2] at hO
      obtain ⟨W4, hW4⟩ : ∃ W4, W4 = ((W3.setCell ⟨r0, 0, none⟩ (.int .i64 bs)).setCell ⟨r0, 1, none⟩ (.slice A1 n c1)).setCell ⟨r0, 2, none⟩ (.slice A5 m c5) := ⟨_, rfl⟩
      have hz4 : W4.heap.size = W3.heap.size := by rw [hW4]; simp [World.setCell]
      have hk4 : ∀ g, g ≠ r0 → W4.heap[g]? = W3.heap[g]? := fun g hg => by
        rw [hW4]
        exact ((Below.heap_setCell _ ⟨r0, 2, none⟩ _ g hg).trans (Below.heap_setCell _ ⟨r0, 1, none⟩ _ g hg)).trans (Below.heap_setCell _ ⟨r0, 0, none⟩ _ g hg)
      have Z0 : Blk W4 r0 28 #[.int .i64 bs, .slice A1 n c1, .slice A5 m c5] := by rw [hW4]; exact ((X3.out.1.set_ 0 (.int .i64 bs)).set_ 1 (.slice A1 n c1)).set_ 2 (.slice A5 m c5)
      have Z4 : Blk W4 r4 28 #[.int .i64 0, .slice none 0 0, .slice none 0 0] := (hk4 r4 (by have := HE.out; omega)).trans X3.out.2
      have L4 : Below w.heap.size w W4 := by rw [hW4]; exact ((L3.out.setCell (p := ⟨r0, 0, none⟩) hr0 _).setCell (p := ⟨r0, 1, none⟩) hr0 _).setCell (p := ⟨r0, 2, none⟩) hr0 _
      have hO4 : LnO 51 W4 B2 A1 c1 A5 c5 vs L := hO.keep fun g hg _ => hk4 g (by have := HE.out; have := HB2.out; omega)
      have HO4 := Lib.hid hO4
      have HZ4 := Lib.hid (⟨Z0, Z4, L4⟩ : _ ∧ _ ∧ _)
      have HB4 : Hid (r4 + 1 ≤ B2 ∧ B2 ≤ W4.heap.size) := Lib.hid ⟨HB2.out.1, by rw [hz4]; exact HB2.out.2⟩
      have HV : Hid (Gr.OwnG 51 2 csV W4 B2 (.slice A1 n c1) vs) := Lib.hid (by rw [HN.out]; exact hO4.oS)
      have HVL : Hid ((vs.length + 1) * 32 ≤ 140737488355328) := Lib.hid (by rw [hO4.oH.1]; have := HF.out.rs; unfold room at this; omega)
      have u0 : W3.cell? ⟨r0, 0, none⟩ = some (.int .i64 bs) := X3.out.1.cell 0
      have u1 : W3.cell? ⟨r0, 1, none⟩ = some (.slice A n c) := X3.out.1.cell 1
      have u2 : W3.cell? ⟨r0, 2, none⟩ = some (.slice A' m c') := X3.out.1.cell 2
      have uf0 : W3.frozen? ⟨r0, 0, none⟩ = false := X3.out.1.frozen 0
      have uf1 : W3.frozen? ⟨r0, 1, none⟩ = false := X3.out.1.frozen 1
      have uf2 : W3.frozen? ⟨r0, 2, none⟩ = false := X3.out.1.frozen 2
      have HW4 := Lib.hid hW4
      clear q0 q1 q2 hB2 hz4 hk4 Z0 Z4 L4 hO4 hO b3 X2 L2 HCL hl hW4
      go_upto_region 7 with (fail)
      rw [← HW4.out]
      have s0 : W4.cell? ⟨r0, 0, none⟩ = some (.int .i64 bs) := HZ4.out.1.cell 0
      have s1 : W4.cell? ⟨r0, 1, none⟩ = some (.slice A1 n c1) := HZ4.out.1.cell 1
      have s2 : W4.cell? ⟨r0, 2, none⟩ = some (.slice A5 m c5) := HZ4.out.1.cell 2
      clear u0 u1 u2 uf0 uf1 uf2 HW4 X3 L3 HB2
      obtain ⟨v7, W7, hrun, ho7, hb7, hsz7, hkp7⟩ := append_sv (TS := 25) Try.underlying25 info_ds HV.out ⟨t, A5, m, c5⟩ HVL.out HB4.out.2 25
      have HRUN : Hid (∀ ty, (Builtin.append_ #[25, 25] ty #[.slice A1 n c1, .slice (some ⟨W4.heap.size, 0, none⟩) 1 1]).run Try.prog (W4.alloc (.cells #[.int .i64 t, .slice A5 m c5] 51)) = .ok v7 W7) := Lib.hid fun _ => hrun
      have hpush := HO4.out.pushSnap (w' := W7) (v7 := v7) (t := t) ne_ds (by rw [← HM.out]; exact ho7) (fun g hg hne => hkp7 g hg (by rw [HN.out]; exact hne))
      obtain ⟨A7, c7, hv7, hO7⟩ := hpush
      rw [← HN.out] at hv7
      subst hv7
      have HO7 := Lib.hid hO7
      have hlow : ∀ g, g < B2 → W7.heap[g]? = W4.heap[g]? := fun g hg => hb7.block g hg
      have T0 : Blk W7 r0 28 #[.int .i64 bs, .slice A1 n c1, .slice A5 m c5] := (hlow r0 (by have := HE.out; have := HB4.out; omega)).trans HZ4.out.1
      have T4 : Blk W7 r4 28 #[.int .i64 0, .slice none 0 0, .slice none 0 0] := (hlow r4 (by have := HE.out; have := HB4.out; omega)).trans HZ4.out.2.1
      have L7 : Below w.heap.size w W7 := HZ4.out.2.2.trans (hb7.mono (by have := HE.out; have := HB4.out; omega))
      have x1 : W7.cell? ⟨r0, 1, none⟩ = some (.slice A1 n c1) := T0.cell 1
      have xf1 : W7.frozen? ⟨r0, 1, none⟩ = false := T0.frozen 1
      have T0' := T0.set_ 1 (.slice A7 (n + 1) c7)
      have x2 : (W7.setCell ⟨r0, 1, none⟩ (.slice A7 (n + 1) c7)).cell? ⟨r0, 2, none⟩ = some (.slice A5 m c5) := T0'.cell 2
      have xf2 : (W7.setCell ⟨r0, 1, none⟩ (.slice A7 (n + 1) c7)).frozen? ⟨r0, 2, none⟩ = false := T0'.frozen 2
      obtain ⟨W8, hW8⟩ : ∃ W8, W8 = (W7.setCell ⟨r0, 1, none⟩ (.slice A7 (n + 1) c7)).setCell ⟨r0, 2, none⟩ (.slice none 0 0) := ⟨_, rfl⟩
      have Y0 : Blk W8 r0 28 #[.int .i64 bs, .slice A7 (n + 1) c7, .slice none 0 0] := by rw [hW8]; exact T0'.set_ 2 (.slice none 0 0)
      have hk8 : ∀ g, g ≠ r0 → W8.heap[g]? = W7.heap[g]? := fun g hg => by
        rw [hW8]
        exact (Below.heap_setCell _ ⟨r0, 2, none⟩ _ g hg).trans (Below.heap_setCell _ ⟨r0, 1, none⟩ _ g hg)
      have Y4 : Blk W8 r4 28 #[.int .i64 0, .slice none 0 0, .slice none 0 0] := (hk8 r4 (by have := HE.out; omega)).trans T4
      have L8 : Below w.heap.size w W8 := by rw [hW8]; exact (L7.setCell (p := ⟨r0, 1, none⟩) hr0 _).setCell (p := ⟨r0, 2, none⟩) hr0 _
      have HW8 := Lib.hid hW8
      have HO8 := Lib.hid (hO7.keep (w' := W8) fun g hg _ => hk8 g (by have := HE.out; have := HB4.out; omega))
      have HY := Lib.hid (⟨Y0, Y4, L8⟩ : _ ∧ _ ∧ _)
      clear hW8 Y0 Y4 L8 T0 T4 T0' L7 hlow hO7 hrun ho7 hb7 hsz7 hkp7 hk8 HO7
      go_wp2_with (at_builtin; refine Gr.wpList_append rfl 25 (.tmp 21) (.tmp 26) rfl rfl rfl HRUN.out ?_; refine of_hid ?_)
      refine Lib.hid ?_
      go_upto_region 9 with (fail)
      rw [← HW8.out]
      clear x1 xf1 x2 xf2 s0 s1 s2
      have s0 : W8.cell? ⟨r0, 0, none⟩ = some (.int .i64 bs) := HY.out.1.cell 0
      have s1 : W8.cell? ⟨r0, 1, none⟩ = some (.slice A7 (n + 1) c7) := HY.out.1.cell 1
      have s2 : W8.cell? ⟨r0, 2, none⟩ = some (.slice none 0 0) := HY.out.1.cell 2
      have p0 : W8.cell? ⟨r4, 0, none⟩ = some (.int .i64 0) := HY.out.2.1.cell 0
      have p1 : W8.cell? ⟨r4, 1, none⟩ = some (.slice none 0 0) := HY.out.2.1.cell 1
      have p2 : W8.cell? ⟨r4, 2, none⟩ = some (.slice none 0 0) := HY.out.2.1.cell 2
      have pf0 : W8.frozen? ⟨r4, 0, none⟩ = false := HY.out.2.1.frozen 0
      have pf1 : W8.frozen? ⟨r4, 1, none⟩ = false := HY.out.2.1.frozen 1
      have pf2 : W8.frozen? ⟨r4, 2, none⟩ = false := HY.out.2.1.frozen 2
      go_wp2_with fail
      have T5 := ((HY.out.2.1.set_ 0 (.int .i64 bs)).set_ 1 (.slice A7 (n + 1) c7)).set_ 2 (.slice none 0 0)
      refine bodyPost_ret (results_cell2 rfl rfl (loadVar_blk T5 Try.underlying28 rfl size_ln) rfl) rfl ?_
      rw [HQ.out]
      have hk6 : ∀ g, g ≠ r4 → (((W8.setCell ⟨r4, 0, none⟩ (.int .i64 bs)).setCell ⟨r4, 1, none⟩ (.slice A7 (n + 1) c7)).setCell ⟨r4, 2, none⟩ (.slice none 0 0)).heap[g]? = W8.heap[g]? := fun g hg => ((Below.heap_setCell _ ⟨r4, 2, none⟩ _ g hg).trans (Below.heap_setCell _ ⟨r4, 1, none⟩ _ g hg)).trans (Below.heap_setCell _ ⟨r4, 0, none⟩ _ g hg)
      refine ⟨_, rfl, ?_, ((HY.out.2.2.setCell (p := ⟨r4, 0, none⟩) hr4 _).setCell (p := ⟨r4, 1, none⟩) hr4 _).setCell (p := ⟨r4, 2, none⟩) hr4 _⟩
      have := ((HO8.out.keep (fun g hg _ => hk6 g (by have := HB4.out; omega))).base_ (b := w.heap.size) (by have := HB4.out; omega)).toV
      have hl1 : (L.snaps ++ [(⟨t, L.dead⟩ : Sn)]).length = n + 1 := by rw [List.length_append, ← HN.out]; rfl
      have hbs := HBS.out
      subst hbs
      dsimp only at this
      rw [hl1] at this
      exact this
end Dd
end Go.Proofs.Ytefgofoocabkkaa
