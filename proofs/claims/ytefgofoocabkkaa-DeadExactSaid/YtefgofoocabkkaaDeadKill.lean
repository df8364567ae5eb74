/-
  'Kill' by a contract. The conditions: the line can be read, its rows have room.
-/
import Derived.Test.YtefgofoocabkkaaDeadSnapshot
namespace Go.Proofs.Ytefgofoocabkkaa
open Go Go.RowKit
set_option maxRecDepth 100000
set_option linter.unusedVariables false
namespace Dd
def killS (L : Ln) (p : Pt) : Ln × Bool × Int :=
  if rightL L then (if aheadL L L.snaps.length < p.birth then (L, true, 0) else (⟨L.base, L.snaps, L.dead ++ [p]⟩, false, 0)) else (lnZero, false, 2)
def KillPost (E : TypeId) (w : World) (r : Ln × Bool × Int) (e : Ending) (w' : World) : Prop := ∃ v, e = .returned (.tuple #[v, .bool r.2.1, .int .i64 r.2.2]) ∧ LnV E w' w.heap.size v r.1 ∧ Below w.heap.size w w'
set_option maxHeartbeats 12800000 in
theorem kill_at (w : World) (L : Ln) (p : Pt) (A A' : Option Addr) (c c' : Nat) (hf : Fit L) (hs : RdS w A L.snaps) (hsn : A = none → c = 0) (hd : RdP w A' L.dead) (hdn : A' = none → c' = 0) :
    Calls Try.prog 5 #[.agg #[.int .i64 L.base, .slice A L.snaps.length c, .slice A' L.dead.length c'], .agg #[.int .i64 p.addr, .int .i64 p.size, .int .i64 p.birth, .string p.sum]] w fun e w' => KillPost 51 w (killS L p) e w' := by
  obtain ⟨n, hn⟩ : ∃ n, n = L.snaps.length := ⟨_, rfl⟩
  obtain ⟨m, hm⟩ : ∃ m, m = L.dead.length := ⟨_, rfl⟩
  obtain ⟨bs, hbs⟩ : ∃ bs, bs = L.base := ⟨_, rfl⟩
  have HF := Lib.hid hf
  have HN := Lib.hid hn
  have HM := Lib.hid hm
  have HBS := Lib.hid hbs
  have HCLO : Hid (∀ W2, Below w.heap.size w W2 → Calls Try.prog 12 #[.agg #[.int .i64 bs, .slice A n c, .slice A' m c']] W2 fun e w' => CloneL W2 L e w') := Lib.hid fun W2 hb2 => by rw [hn, hm, hbs]; exact clone_o W2 L A A' c c' hf (hs.below hb2) hsn (hd.below hb2) hdn
  have HCK : Hid (∀ W2, Below w.heap.size w W2 → Calls Try.prog 9 #[.agg #[.int .i64 bs, .slice A n c, .slice A' m c']] W2 fun e w' => e = .returned (.int .i64 (if rightL L then 0 else 2)) ∧ Below W2.heap.size W2 w') := Lib.hid fun W2 hb2 => by rw [hn, hm, hbs]; exact check_at W2 L A A' c c' hf (hs.below hb2) (hd.below hb2)
  obtain ⟨R, hRR⟩ : ∃ R : Ln × Bool × Int, R = killS L p := ⟨_, rfl⟩
  have HR := Lib.hid hRR
  rw [← hRR]
  rw [← hn, ← hm, ← hbs]
  obtain ⟨W_1, hw0⟩ : ∃ W9, W9 = w.alloc (.cells #[.int .i64 bs, .slice A n c, .slice A' m c'] 28) := ⟨_, rfl⟩
  obtain ⟨W_2, hw1⟩ : ∃ W9, W9 = W_1.alloc (.cells #[.int .i64 p.addr, .int .i64 p.size, .int .i64 p.birth, .string p.sum] 36) := ⟨_, rfl⟩
  obtain ⟨W, hw2⟩ : ∃ W9, W9 = W_2.alloc (.cells #[.int .i64 0, .slice none 0 0, .slice none 0 0] 28) := ⟨_, rfl⟩
  obtain ⟨r0, hr0⟩ : ∃ r9, r9 = w.heap.size := ⟨_, rfl⟩
  have hs0 : W_1.heap.size = r0 + 1 := by rw [hw0]; simp; omega
  obtain ⟨r1, hr1⟩ : ∃ r9, r9 = r0 + 1 := ⟨_, rfl⟩
  have hs1 : W_2.heap.size = r1 + 1 := by rw [hw1]; simp; omega
  obtain ⟨r4, hr2⟩ : ∃ r9, r9 = r1 + 1 := ⟨_, rfl⟩
  have hs2 : W.heap.size = r4 + 1 := by rw [hw2]; simp; omega
  have hb0 : Below w.heap.size w W_1 := by rw [hw0]; exact (Below.refl _ _).alloc (Nat.le_refl _) _
  have hb1 : Below w.heap.size w W_2 := by rw [hw1]; exact hb0.alloc hb0.size _
  have hb2 : Below w.heap.size w W := by rw [hw2]; exact hb1.alloc hb1.size _
  have Xr0 : Blk W r0 28 #[.int .i64 bs, .slice A n c, .slice A' m c'] := by
    have h := Blk.new w 28 #[.int .i64 bs, .slice A n c, .slice A' m c']
    rw [← hr0] at h
    rw [hw2, hw1, hw0]
    exact (h.alloc _).alloc _
  have Xr1 : Blk W r1 36 #[.int .i64 p.addr, .int .i64 p.size, .int .i64 p.birth, .string p.sum] := by
    have h := Blk.new W_1 36 #[.int .i64 p.addr, .int .i64 p.size, .int .i64 p.birth, .string p.sum]
    rw [hs0, ← hr1] at h
    rw [hw2, hw1]
    exact h.alloc _
  have Xr4 : Blk W r4 28 #[.int .i64 0, .slice none 0 0, .slice none 0 0] := by
    have h := Blk.new W_2 28 #[.int .i64 0, .slice none 0 0, .slice none 0 0]
    rw [hs1, ← hr2] at h
    rw [hw2]
    exact h
  have HE : Hid (r0 = w.heap.size ∧ r1 = r0 + 1 ∧ r4 = r1 + 1) := Lib.hid ⟨hr0, hr1, hr2⟩
  have HW0 := Lib.hid hw0
  have HW1 := Lib.hid hw1
  have HW2 := Lib.hid hw2
  have HWZ := Lib.hid hs2
  have hb := hb2
  have HX := Lib.hid (⟨Xr0, Xr1, Xr4⟩ : _ ∧ _ ∧ _)
  have LW := Lib.hid hb
  have q0 : W.cell? ⟨r0, 0, none⟩ = some (.int .i64 bs) := Xr0.cell 0
  have q1 : W.cell? ⟨r0, 1, none⟩ = some (.slice A n c) := Xr0.cell 1
  have q2 : W.cell? ⟨r0, 2, none⟩ = some (.slice A' m c') := Xr0.cell 2
  clear hn hm hbs hf hs hsn hd hdn hRR hb Xr0 Xr1 Xr4 hw0 hr0 hs0 hb0 hw1 hr1 hs1 hb1 hw2 hr2 hs2 hb2
  go_enter Try.func5, Try.ntmps5
  go_upto_region 1 with (fail)
  rw [← HW0.out, ← HW1.out, ← HW2.out, ← HE.out.1, ← HE.out.2.1, ← HE.out.2.2]
  go_wp2_with fail
  refine (HCK.out W LW.out).mono ?_
  rintro e W1 ⟨rfl, b1⟩
  have hr4 : w.heap.size ≤ r4 := by have := HE.out; omega
  have hr0 : w.heap.size ≤ r0 := by have := HE.out; omega
  have L1 := Lib.hid (LW.out.trans (b1.mono LW.out.size))
  have X1 := Lib.hid (⟨HX.out.1.below b1 HX.out.1.lt, HX.out.2.1.below b1 HX.out.2.1.lt, HX.out.2.2.below b1 HX.out.2.2.lt⟩ : _ ∧ _ ∧ _)
  have HSZ1 : Hid (r4 + 1 ≤ W1.heap.size) := Lib.hid (by have := b1.size; have := HWZ.out; omega)
  clear q0 q1 q2 b1 HCK HX LW
  cases hR : rightL L with
  | false =>
    have HQ : Hid (R = (lnZero, false, 2)) := Lib.hid (by rw [HR.out, killS, hR]; rfl)
    have p0 : W1.cell? ⟨r4, 0, none⟩ = some (.int .i64 0) := X1.out.2.2.cell 0
    have p1 : W1.cell? ⟨r4, 1, none⟩ = some (.slice none 0 0) := X1.out.2.2.cell 1
    have p2 : W1.cell? ⟨r4, 2, none⟩ = some (.slice none 0 0) := X1.out.2.2.cell 2
    have pf0 : W1.frozen? ⟨r4, 0, none⟩ = false := X1.out.2.2.frozen 0
    have pf1 : W1.frozen? ⟨r4, 1, none⟩ = false := X1.out.2.2.frozen 1
    have pf2 : W1.frozen? ⟨r4, 2, none⟩ = false := X1.out.2.2.frozen 2
    have hif : (if false = true then (0 : Int) else 2) = 2 := rfl
    rw [hif]
    clear hif hR
    go_wp2_with fail
    have T5 := ((X1.out.2.2.set_ 0 (.int .i64 0)).set_ 1 (.slice none 0 0)).set_ 2 (.slice none 0 0)
    refine bodyPost_ret (results_cell3 rfl rfl (loadVar_blk T5 Try.underlying28 rfl size_ln) rfl rfl) rfl ?_
    rw [HQ.out]
    exact ⟨_, rfl, LnV.zero _ _ _, ((L1.out.setCell (p := ⟨r4, 0, none⟩) hr4 _).setCell (p := ⟨r4, 1, none⟩) hr4 _).setCell (p := ⟨r4, 2, none⟩) hr4 _⟩
  | true =>
    have hif : (if true = true then (0 : Int) else 2) = 0 := rfl
    rw [hif]
    clear hif
    have HRT := Lib.hid hR
    have q0 : W1.cell? ⟨r0, 0, none⟩ = some (.int .i64 bs) := X1.out.1.cell 0
    have q1 : W1.cell? ⟨r0, 1, none⟩ = some (.slice A n c) := X1.out.1.cell 1
    have q2 : W1.cell? ⟨r0, 2, none⟩ = some (.slice A' m c') := X1.out.1.cell 2
    have HCL := Lib.hid (HCLO.out W1 L1.out)
    clear HCLO hR
    go_wp2_with fail
    refine HCL.out.mono ?_
    rintro e W3 ⟨A1, c1, A5, c5, vs, rfl, hO, b3⟩
    rw [← HN.out, ← HM.out, ← HBS.out]
    have L3 := Lib.hid (L1.out.trans (b3.mono L1.out.size))
    have X3 := Lib.hid (⟨X1.out.1.below b3 X1.out.1.lt, X1.out.2.1.below b3 X1.out.2.1.lt, X1.out.2.2.below b3 X1.out.2.2.lt⟩ : _ ∧ _ ∧ _)
    obtain ⟨B2, hB2⟩ : ∃ B2, B2 = W1.heap.size := ⟨_, rfl⟩
    have HB2 : Hid (r4 + 1 ≤ B2 ∧ B2 ≤ W3.heap.size) := Lib.hid ⟨by rw [hB2]; exact HSZ1.out, by rw [hB2]; exact b3.size⟩
    rw [← hB2] at hO
    obtain ⟨W4, hW4⟩ : ∃ W4, W4 = ((W3.setCell ⟨r0, 0, none⟩ (.int .i64 bs)).setCell ⟨r0, 1, none⟩ (.slice A1 n c1)).setCell ⟨r0, 2, none⟩ (.slice A5 m c5) := ⟨_, rfl⟩
    have hz4 : W4.heap.size = W3.heap.size := by rw [hW4]; simp [World.setCell]
    have hk4 : ∀ g, g ≠ r0 → W4.heap[g]? = W3.heap[g]? := fun g hg => by
      rw [hW4]
      exact ((Below.heap_setCell _ ⟨r0, 2, none⟩ _ g hg).trans (Below.heap_setCell _ ⟨r0, 1, none⟩ _ g hg)).trans (Below.heap_setCell _ ⟨r0, 0, none⟩ _ g hg)
    have Z0 : Blk W4 r0 28 #[.int .i64 bs, .slice A1 n c1, .slice A5 m c5] := by rw [hW4]; exact ((X3.out.1.set_ 0 (.int .i64 bs)).set_ 1 (.slice A1 n c1)).set_ 2 (.slice A5 m c5)
    have Z1 : Blk W4 r1 36 #[.int .i64 p.addr, .int .i64 p.size, .int .i64 p.birth, .string p.sum] := (hk4 r1 (by have := HE.out; omega)).trans X3.out.2.1
    have Z4 : Blk W4 r4 28 #[.int .i64 0, .slice none 0 0, .slice none 0 0] := (hk4 r4 (by have := HE.out; omega)).trans X3.out.2.2
    have L4 : Below w.heap.size w W4 := by rw [hW4]; exact ((L3.out.setCell (p := ⟨r0, 0, none⟩) hr0 _).setCell (p := ⟨r0, 1, none⟩) hr0 _).setCell (p := ⟨r0, 2, none⟩) hr0 _
    have hO4 : LnO 51 W4 B2 A1 c1 A5 c5 vs L := hO.keep fun g hg _ => hk4 g (by have := HE.out; have := HB2.out; omega)
    have HO4 := Lib.hid hO4
    have HZ4 := Lib.hid (⟨Z4, L4⟩ : _ ∧ _)
    have HB4 : Hid (r4 + 1 ≤ B2 ∧ B2 ≤ W4.heap.size) := Lib.hid ⟨HB2.out.1, by rw [hz4]; exact HB2.out.2⟩
    have hla4 := last_at W4.drew L A1 A5 c1 c5 n m HN.out (hO4.rs.1.below (Below.refl _ _).drew) (by rw [HN.out]; exact HF.out.ns)
    obtain ⟨a, ha⟩ : ∃ a, a = aheadL L n := ⟨_, rfl⟩
    have HA := Lib.hid ha
    rw [← ha, ← HBS.out] at hla4
    have HLA4 := Lib.hid hla4
    have HS : Hid (Blk W4.drew r0 28 #[.int .i64 bs, .slice A1 n c1, .slice A5 m c5] ∧ Blk W4.drew r1 36 #[.int .i64 p.addr, .int .i64 p.size, .int .i64 p.birth, .string p.sum]) := Lib.hid ⟨Z0, Z1⟩
    have u0 : W3.cell? ⟨r0, 0, none⟩ = some (.int .i64 bs) := X3.out.1.cell 0
    have u1 : W3.cell? ⟨r0, 1, none⟩ = some (.slice A n c) := X3.out.1.cell 1
    have u2 : W3.cell? ⟨r0, 2, none⟩ = some (.slice A' m c') := X3.out.1.cell 2
    have uf0 : W3.frozen? ⟨r0, 0, none⟩ = false := X3.out.1.frozen 0
    have uf1 : W3.frozen? ⟨r0, 1, none⟩ = false := X3.out.1.frozen 1
    have uf2 : W3.frozen? ⟨r0, 2, none⟩ = false := X3.out.1.frozen 2
    have HW4 := Lib.hid hW4
    clear q0 q1 q2 hB2 hz4 hk4 Z0 Z1 Z4 L4 hO4 hO b3 X1 L1 HCL hW4 hla4 ha
    go_upto_region 5 with (fail)
    rw [← HW4.out]
    clear u0 u1 u2 uf0 uf1 uf2 HW4 X3 L3 HB2
    by_cases hl : a < p.birth
    · have e1 : decide (a < p.birth) = true := by simp [hl]
      have HQ : Hid (R = (L, true, 0)) := Lib.hid (by rw [HR.out, killS, HRT.out, if_pos rfl, ← HN.out, ← HA.out, if_pos hl])
      refine region_anyZ (fun w' => Blk w' r0 28 #[.int .i64 bs, .slice A1 n c1, .slice A5 m c5] ∧ Blk w' r1 36 #[.int .i64 p.addr, .int .i64 p.size, .int .i64 p.birth, .string p.sum]) 5 (by kernel_rfl) ?_
      refine takeG 0 (.fieldAddr 36 (.tmp 3) 2) (some 16) none (.pointer (some ⟨r1, 2, none⟩)) (by kernel_rfl) (by kernel_rfl) (by kernel_rfl) (fun _ _ _ h => h) (fun o' wq e hS => exec_field (u := .pointer (some ⟨r1, 0, none⟩)) wq e (by kernel_rfl) (by kernel_rfl)) HS.out ?_
      refine takeG 1 (.load 3 (.tmp 16)) (some 17) none (.int .i64 p.birth) (by kernel_rfl) (by kernel_rfl) (by kernel_rfl) (fun _ _ _ h => h) (fun o' wq e hS => exec_load (x := (.tmp 16)) e (by kernel_rfl) (load_one Try.underlying3 (by kernel_rfl) (hS.2.cell 2))) HS.out ?_
      refine takeG 2 (.load 28 (.tmp 2)) (some 18) none (.agg #[.int .i64 bs, .slice A1 n c1, .slice A5 m c5]) (by kernel_rfl) (by kernel_rfl) (by kernel_rfl) (fun _ _ _ h => h) (fun o' wq e hS => exec_load (x := (.tmp 2)) e (by kernel_rfl) (load_ln hS.1)) HS.out ?_
      refine loneG 3 (.call ⟨.value (.func 13), #[(.tmp 18)], #[28]⟩) (some 19) none (by kernel_rfl) (by kernel_rfl) (by kernel_rfl) ?_
      intro o' ho hod
      refine wp_callC (f := 13) (args := #[.agg #[.int .i64 bs, .slice A1 n c1, .slice A5 m c5]]) (by cases o'; cases ho; kernel_rfl) HLA4.out ?_
      rintro ee W5 ⟨rfl, b5⟩
      have b5' : Below W4.heap.size W4 W5 := (Below.refl W4.heap.size W4).drew.trans b5
      have HS5 := Lib.hid (⟨HS.out.1.below b5 HS.out.1.lt, HS.out.2.below b5 HS.out.2.lt⟩ : _ ∧ _)
      have HT5 := Lib.hid (⟨HZ4.out.1.below b5' HZ4.out.1.lt, HZ4.out.2.trans (b5'.mono HZ4.out.2.size)⟩ : _ ∧ _)
      have HO5 := Lib.hid (HO4.out.below b5' (Nat.le_refl _))
      have HB5 : Hid (r4 + 1 ≤ B2 ∧ B2 ≤ W5.heap.size) := Lib.hid ⟨HB4.out.1, Nat.le_trans HB4.out.2 b5'.size⟩
      refine ⟨.int .i64 a, rfl, ?_⟩
      rw [hod]
      clear hod ho b5 b5' HB4 HO4 HZ4 HLA4
      refine ⟨fun _ => HS5.out, ?_⟩
      refine lastS 4 (.binOp .gtr 3 (.tmp 17) (.tmp 19) 3) (some 20) (.bool true) (by kernel_rfl) (by kernel_rfl) (by kernel_rfl) HS5.out (fun o' e => exec_bin (u1 := .int .i64 p.birth) (u2 := .int .i64 a) _ e (by kernel_rfl) (by kernel_rfl) (eqG_int ..) (gtr_isK p.birth a _ e1 _)) ?_
      simp only [put_some, put_none, List.setIfInBounds_toArray, List.set_cons_succ, List.set_cons_zero]
      have q0 : W5.cell? ⟨r0, 0, none⟩ = some (.int .i64 bs) := HS5.out.1.cell 0
      have q1 : W5.cell? ⟨r0, 1, none⟩ = some (.slice A1 n c1) := HS5.out.1.cell 1
      have q2 : W5.cell? ⟨r0, 2, none⟩ = some (.slice A5 m c5) := HS5.out.1.cell 2
      have p0 : W5.cell? ⟨r4, 0, none⟩ = some (.int .i64 0) := HT5.out.1.cell 0
      have p1 : W5.cell? ⟨r4, 1, none⟩ = some (.slice none 0 0) := HT5.out.1.cell 1
      have p2 : W5.cell? ⟨r4, 2, none⟩ = some (.slice none 0 0) := HT5.out.1.cell 2
      have pf0 : W5.frozen? ⟨r4, 0, none⟩ = false := HT5.out.1.frozen 0
      have pf1 : W5.frozen? ⟨r4, 1, none⟩ = false := HT5.out.1.frozen 1
      have pf2 : W5.frozen? ⟨r4, 2, none⟩ = false := HT5.out.1.frozen 2
      clear e1 hl HS
      go_wp2_with fail
      have T5 := ((HT5.out.1.set_ 0 (.int .i64 bs)).set_ 1 (.slice A1 n c1)).set_ 2 (.slice A5 m c5)
      refine bodyPost_ret (results_cell3 rfl rfl (loadVar_blk T5 Try.underlying28 rfl size_ln) rfl rfl) rfl ?_
      rw [HQ.out]
      have hk6 : ∀ g, g ≠ r4 → (((W5.setCell ⟨r4, 0, none⟩ (.int .i64 bs)).setCell ⟨r4, 1, none⟩ (.slice A1 n c1)).setCell ⟨r4, 2, none⟩ (.slice A5 m c5)).heap[g]? = W5.heap[g]? := fun g hg => ((Below.heap_setCell _ ⟨r4, 2, none⟩ _ g hg).trans (Below.heap_setCell _ ⟨r4, 1, none⟩ _ g hg)).trans (Below.heap_setCell _ ⟨r4, 0, none⟩ _ g hg)
      refine ⟨_, rfl, ?_, ((HT5.out.2.setCell (p := ⟨r4, 0, none⟩) hr4 _).setCell (p := ⟨r4, 1, none⟩) hr4 _).setCell (p := ⟨r4, 2, none⟩) hr4 _⟩
      have := ((HO5.out.keep (fun g hg _ => hk6 g (by have := HB5.out; omega))).base_ (b := w.heap.size) (by have := HB5.out; omega)).toV
      rw [← HBS.out, ← HN.out, ← HM.out] at this
      exact this
    · have e1 : decide (a < p.birth) = false := by simp; omega
      have HQ : Hid (R = (⟨L.base, L.snaps, L.dead ++ [p]⟩, false, 0)) := Lib.hid (by rw [HR.out, killS, HRT.out, if_pos rfl, ← HN.out, ← HA.out, if_neg hl])
      refine region_anyZ (fun w' => Blk w' r0 28 #[.int .i64 bs, .slice A1 n c1, .slice A5 m c5] ∧ Blk w' r1 36 #[.int .i64 p.addr, .int .i64 p.size, .int .i64 p.birth, .string p.sum]) 5 (by kernel_rfl) ?_
      refine takeG 0 (.fieldAddr 36 (.tmp 3) 2) (some 16) none (.pointer (some ⟨r1, 2, none⟩)) (by kernel_rfl) (by kernel_rfl) (by kernel_rfl) (fun _ _ _ h => h) (fun o' wq e hS => exec_field (u := .pointer (some ⟨r1, 0, none⟩)) wq e (by kernel_rfl) (by kernel_rfl)) HS.out ?_
      refine takeG 1 (.load 3 (.tmp 16)) (some 17) none (.int .i64 p.birth) (by kernel_rfl) (by kernel_rfl) (by kernel_rfl) (fun _ _ _ h => h) (fun o' wq e hS => exec_load (x := (.tmp 16)) e (by kernel_rfl) (load_one Try.underlying3 (by kernel_rfl) (hS.2.cell 2))) HS.out ?_
      refine takeG 2 (.load 28 (.tmp 2)) (some 18) none (.agg #[.int .i64 bs, .slice A1 n c1, .slice A5 m c5]) (by kernel_rfl) (by kernel_rfl) (by kernel_rfl) (fun _ _ _ h => h) (fun o' wq e hS => exec_load (x := (.tmp 2)) e (by kernel_rfl) (load_ln hS.1)) HS.out ?_
      refine loneG 3 (.call ⟨.value (.func 13), #[(.tmp 18)], #[28]⟩) (some 19) none (by kernel_rfl) (by kernel_rfl) (by kernel_rfl) ?_
      intro o' ho hod
      refine wp_callC (f := 13) (args := #[.agg #[.int .i64 bs, .slice A1 n c1, .slice A5 m c5]]) (by cases o'; cases ho; kernel_rfl) HLA4.out ?_
      rintro ee W5 ⟨rfl, b5⟩
      have b5' : Below W4.heap.size W4 W5 := (Below.refl W4.heap.size W4).drew.trans b5
      have HS5 := Lib.hid (⟨HS.out.1.below b5 HS.out.1.lt, HS.out.2.below b5 HS.out.2.lt⟩ : _ ∧ _)
      have HT5 := Lib.hid (⟨HZ4.out.1.below b5' HZ4.out.1.lt, HZ4.out.2.trans (b5'.mono HZ4.out.2.size)⟩ : _ ∧ _)
      have HO5 := Lib.hid (HO4.out.below b5' (Nat.le_refl _))
      have HB5 : Hid (r4 + 1 ≤ B2 ∧ B2 ≤ W5.heap.size) := Lib.hid ⟨HB4.out.1, Nat.le_trans HB4.out.2 b5'.size⟩
      refine ⟨.int .i64 a, rfl, ?_⟩
      rw [hod]
      clear hod ho b5 b5' HB4 HO4 HZ4 HLA4
      refine ⟨fun _ => HS5.out, ?_⟩
      refine lastS 4 (.binOp .gtr 3 (.tmp 17) (.tmp 19) 3) (some 20) (.bool false) (by kernel_rfl) (by kernel_rfl) (by kernel_rfl) HS5.out (fun o' e => exec_bin (u1 := .int .i64 p.birth) (u2 := .int .i64 a) _ e (by kernel_rfl) (by kernel_rfl) (eqG_int ..) (gtr_isK p.birth a _ e1 _)) ?_
      simp only [put_some, put_none, List.setIfInBounds_toArray, List.set_cons_succ, List.set_cons_zero]
      have q0 : W5.cell? ⟨r0, 0, none⟩ = some (.int .i64 bs) := HS5.out.1.cell 0
      have q1 : W5.cell? ⟨r0, 1, none⟩ = some (.slice A1 n c1) := HS5.out.1.cell 1
      have q2 : W5.cell? ⟨r0, 2, none⟩ = some (.slice A5 m c5) := HS5.out.1.cell 2
      have y0 : W5.cell? ⟨r1, 0, none⟩ = some (.int .i64 p.addr) := HS5.out.2.cell 0
      have y1 : W5.cell? ⟨r1, 1, none⟩ = some (.int .i64 p.size) := HS5.out.2.cell 1
      have y2 : W5.cell? ⟨r1, 2, none⟩ = some (.int .i64 p.birth) := HS5.out.2.cell 2
      have y3 : W5.cell? ⟨r1, 3, none⟩ = some (.string p.sum) := HS5.out.2.cell 3
      have hba : Below W5.heap.size W5 (W5.alloc (.cells #[.int .i64 p.addr, .int .i64 p.size, .int .i64 p.birth, .string p.sum] 36)) := (Below.refl _ _).alloc (Nat.le_refl _) _
      have HBA := Lib.hid hba
      have HOD : Hid (OwnP (W5.alloc (.cells #[.int .i64 p.addr, .int .i64 p.size, .int .i64 p.birth, .string p.sum] 36)) B2 (.slice A5 m c5) L.dead) := Lib.hid (by rw [HM.out]; exact HO5.out.oD.below hba (Nat.le_refl _))
      have HP1 : Hid (RdP (W5.alloc (.cells #[.int .i64 p.addr, .int .i64 p.size, .int .i64 p.birth, .string p.sum] 36)) (some ⟨W5.heap.size, 0, none⟩) [p]) := Lib.hid (rd_one W5 p)
      have HBY : Hid ((L.dead.length + [p].length) * 40 ≤ 140737488355328) := Lib.hid (by have := HF.out.rd; unfold room at this; simp; omega)
      have HBZ : Hid (B2 ≤ (W5.alloc (.cells #[.int .i64 p.addr, .int .i64 p.size, .int .i64 p.birth, .string p.sum] 36)).heap.size) := Lib.hid (Nat.le_trans HB5.out.2 hba.size)
      clear hba e1 hl HS
      go_wp2_with (at_builtin; refine wpList_appP (v := .slice A5 m c5) (A := some ⟨W5.heap.size, 0, none⟩) (n := 1) (c := 1) [p] rfl (.tmp 23) (.tmp 25) rfl rfl rfl HOD.out rfl HP1.out (fun e => by cases e) HBY.out HBZ.out ?_; intro v7 W7 o7 b7 c7; refine of_hid ?_)
      refine Lib.hid ?_
      have hpush := HO5.out.pushDead (w' := W7) (v7 := v7) ne_ds o7 (fun g hg hne => (c7.2.1 g (Nat.lt_of_lt_of_le hg HBA.out.size) (by rw [HM.out]; exact hne)).trans (HBA.out.block g hg)) (c7.2.2.imp (fun h => by rw [← HM.out]; exact h) (fun h => ⟨_, h, HBA.out.size⟩))
      obtain ⟨A7, c7', hv7, hO7⟩ := hpush
      have hl7 : (L.dead ++ [p]).length = m + 1 := by rw [List.length_append, ← HM.out]; rfl
      rw [hl7] at hv7
      subst hv7
      have HO7 := Lib.hid hO7
      have hlow : ∀ g, g < B2 → W7.heap[g]? = W5.heap[g]? := fun g hg => (b7.block g hg).trans (HBA.out.block g (Nat.lt_of_lt_of_le hg HB5.out.2))
      have T0 : Blk W7 r0 28 #[.int .i64 bs, .slice A1 n c1, .slice A5 m c5] := (hlow r0 (by have := HE.out; have := HB5.out; omega)).trans HS5.out.1
      have T4 : Blk W7 r4 28 #[.int .i64 0, .slice none 0 0, .slice none 0 0] := (hlow r4 (by have := HE.out; have := HB5.out; omega)).trans HT5.out.1
      have L7 : Below w.heap.size w W7 := (HT5.out.2.trans (HBA.out.mono HT5.out.2.size)).trans (b7.mono (by have := HE.out; have := HB5.out; omega))
      have x2 : W7.cell? ⟨r0, 2, none⟩ = some (.slice A5 m c5) := T0.cell 2
      have xf2 : W7.frozen? ⟨r0, 2, none⟩ = false := T0.frozen 2
      have T0' := T0.set_ 2 (.slice A7 (m + 1) c7')
      have T4' := T4.far (p := ⟨r0, 2, none⟩) (by show r4 ≠ r0; have := HE.out; omega) (.slice A7 (m + 1) c7')
      obtain ⟨W8, hW8⟩ : ∃ W8, W8 = W7.setCell ⟨r0, 2, none⟩ (.slice A7 (m + 1) c7') := ⟨_, rfl⟩
      rw [← hW8] at T0' T4'
      have hk8 : ∀ g, g ≠ r0 → W8.heap[g]? = W7.heap[g]? := fun g hg => by
        rw [hW8]
        exact Below.heap_setCell _ ⟨r0, 2, none⟩ _ g hg
      have L8 : Below w.heap.size w W8 := by rw [hW8]; exact L7.setCell (p := ⟨r0, 2, none⟩) hr0 _
      have HO8 := Lib.hid (hO7.keep (w' := W8) fun g hg _ => hk8 g (by have := HE.out; have := HB5.out; omega))
      have HY := Lib.hid (⟨T0', T4', L8⟩ : _ ∧ _ ∧ _)
      have HW8 := Lib.hid hW8
      clear hl7 hlow T0 T4 L7 T0' T4' hO7 o7 b7 c7 q0 q1 q2 y0 y1 y2 y3 hW8 hk8 L8 HO7 HP1 HOD HBY HBZ
      go_upto_region 8 with (fail)
      rw [← HW8.out]
      clear x2 xf2
      have s0 : W8.cell? ⟨r0, 0, none⟩ = some (.int .i64 bs) := HY.out.1.cell 0
      have s1 : W8.cell? ⟨r0, 1, none⟩ = some (.slice A1 n c1) := HY.out.1.cell 1
      have s2 : W8.cell? ⟨r0, 2, none⟩ = some (.slice A7 (m + 1) c7') := HY.out.1.cell 2
      have p0 : W8.cell? ⟨r4, 0, none⟩ = some (.int .i64 0) := HY.out.2.1.cell 0
      have p1 : W8.cell? ⟨r4, 1, none⟩ = some (.slice none 0 0) := HY.out.2.1.cell 1
      have p2 : W8.cell? ⟨r4, 2, none⟩ = some (.slice none 0 0) := HY.out.2.1.cell 2
      have pf0 : W8.frozen? ⟨r4, 0, none⟩ = false := HY.out.2.1.frozen 0
      have pf1 : W8.frozen? ⟨r4, 1, none⟩ = false := HY.out.2.1.frozen 1
      have pf2 : W8.frozen? ⟨r4, 2, none⟩ = false := HY.out.2.1.frozen 2
      go_wp2_with fail
      have T5 := ((HY.out.2.1.set_ 0 (.int .i64 bs)).set_ 1 (.slice A1 n c1)).set_ 2 (.slice A7 (m + 1) c7')
      refine bodyPost_ret (results_cell3 rfl rfl (loadVar_blk T5 Try.underlying28 rfl size_ln) rfl rfl) rfl ?_
      rw [HQ.out]
      have hk6 : ∀ g, g ≠ r4 → (((W8.setCell ⟨r4, 0, none⟩ (.int .i64 bs)).setCell ⟨r4, 1, none⟩ (.slice A1 n c1)).setCell ⟨r4, 2, none⟩ (.slice A7 (m + 1) c7')).heap[g]? = W8.heap[g]? := fun g hg => ((Below.heap_setCell _ ⟨r4, 2, none⟩ _ g hg).trans (Below.heap_setCell _ ⟨r4, 1, none⟩ _ g hg)).trans (Below.heap_setCell _ ⟨r4, 0, none⟩ _ g hg)
      refine ⟨_, rfl, ?_, ((HY.out.2.2.setCell (p := ⟨r4, 0, none⟩) hr4 _).setCell (p := ⟨r4, 1, none⟩) hr4 _).setCell (p := ⟨r4, 2, none⟩) hr4 _⟩
      have := ((HO8.out.keep (fun g hg _ => hk6 g (by have := HB5.out; omega))).base_ (b := w.heap.size) (by have := HB5.out; omega)).toV
      have hl1 : (L.dead ++ [p]).length = m + 1 := by rw [List.length_append, ← HM.out]; rfl
      have hbs := HBS.out
      subst hbs
      dsimp only at this
      rw [hl1, ← HN.out] at this
      exact this
end Dd
end Go.Proofs.Ytefgofoocabkkaa
