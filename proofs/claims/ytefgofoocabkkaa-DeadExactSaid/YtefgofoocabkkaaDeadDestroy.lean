/-
  'Destroy' by a contract. The conditions: the line can be read, its rows have room, also one behind the other.
-/
import Derived.Test.YtefgofoocabkkaaDeadSnapshot
import Derived.Test.YtefgofoocabkkaaDeadDocDesM
namespace Go.Proofs.Ytefgofoocabkkaa
open Go Go.RowKit
set_option maxRecDepth 100000
set_option linter.unusedVariables false
namespace Dd
def DesPost (E : TypeId) (w : World) (r : Ln × List Pt × Int) (e : Ending) (w' : World) : Prop := ∃ v f, e = .returned (.tuple #[v, f, .int .i64 r.2.2]) ∧ LnV E w' w.heap.size v r.1 ∧ OwnP w' w.heap.size f r.2.1 ∧ Below w.heap.size w w'
set_option maxHeartbeats 25600000 in
theorem destroy_at (w : World) (L : Ln) (k : Int) (A A' : Option Addr) (c c' : Nat) (hf : Fit L) (hsm : Small L) (hs : RdS w A L.snaps) (hsn : A = none → c = 0) (hd : RdP w A' L.dead) (hdn : A' = none → c' = 0) :
    Calls Try.prog 8 #[.agg #[.int .i64 L.base, .slice A L.snaps.length c, .slice A' L.dead.length c'], .int .i64 k] w fun e w' => DesPost 51 w (desS L k) e w' := by
  obtain ⟨n, hn⟩ : ∃ n, n = L.snaps.length := ⟨_, rfl⟩
  obtain ⟨m, hm⟩ : ∃ m, m = L.dead.length := ⟨_, rfl⟩
  obtain ⟨bs, hbs⟩ : ∃ bs, bs = L.base := ⟨_, rfl⟩
  have HF := Lib.hid hf
  have HSM := Lib.hid hsm
  have HN := Lib.hid hn
  have HM := Lib.hid hm
  have HBS := Lib.hid hbs
  have hns : n ≤ 4194304 := by rw [hn]; exact hsm.1
  have HCLO : Hid (∀ W2, Below w.heap.size w W2 → Calls Try.prog 12 #[.agg #[.int .i64 bs, .slice A n c, .slice A' m c']] W2 fun e w' => CloneL W2 L e w') := Lib.hid fun W2 hb2 => by rw [hn, hm, hbs]; exact clone_o W2 L A A' c c' hf (hs.below hb2) hsn (hd.below hb2) hdn
  have HCK : Hid (∀ W2, Below w.heap.size w W2 → Calls Try.prog 9 #[.agg #[.int .i64 bs, .slice A n c, .slice A' m c']] W2 fun e w' => e = .returned (.int .i64 (if rightL L then 0 else 2)) ∧ Below W2.heap.size W2 w') := Lib.hid fun W2 hb2 => by rw [hn, hm, hbs]; exact check_at W2 L A A' c c' hf (hs.below hb2) (hd.below hb2)
  obtain ⟨R, hRR⟩ : ∃ R : Ln × List Pt × Int, R = desS L k := ⟨_, rfl⟩
  have HR := Lib.hid hRR
  rw [← hRR]
  rw [← hn, ← hm, ← hbs]
  obtain ⟨W_1, hw0⟩ : ∃ W9, W9 = w.alloc (.cells #[.int .i64 bs, .slice A n c, .slice A' m c'] 28) := ⟨_, rfl⟩
  obtain ⟨W, hw1⟩ : ∃ W9, W9 = W_1.alloc (.cells #[.int .i64 0, .slice none 0 0, .slice none 0 0] 28) := ⟨_, rfl⟩
  obtain ⟨r0, hr0⟩ : ∃ r9, r9 = w.heap.size := ⟨_, rfl⟩
  have hs0 : W_1.heap.size = r0 + 1 := by rw [hw0]; simp; omega
  obtain ⟨r4, hr1⟩ : ∃ r9, r9 = r0 + 1 := ⟨_, rfl⟩
  have hs1 : W.heap.size = r4 + 1 := by rw [hw1]; simp; omega
  have hb0 : Below w.heap.size w W_1 := by rw [hw0]; exact (Below.refl _ _).alloc (Nat.le_refl _) _
  have hb1 : Below w.heap.size w W := by rw [hw1]; exact hb0.alloc hb0.size _
  have Xr0 : Blk W r0 28 #[.int .i64 bs, .slice A n c, .slice A' m c'] := by
    have h := Blk.new w 28 #[.int .i64 bs, .slice A n c, .slice A' m c']
    rw [← hr0] at h
    rw [hw1, hw0]
    exact h.alloc _
  have Xr4 : Blk W r4 28 #[.int .i64 0, .slice none 0 0, .slice none 0 0] := by
    have h := Blk.new W_1 28 #[.int .i64 0, .slice none 0 0, .slice none 0 0]
    rw [hs0, ← hr1] at h
    rw [hw1]
    exact h
  have HE : Hid (r0 = w.heap.size ∧ r4 = r0 + 1) := Lib.hid ⟨hr0, hr1⟩
  have HW0 := Lib.hid hw0
  have HW1 := Lib.hid hw1
  have HWZ := Lib.hid hs1
  have hb := hb1
  have HX := Lib.hid (⟨Xr0, Xr4⟩ : _ ∧ _)
  have LW := Lib.hid hb
  have q0 : W.cell? ⟨r0, 0, none⟩ = some (.int .i64 bs) := Xr0.cell 0
  have q1 : W.cell? ⟨r0, 1, none⟩ = some (.slice A n c) := Xr0.cell 1
  have q2 : W.cell? ⟨r0, 2, none⟩ = some (.slice A' m c') := Xr0.cell 2
  clear hn hm hbs hf hs hsn hd hdn hRR hb Xr0 Xr4 hsm hw0 hr0 hs0 hb0 hw1 hr1 hs1 hb1
  go_enter Try.func8, Try.ntmps8
  go_upto_region 1 with (fail)
  rw [← HW0.out, ← HW1.out, ← HE.out.1, ← HE.out.2]
  go_wp2_with fail
  refine (HCK.out W LW.out).mono ?_
  rintro e W1 ⟨rfl, b1⟩
  have hr4 : w.heap.size ≤ r4 := by have := HE.out; omega
  have hr0 : w.heap.size ≤ r0 := by have := HE.out; omega
  have L1 := Lib.hid (LW.out.trans (b1.mono LW.out.size))
  have X1 := Lib.hid (⟨HX.out.1.below b1 HX.out.1.lt, HX.out.2.below b1 HX.out.2.lt⟩ : _ ∧ _)
  have HSZ1 : Hid (r4 + 1 ≤ W1.heap.size) := Lib.hid (by have := b1.size; have := HWZ.out; omega)
  clear q0 q1 q2 b1 HCK HX LW
  cases hR : rightL L with
  | false =>
    have HQ : Hid (R = (lnZero, [], 2)) := Lib.hid (by rw [HR.out, desS, hR]; rfl)
    have p0 : W1.cell? ⟨r4, 0, none⟩ = some (.int .i64 0) := X1.out.2.cell 0
    have p1 : W1.cell? ⟨r4, 1, none⟩ = some (.slice none 0 0) := X1.out.2.cell 1
    have p2 : W1.cell? ⟨r4, 2, none⟩ = some (.slice none 0 0) := X1.out.2.cell 2
    have pf0 : W1.frozen? ⟨r4, 0, none⟩ = false := X1.out.2.frozen 0
    have pf1 : W1.frozen? ⟨r4, 1, none⟩ = false := X1.out.2.frozen 1
    have pf2 : W1.frozen? ⟨r4, 2, none⟩ = false := X1.out.2.frozen 2
    have hif : (if false = true then (0 : Int) else 2) = 2 := rfl
    rw [hif]
    clear hif hR
    go_wp2_with fail
    have T5 := ((X1.out.2.set_ 0 (.int .i64 0)).set_ 1 (.slice none 0 0)).set_ 2 (.slice none 0 0)
    refine bodyPost_ret (results_cell3 rfl rfl (loadVar_blk T5 Try.underlying28 rfl size_ln) rfl rfl) rfl ?_
    rw [HQ.out]
    exact ⟨_, _, rfl, LnV.zero _ _ _, Gr.OwnG.nil _ _, ((L1.out.setCell (p := ⟨r4, 0, none⟩) hr4 _).setCell (p := ⟨r4, 1, none⟩) hr4 _).setCell (p := ⟨r4, 2, none⟩) hr4 _⟩
  | true =>
    have hif : (if true = true then (0 : Int) else 2) = 0 := rfl
    rw [hif]
    clear hif
    have HRT := Lib.hid hR
    clear hR
    by_cases hbad : k < 0 ∨ (n : Int) ≤ k
    · have HQ : Hid (R = (lnZero, [], 1)) := Lib.hid (by rw [HR.out, desS, HRT.out, if_pos rfl, ← HN.out, if_pos hbad])
      have q0 : W1.cell? ⟨r0, 0, none⟩ = some (.int .i64 bs) := X1.out.1.cell 0
      have q1 : W1.cell? ⟨r0, 1, none⟩ = some (.slice A n c) := X1.out.1.cell 1
      have q2 : W1.cell? ⟨r0, 2, none⟩ = some (.slice A' m c') := X1.out.1.cell 2
      have p0 : W1.cell? ⟨r4, 0, none⟩ = some (.int .i64 0) := X1.out.2.cell 0
      have p1 : W1.cell? ⟨r4, 1, none⟩ = some (.slice none 0 0) := X1.out.2.cell 1
      have p2 : W1.cell? ⟨r4, 2, none⟩ = some (.slice none 0 0) := X1.out.2.cell 2
      have pf0 : W1.frozen? ⟨r4, 0, none⟩ = false := X1.out.2.frozen 0
      have pf1 : W1.frozen? ⟨r4, 1, none⟩ = false := X1.out.2.frozen 1
      have pf2 : W1.frozen? ⟨r4, 2, none⟩ = false := X1.out.2.frozen 2
      by_cases hk0 : k < 0
      · clear hbad
        go_wp2_with fail
        have T5 := ((X1.out.2.set_ 0 (.int .i64 0)).set_ 1 (.slice none 0 0)).set_ 2 (.slice none 0 0)
        refine bodyPost_ret (results_cell3 rfl rfl (loadVar_blk T5 Try.underlying28 rfl size_ln) rfl rfl) rfl ?_
        rw [HQ.out]
        exact ⟨_, _, rfl, LnV.zero _ _ _, Gr.OwnG.nil _ _, ((L1.out.setCell (p := ⟨r4, 0, none⟩) hr4 _).setCell (p := ⟨r4, 1, none⟩) hr4 _).setCell (p := ⟨r4, 2, none⟩) hr4 _⟩
      · have hk1 : (n : Int) ≤ k := by omega
        clear hbad
        go_wp2_with fail
        have T5 := ((X1.out.2.set_ 0 (.int .i64 0)).set_ 1 (.slice none 0 0)).set_ 2 (.slice none 0 0)
        refine bodyPost_ret (results_cell3 rfl rfl (loadVar_blk T5 Try.underlying28 rfl size_ln) rfl rfl) rfl ?_
        rw [HQ.out]
        exact ⟨_, _, rfl, LnV.zero _ _ _, Gr.OwnG.nil _ _, ((L1.out.setCell (p := ⟨r4, 0, none⟩) hr4 _).setCell (p := ⟨r4, 1, none⟩) hr4 _).setCell (p := ⟨r4, 2, none⟩) hr4 _⟩
    · obtain ⟨i, hi⟩ : ∃ i : Nat, i = k.toNat := ⟨_, rfl⟩
      have hki : k = (i : Int) := by omega
      have hin' : i < n := by omega
      have HQ : Hid (R = (desL L i (keepL L i), laterL (aheadL L i) (nextL L i), 0)) := Lib.hid (by rw [HR.out, desS, HRT.out, if_pos rfl, ← HN.out, if_neg hbad, ← hi])
      clear hbad hi
      subst hki
      have hz0 : ¬ ((i : Int) < 0) := by omega
      have hz1 : ¬ ((n : Int) ≤ (i : Int)) := by omega
      have q0 : W1.cell? ⟨r0, 0, none⟩ = some (.int .i64 bs) := X1.out.1.cell 0
      have q1 : W1.cell? ⟨r0, 1, none⟩ = some (.slice A n c) := X1.out.1.cell 1
      have q2 : W1.cell? ⟨r0, 2, none⟩ = some (.slice A' m c') := X1.out.1.cell 2
      have HCL := Lib.hid (HCLO.out W1 L1.out)
      clear HCLO
      go_wp2_with fail
      refine HCL.out.mono ?_
      rintro e W3 ⟨A1, c1, A5, c5, vs, rfl, hO, b3⟩
      rw [← HN.out, ← HM.out, ← HBS.out]
      have L3 := Lib.hid (L1.out.trans (b3.mono L1.out.size))
      have X3 := Lib.hid (⟨X1.out.1.below b3 X1.out.1.lt, X1.out.2.below b3 X1.out.2.lt⟩ : _ ∧ _)
      obtain ⟨B2, hB2⟩ : ∃ B2, B2 = W1.heap.size := ⟨_, rfl⟩
      have HB2 : Hid (r4 + 1 ≤ B2 ∧ B2 ≤ W3.heap.size) := Lib.hid ⟨by rw [hB2]; exact HSZ1.out, by rw [hB2]; exact b3.size⟩
      rw [← hB2] at hO
      obtain ⟨W4, hW4⟩ : ∃ W4, W4 = ((W3.setCell ⟨r0, 0, none⟩ (.int .i64 bs)).setCell ⟨r0, 1, none⟩ (.slice A1 n c1)).setCell ⟨r0, 2, none⟩ (.slice A5 m c5) := ⟨_, rfl⟩
      have hz4 : W4.heap.size = W3.heap.size := by rw [hW4]; simp [World.setCell]
      have hk4 : ∀ g, g ≠ r0 → W4.heap[g]? = W3.heap[g]? := fun g hg => by
        rw [hW4]
        exact ((Below.heap_setCell _ ⟨r0, 2, none⟩ _ g hg).trans (Below.heap_setCell _ ⟨r0, 1, none⟩ _ g hg)).trans (Below.heap_setCell _ ⟨r0, 0, none⟩ _ g hg)
      have Z0 : Blk W4 r0 28 #[.int .i64 bs, .slice A1 n c1, .slice A5 m c5] := by rw [hW4]; exact ((X3.out.1.set_ 0 (.int .i64 bs)).set_ 1 (.slice A1 n c1)).set_ 2 (.slice A5 m c5)
      have Z4 : Blk W4 r4 28 #[.int .i64 0, .slice none 0 0, .slice none 0 0] := (hk4 r4 (by have := HE.out; omega)).trans X3.out.2
      have L4 : Below w.heap.size w W4 := by rw [hW4]; exact ((L3.out.setCell (p := ⟨r0, 0, none⟩) hr0 _).setCell (p := ⟨r0, 1, none⟩) hr0 _).setCell (p := ⟨r0, 2, none⟩) hr0 _
      have hO4 : LnO 51 W4 B2 A1 c1 A5 c5 vs L := hO.keep fun g hg _ => hk4 g (by have := HE.out; have := HB2.out; omega)
      have HZ4 := Lib.hid (⟨Z4, L4⟩ : _ ∧ _)
      have HB4 : Hid (r4 + 1 ≤ B2 ∧ B2 ≤ W4.heap.size) := Lib.hid ⟨HB2.out.1, by rw [hz4]; exact HB2.out.2⟩
      obtain ⟨gs, cs1, hv1, hgsB, hgb, hcells⟩ := own_at hO4.oS (fun _ => rfl) (fun e => by have := hO4.oH.1; rw [e] at this; simp at this; have := HN.out; omega)
      obtain ⟨curG, hcur⟩ := hgb
      injection hv1 with e1 e2 e3
      clear e2
      subst e1
      subst e3
      have hsi : ∃ s, L.snaps[i]? = some s := ⟨_, List.getElem?_eq_getElem (by have := HN.out; omega)⟩
      obtain ⟨s, hsi⟩ := hsi
      obtain ⟨x, hx1, hx2, hx3, hx4⟩ := hO4.oH.2 i s hsi
      obtain ⟨xA, hxA⟩ : ∃ xA, xA = x.A := ⟨_, rfl⟩
      obtain ⟨xn, hxn⟩ : ∃ xn, xn = x.n := ⟨_, rfl⟩
      obtain ⟨xc, hxc⟩ : ∃ xc, xc = x.c := ⟨_, rfl⟩
      have HSI := Lib.hid (⟨hsi, hx1, hx2, hxA, hxn, hxc⟩ : _ ∧ _ ∧ _ ∧ _ ∧ _ ∧ _)
      have HROW : Hid (∀ (W' : World) (c9 : Nat), LnO 51 W' B2 (some ⟨gs, 0, none⟩) c9 A5 c5 vs L → OwnP W' B2 (.slice xA xn xc) s.dead) := Lib.hid fun W' c9 h => by
        obtain ⟨x', e1, _, _, e4⟩ := h.oH.2 i s hsi
        rw [hx1] at e1
        injection e1 with e1
        subst e1
        rw [hxA, hxn, hxc]
        exact e4
      have HCX : Hid (∀ (W' : World), LnO 51 W' B2 (some ⟨gs, 0, none⟩) c1 A5 c5 vs L → W'.cell? ⟨gs, i * 2 + 1, none⟩ = some (.slice xA xn xc)) := Lib.hid fun W' h => by
        obtain ⟨g', cs', e1, _, _, e4⟩ := own_at h.oS (fun _ => rfl) (fun e => by rw [e] at hx1; simp at hx1)
        injection e1 with e1
        injection e1 with e1
        injection e1 with e1
        subst e1
        have := e4 i x hx1 1 (.slice x.A x.n x.c) rfl
        rw [hxA, hxn, hxc]
        exact this
      have HCE := Lib.hid hcells
      have HGS : Hid (B2 ≤ gs ∧ gs < W4.heap.size ∧ r4 < gs ∧ r0 < gs ∧ w.heap.size ≤ gs) := Lib.hid ⟨hgsB, hcur.lt, by have := HB2.out; omega, by have := HB2.out; have := HE.out; omega, by have := HB2.out; omega⟩
      obtain ⟨t, ht⟩ : ∃ t, t = aheadL L i := ⟨_, rfl⟩
      have HTT := Lib.hid ht
      have hah := ahead_at W4.drew L (some ⟨gs, 0, none⟩) A5 c1 c5 n m i HN.out (Nat.le_of_lt hin') (hO4.rs.1.below (Below.refl _ _).drew) (by rw [HN.out]; exact HF.out.ns)
      rw [← ht, ← HBS.out] at hah
      have HAH4 := Lib.hid hah
      have HO4 := Lib.hid hO4
      have u0 : W3.cell? ⟨r0, 0, none⟩ = some (.int .i64 bs) := X3.out.1.cell 0
      have u1 : W3.cell? ⟨r0, 1, none⟩ = some (.slice A n c) := X3.out.1.cell 1
      have u2 : W3.cell? ⟨r0, 2, none⟩ = some (.slice A' m c') := X3.out.1.cell 2
      have uf0 : W3.frozen? ⟨r0, 0, none⟩ = false := X3.out.1.frozen 0
      have uf1 : W3.frozen? ⟨r0, 1, none⟩ = false := X3.out.1.frozen 1
      have uf2 : W3.frozen? ⟨r0, 2, none⟩ = false := X3.out.1.frozen 2
      have HW4 := Lib.hid hW4
      clear q0 q1 q2 hB2 hz4 hk4 Z4 L4 hO4 hO b3 X1 L1 HCL hW4 hah ht hsi hx1 hx2 hx3 hx4 hxA hxn hxc hcells hcur hgsB hz0 hz1
      go_upto_region 7 with (fail)
      rw [← HW4.out]
      clear u0 u1 u2 uf0 uf1 uf2 HW4 X3 L3 HB2
      have HIL := Lib.hid hin'
      by_cases hmid : i + 1 < n
      · have HIN := Lib.hid hmid
        have hs1 : ∃ s1, L.snaps[i + 1]? = some s1 := ⟨_, List.getElem?_eq_getElem (by have := HN.out; omega)⟩
        obtain ⟨s1, hs1⟩ := hs1
        obtain ⟨x1, hy1, hy2, hy3, hy4⟩ := HO4.out.oH.2 (i + 1) s1 hs1
        obtain ⟨NA, hNA⟩ : ∃ NA, NA = x1.A := ⟨_, rfl⟩
        obtain ⟨nn, hnn⟩ : ∃ nn, nn = x1.n := ⟨_, rfl⟩
        obtain ⟨nc, hnc⟩ : ∃ nc, nc = x1.c := ⟨_, rfl⟩
        rw [← hNA, ← hnn, ← hnc] at hy4
        rw [← hnn] at hy3
        have HNX : Hid (nn = s1.dead.length ∧ s1.dead.length * 40 ≤ room ∧ OwnP W4 B2 (.slice NA nn nc) s1.dead) := Lib.hid ⟨hy3, HF.out.rp s1 (List.mem_of_getElem? hs1), hy4⟩
        have hkp := HCE.out (i + 1) x1 hy1 1 (.slice x1.A x1.n x1.c) rfl
        rw [← hNA, ← hnn, ← hnc] at hkp
        have hkp0 : W4.cell? ⟨gs, (i + 1) * 2 + 1, none⟩ = some (.slice NA nn nc) := hkp
        have HX1 := Lib.hid (⟨hs1, hy1, hy2, hNA, hnn, hnc⟩ : _ ∧ _ ∧ _ ∧ _ ∧ _ ∧ _)
        have HNXT : Hid (nextL L i = s1.dead) := Lib.hid (nextL_mid hs1)
        have HDES : Hid (∀ K, desL L i K = ⟨L.base, (L.snaps.set (i + 1) ⟨s1.txg, K⟩).eraseIdx i, L.dead⟩) := Lib.hid fun K => desL_mid hs1
        have HS : Hid (Blk W4.drew r0 28 #[.int .i64 bs, .slice (some ⟨gs, 0, none⟩) n c1, .slice A5 m c5] ∧ W4.drew.cell? ⟨gs, (i + 1) * 2 + 1, none⟩ = some (.slice NA nn nc)) := Lib.hid ⟨Z0, hkp0⟩
        have HPL : Hid ((⟨gs, (i + 1) * 2 + 1, none⟩ : Addr).block < W4.drew.heap.size) := Lib.hid HGS.out.2.1
        have hq0 : W4.cell? ⟨r0, 0, none⟩ = some (.int .i64 bs) := Z0.cell 0
        have hq1 : W4.cell? ⟨r0, 1, none⟩ = some (.slice (some ⟨gs, 0, none⟩) n c1) := Z0.cell 1
        have hin : ((i : Int) + 1) < (n : Int) := by omega
        clear hs1 hy1 hy2 hy3 hy4 hNA hnn hnc hkp hkp0 Z0
        go_upto_region 10 with (fail)
        clear hq0 hq1 hin
        refine region_anyZ (fun w' => Blk w' r0 28 #[.int .i64 bs, .slice (some ⟨gs, 0, none⟩) n c1, .slice A5 m c5] ∧ w'.cell? ⟨gs, (i + 1) * 2 + 1, none⟩ = some (.slice NA nn nc)) 12 (by kernel_rfl) ?_
        refine takeG 0 (.move (.tmp 8)) (some 43) none (.pointer (some ⟨gs, (i + 1) * 2 + 1, none⟩)) (by kernel_rfl) (by kernel_rfl) (by kernel_rfl) (fun _ _ _ h => h) (fun o' wq e hS => exec_move wq e (by kernel_rfl)) HS.out ?_
        refine takeG 1 (.nilCheck (.tmp 43)) (some 44) none (.pointer (some ⟨gs, (i + 1) * 2 + 1, none⟩)) (by kernel_rfl) (by kernel_rfl) (by kernel_rfl) (fun _ _ _ h => h) (fun o' wq e hS => exec_nil wq e (by kernel_rfl)) HS.out ?_
        refine takeG 2 (.load 26 (.tmp 44)) (some 45) none (.slice NA nn nc) (by kernel_rfl) (by kernel_rfl) (by kernel_rfl) (fun _ _ _ h => h) (fun o' wq e hS => exec_load (x := (.tmp 44)) e (by kernel_rfl) (load_one Try.underlying26 (by kernel_rfl) hS.2)) HS.out ?_
        refine takeG 3 (.load 28 (.tmp 2)) (some 46) none (.agg #[.int .i64 bs, .slice (some ⟨gs, 0, none⟩) n c1, .slice A5 m c5]) (by kernel_rfl) (by kernel_rfl) (by kernel_rfl) (fun _ _ _ h => h) (fun o' wq e hS => exec_load (x := (.tmp 2)) e (by kernel_rfl) (load_ln hS.1)) HS.out ?_
        refine takeG 4 (.move (.tmp 1)) (some 47) none (.int .i64 (i : Int)) (by kernel_rfl) (by kernel_rfl) (by kernel_rfl) (fun _ _ _ h => h) (fun o' wq e hS => exec_move wq e (by kernel_rfl)) HS.out ?_
        refine loneG 5 (.call ⟨.value (.func 15), #[(.tmp 46), (.tmp 47)], #[28, 3]⟩) (some 48) none (by kernel_rfl) (by kernel_rfl) (by kernel_rfl) ?_
        intro o' ho hod
        refine wp_callC (f := 15) (args := #[.agg #[.int .i64 bs, .slice (some ⟨gs, 0, none⟩) n c1, .slice A5 m c5], .int .i64 (i : Int)]) (by cases o'; cases ho; kernel_rfl) HAH4.out ?_
        rintro ee W5 ⟨rfl, b5⟩
        have b5' : Below W4.heap.size W4 W5 := (Below.refl W4.heap.size W4).drew.trans b5
        have HS5 := Lib.hid (⟨HS.out.1.below b5 HS.out.1.lt, (b5.cell (p := ⟨gs, (i + 1) * 2 + 1, none⟩) HPL.out).trans HS.out.2⟩ : _ ∧ _)
        have HT5 := Lib.hid (⟨HZ4.out.1.below b5' HZ4.out.1.lt, HZ4.out.2.trans (b5'.mono HZ4.out.2.size)⟩ : _ ∧ _)
        have HO5 := Lib.hid (HO4.out.below b5' (Nat.le_refl _))
        have HB5 : Hid (r4 + 1 ≤ B2 ∧ B2 ≤ W5.heap.size) := Lib.hid ⟨HB4.out.1, Nat.le_trans HB4.out.2 b5'.size⟩
        have HPT5 := Lib.hid (part_at W5 s1.dead t NA nc nn HNX.out.1 HNX.out.2.1 (rdp_of (HNX.out.2.2.below b5' (Nat.le_refl _))).1)
        have hpl5 : (⟨gs, (i + 1) * 2 + 1, none⟩ : Addr).block < W5.heap.size := Nat.lt_of_lt_of_le HPL.out b5'.size
        have HPL5 := Lib.hid hpl5
        refine ⟨.int .i64 t, rfl, ?_⟩
        rw [hod]
        clear hod ho b5 b5' HB4 HO4 HZ4 HAH4 hpl5 HPL
        refine ⟨fun _ => HS5.out, ?_⟩
        refine loneG 6 (.call ⟨.value (.func 14), #[(.tmp 45), (.tmp 48)], #[26, 3]⟩) (some 49) none (by kernel_rfl) (by kernel_rfl) (by kernel_rfl) ?_
        intro o' ho hod
        refine wp_callC (f := 14) (args := #[.slice NA nn nc, .int .i64 t]) (by cases o'; cases ho; kernel_rfl) HPT5.out ?_
        rintro ee W6 ⟨v4, v5, rfl, o4, o5, b6⟩
        obtain ⟨A4, c4, hv4, _, _, _, _, _⟩ := o4.shape (fun _ => rfl)
        obtain ⟨A9, c9, hv9, _, _, _, _, _⟩ := o5.shape (fun _ => rfl)
        subst hv4 hv9
        obtain ⟨n4, hn4⟩ : ∃ n4, n4 = (olderL t s1.dead).length := ⟨_, rfl⟩
        obtain ⟨n9, hn9⟩ : ∃ n9, n9 = (laterL t s1.dead).length := ⟨_, rfl⟩
        rw [← hn4] at o4 ⊢
        rw [← hn9] at o5 ⊢
        have HN4 := Lib.hid (⟨hn4, hn9⟩ : _ ∧ _)
        have HS6 := Lib.hid (⟨HS5.out.1.below b6 HS5.out.1.lt, (b6.cell (p := ⟨gs, (i + 1) * 2 + 1, none⟩) HPL5.out).trans HS5.out.2⟩ : _ ∧ _)
        have HT6 := Lib.hid (⟨HT5.out.1.below b6 HT5.out.1.lt, HT5.out.2.trans (b6.mono HT5.out.2.size)⟩ : _ ∧ _)
        have HO6 := Lib.hid (HO5.out.below b6 (Nat.le_refl _))
        obtain ⟨B3, hB3⟩ : ∃ B3, B3 = W5.heap.size := ⟨_, rfl⟩
        rw [← hB3] at o4 o5
        have HB6 : Hid (r4 + 1 ≤ B2 ∧ B2 ≤ B3 ∧ B3 ≤ W6.heap.size) := Lib.hid ⟨HB5.out.1, by rw [hB3]; exact HB5.out.2, by rw [hB3]; exact b6.size⟩
        have HXX : Hid (∀ g, (Value.slice xA xn xc).ownBlock = some g → g < B3) := Lib.hid fun g hg => by rw [hB3]; exact ((HROW.out _ _ HO5.out).lt hg).1
        have HP6 := Lib.hid (⟨o4, o5⟩ : _ ∧ _)
        refine ⟨.tuple #[.slice A4 n4 c4, .slice A9 n9 c9], rfl, ?_⟩
        rw [hod]
        clear hod ho b6 HB5 HO5 HT5 HPT5 o4 o5 hn4 hn9 hB3 HPL5
        refine ⟨fun _ => HS6.out, ?_⟩
        refine takeG 7 (.move (.tmp 49)) (some 42) none (.tuple #[.slice A4 n4 c4, .slice A9 n9 c9]) (by kernel_rfl) (by kernel_rfl) (by kernel_rfl) (fun _ _ _ h => h) (fun o' wq e hS => exec_move wq e (by kernel_rfl)) HS6.out ?_
        refine takeG 8 (.extract (.tmp 42) 0) (some 50) none (.slice A4 n4 c4) (by kernel_rfl) (by kernel_rfl) (by kernel_rfl) (fun _ _ _ h => h) (fun o' wq e hS => exec_ext (vs := #[.slice A4 n4 c4, .slice A9 n9 c9]) wq e (by kernel_rfl) (by rfl)) HS6.out ?_
        refine takeG 9 (.extract (.tmp 42) 1) (some 51) none (.slice A9 n9 c9) (by kernel_rfl) (by kernel_rfl) (by kernel_rfl) (fun _ _ _ h => h) (fun o' wq e hS => exec_ext (vs := #[.slice A4 n4 c4, .slice A9 n9 c9]) wq e (by kernel_rfl) (by rfl)) HS6.out ?_
        refine takeG 10 (.assign (.tmp 50)) (some 9) none (.slice A4 n4 c4) (by kernel_rfl) (by kernel_rfl) (by kernel_rfl) (fun _ _ _ h => h) (fun o' wq e hS => exec_assign wq e (by kernel_rfl)) HS6.out ?_
        refine lastS 11 (.assign (.tmp 51)) (some 10) (.slice A9 n9 c9) (by kernel_rfl) (by kernel_rfl) (by kernel_rfl) HS6.out (fun o' e => exec_assign _ e (by kernel_rfl)) ?_
        simp only [put_some, put_none, List.setIfInBounds_toArray, List.set_cons_succ, List.set_cons_zero]
        have q0 : W6.cell? ⟨r0, 0, none⟩ = some (.int .i64 bs) := HS6.out.1.cell 0
        have q1 : W6.cell? ⟨r0, 1, none⟩ = some (.slice (some ⟨gs, 0, none⟩) n c1) := HS6.out.1.cell 1
        have k1 : W6.cell? ⟨gs, i * 2 + 1, none⟩ = some (.slice xA xn xc) := HCX.out _ HO6.out
        have HOX : Hid (OwnP W6 B2 (.slice xA xn xc) s.dead) := Lib.hid (HROW.out _ _ HO6.out)
        have HR4 := Lib.hid (rdp_of HP6.out.1)
        have HBY : Hid ((s.dead.length + (olderL t s1.dead).length) * 40 ≤ 140737488355328) := Lib.hid (by
          have h1 := older_len t s1.dead
          have h2 := HSM.out.2.2 s (List.mem_of_getElem? HSI.out.1)
          have h3 := HSM.out.next i
          rw [HNXT.out] at h3
          omega)
        have HBZ : Hid (B2 ≤ W6.heap.size) := Lib.hid (Nat.le_trans HB6.out.2.1 HB6.out.2.2)
        obtain ⟨P9, hP9⟩ : ∃ P9 : Prop, P9 = True := ⟨_, rfl⟩
        clear HS HS5
        go_wp2_with (at_builtin; refine wpList_appP (v := .slice xA xn xc) (A := A4) (n := n4) (c := c4) (olderL t s1.dead) rfl (.tmp 58) (.tmp 59) rfl rfl rfl HOX.out HN4.out.1 HR4.out.1 HR4.out.2 HBY.out HBZ.out ?_; intro v7 W7 o7 b7 c7; refine of_hid ?_)
        refine Lib.hid ?_
        obtain ⟨A7, c7', hv7, _, _, _, _, _⟩ := o7.shape (fun _ => rfl)
        obtain ⟨n7, hn7⟩ : ∃ n7, n7 = (s.dead ++ olderL t s1.dead).length := ⟨_, rfl⟩
        rw [← hn7] at hv7
        subst hv7
        have hE := HE.out
        have hB6 := HB6.out
        have hlow : ∀ g, g < B2 → W7.heap[g]? = W6.heap[g]? := fun g hg => b7.block g hg
        have hoff : ∀ g, g < W6.heap.size → (Value.slice xA xn xc).ownBlock ≠ some g → W7.heap[g]? = W6.heap[g]? := fun g hg hne => c7.2.1 g hg hne
        have hxty : ∀ g cur, Blk W6 g 51 cur → (Value.slice xA xn xc).ownBlock ≠ some g := fun g cur hg e => by
          obtain ⟨cu, h1⟩ := HOX.out.blk_of e
          exact (Blk.ne_ hg h1 ne_ds) rfl
        have T0 : Blk W7 r0 28 #[.int .i64 bs, .slice (some ⟨gs, 0, none⟩) n c1, .slice A5 m c5] := (hlow r0 (by omega)).trans HS6.out.1
        have T4 : Blk W7 r4 28 #[.int .i64 0, .slice none 0 0, .slice none 0 0] := (hlow r4 (by omega)).trans HT6.out.1
        have L7 : Below w.heap.size w W7 := HT6.out.2.trans (b7.mono (by omega))
        have hoS6 : Gr.OwnG 51 2 csV W6 B2 (.slice (some ⟨gs, 0, none⟩) n c1) vs := by rw [HN.out]; exact HO6.out.oS
        have hoS7 : Gr.OwnG 51 2 csV W7 B2 (.slice (some ⟨gs, 0, none⟩) n c1) vs := hoS6.keep fun g hg => by
          obtain ⟨cu, h1⟩ := hoS6.blk_of hg
          exact hoff g h1.lt (hxty g cu h1)
        have hsP : ∃ cur, Blk W7 gs 51 cur := hoS7.blk_of rfl
        obtain ⟨curP, hsP⟩ := hsP
        have x0 : W7.cell? ⟨gs, (i + 1) * 2 + 1, none⟩ = some (.slice NA nn nc) := by
          have h1 : W7.cell? ⟨gs, (i + 1) * 2 + 1, none⟩ = W6.cell? ⟨gs, (i + 1) * 2 + 1, none⟩ := by
            unfold World.cell?
            obtain ⟨cu, h2⟩ := hoS6.blk_of (g := gs) rfl
            have h3 : W7.heap[gs]? = W6.heap[gs]? := hoff gs h2.lt (hxty gs cu h2)
            simp only [h3]
          exact h1.trans HS6.out.2
        have xf0 : W7.frozen? ⟨gs, (i + 1) * 2 + 1, none⟩ = false := hsP.frozen _
        obtain ⟨W8, hW8⟩ : ∃ W8, W8 = W7.setCell ⟨gs, (i + 1) * 2 + 1, none⟩ (.slice A7 n7 c7') := ⟨_, rfl⟩
        have T0' : Blk W8 r0 28 #[.int .i64 bs, .slice (some ⟨gs, 0, none⟩) n c1, .slice A5 m c5] := by rw [hW8]; exact T0.far (p := ⟨gs, (i + 1) * 2 + 1, none⟩) (by show r0 ≠ gs; have := HGS.out; omega) _
        have T4' : Blk W8 r4 28 #[.int .i64 0, .slice none 0 0, .slice none 0 0] := by rw [hW8]; exact T4.far (p := ⟨gs, (i + 1) * 2 + 1, none⟩) (by show r4 ≠ gs; have := HGS.out; omega) _
        have L8 : Below w.heap.size w W8 := by rw [hW8]; exact L7.setCell (p := ⟨gs, (i + 1) * 2 + 1, none⟩) (by show w.heap.size ≤ gs; have := HGS.out; omega) _
        have hoS8 : Gr.OwnG 51 2 csV W8 B2 (.slice (some ⟨gs, 0, none⟩) n c1) (vs.set (i + 1) ⟨x1.txg, A7, n7, c7'⟩) := by rw [hW8]; exact hoS7.setAt (i := i + 1) (j := 1) (x := x1) (u := .slice A7 n7 c7') (fun _ => rfl) HX1.out.2.1 (by omega) rfl
        have HT8 := Lib.hid (⟨T0', T4', L8⟩ : _ ∧ _ ∧ _)
        have hk8 : ∀ g cur, Blk W7 g 36 cur → W8.heap[g]? = W7.heap[g]? := fun g cur hg => by
          rw [hW8]
          exact Below.heap_setCell _ _ _ g (by show g ≠ gs; exact fun e => by rw [e] at hg; exact (Blk.ne_ hsP hg ne_ds) rfl)
        have o78 : OwnP W8 B2 (.slice A7 n7 c7') (s.dead ++ olderL t s1.dead) := o7.keep fun g hg => by
          obtain ⟨cu, h1⟩ := o7.blk_of hg
          exact hk8 g cu h1
        have hkeep : ∀ g cur, Blk W6 g 36 cur → (Value.slice xA xn xc).ownBlock ≠ some g → W8.heap[g]? = W6.heap[g]? := fun g cur hg hne => by
          have h1 := hoff g hg.lt hne
          have h2 : Blk W7 g 36 cur := h1.trans hg
          exact (hk8 g cur h2).trans h1
        have o98 : OwnP W8 B3 (.slice A9 n9 c9) (laterL t s1.dead) := HP6.out.2.keep fun g hg => by
          obtain ⟨cu, h1⟩ := HP6.out.2.blk_of hg
          exact hkeep g cu h1 fun e => by
            have h2 := HXX.out g e
            have h3 := (HP6.out.2.lt hg).2
            omega
        have hown7 : (Value.slice A7 n7 c7').ownBlock = (Value.slice xA xn xc).ownBlock ∨ ∃ g, (Value.slice A7 n7 c7').ownBlock = some g ∧ W6.heap.size ≤ g := c7.2.2.imp id fun h => ⟨_, h, Nat.le_refl _⟩
        have HK8 := Lib.hid (⟨o78, o98, hkeep, hown7⟩ : _ ∧ _ ∧ _ ∧ _)
        have HOS8 := Lib.hid hoS8
        have HWW8 := Lib.hid hW8
        have hdel := delete_at W8 B2 gs n c1 i (i + 1) (vs.set (i + 1) ⟨x1.txg, A7, n7, c7'⟩) hoS8 (by rw [List.length_set, HN.out]; exact HO6.out.oH.1.symm) hin' rfl (by rw [HN.out]; exact HF.out.ns)
        rw [show ((i + 1 : Nat) : Int) = (i : Int) + 1 by omega] at hdel
        have HDEL := Lib.hid hdel
        have HN7 := Lib.hid hn7
        have p0 : W8.cell? ⟨r0, 0, none⟩ = some (.int .i64 bs) := T0'.cell 0
        have p1 : W8.cell? ⟨r0, 1, none⟩ = some (.slice (some ⟨gs, 0, none⟩) n c1) := T0'.cell 1
        have p2 : W8.cell? ⟨r0, 2, none⟩ = some (.slice A5 m c5) := T0'.cell 2
        clear hE hB6 hlow hoff hxty T0 T4 L7 hoS6 hoS7 T0' T4' L8 hk8 o78 hkeep o98 hown7 hoS8 hdel hW8 o7 b7 c7 q0 q1 k1 hn7 HOX HR4 HBY HBZ
        go_upto_region 12 with (fail)
        rw [← HWW8.out]
        clear x0 xf0 hsP
        go_wp2_with fail
        refine HDEL.out.mono ?_
        rintro e W9 ⟨rfl, ho9, hf9⟩
        obtain ⟨n1, hn1⟩ : ∃ n1, n1 = n - 1 := ⟨_, rfl⟩
        rw [← hn1] at ho9 ⊢
        have hne0 : r0 ≠ gs := by have := HGS.out; have := HE.out; have := HB6.out; omega
        have hne4 : r4 ≠ gs := by have := HGS.out; have := HE.out; have := HB6.out; omega
        have G0 := hf9.blk HT8.out.1 hne0
        have G4 := hf9.blk HT8.out.2.1 hne4
        have L9 : Below w.heap.size w W9 := HT8.out.2.2.trans (hf9.below (by have := HGS.out; have := HE.out; have := HB6.out; omega) HT8.out.2.2.size)
        obtain ⟨W10, hW10⟩ : ∃ W10, W10 = W9.setCell ⟨r0, 1, none⟩ (.slice (some ⟨gs, 0, none⟩) n1 c1) := ⟨_, rfl⟩
        have K0 : Blk W10 r0 28 #[.int .i64 bs, .slice (some ⟨gs, 0, none⟩) n1 c1, .slice A5 m c5] := by rw [hW10]; exact G0.set_ 1 _
        have hk10 : ∀ g, g ≠ r0 → W10.heap[g]? = W9.heap[g]? := fun g hg => by
          rw [hW10]
          exact Below.heap_setCell _ _ _ g hg
        have K4 : Blk W10 r4 28 #[.int .i64 0, .slice none 0 0, .slice none 0 0] := (hk10 r4 (by have := HE.out; omega)).trans G4
        have L10 : Below w.heap.size w W10 := by rw [hW10]; exact L9.setCell (p := ⟨r0, 1, none⟩) (by show w.heap.size ≤ r0; have := HE.out; omega) _
        have HW10 := Lib.hid hW10
        have HK := Lib.hid (⟨K0, K4, L10⟩ : _ ∧ _ ∧ _)
        have H9 := Lib.hid (⟨ho9, hf9, hk10⟩ : _ ∧ _ ∧ _)
        have HN1 := Lib.hid hn1
        have g0 : W9.cell? ⟨r0, 0, none⟩ = some (.int .i64 bs) := G0.cell 0
        have g1 : W9.cell? ⟨r0, 1, none⟩ = some (.slice (some ⟨gs, 0, none⟩) n c1) := G0.cell 1
        have gf1 : W9.frozen? ⟨r0, 1, none⟩ = false := G0.frozen 1
        clear p0 p1 p2 hne0 hne4 G0 G4 L9 K0 K4 L10 hk10 hW10 ho9 hf9 hn1 HDEL
        go_upto_region 13 with (fail)
        rw [← HW10.out]
        clear g0 g1 gf1
        have ss0 : W10.cell? ⟨r0, 0, none⟩ = some (.int .i64 bs) := HK.out.1.cell 0
        have ss1 : W10.cell? ⟨r0, 1, none⟩ = some (.slice (some ⟨gs, 0, none⟩) n1 c1) := HK.out.1.cell 1
        have ss2 : W10.cell? ⟨r0, 2, none⟩ = some (.slice A5 m c5) := HK.out.1.cell 2
        have p0 : W10.cell? ⟨r4, 0, none⟩ = some (.int .i64 0) := HK.out.2.1.cell 0
        have p1 : W10.cell? ⟨r4, 1, none⟩ = some (.slice none 0 0) := HK.out.2.1.cell 1
        have p2 : W10.cell? ⟨r4, 2, none⟩ = some (.slice none 0 0) := HK.out.2.1.cell 2
        have pf0 : W10.frozen? ⟨r4, 0, none⟩ = false := HK.out.2.1.frozen 0
        have pf1 : W10.frozen? ⟨r4, 1, none⟩ = false := HK.out.2.1.frozen 1
        have pf2 : W10.frozen? ⟨r4, 2, none⟩ = false := HK.out.2.1.frozen 2
        go_wp2_with fail
        have T5 := ((HK.out.2.1.set_ 0 (.int .i64 bs)).set_ 1 (.slice (some ⟨gs, 0, none⟩) n1 c1)).set_ 2 (.slice A5 m c5)
        refine bodyPost_ret (results_cell3 rfl rfl (loadVar_blk T5 Try.underlying28 rfl size_ln) rfl rfl) rfl ?_
        have hk6 : ∀ g, g ≠ r4 → (((W10.setCell ⟨r4, 0, none⟩ (.int .i64 bs)).setCell ⟨r4, 1, none⟩ (.slice (some ⟨gs, 0, none⟩) n1 c1)).setCell ⟨r4, 2, none⟩ (.slice A5 m c5)).heap[g]? = W10.heap[g]? := fun g hg => ((Below.heap_setCell _ ⟨r4, 2, none⟩ _ g hg).trans (Below.heap_setCell _ ⟨r4, 1, none⟩ _ g hg)).trans (Below.heap_setCell _ ⟨r4, 0, none⟩ _ g hg)
        have hr4' : w.heap.size ≤ r4 := by have := HE.out; omega
        have hB6 := HB6.out
        have hE := HE.out
        have hKE : keepL L i = s.dead ++ olderL t s1.dead := by rw [keepL_eq HSI.out.1, HNXT.out, ← HTT.out]
        have hkf : ∀ g, B2 ≤ g → g < W9.heap.size → (((W10.setCell ⟨r4, 0, none⟩ (.int .i64 bs)).setCell ⟨r4, 1, none⟩ (.slice (some ⟨gs, 0, none⟩) n1 c1)).setCell ⟨r4, 2, none⟩ (.slice A5 m c5)).heap[g]? = W9.heap[g]? := fun g hg _ => (hk6 g (by omega)).trans (H9.out.2.2 g (by omega))
        have hkp9 : ∀ g cur, Blk W8 g 36 cur → W9.heap[g]? = W8.heap[g]? := fun g cur hg => by
          refine H9.out.2.1.block g hg.lt (fun e => ?_)
          injection e with e
          obtain ⟨cu, h1⟩ := HOS8.out.blk_of (g := gs) rfl
          rw [e] at hg
          exact (Blk.ne_ h1 hg ne_ds) rfl
        rw [HQ.out, HDES.out, HNXT.out, hKE, ← HTT.out]
        refine ⟨_, _, rfl, ?_, (((HK8.out.2.1.keep fun g hg => by obtain ⟨cu, h1⟩ := HK8.out.2.1.blk_of hg; exact hkp9 g cu h1).keep fun g hg => hkf g (by have := (HK8.out.2.1.lt hg).2; omega) (by have := (HK8.out.2.1.lt hg).1; have := H9.out.2.1.size; omega)) |> fun h => by have := own_base (base' := w.heap.size) h (by have := HT8.out.2.2.size; omega); exact this), ((HK.out.2.2.setCell (p := ⟨r4, 0, none⟩) hr4' _).setCell (p := ⟨r4, 1, none⟩) hr4' _).setCell (p := ⟨r4, 2, none⟩) hr4' _⟩
        refine LnV.base_ (base := B2) (LnV.keep (w := W9) ?_ fun g h1 h2 => hkf g h1 h2) (by omega)
        have hb : L.base = bs := HBS.out.symm
        have hxr : (Value.slice xA xn xc) = x.row := by rw [HSI.out.2.2.2.1, HSI.out.2.2.2.2.1, HSI.out.2.2.2.2.2]; rfl
        rw [hb]
        show LnV 51 W9 B2 (.agg #[.int .i64 bs, .slice (some ⟨gs, 0, none⟩) n1 c1, .slice A5 m c5]) ⟨bs, (L.snaps.set (i + 1) ⟨s1.txg, s.dead ++ olderL t s1.dead⟩).eraseIdx i, L.dead⟩
        rw [HM.out]
        have hrow : ∀ (j : Nat) (s' : Sn), L.snaps[j]? = some s' → ∃ x', vs[j]? = some x' ∧ x'.txg = s'.txg ∧ x'.n = s'.dead.length ∧ OwnP W6 B2 (.slice x'.A x'.n x'.c) s'.dead := HO6.out.oH.2
        have hxrow : ∀ (j : Nat) (x' : SV), vs[j]? = some x' → j ≠ i → ∀ g, x'.row.ownBlock = some g → (Value.slice xA xn xc).ownBlock ≠ some g := fun j x' hx' hj g hg he => by
          have h9 : (Value.slice xA xn xc) = x.row := by rw [HSI.out.2.2.2.1, HSI.out.2.2.2.2.1, HSI.out.2.2.2.2.2]; rfl
          rw [h9] at he
          rcases Nat.lt_or_gt_of_ne hj with h | h
          · exact HO6.out.ap j i x' x h (List.getElem?_eq_some_iff.1 HSI.out.2.1).1 hx' HSI.out.2.1 g hg he
          · exact HO6.out.ap i j x x' h (List.getElem?_eq_some_iff.1 hx').1 HSI.out.2.1 hx' g he hg
        have hold : ∀ (g : Nat) (cur : Array Value), Blk W6 g 36 cur → (Value.slice xA xn xc).ownBlock ≠ some g → W9.heap[g]? = W6.heap[g]? := fun g cur hg hne => by
          have h1 := HK8.out.2.2.1 g cur hg hne
          have h2 : Blk W8 g 36 cur := h1.trans hg
          exact (hkp9 g cur h2).trans h1
        have hnew : ∀ g, (Value.slice A7 n7 c7').ownBlock = some g → ∀ (j : Nat) (x' : SV), vs[j]? = some x' → j ≠ i → x'.row.ownBlock ≠ some g := fun g hg j x' hx' hj he => by
          rcases HK8.out.2.2.2 with h | ⟨g', h, h'⟩
          · exact hxrow j x' hx' hj g he (h.symm.trans hg)
          · rw [h] at hg
            injection hg with hg
            have hjl : j < L.snaps.length := by rw [← HO6.out.oH.1]; exact (List.getElem?_eq_some_iff.1 hx').1
            obtain ⟨x'', e1, _, _, e4⟩ := hrow j _ (List.getElem?_eq_getElem hjl)
            rw [hx'] at e1
            injection e1 with e1
            subst e1
            have := (e4.lt he).1
            omega
        have hii : i + 1 < vs.length := by rw [HO6.out.oH.1, ← HN.out]; exact HIN.out
        refine lno_cut (vs := vs.set (i + 1) ⟨x1.txg, A7, n7, c7'⟩) ?_ (by rw [List.length_set, ← HN.out]; exact HN1.out) (by rw [List.length_set, List.length_set]; exact HO6.out.oH.1) (by rw [List.length_set, ← HN.out]; have := HIN.out; omega) (fun j s' hj hs' => ?_) (fun j k y z hjk hj hk hy hz g hg he => ?_) ?_ (fun j y hj hy g hg he => ?_)
        · rw [List.eraseIdx_eq_take_drop_succ]; exact H9.out.1
        · by_cases e : j = i + 1
          · subst e
            rw [List.getElem?_set_self (by rw [← HO6.out.oH.1]; exact hii)] at hs'
            injection hs' with hs'
            subst hs'
            refine ⟨_, List.getElem?_set_self hii, HX1.out.2.2.1, HN7.out, ?_⟩
            exact HK8.out.1.keep fun g hg => by obtain ⟨cu, h1⟩ := HK8.out.1.blk_of hg; exact hkp9 g cu h1
          · rw [List.getElem?_set_ne (fun q => e q.symm)] at hs' ⊢
            obtain ⟨x', e1, e2, e3, e4⟩ := hrow j s' hs'
            exact ⟨x', e1, e2, e3, e4.keep fun g hg => by obtain ⟨cu, h1⟩ := e4.blk_of hg; exact hold g cu h1 (hxrow j x' e1 hj g hg)⟩
        · by_cases e : j = i + 1
          · subst e
            rw [List.getElem?_set_self hii] at hy
            injection hy with hy
            subst hy
            rw [List.getElem?_set_ne (by omega)] at hz
            exact hnew g hg k z hz hk he
          · rw [List.getElem?_set_ne (fun q => e q.symm)] at hy
            by_cases e' : k = i + 1
            · subst e'
              rw [List.getElem?_set_self hii] at hz
              injection hz with hz
              subst hz
              exact hnew g he j y hy hj hg
            · rw [List.getElem?_set_ne (fun q => e' q.symm)] at hz
              exact HO6.out.ap j k y z hjk (List.getElem?_eq_some_iff.1 hz).1 hy hz g hg he
        · exact HO6.out.oD.keep fun g hg => by
            obtain ⟨cu, h1⟩ := HO6.out.oD.blk_of hg
            exact hold g cu h1 fun e => HO6.out.ad i x HSI.out.2.1 g (hxr ▸ e) hg
        · by_cases e : j = i + 1
          · subst e
            rw [List.getElem?_set_self hii] at hy
            injection hy with hy
            subst hy
            rcases HK8.out.2.2.2 with h | ⟨g', h, h'⟩
            · have h9 : (Value.slice xA xn xc) = x.row := by rw [HSI.out.2.2.2.1, HSI.out.2.2.2.2.1, HSI.out.2.2.2.2.2]; rfl
              exact HO6.out.ad i x HSI.out.2.1 g (by rw [← h9]; exact h.symm.trans hg) he
            · have h8 := h.symm.trans hg
              injection h8 with h8
              have := (HO6.out.oD.lt he).1
              omega
          · rw [List.getElem?_set_ne (fun q => e q.symm)] at hy
            exact HO6.out.ad j y hy g hg he
      · have HIN := Lib.hid hmid
        have hs1 : L.snaps[i + 1]? = none := List.getElem?_eq_none (by have := HN.out; omega)
        have HNX : Hid (m = L.dead.length ∧ L.dead.length * 40 ≤ room ∧ OwnP W4 B2 (.slice A5 m c5) L.dead) := Lib.hid ⟨HM.out, HF.out.rd, by rw [HM.out]; exact HO4.out.oD⟩
        have HNXT : Hid (nextL L i = L.dead) := Lib.hid (nextL_last hs1)
        have HDES : Hid (∀ K, desL L i K = ⟨L.base, L.snaps.eraseIdx i, K⟩) := Lib.hid fun K => desL_last hs1
        have HS1N := Lib.hid hs1
        have HS : Hid (Blk W4.drew r0 28 #[.int .i64 bs, .slice (some ⟨gs, 0, none⟩) n c1, .slice A5 m c5] ∧ W4.drew.cell? ⟨r0, 2, none⟩ = some (.slice A5 m c5)) := Lib.hid ⟨Z0, Z0.cell 2⟩
        have HPL : Hid ((⟨r0, 2, none⟩ : Addr).block < W4.drew.heap.size) := Lib.hid Z0.lt
        have hq0 : W4.cell? ⟨r0, 0, none⟩ = some (.int .i64 bs) := Z0.cell 0
        have hq1 : W4.cell? ⟨r0, 1, none⟩ = some (.slice (some ⟨gs, 0, none⟩) n c1) := Z0.cell 1
        have hin : ¬ ((i : Int) + 1) < (n : Int) := by omega
        clear hs1 Z0
        go_upto_region 10 with (fail)
        clear hq0 hq1 hin
        refine region_anyZ (fun w' => Blk w' r0 28 #[.int .i64 bs, .slice (some ⟨gs, 0, none⟩) n c1, .slice A5 m c5] ∧ w'.cell? ⟨r0, 2, none⟩ = some (.slice A5 m c5)) 12 (by kernel_rfl) ?_
        refine takeG 0 (.move (.tmp 8)) (some 43) none (.pointer (some ⟨r0, 2, none⟩)) (by kernel_rfl) (by kernel_rfl) (by kernel_rfl) (fun _ _ _ h => h) (fun o' wq e hS => exec_move wq e (by kernel_rfl)) HS.out ?_
        refine takeG 1 (.nilCheck (.tmp 43)) (some 44) none (.pointer (some ⟨r0, 2, none⟩)) (by kernel_rfl) (by kernel_rfl) (by kernel_rfl) (fun _ _ _ h => h) (fun o' wq e hS => exec_nil wq e (by kernel_rfl)) HS.out ?_
        refine takeG 2 (.load 26 (.tmp 44)) (some 45) none (.slice A5 m c5) (by kernel_rfl) (by kernel_rfl) (by kernel_rfl) (fun _ _ _ h => h) (fun o' wq e hS => exec_load (x := (.tmp 44)) e (by kernel_rfl) (load_one Try.underlying26 (by kernel_rfl) hS.2)) HS.out ?_
        refine takeG 3 (.load 28 (.tmp 2)) (some 46) none (.agg #[.int .i64 bs, .slice (some ⟨gs, 0, none⟩) n c1, .slice A5 m c5]) (by kernel_rfl) (by kernel_rfl) (by kernel_rfl) (fun _ _ _ h => h) (fun o' wq e hS => exec_load (x := (.tmp 2)) e (by kernel_rfl) (load_ln hS.1)) HS.out ?_
        refine takeG 4 (.move (.tmp 1)) (some 47) none (.int .i64 (i : Int)) (by kernel_rfl) (by kernel_rfl) (by kernel_rfl) (fun _ _ _ h => h) (fun o' wq e hS => exec_move wq e (by kernel_rfl)) HS.out ?_
        refine loneG 5 (.call ⟨.value (.func 15), #[(.tmp 46), (.tmp 47)], #[28, 3]⟩) (some 48) none (by kernel_rfl) (by kernel_rfl) (by kernel_rfl) ?_
        intro o' ho hod
        refine wp_callC (f := 15) (args := #[.agg #[.int .i64 bs, .slice (some ⟨gs, 0, none⟩) n c1, .slice A5 m c5], .int .i64 (i : Int)]) (by cases o'; cases ho; kernel_rfl) HAH4.out ?_
        rintro ee W5 ⟨rfl, b5⟩
        have b5' : Below W4.heap.size W4 W5 := (Below.refl W4.heap.size W4).drew.trans b5
        have HS5 := Lib.hid (⟨HS.out.1.below b5 HS.out.1.lt, (b5.cell (p := ⟨r0, 2, none⟩) HPL.out).trans HS.out.2⟩ : _ ∧ _)
        have HT5 := Lib.hid (⟨HZ4.out.1.below b5' HZ4.out.1.lt, HZ4.out.2.trans (b5'.mono HZ4.out.2.size)⟩ : _ ∧ _)
        have HO5 := Lib.hid (HO4.out.below b5' (Nat.le_refl _))
        have HB5 : Hid (r4 + 1 ≤ B2 ∧ B2 ≤ W5.heap.size) := Lib.hid ⟨HB4.out.1, Nat.le_trans HB4.out.2 b5'.size⟩
        have HPT5 := Lib.hid (part_at W5 L.dead t A5 c5 m HNX.out.1 HNX.out.2.1 (rdp_of (HNX.out.2.2.below b5' (Nat.le_refl _))).1)
        have hpl5 : (⟨r0, 2, none⟩ : Addr).block < W5.heap.size := Nat.lt_of_lt_of_le HPL.out b5'.size
        have HPL5 := Lib.hid hpl5
        refine ⟨.int .i64 t, rfl, ?_⟩
        rw [hod]
        clear hod ho b5 b5' HB4 HO4 HZ4 HAH4 hpl5 HPL
        refine ⟨fun _ => HS5.out, ?_⟩
        refine loneG 6 (.call ⟨.value (.func 14), #[(.tmp 45), (.tmp 48)], #[26, 3]⟩) (some 49) none (by kernel_rfl) (by kernel_rfl) (by kernel_rfl) ?_
        intro o' ho hod
        refine wp_callC (f := 14) (args := #[.slice A5 m c5, .int .i64 t]) (by cases o'; cases ho; kernel_rfl) HPT5.out ?_
        rintro ee W6 ⟨v4, v5, rfl, o4, o5, b6⟩
        obtain ⟨A4, c4, hv4, _, _, _, _, _⟩ := o4.shape (fun _ => rfl)
        obtain ⟨A9, c9, hv9, _, _, _, _, _⟩ := o5.shape (fun _ => rfl)
        subst hv4 hv9
        obtain ⟨n4, hn4⟩ : ∃ n4, n4 = (olderL t L.dead).length := ⟨_, rfl⟩
        obtain ⟨n9, hn9⟩ : ∃ n9, n9 = (laterL t L.dead).length := ⟨_, rfl⟩
        rw [← hn4] at o4 ⊢
        rw [← hn9] at o5 ⊢
        have HN4 := Lib.hid (⟨hn4, hn9⟩ : _ ∧ _)
        have HS6 := Lib.hid (⟨HS5.out.1.below b6 HS5.out.1.lt, (b6.cell (p := ⟨r0, 2, none⟩) HPL5.out).trans HS5.out.2⟩ : _ ∧ _)
        have HT6 := Lib.hid (⟨HT5.out.1.below b6 HT5.out.1.lt, HT5.out.2.trans (b6.mono HT5.out.2.size)⟩ : _ ∧ _)
        have HO6 := Lib.hid (HO5.out.below b6 (Nat.le_refl _))
        obtain ⟨B3, hB3⟩ : ∃ B3, B3 = W5.heap.size := ⟨_, rfl⟩
        rw [← hB3] at o4 o5
        have HB6 : Hid (r4 + 1 ≤ B2 ∧ B2 ≤ B3 ∧ B3 ≤ W6.heap.size) := Lib.hid ⟨HB5.out.1, by rw [hB3]; exact HB5.out.2, by rw [hB3]; exact b6.size⟩
        have HXX : Hid (∀ g, (Value.slice xA xn xc).ownBlock = some g → g < B3) := Lib.hid fun g hg => by rw [hB3]; exact ((HROW.out _ _ HO5.out).lt hg).1
        have HP6 := Lib.hid (⟨o4, o5⟩ : _ ∧ _)
        refine ⟨.tuple #[.slice A4 n4 c4, .slice A9 n9 c9], rfl, ?_⟩
        rw [hod]
        clear hod ho b6 HB5 HO5 HT5 HPT5 o4 o5 hn4 hn9 hB3 HPL5
        refine ⟨fun _ => HS6.out, ?_⟩
        refine takeG 7 (.move (.tmp 49)) (some 42) none (.tuple #[.slice A4 n4 c4, .slice A9 n9 c9]) (by kernel_rfl) (by kernel_rfl) (by kernel_rfl) (fun _ _ _ h => h) (fun o' wq e hS => exec_move wq e (by kernel_rfl)) HS6.out ?_
        refine takeG 8 (.extract (.tmp 42) 0) (some 50) none (.slice A4 n4 c4) (by kernel_rfl) (by kernel_rfl) (by kernel_rfl) (fun _ _ _ h => h) (fun o' wq e hS => exec_ext (vs := #[.slice A4 n4 c4, .slice A9 n9 c9]) wq e (by kernel_rfl) (by rfl)) HS6.out ?_
        refine takeG 9 (.extract (.tmp 42) 1) (some 51) none (.slice A9 n9 c9) (by kernel_rfl) (by kernel_rfl) (by kernel_rfl) (fun _ _ _ h => h) (fun o' wq e hS => exec_ext (vs := #[.slice A4 n4 c4, .slice A9 n9 c9]) wq e (by kernel_rfl) (by rfl)) HS6.out ?_
        refine takeG 10 (.assign (.tmp 50)) (some 9) none (.slice A4 n4 c4) (by kernel_rfl) (by kernel_rfl) (by kernel_rfl) (fun _ _ _ h => h) (fun o' wq e hS => exec_assign wq e (by kernel_rfl)) HS6.out ?_
        refine lastS 11 (.assign (.tmp 51)) (some 10) (.slice A9 n9 c9) (by kernel_rfl) (by kernel_rfl) (by kernel_rfl) HS6.out (fun o' e => exec_assign _ e (by kernel_rfl)) ?_
        simp only [put_some, put_none, List.setIfInBounds_toArray, List.set_cons_succ, List.set_cons_zero]
        have q0 : W6.cell? ⟨r0, 0, none⟩ = some (.int .i64 bs) := HS6.out.1.cell 0
        have q1 : W6.cell? ⟨r0, 1, none⟩ = some (.slice (some ⟨gs, 0, none⟩) n c1) := HS6.out.1.cell 1
        have k1 : W6.cell? ⟨gs, i * 2 + 1, none⟩ = some (.slice xA xn xc) := HCX.out _ HO6.out
        have HOX : Hid (OwnP W6 B2 (.slice xA xn xc) s.dead) := Lib.hid (HROW.out _ _ HO6.out)
        have HR4 := Lib.hid (rdp_of HP6.out.1)
        have HBY : Hid ((s.dead.length + (olderL t L.dead).length) * 40 ≤ 140737488355328) := Lib.hid (by
          have h1 := older_len t L.dead
          have h2 := HSM.out.2.2 s (List.mem_of_getElem? HSI.out.1)
          have h3 := HSM.out.next i
          rw [HNXT.out] at h3
          omega)
        have HBZ : Hid (B2 ≤ W6.heap.size) := Lib.hid (Nat.le_trans HB6.out.2.1 HB6.out.2.2)
        obtain ⟨P9, hP9⟩ : ∃ P9 : Prop, P9 = True := ⟨_, rfl⟩
        clear HS HS5
        go_wp2_with (at_builtin; refine wpList_appP (v := .slice xA xn xc) (A := A4) (n := n4) (c := c4) (olderL t L.dead) rfl (.tmp 58) (.tmp 59) rfl rfl rfl HOX.out HN4.out.1 HR4.out.1 HR4.out.2 HBY.out HBZ.out ?_; intro v7 W7 o7 b7 c7; refine of_hid ?_)
        refine Lib.hid ?_
        obtain ⟨A7, c7', hv7, _, _, _, _, _⟩ := o7.shape (fun _ => rfl)
        obtain ⟨n7, hn7⟩ : ∃ n7, n7 = (s.dead ++ olderL t L.dead).length := ⟨_, rfl⟩
        rw [← hn7] at hv7
        subst hv7
        have hE := HE.out
        have hB6 := HB6.out
        have hlow : ∀ g, g < B2 → W7.heap[g]? = W6.heap[g]? := fun g hg => b7.block g hg
        have hoff : ∀ g, g < W6.heap.size → (Value.slice xA xn xc).ownBlock ≠ some g → W7.heap[g]? = W6.heap[g]? := fun g hg hne => c7.2.1 g hg hne
        have hxty : ∀ g cur, Blk W6 g 51 cur → (Value.slice xA xn xc).ownBlock ≠ some g := fun g cur hg e => by
          obtain ⟨cu, h1⟩ := HOX.out.blk_of e
          exact (Blk.ne_ hg h1 ne_ds) rfl
        have T0 : Blk W7 r0 28 #[.int .i64 bs, .slice (some ⟨gs, 0, none⟩) n c1, .slice A5 m c5] := (hlow r0 (by omega)).trans HS6.out.1
        have T4 : Blk W7 r4 28 #[.int .i64 0, .slice none 0 0, .slice none 0 0] := (hlow r4 (by omega)).trans HT6.out.1
        have L7 : Below w.heap.size w W7 := HT6.out.2.trans (b7.mono (by omega))
        have hoS6 : Gr.OwnG 51 2 csV W6 B2 (.slice (some ⟨gs, 0, none⟩) n c1) vs := by rw [HN.out]; exact HO6.out.oS
        have hoS7 : Gr.OwnG 51 2 csV W7 B2 (.slice (some ⟨gs, 0, none⟩) n c1) vs := hoS6.keep fun g hg => by
          obtain ⟨cu, h1⟩ := hoS6.blk_of hg
          exact hoff g h1.lt (hxty g cu h1)
        have x0 : W7.cell? ⟨r0, 2, none⟩ = some (.slice A5 m c5) := T0.cell 2
        have xf0 : W7.frozen? ⟨r0, 2, none⟩ = false := T0.frozen 2
        obtain ⟨W8, hW8⟩ : ∃ W8, W8 = W7.setCell ⟨r0, 2, none⟩ (.slice A7 n7 c7') := ⟨_, rfl⟩
        have T0' : Blk W8 r0 28 #[.int .i64 bs, .slice (some ⟨gs, 0, none⟩) n c1, .slice A7 n7 c7'] := by rw [hW8]; exact T0.set_ 2 _
        have T4' : Blk W8 r4 28 #[.int .i64 0, .slice none 0 0, .slice none 0 0] := by rw [hW8]; exact T4.far (p := ⟨r0, 2, none⟩) (by show r4 ≠ r0; omega) _
        have L8 : Below w.heap.size w W8 := by rw [hW8]; exact L7.setCell (p := ⟨r0, 2, none⟩) (by show w.heap.size ≤ r0; omega) _
        have hoS8 : Gr.OwnG 51 2 csV W8 B2 (.slice (some ⟨gs, 0, none⟩) n c1) vs := hoS7.keep fun g hg => by rw [hW8]; exact Below.heap_setCell _ _ _ g (by show g ≠ r0; have := (hoS7.lt hg).2; omega)
        have HT8 := Lib.hid (⟨T0', T4', L8⟩ : _ ∧ _ ∧ _)
        have hk8 : ∀ g cur, Blk W7 g 36 cur → W8.heap[g]? = W7.heap[g]? := fun g cur hg => by
          rw [hW8]
          exact Below.heap_setCell _ _ _ g (by show g ≠ r0; exact fun e => by rw [e] at hg; exact (Blk.ne_ T0 hg (by decide)) rfl)
        have o78 : OwnP W8 B2 (.slice A7 n7 c7') (s.dead ++ olderL t L.dead) := o7.keep fun g hg => by
          obtain ⟨cu, h1⟩ := o7.blk_of hg
          exact hk8 g cu h1
        have hkeep : ∀ g cur, Blk W6 g 36 cur → (Value.slice xA xn xc).ownBlock ≠ some g → W8.heap[g]? = W6.heap[g]? := fun g cur hg hne => by
          have h1 := hoff g hg.lt hne
          have h2 : Blk W7 g 36 cur := h1.trans hg
          exact (hk8 g cur h2).trans h1
        have o98 : OwnP W8 B3 (.slice A9 n9 c9) (laterL t L.dead) := HP6.out.2.keep fun g hg => by
          obtain ⟨cu, h1⟩ := HP6.out.2.blk_of hg
          exact hkeep g cu h1 fun e => by
            have h2 := HXX.out g e
            have h3 := (HP6.out.2.lt hg).2
            omega
        have hown7 : (Value.slice A7 n7 c7').ownBlock = (Value.slice xA xn xc).ownBlock ∨ ∃ g, (Value.slice A7 n7 c7').ownBlock = some g ∧ W6.heap.size ≤ g := c7.2.2.imp id fun h => ⟨_, h, Nat.le_refl _⟩
        have HK8 := Lib.hid (⟨o78, o98, hkeep, hown7⟩ : _ ∧ _ ∧ _ ∧ _)
        have HOS8 := Lib.hid hoS8
        have HWW8 := Lib.hid hW8
        have hdel := delete_at W8 B2 gs n c1 i (i + 1) vs hoS8 (by rw [HN.out]; exact HO6.out.oH.1.symm) hin' rfl (by rw [HN.out]; exact HF.out.ns)
        rw [show ((i + 1 : Nat) : Int) = (i : Int) + 1 by omega] at hdel
        have HDEL := Lib.hid hdel
        have HN7 := Lib.hid hn7
        have p0 : W8.cell? ⟨r0, 0, none⟩ = some (.int .i64 bs) := T0'.cell 0
        have p1 : W8.cell? ⟨r0, 1, none⟩ = some (.slice (some ⟨gs, 0, none⟩) n c1) := T0'.cell 1
        have p2 : W8.cell? ⟨r0, 2, none⟩ = some (.slice A7 n7 c7') := T0'.cell 2
        clear hE hB6 hlow hoff hxty T0 T4 L7 hoS6 hoS7 T0' T4' L8 hk8 o78 hkeep o98 hown7 hoS8 hdel hW8 o7 b7 c7 q0 q1 k1 hn7 HOX HR4 HBY HBZ
        go_upto_region 12 with (fail)
        rw [← HWW8.out]
        clear x0 xf0
        go_wp2_with fail
        refine HDEL.out.mono ?_
        rintro e W9 ⟨rfl, ho9, hf9⟩
        obtain ⟨n1, hn1⟩ : ∃ n1, n1 = n - 1 := ⟨_, rfl⟩
        rw [← hn1] at ho9 ⊢
        have hne0 : r0 ≠ gs := by have := HGS.out; have := HE.out; have := HB6.out; omega
        have hne4 : r4 ≠ gs := by have := HGS.out; have := HE.out; have := HB6.out; omega
        have G0 := hf9.blk HT8.out.1 hne0
        have G4 := hf9.blk HT8.out.2.1 hne4
        have L9 : Below w.heap.size w W9 := HT8.out.2.2.trans (hf9.below (by have := HGS.out; have := HE.out; have := HB6.out; omega) HT8.out.2.2.size)
        obtain ⟨W10, hW10⟩ : ∃ W10, W10 = W9.setCell ⟨r0, 1, none⟩ (.slice (some ⟨gs, 0, none⟩) n1 c1) := ⟨_, rfl⟩
        have K0 : Blk W10 r0 28 #[.int .i64 bs, .slice (some ⟨gs, 0, none⟩) n1 c1, .slice A7 n7 c7'] := by rw [hW10]; exact G0.set_ 1 _
        have hk10 : ∀ g, g ≠ r0 → W10.heap[g]? = W9.heap[g]? := fun g hg => by
          rw [hW10]
          exact Below.heap_setCell _ _ _ g hg
        have K4 : Blk W10 r4 28 #[.int .i64 0, .slice none 0 0, .slice none 0 0] := (hk10 r4 (by have := HE.out; omega)).trans G4
        have L10 : Below w.heap.size w W10 := by rw [hW10]; exact L9.setCell (p := ⟨r0, 1, none⟩) (by show w.heap.size ≤ r0; have := HE.out; omega) _
        have HW10 := Lib.hid hW10
        have HK := Lib.hid (⟨K0, K4, L10⟩ : _ ∧ _ ∧ _)
        have H9 := Lib.hid (⟨ho9, hf9, hk10⟩ : _ ∧ _ ∧ _)
        have HN1 := Lib.hid hn1
        have g0 : W9.cell? ⟨r0, 0, none⟩ = some (.int .i64 bs) := G0.cell 0
        have g1 : W9.cell? ⟨r0, 1, none⟩ = some (.slice (some ⟨gs, 0, none⟩) n c1) := G0.cell 1
        have gf1 : W9.frozen? ⟨r0, 1, none⟩ = false := G0.frozen 1
        clear p0 p1 p2 hne0 hne4 G0 G4 L9 K0 K4 L10 hk10 hW10 ho9 hf9 hn1 HDEL
        go_upto_region 13 with (fail)
        rw [← HW10.out]
        clear g0 g1 gf1
        have ss0 : W10.cell? ⟨r0, 0, none⟩ = some (.int .i64 bs) := HK.out.1.cell 0
        have ss1 : W10.cell? ⟨r0, 1, none⟩ = some (.slice (some ⟨gs, 0, none⟩) n1 c1) := HK.out.1.cell 1
        have ss2 : W10.cell? ⟨r0, 2, none⟩ = some (.slice A7 n7 c7') := HK.out.1.cell 2
        have p0 : W10.cell? ⟨r4, 0, none⟩ = some (.int .i64 0) := HK.out.2.1.cell 0
        have p1 : W10.cell? ⟨r4, 1, none⟩ = some (.slice none 0 0) := HK.out.2.1.cell 1
        have p2 : W10.cell? ⟨r4, 2, none⟩ = some (.slice none 0 0) := HK.out.2.1.cell 2
        have pf0 : W10.frozen? ⟨r4, 0, none⟩ = false := HK.out.2.1.frozen 0
        have pf1 : W10.frozen? ⟨r4, 1, none⟩ = false := HK.out.2.1.frozen 1
        have pf2 : W10.frozen? ⟨r4, 2, none⟩ = false := HK.out.2.1.frozen 2
        go_wp2_with fail
        have T5 := ((HK.out.2.1.set_ 0 (.int .i64 bs)).set_ 1 (.slice (some ⟨gs, 0, none⟩) n1 c1)).set_ 2 (.slice A7 n7 c7')
        refine bodyPost_ret (results_cell3 rfl rfl (loadVar_blk T5 Try.underlying28 rfl size_ln) rfl rfl) rfl ?_
        have hk6 : ∀ g, g ≠ r4 → (((W10.setCell ⟨r4, 0, none⟩ (.int .i64 bs)).setCell ⟨r4, 1, none⟩ (.slice (some ⟨gs, 0, none⟩) n1 c1)).setCell ⟨r4, 2, none⟩ (.slice A7 n7 c7')).heap[g]? = W10.heap[g]? := fun g hg => ((Below.heap_setCell _ ⟨r4, 2, none⟩ _ g hg).trans (Below.heap_setCell _ ⟨r4, 1, none⟩ _ g hg)).trans (Below.heap_setCell _ ⟨r4, 0, none⟩ _ g hg)
        have hr4' : w.heap.size ≤ r4 := by have := HE.out; omega
        have hB6 := HB6.out
        have hE := HE.out
        have hKE : keepL L i = s.dead ++ olderL t L.dead := by rw [keepL_eq HSI.out.1, HNXT.out, ← HTT.out]
        have hkf : ∀ g, B2 ≤ g → g < W9.heap.size → (((W10.setCell ⟨r4, 0, none⟩ (.int .i64 bs)).setCell ⟨r4, 1, none⟩ (.slice (some ⟨gs, 0, none⟩) n1 c1)).setCell ⟨r4, 2, none⟩ (.slice A7 n7 c7')).heap[g]? = W9.heap[g]? := fun g hg _ => (hk6 g (by omega)).trans (H9.out.2.2 g (by omega))
        have hkp9 : ∀ g cur, Blk W8 g 36 cur → W9.heap[g]? = W8.heap[g]? := fun g cur hg => by
          refine H9.out.2.1.block g hg.lt (fun e => ?_)
          injection e with e
          obtain ⟨cu, h1⟩ := HOS8.out.blk_of (g := gs) rfl
          rw [e] at hg
          exact (Blk.ne_ h1 hg ne_ds) rfl
        rw [HQ.out, HDES.out, HNXT.out, hKE, ← HTT.out]
        refine ⟨_, _, rfl, ?_, (((HK8.out.2.1.keep fun g hg => by obtain ⟨cu, h1⟩ := HK8.out.2.1.blk_of hg; exact hkp9 g cu h1).keep fun g hg => hkf g (by have := (HK8.out.2.1.lt hg).2; omega) (by have := (HK8.out.2.1.lt hg).1; have := H9.out.2.1.size; omega)) |> fun h => by have := own_base (base' := w.heap.size) h (by have := HT8.out.2.2.size; omega); exact this), ((HK.out.2.2.setCell (p := ⟨r4, 0, none⟩) hr4' _).setCell (p := ⟨r4, 1, none⟩) hr4' _).setCell (p := ⟨r4, 2, none⟩) hr4' _⟩
        refine LnV.base_ (base := B2) (LnV.keep (w := W9) ?_ fun g h1 h2 => hkf g h1 h2) (by omega)
        have hb : L.base = bs := HBS.out.symm
        have hxr : (Value.slice xA xn xc) = x.row := by rw [HSI.out.2.2.2.1, HSI.out.2.2.2.2.1, HSI.out.2.2.2.2.2]; rfl
        rw [hb]
        show LnV 51 W9 B2 (.agg #[.int .i64 bs, .slice (some ⟨gs, 0, none⟩) n1 c1, .slice A7 n7 c7']) ⟨bs, L.snaps.eraseIdx i, s.dead ++ olderL t L.dead⟩
        have hn7 := HN7.out
        have hrow : ∀ (j : Nat) (s' : Sn), L.snaps[j]? = some s' → ∃ x', vs[j]? = some x' ∧ x'.txg = s'.txg ∧ x'.n = s'.dead.length ∧ OwnP W6 B2 (.slice x'.A x'.n x'.c) s'.dead := HO6.out.oH.2
        have hxrow : ∀ (j : Nat) (x' : SV), vs[j]? = some x' → j ≠ i → ∀ g, x'.row.ownBlock = some g → (Value.slice xA xn xc).ownBlock ≠ some g := fun j x' hx' hj g hg he => by
          have h9 : (Value.slice xA xn xc) = x.row := by rw [HSI.out.2.2.2.1, HSI.out.2.2.2.2.1, HSI.out.2.2.2.2.2]; rfl
          rw [h9] at he
          rcases Nat.lt_or_gt_of_ne hj with h | h
          · exact HO6.out.ap j i x' x h (List.getElem?_eq_some_iff.1 HSI.out.2.1).1 hx' HSI.out.2.1 g hg he
          · exact HO6.out.ap i j x x' h (List.getElem?_eq_some_iff.1 hx').1 HSI.out.2.1 hx' g he hg
        have hold : ∀ (g : Nat) (cur : Array Value), Blk W6 g 36 cur → (Value.slice xA xn xc).ownBlock ≠ some g → W9.heap[g]? = W6.heap[g]? := fun g cur hg hne => by
          have h1 := HK8.out.2.2.1 g cur hg hne
          have h2 : Blk W8 g 36 cur := h1.trans hg
          exact (hkp9 g cur h2).trans h1
        rw [hn7]
        refine lno_cut (vs := vs) ?_ (by rw [← HN.out]; exact HN1.out) HO6.out.oH.1 (by rw [← HN.out]; exact HIL.out) (fun j s' hj hs' => ?_) (fun j k y z hjk hj hk hy hz g hg he => HO6.out.ap j k y z hjk (List.getElem?_eq_some_iff.1 hz).1 hy hz g hg he) ?_ (fun j y hj hy g hg he => ?_)
        · rw [List.eraseIdx_eq_take_drop_succ]; exact H9.out.1
        · obtain ⟨x', e1, e2, e3, e4⟩ := hrow j s' hs'
          exact ⟨x', e1, e2, e3, e4.keep fun g hg => by obtain ⟨cu, h1⟩ := e4.blk_of hg; exact hold g cu h1 (hxrow j x' e1 hj g hg)⟩
        · rw [← hn7]
          exact HK8.out.1.keep fun g hg => by obtain ⟨cu, h1⟩ := HK8.out.1.blk_of hg; exact hkp9 g cu h1
        · rw [← hn7] at he
          rcases HK8.out.2.2.2 with h | ⟨g', h, h'⟩
          · exact hxrow j y hy hj g hg (h.symm.trans he)
          · rw [h] at he
            injection he with he
            have hjl : j < L.snaps.length := by rw [← HO6.out.oH.1]; exact (List.getElem?_eq_some_iff.1 hy).1
            obtain ⟨x'', e1, _, _, e4⟩ := hrow j _ (List.getElem?_eq_getElem hjl)
            rw [hy] at e1
            injection e1 with e1
            subst e1
            have := (e4.lt hg).1
            omega
end Dd
end Go.Proofs.Ytefgofoocabkkaa
