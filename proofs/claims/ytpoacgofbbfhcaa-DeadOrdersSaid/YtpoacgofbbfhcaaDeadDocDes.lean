/-
  The document's Destroy by a contract. The conditions: the line can be read, its rows have room, also one behind the other.
-/
import Derived.Test.YtpoacgofbbfhcaaDeadDoc
import Derived.Test.YtpoacgofbbfhcaaDeadCut
namespace Go.Proofs.Ytpoacgofbbfhcaa
open Go Go.RowKit
set_option maxRecDepth 100000
set_option linter.unusedVariables false
theorem take_erase_at {α : Type} (l : List α) (j : Nat) (h : j < l.length) : (l.take (j + 1)).eraseIdx j = (l.take j).eraseIdx j := by
  have h1 : (l.take j).eraseIdx j = l.take j := List.eraseIdx_of_length_le (by rw [List.length_take]; omega)
  rw [h1, List.eraseIdx_eq_take_drop_succ, List.take_take, List.drop_of_length_le (by rw [List.length_take]; omega), List.append_nil, show min j (j + 1) = j by omega]
theorem take_erase_ne {α : Type} (l : List α) (i j : Nat) (y : α) (h : l[j]? = some y) (hne : j ≠ i) : (l.take (j + 1)).eraseIdx i = (l.take j).eraseIdx i ++ [y] := by
  obtain ⟨hl, he⟩ := List.getElem?_eq_some_iff.1 h
  rw [List.take_succ_eq_append_getElem hl, he]
  rcases Nat.lt_or_ge i j with hi | hi
  · rw [List.eraseIdx_append_of_lt_length (by rw [List.length_take]; omega)]
  · rw [List.eraseIdx_of_length_le (by rw [List.length_append, List.length_take]; simp; omega), List.eraseIdx_of_length_le (by rw [List.length_take]; omega)]
namespace Dd
theorem _root_.Go.Proofs.Ytpoacgofbbfhcaa.Gr.OwnG.slen {α : Type} {E : TypeId} {k : Nat} {cs : α → List Value} {w : World} {base n c : Nat} {A : Option Addr} {l : List α} (h : Gr.OwnG E k cs w base (.slice A n c) l) : n = l.length := by
  rcases h.2 with ⟨h1, h2⟩ | ⟨g', cap, cur, h1, _⟩
  · injection h1 with _ h1; omega
  · injection h1
theorem load_rsn {w : World} {g o : Nat} {t : Int} {A : Option Addr} {n c : Nat} (h : w.cell? ⟨g, o, none⟩ = some (.int .i64 t) ∧ w.cell? ⟨g, o + 1, none⟩ = some (.slice A n c)) : (Instr.loadAt 72 (.pointer (some ⟨g, o, none⟩))).run Try.prog w = .ok (.agg #[.int .i64 t, .slice A n c]) w := by
  have := run_loadAt_mid (P := Try.prog) w g o 72 [.int .i64 t, .slice A n c] _ (fun j v hj => by
    match j, hj with
    | 0, hj => injection hj with hj; subst hj; exact h.1
    | 1, hj => injection hj with hj; subst hj; exact h.2
    | j + 2, hj => simp at hj) Try.underlying72 rfl (by kernel_rfl)
  exact this
def DocDesPost (w : World) (r : Ln × List Pt × Int) (e : Ending) (w' : World) : Prop := ∃ v f, e = .returned (.tuple #[v, f, .int .i64 r.2.2]) ∧ RdLn w' v r.1 ∧ OwnP w' w.heap.size f r.2.1 ∧ Below w.heap.size w w'
theorem rd_zero (w : World) : RdLn w (.agg #[.int .i64 0, .slice none 0 0, .slice none 0 0]) lnZero :=
  ⟨none, 0, none, 0, rfl, (fun (i : Nat) (s : Sn) h => by simp [lnZero] at h), (fun (i : Nat) (x : Pt) h => by simp [lnZero] at h), fun _ => rfl, fun _ => rfl⟩
set_option maxHeartbeats 51200000 in
theorem docdes_at (w : World) (L : Ln) (k : Int) (A A' : Option Addr) (c c' : Nat) (hf : Fit L) (hsm : Small L) (hs : RdS w A L.snaps) (hsn : A = none → c = 0) (hd : RdP w A' L.dead) (hdn : A' = none → c' = 0) :
    Calls Try.prog 18 #[.agg #[.int .i64 L.base, .slice A L.snaps.length c, .slice A' L.dead.length c'], .int .i64 k] w fun e w' => DocDesPost w (desS L k) e w' := by
  obtain ⟨n, hn⟩ : ∃ n, n = L.snaps.length := ⟨_, rfl⟩
  obtain ⟨m, hm⟩ : ∃ m, m = L.dead.length := ⟨_, rfl⟩
  obtain ⟨bs, hbs⟩ : ∃ bs, bs = L.base := ⟨_, rfl⟩
  have HF := Lib.hid hf
  have HSM := Lib.hid hsm
  have HN := Lib.hid hn
  have HM := Lib.hid hm
  have HBS := Lib.hid hbs
  have HCLO : Hid (∀ W2, Below w.heap.size w W2 → Calls Try.prog 29 #[.agg #[.int .i64 bs, .slice A n c, .slice A' m c']] W2 fun e w' => CopyPost W2 L e w') := Lib.hid fun W2 hb2 => by rw [hn, hm, hbs]; exact copy_at W2 L A A' c c' hf (hs.below hb2) hsn (hd.below hb2) hdn
  have HCK : Hid (∀ W2, Below w.heap.size w W2 → Calls Try.prog 11 #[.agg #[.int .i64 bs, .slice A n c, .slice A' m c']] W2 fun e w' => e = .returned (.bool (rightL L)) ∧ Below W2.heap.size W2 w') := Lib.hid fun W2 hb2 => by rw [hn, hm, hbs]; exact rright_at W2 L A A' c c' hf (hs.below hb2) (hd.below hb2)
  have HLA0 : Hid (∀ (i : Nat) (W2 : World), i ≤ n → Below w.heap.size w W2 → Calls Try.prog 27 #[.agg #[.int .i64 bs, .slice A n c, .slice A' m c'], .int .i64 (i : Int)] W2 fun e w' => e = .returned (.int .i64 (aheadL L i)) ∧ Below W2.heap.size W2 w') := Lib.hid fun i W2 hi hb2 => by rw [hbs]; exact rahead_at W2 L A A' c c' n m i hn hi (hs.below hb2) (by rw [hn]; exact hf.ns)
  have hns : n ≤ 4194304 := by rw [hn]; exact hsm.1
  obtain ⟨R, hRR⟩ : ∃ R : Ln × List Pt × Int, R = desS L k := ⟨_, rfl⟩
  have HR := Lib.hid hRR
  rw [← hRR]
  rw [← hn, ← hm, ← hbs]
  obtain ⟨W_1, hw0⟩ : ∃ W9, W9 = w.alloc (.cells #[.int .i64 bs, .slice A n c, .slice A' m c'] 25) := ⟨_, rfl⟩
  obtain ⟨W, hw1⟩ : ∃ W9, W9 = W_1.alloc (.cells #[.int .i64 0, .slice none 0 0, .slice none 0 0] 25) := ⟨_, rfl⟩
  obtain ⟨r0, hr0⟩ : ∃ r9, r9 = w.heap.size := ⟨_, rfl⟩
  have hs0 : W_1.heap.size = r0 + 1 := by rw [hw0]; simp; omega
  obtain ⟨r4, hr1⟩ : ∃ r9, r9 = r0 + 1 := ⟨_, rfl⟩
  have hs1 : W.heap.size = r4 + 1 := by rw [hw1]; simp; omega
  have hb0 : Below w.heap.size w W_1 := by rw [hw0]; exact (Below.refl _ _).alloc (Nat.le_refl _) _
  have hb1 : Below w.heap.size w W := by rw [hw1]; exact hb0.alloc hb0.size _
  have Xr0 : Blk W r0 25 #[.int .i64 bs, .slice A n c, .slice A' m c'] := by
    have h := Blk.new w 25 #[.int .i64 bs, .slice A n c, .slice A' m c']
    rw [← hr0] at h
    rw [hw1, hw0]
    exact h.alloc _
  have Xr4 : Blk W r4 25 #[.int .i64 0, .slice none 0 0, .slice none 0 0] := by
    have h := Blk.new W_1 25 #[.int .i64 0, .slice none 0 0, .slice none 0 0]
    rw [hs0, ← hr1] at h
    rw [hw1]
    exact h
  have HE : Hid (r0 = w.heap.size ∧ r4 = r0 + 1) := Lib.hid ⟨hr0, hr1⟩
  have HW0 := Lib.hid hw0
  have HW1 := Lib.hid hw1
  have HWZ := Lib.hid hs1
  have hb := hb1
  have HX := Lib.hid (⟨Xr0, Xr4⟩ : _ ∧ _)
  have LW := Lib.hid hb
  have q0 : W.cell? ⟨r0, 0, none⟩ = some (.int .i64 bs) := Xr0.cell 0
  have q1 : W.cell? ⟨r0, 1, none⟩ = some (.slice A n c) := Xr0.cell 1
  have q2 : W.cell? ⟨r0, 2, none⟩ = some (.slice A' m c') := Xr0.cell 2
  clear hn hm hbs hf hs hsn hd hdn hRR hb Xr0 Xr4 hsm hw0 hr0 hs0 hb0 hw1 hr1 hs1 hb1
  go_enter Try.func18, Try.ntmps18
  go_upto_region 1 with (fail)
  rw [← HW0.out, ← HW1.out, ← HE.out.1, ← HE.out.2]
  go_wp2_with fail
  refine (HCK.out W LW.out).mono ?_
  rintro e W1 ⟨rfl, b1⟩
  have hr4 : w.heap.size ≤ r4 := by have := HE.out; omega
  have L1 := Lib.hid (LW.out.trans (b1.mono LW.out.size))
  have X1 := Lib.hid (⟨HX.out.1.below b1 HX.out.1.lt, HX.out.2.below b1 HX.out.2.lt⟩ : _ ∧ _)
  have HSZ1 : Hid (r4 + 1 ≤ W1.heap.size) := Lib.hid (by have := b1.size; have := HWZ.out; omega)
  clear q0 q1 q2 b1 HCK HX LW
  cases hR : rightL L with
  | false =>
    have HQ : Hid (R = (lnZero, [], 2)) := Lib.hid (by rw [HR.out, desS, hR]; rfl)
    have p0 : W1.cell? ⟨r4, 0, none⟩ = some (.int .i64 0) := X1.out.2.cell 0
    have p1 : W1.cell? ⟨r4, 1, none⟩ = some (.slice none 0 0) := X1.out.2.cell 1
    have p2 : W1.cell? ⟨r4, 2, none⟩ = some (.slice none 0 0) := X1.out.2.cell 2
    have pf0 : W1.frozen? ⟨r4, 0, none⟩ = false := X1.out.2.frozen 0
    have pf1 : W1.frozen? ⟨r4, 1, none⟩ = false := X1.out.2.frozen 1
    have pf2 : W1.frozen? ⟨r4, 2, none⟩ = false := X1.out.2.frozen 2
    clear hR
    go_wp2_with fail
    have T5 := ((X1.out.2.set_ 0 (.int .i64 0)).set_ 1 (.slice none 0 0)).set_ 2 (.slice none 0 0)
    refine bodyPost_ret (results_cell3 rfl rfl (loadVar_blk T5 Try.underlying25 rfl size_rln) rfl rfl) rfl ?_
    rw [HQ.out]
    exact ⟨_, _, rfl, rd_zero _, Gr.OwnG.nil _ _, ((L1.out.setCell (p := ⟨r4, 0, none⟩) hr4 _).setCell (p := ⟨r4, 1, none⟩) hr4 _).setCell (p := ⟨r4, 2, none⟩) hr4 _⟩
  | true =>
    have HRT := Lib.hid hR
    clear hR
    by_cases hbad : k < 0 ∨ (n : Int) ≤ k
    · have HQ : Hid (R = (lnZero, [], 1)) := Lib.hid (by rw [HR.out, desS, HRT.out, if_pos rfl, ← HN.out, if_pos hbad])
      have q0 : W1.cell? ⟨r0, 0, none⟩ = some (.int .i64 bs) := X1.out.1.cell 0
      have q1 : W1.cell? ⟨r0, 1, none⟩ = some (.slice A n c) := X1.out.1.cell 1
      have q2 : W1.cell? ⟨r0, 2, none⟩ = some (.slice A' m c') := X1.out.1.cell 2
      have p0 : W1.cell? ⟨r4, 0, none⟩ = some (.int .i64 0) := X1.out.2.cell 0
      have p1 : W1.cell? ⟨r4, 1, none⟩ = some (.slice none 0 0) := X1.out.2.cell 1
      have p2 : W1.cell? ⟨r4, 2, none⟩ = some (.slice none 0 0) := X1.out.2.cell 2
      have pf0 : W1.frozen? ⟨r4, 0, none⟩ = false := X1.out.2.frozen 0
      have pf1 : W1.frozen? ⟨r4, 1, none⟩ = false := X1.out.2.frozen 1
      have pf2 : W1.frozen? ⟨r4, 2, none⟩ = false := X1.out.2.frozen 2
      by_cases hk0 : k < 0
      · clear hbad
        go_wp2_with fail
        have T5 := ((X1.out.2.set_ 0 (.int .i64 0)).set_ 1 (.slice none 0 0)).set_ 2 (.slice none 0 0)
        refine bodyPost_ret (results_cell3 rfl rfl (loadVar_blk T5 Try.underlying25 rfl size_rln) rfl rfl) rfl ?_
        rw [HQ.out]
        exact ⟨_, _, rfl, rd_zero _, Gr.OwnG.nil _ _, ((L1.out.setCell (p := ⟨r4, 0, none⟩) hr4 _).setCell (p := ⟨r4, 1, none⟩) hr4 _).setCell (p := ⟨r4, 2, none⟩) hr4 _⟩
      · have hk1 : (n : Int) ≤ k := by omega
        clear hbad
        go_wp2_with fail
        have T5 := ((X1.out.2.set_ 0 (.int .i64 0)).set_ 1 (.slice none 0 0)).set_ 2 (.slice none 0 0)
        refine bodyPost_ret (results_cell3 rfl rfl (loadVar_blk T5 Try.underlying25 rfl size_rln) rfl rfl) rfl ?_
        rw [HQ.out]
        exact ⟨_, _, rfl, rd_zero _, Gr.OwnG.nil _ _, ((L1.out.setCell (p := ⟨r4, 0, none⟩) hr4 _).setCell (p := ⟨r4, 1, none⟩) hr4 _).setCell (p := ⟨r4, 2, none⟩) hr4 _⟩
    · obtain ⟨i, hi⟩ : ∃ i : Nat, i = k.toNat := ⟨_, rfl⟩
      have hki : k = (i : Int) := by omega
      have hin' : i < n := by omega
      have HQ : Hid (R = (desL L i (keepL L i), laterL (aheadL L i) (nextL L i), 0)) := Lib.hid (by rw [HR.out, desS, HRT.out, if_pos rfl, ← HN.out, if_neg hbad, ← hi])
      clear hbad hi
      subst hki
      have hz0 : ¬ ((i : Int) < 0) := by omega
      have hz1 : ¬ ((n : Int) ≤ (i : Int)) := by omega
      have q0 : W1.cell? ⟨r0, 0, none⟩ = some (.int .i64 bs) := X1.out.1.cell 0
      have q1 : W1.cell? ⟨r0, 1, none⟩ = some (.slice A n c) := X1.out.1.cell 1
      have q2 : W1.cell? ⟨r0, 2, none⟩ = some (.slice A' m c') := X1.out.1.cell 2
      have HCL := Lib.hid (HCLO.out W1 L1.out)
      clear HCLO
      go_wp2_with fail
      refine HCL.out.mono ?_
      rintro e W3 ⟨A1, c1, A5, c5, vs, rfl, hO, b3⟩
      rw [← HN.out, ← HM.out, ← HBS.out]
      have L3 := Lib.hid (L1.out.trans (b3.mono L1.out.size))
      have X3 := Lib.hid (⟨X1.out.1.below b3 X1.out.1.lt, X1.out.2.below b3 X1.out.2.lt⟩ : _ ∧ _)
      obtain ⟨B2, hB2⟩ : ∃ B2, B2 = W1.heap.size := ⟨_, rfl⟩
      have HB2 : Hid (r4 + 1 ≤ B2 ∧ B2 ≤ W3.heap.size) := Lib.hid ⟨by rw [hB2]; exact HSZ1.out, by rw [hB2]; exact b3.size⟩
      rw [← hB2] at hO
      obtain ⟨W4, hW4⟩ : ∃ W4, W4 = W3.alloc (.cells #[.int .i64 bs, .slice A1 n c1, .slice A5 m c5] 25) := ⟨_, rfl⟩
      obtain ⟨r7, hr7⟩ : ∃ r7, r7 = W3.heap.size := ⟨_, rfl⟩
      have hb4 : Below W3.heap.size W3 W4 := by rw [hW4]; exact (Below.refl _ _).alloc (Nat.le_refl _) _
      have Z7 : Blk W4 r7 25 #[.int .i64 bs, .slice A1 n c1, .slice A5 m c5] := by rw [hW4, hr7]; exact Blk.new _ _ _
      have hO4 := hO.below hb4 (Nat.le_refl _)
      obtain ⟨B3, hB3⟩ : ∃ B3, B3 = W4.heap.size := ⟨_, rfl⟩
      have HB3E := Lib.hid hB3
      have HB4 : Hid (r4 + 1 ≤ B2 ∧ B2 ≤ r7 ∧ r7 < W4.heap.size) := Lib.hid ⟨HB2.out.1, by rw [hr7]; exact HB2.out.2, Z7.lt⟩
      have HB3E2 : Hid (r7 < B3) := Lib.hid (by rw [hB3]; exact Z7.lt)
      obtain ⟨gs, cs1, hv1, hgsB, hgb, hcells⟩ := own_at hO4.oS (fun _ => rfl) (fun e => by have := hO4.oH.1; rw [e] at this; simp at this; have := HN.out; omega)
      obtain ⟨curG, hcur⟩ := hgb
      injection hv1 with e1 e2 e3
      clear e2
      subst e1
      subst e3
      have hgs7 : gs < r7 := by
        have h1 : (Value.slice (some ⟨gs, 0, none⟩) L.snaps.length c1).ownBlock = some gs := rfl
        rw [hr7]
        exact (hO.oS.lt h1).1
      have hsi : ∃ s, L.snaps[i]? = some s := ⟨_, List.getElem?_eq_getElem (by have := HN.out; omega)⟩
      obtain ⟨s, hsi⟩ := hsi
      obtain ⟨x, hx1, hx2, hx3, hx4⟩ := hO4.oH.2 i s hsi
      obtain ⟨xA, hxA⟩ : ∃ xA, xA = x.A := ⟨_, rfl⟩
      obtain ⟨xn, hxn⟩ : ∃ xn, xn = x.n := ⟨_, rfl⟩
      obtain ⟨xc, hxc⟩ : ∃ xc, xc = x.c := ⟨_, rfl⟩
      have HSI := Lib.hid (⟨hsi, hx1, hx2, hxA, hxn, hxc⟩ : _ ∧ _ ∧ _ ∧ _ ∧ _ ∧ _)
      have HROW : Hid (∀ (W' : World) (c9 : Nat), LnO 72 W' B2 (some ⟨gs, 0, none⟩) c9 A5 c5 vs L → OwnP W' B2 (.slice xA xn xc) s.dead) := Lib.hid fun W' c9 h => by
        obtain ⟨x', e1, _, _, e4⟩ := h.oH.2 i s hsi
        rw [hx1] at e1
        injection e1 with e1
        subst e1
        rw [hxA, hxn, hxc]
        exact e4
      have HCX : Hid (∀ (W' : World), LnO 72 W' B2 (some ⟨gs, 0, none⟩) c1 A5 c5 vs L → W'.cell? ⟨gs, i * 2 + 1, none⟩ = some (.slice xA xn xc)) := Lib.hid fun W' h => by
        obtain ⟨g', cs', e1, _, _, e4⟩ := own_at h.oS (fun _ => rfl) (fun e => by rw [e] at hx1; simp at hx1)
        injection e1 with e1
        injection e1 with e1
        injection e1 with e1
        subst e1
        have := e4 i x hx1 1 (.slice x.A x.n x.c) rfl
        rw [hxA, hxn, hxc]
        exact this
      have HCE := Lib.hid hcells
      have HGS : Hid (B2 ≤ gs ∧ gs < r7 ∧ r4 < gs ∧ w.heap.size ≤ gs) := Lib.hid ⟨hgsB, hgs7, by have := HB2.out; omega, by have := HB2.out; omega⟩
      obtain ⟨t, ht⟩ : ∃ t, t = aheadL L i := ⟨_, rfl⟩
      have HTT := Lib.hid ht
      have HLA : Hid (∀ (W2 : World), Below w.heap.size w W2 → Calls Try.prog 27 #[.agg #[.int .i64 bs, .slice A n c, .slice A' m c'], .int .i64 (i : Int)] W2 fun e w' => e = .returned (.int .i64 (aheadL L i)) ∧ Below W2.heap.size W2 w') := Lib.hid fun W2 hb2 => HLA0.out i W2 (Nat.le_of_lt hin') hb2
      have HO4 := Lib.hid hO4
      have HZ4 := Lib.hid (⟨X3.out.2.below hb4 X3.out.2.lt, Z7, L3.out.trans (hb4.mono L3.out.size)⟩ : _ ∧ _ ∧ _)
      have HZ0 := Lib.hid (X3.out.1.below hb4 X3.out.1.lt)
      have HW4 := Lib.hid (⟨hW4, hr7⟩ : _ ∧ _)
      clear q0 q1 q2 hB2 Z7 hO4 hO b3 X1 L1 HCL hW4 hr7 hb4 hB3 hgs7 ht hsi hx1 hx2 hx3 hx4 hxA hxn hxc hcells hcur hgsB hz0 hz1 HLA0
      go_upto_region 6 with (fail)
      rw [← HW4.out.1, ← HW4.out.2]
      clear HW4 X3 L3 HB2
      have HIL := Lib.hid hin'
      by_cases hmid : i + 1 < n
      · have HIN := Lib.hid hmid
        have hs1 : ∃ s1, L.snaps[i + 1]? = some s1 := ⟨_, List.getElem?_eq_getElem (by have := HN.out; omega)⟩
        obtain ⟨s1, hs1⟩ := hs1
        obtain ⟨x1, hy1, hy2, hy3, hy4⟩ := HO4.out.oH.2 (i + 1) s1 hs1
        obtain ⟨NA, hNA⟩ : ∃ NA, NA = x1.A := ⟨_, rfl⟩
        obtain ⟨nn, hnn⟩ : ∃ nn, nn = x1.n := ⟨_, rfl⟩
        obtain ⟨nc, hnc⟩ : ∃ nc, nc = x1.c := ⟨_, rfl⟩
        rw [← hNA, ← hnn, ← hnc] at hy4
        rw [← hnn] at hy3
        have HNX : Hid (nn = s1.dead.length ∧ s1.dead.length * 40 ≤ room ∧ OwnP W4 B2 (.slice NA nn nc) s1.dead) := Lib.hid ⟨hy3, HF.out.rp s1 (List.mem_of_getElem? hs1), hy4⟩
        have hkp := HCE.out (i + 1) x1 hy1 1 (.slice x1.A x1.n x1.c) rfl
        rw [← hNA, ← hnn, ← hnc] at hkp
        have hkp0 : W4.cell? ⟨gs, (i + 1) * 2 + 1, none⟩ = some (.slice NA nn nc) := hkp
        have HX1 := Lib.hid (⟨hs1, hy1, hy2⟩ : _ ∧ _ ∧ _)
        have HNXT : Hid (nextL L i = s1.dead) := Lib.hid (nextL_mid hs1)
        have HDES : Hid (∀ K, desL L i K = ⟨L.base, (L.snaps.set (i + 1) ⟨s1.txg, K⟩).eraseIdx i, L.dead⟩) := Lib.hid fun K => desL_mid hs1
        obtain ⟨tx, htx⟩ : ∃ tx, tx = s1.txg := ⟨_, rfl⟩
        have HTX := Lib.hid htx
        have hq0 : W4.cell? ⟨r7, 0, none⟩ = some (.int .i64 bs) := HZ4.out.2.1.cell 0
        have hq1 : W4.cell? ⟨r7, 1, none⟩ = some (.slice (some ⟨gs, 0, none⟩) n c1) := HZ4.out.2.1.cell 1
        have hq2 : W4.cell? ⟨r7, 2, none⟩ = some (.slice A5 m c5) := HZ4.out.2.1.cell 2
        have hin : (i : Int) < (n : Int) - 1 := by omega
        clear hs1 hy1 hy2 hy3 hy4 hNA hnn hnc hkp htx
        go_upto_region 9 with (fail)
        clear hq0 hq1 hq2 hin hkp0
        obtain ⟨Wn, hWn⟩ : ∃ Wn, Wn = W4.alloc (.cells #[] 27) := ⟨_, rfl⟩
        have hbn : Below W4.heap.size W4 Wn := by rw [hWn]; exact (Below.refl _ _).alloc (Nat.le_refl _) _
        have HOE : Hid (OwnP (W4.alloc (.cells #[] 27)) B3 (.slice (some ⟨W4.heap.size, 0, none⟩) 0 0) []) := Lib.hid (by rw [HB3E.out]; exact own_empty W4)
        have n7 := (HZ4.out.2.1.below hbn HZ4.out.2.1.lt)
        have nO := HO4.out.below hbn (Nat.le_refl _)
        have nX := HCX.out Wn nO
        have HRX := Lib.hid (rdp_of (HROW.out Wn c1 nO))
        have HSL := Lib.hid ((HROW.out Wn c1 nO).slen)
        have hbn2 := HB3E.out
        rw [hWn] at n7 nX HRX hbn
        have e7 : (W4.alloc (.cells #[] 27)).cell? ⟨r7, 1, none⟩ = some (.slice (some ⟨gs, 0, none⟩) n c1) := n7.cell 1
        have eX : (W4.alloc (.cells #[] 27)).cell? ⟨gs, i * 2 + 1, none⟩ = some (.slice xA xn xc) := nX
        have HBY0 : Hid ((([] : List Pt).length + s.dead.length) * 40 ≤ 140737488355328) := Lib.hid (by have := HF.out.rp s (List.mem_of_getElem? HSI.out.1); unfold room at this; simp; omega)
        have HBZ0 : Hid (B3 ≤ (W4.alloc (.cells #[] 27)).heap.size) := Lib.hid (by rw [HB3E.out]; exact hbn.size)
        have HBN := Lib.hid hbn
        clear n7 nO nX hbn hWn hbn2
        go_wp2_with (at_builtin; refine wpList_appP (v := .slice (some ⟨W4.heap.size, 0, none⟩) 0 0) (A := xA) (n := xn) (c := xc) s.dead rfl (.tmp 45) (.tmp 51) rfl rfl rfl HOE.out HSL.out HRX.out.1 HRX.out.2 HBY0.out HBZ0.out ?_; intro vK WK oK bK cK; refine of_hid ?_)
        refine Lib.hid ?_
        rw [List.nil_append] at oK
        have HK9 : Hid (OwnP WK B3 vK (s.dead ++ olderL t (s1.dead.take 0))) := Lib.hid (by rw [show s.dead ++ olderL t (s1.dead.take 0) = s.dead by simp [olderL]]; exact oK)
        have HK10 : Hid (OwnP WK B3 (.slice none 0 0) (laterL t (s1.dead.take 0))) := Lib.hid (Gr.OwnG.nil _ _)
        have HAP : Hid (∀ g, vK.ownBlock = some g → (Value.slice none 0 0).ownBlock ≠ some g) := Lib.hid fun g _ h => by cases h
        have LWX : Hid (Below B3 W4 WK) := Lib.hid (by have h1 := HBN.out; rw [← HB3E.out] at h1; exact h1.trans bK)
        clear e7 eX HBY0 HBZ0 HOE HRX HSL oK bK cK HBN
        have hnnb : nn ≤ 4194304 := by have h4 := HSM.out.next i; rw [HNXT.out] at h4; have := HNX.out.1; omega
        go_wp2_with fail
        go_loopw [11, 9, 10] (fun y s9 s10 wr => ∃ j : Nat, j ≤ nn ∧ y = .int .i64 (j : Int) ∧ Hid (OwnP wr B3 s9 (s.dead ++ olderL t (s1.dead.take j))) ∧ Hid (OwnP wr B3 s10 (laterL t (s1.dead.take j))) ∧ Hid (∀ g, s9.ownBlock = some g → s10.ownBlock ≠ some g) ∧ Hid (Below B3 W4 wr)) (fun y _ _ _ => nn - (intOf y).toNat)
        case atStart => exact ⟨0, by omega, rfl, HK9, HK10, HAP, LWX⟩
        case round =>
          clear HK9 HK10 HAP LWX
          obtain ⟨j, hj, rfl, HK9, HK10, HAP, LWX⟩ := hrel
          have LWR : Hid (Below w.heap.size w wr) := Lib.hid (HZ4.out.2.2.trans (LWX.out.mono (by have := HB4.out; have := HB3E2.out; omega)))
          by_cases hlt : j < nn
          · have i1 : (j : Int) < (nn : Int) := by omega
            have hjl : j < s1.dead.length := by have := HNX.out.1; omega
            obtain ⟨p, hp⟩ : ∃ p, p = s1.dead[j] := ⟨_, rfl⟩
            have hpi : s1.dead[j]? = some p := by rw [hp]; exact List.getElem?_eq_getElem hjl
            have hstep : s1.dead.take (j + 1) = s1.dead.take j ++ [p] := by rw [List.take_succ_eq_append_getElem hjl, hp]
            have hbl : Below W4.heap.size W4 wr := by have h1 := LWX.out; rw [HB3E.out] at h1; exact h1
            obtain ⟨gX, oX, hA, hgb, kk⟩ := ((rdp_of HNX.out.2.2).1.below hbl) j p hpi
            have HCL1 : Hid (wr.cell? ⟨gX, oX + j * 4, none⟩ = some (.int .i64 p.addr) ∧ wr.cell? ⟨gX, oX + j * 4 + 1, none⟩ = some (.int .i64 p.size) ∧ wr.cell? ⟨gX, oX + j * 4 + 2, none⟩ = some (.int .i64 p.birth) ∧ wr.cell? ⟨gX, oX + j * 4 + 3, none⟩ = some (.string p.sum)) := Lib.hid ⟨kk 0 (.int .i64 p.addr) rfl, kk 1 (.int .i64 p.size) rfl, kk 2 (.int .i64 p.birth) rfl, kk 3 (.string p.sum) rfl⟩
            have HGX : Hid (gX < wr.heap.size) := Lib.hid hgb
            have HS : Hid (Blk wr.drew r0 25 #[.int .i64 bs, .slice A n c, .slice A' m c'] ∧ wr.drew.cell? ⟨gX, oX + j * 4 + 2, none⟩ = some (.int .i64 p.birth)) := Lib.hid ⟨HZ0.out.below hbl.drew HZ0.out.lt, HCL1.out.2.2.1⟩
            have HLEN : Hid ((s.dead ++ olderL t (s1.dead.take j)).length ≤ 8388609 ∧ (laterL t (s1.dead.take j)).length ≤ 8388609) := Lib.hid (by
              have h1 : (olderL t (s1.dead.take j)).length ≤ (s1.dead.take j).length := older_len _ _
              have h2 : (laterL t (s1.dead.take j)).length ≤ (s1.dead.take j).length := List.length_filter_le _ _
              rw [List.length_take] at h1 h2
              have h3 := HSM.out.2.2 s (List.mem_of_getElem? HSI.out.1)
              have h4 := HSM.out.next i
              rw [HNXT.out] at h4
              rw [List.length_append]
              omega)
            subst hA
            clear hpi hp hjl kk hbl hgb
            by_cases hz : t < p.birth
            · go_upto_region 14 with (fail)
              have e1 : decide (t < p.birth) = true := by simp [hz]
              have hof : olderL t (s1.dead.take (j + 1)) = olderL t (s1.dead.take j) := by rw [hstep, older_app, if_neg (by omega), List.append_nil]
              have hlf : laterL t (s1.dead.take (j + 1)) = laterL t (s1.dead.take j) ++ [p] := by rw [hstep, later_app, if_pos (by omega)]
              have HOF := Lib.hid (⟨hof, hlf⟩ : _ ∧ _)
              clear hof hlf hz
              refine region_anyZ (fun w' => Blk w' r0 25 #[.int .i64 bs, .slice A n c, .slice A' m c'] ∧ w'.cell? ⟨gX, oX + j * 4 + 2, none⟩ = some (.int .i64 p.birth)) 9 (by kernel_rfl) ?_
              refine takeG 0 (.move (.tmp 8)) (some 59) none (.slice (some ⟨gX, oX, none⟩) nn nc) (by kernel_rfl) (by kernel_rfl) (by kernel_rfl) (fun _ _ _ h => h) (fun o' wq e hS => exec_move wq e (by kernel_rfl)) HS.out ?_
              refine takeG 1 (.move (.tmp 11)) (some 60) none (.int .i64 (j : Int)) (by kernel_rfl) (by kernel_rfl) (by kernel_rfl) (fun _ _ _ h => h) (fun o' wq e hS => exec_move wq e (by kernel_rfl)) HS.out ?_
              refine takeG 2 (.indexAddr 23 (.tmp 59) (.tmp 60)) (some 61) none (.pointer (some ⟨gX, oX + j * 4, none⟩)) (by kernel_rfl) (by kernel_rfl) (by kernel_rfl) (fun _ _ _ h => h) (fun o' wq e hS => exec_index (u1 := .slice (some ⟨gX, oX, none⟩) nn nc) (u2 := .int .i64 (j : Int)) wq e (by kernel_rfl) (by kernel_rfl) (index_pt gX oX nn nc j hlt _)) HS.out ?_
              refine takeG 3 (.fieldAddr 27 (.tmp 61) 2) (some 62) none (.pointer (some ⟨gX, oX + j * 4 + 2, none⟩)) (by kernel_rfl) (by kernel_rfl) (by kernel_rfl) (fun _ _ _ h => h) (fun o' wq e hS => exec_field (u := .pointer (some ⟨gX, oX + j * 4, none⟩)) wq e (by kernel_rfl) (by kernel_rfl)) HS.out ?_
              refine takeG 4 (.load 3 (.tmp 62)) (some 63) none (.int .i64 p.birth) (by kernel_rfl) (by kernel_rfl) (by kernel_rfl) (fun _ _ _ h => h) (fun o' wq e hS => exec_load (x := (.tmp 62)) e (by kernel_rfl) (load_one Try.underlying3 (by kernel_rfl) hS.2)) HS.out ?_
              refine takeG 5 (.load 25 (.tmp 2)) (some 64) none (.agg #[.int .i64 bs, .slice A n c, .slice A' m c']) (by kernel_rfl) (by kernel_rfl) (by kernel_rfl) (fun _ _ _ h => h) (fun o' wq e hS => exec_load (x := (.tmp 2)) e (by kernel_rfl) (load_rln hS.1)) HS.out ?_
              refine takeG 6 (.move (.tmp 1)) (some 65) none (.int .i64 (i : Int)) (by kernel_rfl) (by kernel_rfl) (by kernel_rfl) (fun _ _ _ h => h) (fun o' wq e hS => exec_move wq e (by kernel_rfl)) HS.out ?_
              refine loneG 7 (.call ⟨.value (.func 27), #[(.tmp 64), (.tmp 65)], #[25, 3]⟩) (some 66) none (by kernel_rfl) (by kernel_rfl) (by kernel_rfl) ?_
              intro o' ho hod
              refine wp_callC (f := 27) (args := #[.agg #[.int .i64 bs, .slice A n c, .slice A' m c'], .int .i64 (i : Int)]) (by cases o'; cases ho; kernel_rfl) (HLA.out _ LWR.out.drew) ?_
              rintro ee w5 ⟨rfl, b5⟩
              rw [← HTT.out]
              have b5' : Below wr.heap.size wr w5 := (Below.refl wr.heap.size wr).drew.trans b5
              have HS5 := Lib.hid (⟨HS.out.1.below b5 HS.out.1.lt, (b5.cell (p := ⟨gX, oX + j * 4 + 2, none⟩) HGX.out).trans HS.out.2⟩ : _ ∧ _)
              have HB5 := Lib.hid b5'
              refine ⟨.int .i64 t, rfl, ?_⟩
              rw [hod]
              clear hod ho b5 b5'
              refine ⟨fun _ => HS5.out, ?_⟩
              refine lastS 8 (.binOp .gtr 3 (.tmp 63) (.tmp 66) 3) (some 67) (.bool true) (by kernel_rfl) (by kernel_rfl) (by kernel_rfl) HS5.out (fun o' e => exec_bin (u1 := .int .i64 p.birth) (u2 := .int .i64 t) _ e (by kernel_rfl) (by kernel_rfl) (eqG_int ..) (gtr_isK p.birth t _ e1 _)) ?_
              simp only [put_some, put_none, List.setIfInBounds_toArray, List.set_cons_succ, List.set_cons_zero]
              have hk5 : ∀ q u, wr.cell? ⟨gX, oX + j * 4 + q, none⟩ = some u → w5.cell? ⟨gX, oX + j * 4 + q, none⟩ = some u := fun q u h => (HB5.out.cell (p := ⟨gX, oX + j * 4 + q, none⟩) HGX.out).trans h
              have y0 : w5.cell? ⟨gX, oX + j * 4, none⟩ = some (.int .i64 p.addr) := hk5 0 _ HCL1.out.1
              have y1 : w5.cell? ⟨gX, oX + j * 4 + 1, none⟩ = some (.int .i64 p.size) := hk5 1 _ HCL1.out.2.1
              have y2 : w5.cell? ⟨gX, oX + j * 4 + 2, none⟩ = some (.int .i64 p.birth) := hk5 2 _ HCL1.out.2.2.1
              have y3 : w5.cell? ⟨gX, oX + j * 4 + 3, none⟩ = some (.string p.sum) := hk5 3 _ HCL1.out.2.2.2
              have hba : Below w5.heap.size w5 (w5.alloc (.cells #[.int .i64 p.addr, .int .i64 p.size, .int .i64 p.birth, .string p.sum] 27)) := (Below.refl _ _).alloc (Nat.le_refl _) _
              have HBA := Lib.hid hba
              have HOA := Lib.hid ((HK10.out.below HB5.out (Nat.le_refl _)).below hba (Nat.le_refl _))
              have HOB := Lib.hid ((HK9.out.below HB5.out (Nat.le_refl _)).below hba (Nat.le_refl _))
              have HP1 := Lib.hid (rd_one w5 p)
              have HBY : Hid (((laterL t (s1.dead.take j)).length + [p].length) * 40 ≤ 140737488355328) := Lib.hid (by
                have h1 := HLEN.out
                have h2 : [p].length = 1 := rfl
                rw [h2]
                omega)
              have HBZ : Hid (B3 ≤ (w5.alloc (.cells #[.int .i64 p.addr, .int .i64 p.size, .int .i64 p.birth, .string p.sum] 27)).heap.size) := Lib.hid (by have h1 := LWX.out.size; have h2 := HB5.out.size; have h3 := HB3E.out; have h4 := hba.size; omega)
              clear hba hk5 HS
              go_wp2_with (at_builtin; refine wpList_appP (v := u10) (A := some ⟨w5.heap.size, 0, none⟩) (n := 1) (c := 1) [p] rfl (.tmp 68) (.tmp 73) rfl rfl rfl HOA.out rfl HP1.out (fun e => by cases e) HBY.out HBZ.out ?_; intro v7 w7 o7 b7 c7; refine of_hid ?_)
              refine Lib.hid ?_
              have ZA : Hid (OwnP w7 B3 v7 (laterL t (s1.dead.take (j + 1)))) := Lib.hid (by rw [HOF.out.2]; first | exact o7 | (rw [← List.append_assoc]; exact o7))
              have ZB : Hid (OwnP w7 B3 u9 (s.dead ++ olderL t (s1.dead.take (j + 1)))) := Lib.hid (by rw [HOF.out.1]; exact HOB.out.keep fun g hg => c7.2.1 g (HOB.out.lt hg).1 (HAP.out g hg))
              have ZL : Hid (Below B3 W4 w7) := Lib.hid ((LWX.out.trans (HB5.out.mono (by have h1 := LWX.out.size; have h3 := HB3E.out; omega))).trans ((HBA.out.mono (by have h1 := LWX.out.size; have h3 := HB3E.out; have h2 := HB5.out.size; omega)).trans b7))
              have ZP : Hid (∀ g, u9.ownBlock = some g → v7.ownBlock ≠ some g) := Lib.hid (fun g hg he => by
                rcases c7.2.2 with h | h
                · exact HAP.out g (hg) (h.symm.trans he)
                · rw [h] at he
                  have h := he
                  injection h with h
                  have := (HOB.out.lt hg).1
                  omega)
              clear y0 y1 y2 y3 o7 b7 c7 HOA HOB HP1 HBY HBZ HBA HK9 HK10 HAP HOF LWX HS5 HB5 e1 HGX HCL1 LWR HLEN
              go_wp2_with fail
              go_roundw
              case rel => exact ⟨j + 1, by omega, by go_num, ZB, ZA, ZP, ZL⟩
              case measure => simp [intOf]; omega
            · go_upto_region 14 with (fail)
              have e1 : decide (t < p.birth) = false := by simp; omega
              have hof : olderL t (s1.dead.take (j + 1)) = olderL t (s1.dead.take j) ++ [p] := by rw [hstep, older_app, if_pos (by omega)]
              have hlf : laterL t (s1.dead.take (j + 1)) = laterL t (s1.dead.take j) := by rw [hstep, later_app, if_neg (by omega), List.append_nil]
              have HOF := Lib.hid (⟨hof, hlf⟩ : _ ∧ _)
              clear hof hlf hz
              refine region_anyZ (fun w' => Blk w' r0 25 #[.int .i64 bs, .slice A n c, .slice A' m c'] ∧ w'.cell? ⟨gX, oX + j * 4 + 2, none⟩ = some (.int .i64 p.birth)) 9 (by kernel_rfl) ?_
              refine takeG 0 (.move (.tmp 8)) (some 59) none (.slice (some ⟨gX, oX, none⟩) nn nc) (by kernel_rfl) (by kernel_rfl) (by kernel_rfl) (fun _ _ _ h => h) (fun o' wq e hS => exec_move wq e (by kernel_rfl)) HS.out ?_
              refine takeG 1 (.move (.tmp 11)) (some 60) none (.int .i64 (j : Int)) (by kernel_rfl) (by kernel_rfl) (by kernel_rfl) (fun _ _ _ h => h) (fun o' wq e hS => exec_move wq e (by kernel_rfl)) HS.out ?_
              refine takeG 2 (.indexAddr 23 (.tmp 59) (.tmp 60)) (some 61) none (.pointer (some ⟨gX, oX + j * 4, none⟩)) (by kernel_rfl) (by kernel_rfl) (by kernel_rfl) (fun _ _ _ h => h) (fun o' wq e hS => exec_index (u1 := .slice (some ⟨gX, oX, none⟩) nn nc) (u2 := .int .i64 (j : Int)) wq e (by kernel_rfl) (by kernel_rfl) (index_pt gX oX nn nc j hlt _)) HS.out ?_
              refine takeG 3 (.fieldAddr 27 (.tmp 61) 2) (some 62) none (.pointer (some ⟨gX, oX + j * 4 + 2, none⟩)) (by kernel_rfl) (by kernel_rfl) (by kernel_rfl) (fun _ _ _ h => h) (fun o' wq e hS => exec_field (u := .pointer (some ⟨gX, oX + j * 4, none⟩)) wq e (by kernel_rfl) (by kernel_rfl)) HS.out ?_
              refine takeG 4 (.load 3 (.tmp 62)) (some 63) none (.int .i64 p.birth) (by kernel_rfl) (by kernel_rfl) (by kernel_rfl) (fun _ _ _ h => h) (fun o' wq e hS => exec_load (x := (.tmp 62)) e (by kernel_rfl) (load_one Try.underlying3 (by kernel_rfl) hS.2)) HS.out ?_
              refine takeG 5 (.load 25 (.tmp 2)) (some 64) none (.agg #[.int .i64 bs, .slice A n c, .slice A' m c']) (by kernel_rfl) (by kernel_rfl) (by kernel_rfl) (fun _ _ _ h => h) (fun o' wq e hS => exec_load (x := (.tmp 2)) e (by kernel_rfl) (load_rln hS.1)) HS.out ?_
              refine takeG 6 (.move (.tmp 1)) (some 65) none (.int .i64 (i : Int)) (by kernel_rfl) (by kernel_rfl) (by kernel_rfl) (fun _ _ _ h => h) (fun o' wq e hS => exec_move wq e (by kernel_rfl)) HS.out ?_
              refine loneG 7 (.call ⟨.value (.func 27), #[(.tmp 64), (.tmp 65)], #[25, 3]⟩) (some 66) none (by kernel_rfl) (by kernel_rfl) (by kernel_rfl) ?_
              intro o' ho hod
              refine wp_callC (f := 27) (args := #[.agg #[.int .i64 bs, .slice A n c, .slice A' m c'], .int .i64 (i : Int)]) (by cases o'; cases ho; kernel_rfl) (HLA.out _ LWR.out.drew) ?_
              rintro ee w5 ⟨rfl, b5⟩
              rw [← HTT.out]
              have b5' : Below wr.heap.size wr w5 := (Below.refl wr.heap.size wr).drew.trans b5
              have HS5 := Lib.hid (⟨HS.out.1.below b5 HS.out.1.lt, (b5.cell (p := ⟨gX, oX + j * 4 + 2, none⟩) HGX.out).trans HS.out.2⟩ : _ ∧ _)
              have HB5 := Lib.hid b5'
              refine ⟨.int .i64 t, rfl, ?_⟩
              rw [hod]
              clear hod ho b5 b5'
              refine ⟨fun _ => HS5.out, ?_⟩
              refine lastS 8 (.binOp .gtr 3 (.tmp 63) (.tmp 66) 3) (some 67) (.bool false) (by kernel_rfl) (by kernel_rfl) (by kernel_rfl) HS5.out (fun o' e => exec_bin (u1 := .int .i64 p.birth) (u2 := .int .i64 t) _ e (by kernel_rfl) (by kernel_rfl) (eqG_int ..) (gtr_isK p.birth t _ e1 _)) ?_
              simp only [put_some, put_none, List.setIfInBounds_toArray, List.set_cons_succ, List.set_cons_zero]
              have hk5 : ∀ q u, wr.cell? ⟨gX, oX + j * 4 + q, none⟩ = some u → w5.cell? ⟨gX, oX + j * 4 + q, none⟩ = some u := fun q u h => (HB5.out.cell (p := ⟨gX, oX + j * 4 + q, none⟩) HGX.out).trans h
              have y0 : w5.cell? ⟨gX, oX + j * 4, none⟩ = some (.int .i64 p.addr) := hk5 0 _ HCL1.out.1
              have y1 : w5.cell? ⟨gX, oX + j * 4 + 1, none⟩ = some (.int .i64 p.size) := hk5 1 _ HCL1.out.2.1
              have y2 : w5.cell? ⟨gX, oX + j * 4 + 2, none⟩ = some (.int .i64 p.birth) := hk5 2 _ HCL1.out.2.2.1
              have y3 : w5.cell? ⟨gX, oX + j * 4 + 3, none⟩ = some (.string p.sum) := hk5 3 _ HCL1.out.2.2.2
              have hba : Below w5.heap.size w5 (w5.alloc (.cells #[.int .i64 p.addr, .int .i64 p.size, .int .i64 p.birth, .string p.sum] 27)) := (Below.refl _ _).alloc (Nat.le_refl _) _
              have HBA := Lib.hid hba
              have HOA := Lib.hid ((HK9.out.below HB5.out (Nat.le_refl _)).below hba (Nat.le_refl _))
              have HOB := Lib.hid ((HK10.out.below HB5.out (Nat.le_refl _)).below hba (Nat.le_refl _))
              have HP1 := Lib.hid (rd_one w5 p)
              have HBY : Hid (((s.dead ++ olderL t (s1.dead.take j)).length + [p].length) * 40 ≤ 140737488355328) := Lib.hid (by
                have h1 := HLEN.out
                have h2 : [p].length = 1 := rfl
                rw [h2]
                omega)
              have HBZ : Hid (B3 ≤ (w5.alloc (.cells #[.int .i64 p.addr, .int .i64 p.size, .int .i64 p.birth, .string p.sum] 27)).heap.size) := Lib.hid (by have h1 := LWX.out.size; have h2 := HB5.out.size; have h3 := HB3E.out; have h4 := hba.size; omega)
              clear hba hk5 HS
              go_wp2_with (at_builtin; refine wpList_appP (v := u9) (A := some ⟨w5.heap.size, 0, none⟩) (n := 1) (c := 1) [p] rfl (.tmp 75) (.tmp 80) rfl rfl rfl HOA.out rfl HP1.out (fun e => by cases e) HBY.out HBZ.out ?_; intro v7 w7 o7 b7 c7; refine of_hid ?_)
              refine Lib.hid ?_
              have ZA : Hid (OwnP w7 B3 v7 (s.dead ++ olderL t (s1.dead.take (j + 1)))) := Lib.hid (by rw [HOF.out.1]; first | exact o7 | (rw [← List.append_assoc]; exact o7))
              have ZB : Hid (OwnP w7 B3 u10 (laterL t (s1.dead.take (j + 1)))) := Lib.hid (by rw [HOF.out.2]; exact HOB.out.keep fun g hg => c7.2.1 g (HOB.out.lt hg).1 (fun e => HAP.out g e hg))
              have ZL : Hid (Below B3 W4 w7) := Lib.hid ((LWX.out.trans (HB5.out.mono (by have h1 := LWX.out.size; have h3 := HB3E.out; omega))).trans ((HBA.out.mono (by have h1 := LWX.out.size; have h3 := HB3E.out; have h2 := HB5.out.size; omega)).trans b7))
              have ZP : Hid (∀ g, v7.ownBlock = some g → u10.ownBlock ≠ some g) := Lib.hid (fun g hg he => by
                rcases c7.2.2 with h | h
                · exact HAP.out g (h.symm.trans hg) (he)
                · rw [h] at hg
                  have h := hg
                  injection h with h
                  have := (HOB.out.lt he).1
                  omega)
              clear y0 y1 y2 y3 o7 b7 c7 HOA HOB HP1 HBY HBZ HBA HK9 HK10 HAP HOF LWX HS5 HB5 e1 HGX HCL1 LWR HLEN
              go_wp2_with fail
              go_roundw
              case rel => exact ⟨j + 1, by omega, by go_num, ZA, ZB, ZP, ZL⟩
              case measure => simp [intOf]; omega
          · obtain rfl : nn = j := by omega
            have i1 : ¬ ((nn : Int) < (nn : Int)) := by omega
            have hbl : Below W4.heap.size W4 wr := by have h1 := LWX.out; rw [HB3E.out] at h1; exact h1
            have HEND : Hid (s1.dead.take nn = s1.dead) := Lib.hid (List.take_of_length_le (by have := HNX.out.1; omega))
            have h9 := HK9.out
            have h10 := HK10.out
            rw [HEND.out] at h9 h10
            obtain ⟨A9, c9, hv9, _, _, _, _, _⟩ := h9.shape (fun _ => rfl)
            obtain ⟨n9, hn9⟩ : ∃ n9, n9 = (s.dead ++ olderL t s1.dead).length := ⟨_, rfl⟩
            rw [← hn9] at hv9
            subst hv9
            obtain ⟨A10, c10, hv10, _, _, _, _, _⟩ := h10.shape (fun _ => rfl)
            obtain ⟨n10, hn10⟩ : ∃ n10, n10 = (laterL t s1.dead).length := ⟨_, rfl⟩
            rw [← hn10] at hv10
            subst hv10
            have HN9 := Lib.hid hn9
            have HKK := Lib.hid (⟨h9, h10⟩ : _ ∧ _)
            obtain ⟨W5, hW5⟩ : ∃ W5, W5 = wr := ⟨_, rfl⟩
            subst hW5
            obtain ⟨W6, hW6⟩ : ∃ W6, W6 = W5.alloc (.cells #[.int .i64 bs, .slice none 0 0, .slice A5 m c5] 25) := ⟨_, rfl⟩
            obtain ⟨g12, hg12⟩ : ∃ g12, g12 = W5.heap.size := ⟨_, rfl⟩
            obtain ⟨B6, hB6⟩ : ∃ B6, B6 = W6.heap.size := ⟨_, rfl⟩
            have hb56 : Below W5.heap.size W5 W6 := by rw [hW6]; exact (Below.refl _ _).alloc (Nat.le_refl _) _
            have hB612 : B6 = g12 + 1 := by rw [hB6, hW6, hg12]; simp
            have hb46 : Below W4.heap.size W4 W6 := hbl.trans (hb56.mono hbl.size)
            have hX12 : Blk W6 g12 25 #[.int .i64 bs, .slice none 0 0, .slice A5 m c5] := by rw [hW6, hg12]; exact Blk.new _ _ _
            have z7 := HZ4.out.2.1.below hbl HZ4.out.2.1.lt
            have s0 : W5.cell? ⟨r7, 0, none⟩ = some (.int .i64 bs) := z7.cell 0
            have s2 : W5.cell? ⟨r7, 2, none⟩ = some (.slice A5 m c5) := z7.cell 2
            have HX12 := Lib.hid hX12
            have HX7 := Lib.hid (HZ4.out.2.1.below hb46 HZ4.out.2.1.lt)
            have HX4 := Lib.hid (HZ4.out.1.below hb46 HZ4.out.1.lt)
            have HO6 := Lib.hid (HO4.out.below hb46 (Nat.le_refl _))
            have HKK6 := Lib.hid (⟨HKK.out.1.below hb56 (Nat.le_refl _), HKK.out.2.below hb56 (Nat.le_refl _)⟩ : _ ∧ _)
            have LWR6 := Lib.hid (LWR.out.trans (hb56.mono LWR.out.size))
            have HG12 : Hid (r7 < g12 ∧ r4 < g12 ∧ gs < g12 ∧ w.heap.size ≤ g12 ∧ B6 = g12 + 1) := Lib.hid (by have h1 := hbl.size; have h2 := HB4.out; have h3 := HE.out; have h4 := HGS.out; have h5 := HB3E.out; omega)
            have HGS6 := HGS
            obtain ⟨X, hXX⟩ : ∃ X : SV, X = ⟨tx, A9, n9, c9⟩ := ⟨_, rfl⟩
            have HXE := Lib.hid hXX
            have HVC : Hid (Gr.OwnG 72 2 csV W6 B2 (.slice (some ⟨gs, 0, none⟩) n c1) (if i + 1 < 0 then vs.set (i + 1) X else vs)) := Lib.hid (by rw [if_neg (by omega), HN.out]; exact HO6.out.oS)
            have HVO : Hid (Gr.OwnG 72 2 csV W6 B6 (.slice none 0 0) (((vs.set (i + 1) X).take 0).eraseIdx i)) := Lib.hid (by rw [List.take_zero, List.eraseIdx_nil]; exact Gr.OwnG.nil _ _)
            have HBX : Hid (B6 ≤ W6.heap.size) := Lib.hid (Nat.le_of_eq hB6)
            have HW6 := Lib.hid (⟨hW6, hg12⟩ : _ ∧ _)
            have HNO0 : Hid ((((vs.set (i + 1) X).take 0).eraseIdx i).length = 0) := Lib.hid (by simp)
            clear hn9 hn10 h9 h10 hbl hb56 hB612 hb46 hX12 z7 hW6 hg12 hB6 hXX HK9 HK10 HAP LWX HKK LWR hlt
            go_upto_region 18 with (fail)
            rw [← HW6.out.1, ← HW6.out.2]
            clear s0 s2 HW6
            go_wp2_with fail
            go_loopw [13] (fun y wr => ∃ (j : Nat) (Ao : Option Addr) (no co : Nat), j ≤ n ∧ y = .int .i64 (j : Int) ∧ Hid (Blk wr r7 25 #[.int .i64 bs, .slice (some ⟨gs, 0, none⟩) n c1, .slice A5 m c5]) ∧ Hid (Blk wr r4 25 #[.int .i64 0, .slice none 0 0, .slice none 0 0]) ∧ Hid (Blk wr g12 25 #[.int .i64 bs, .slice Ao no co, .slice A5 m c5]) ∧ Hid (Gr.OwnG 72 2 csV wr B2 (.slice (some ⟨gs, 0, none⟩) n c1) (if i + 1 < j then vs.set (i + 1) X else vs)) ∧ Hid (Gr.OwnG 72 2 csV wr B6 (.slice Ao no co) (((vs.set (i + 1) X).take j).eraseIdx i)) ∧ Hid ((((vs.set (i + 1) X).take j).eraseIdx i).length = no) ∧ Hid (∀ g cur, Blk W6 g 27 cur → wr.heap[g]? = W6.heap[g]?) ∧ Hid (Below w.heap.size w wr) ∧ Hid (B6 ≤ wr.heap.size)) (fun y _ => n - (intOf y).toNat)
            case atStart => exact ⟨0, none, 0, 0, by omega, rfl, HX7, HX4, HX12, HVC, HVO, HNO0, Lib.hid (fun _ _ _ => rfl), LWR6, HBX⟩
            case round =>
              clear HX7 HX4 HX12 HVC HVO HNO0 LWR6 HBX
              obtain ⟨j, Ao, no, co, hj, rfl, HX7, HX4, HX12, HVC, HVO, HNO, HPT, LWR, HBX⟩ := hrel
              have q1 : wr.cell? ⟨r7, 1, none⟩ = some (.slice (some ⟨gs, 0, none⟩) n c1) := HX7.out.cell 1
              by_cases hlt : j < n
              · have i1 : (j : Int) < (n : Int) := by omega
                have hvl : vs.length = n := by rw [HO6.out.oH.1, ← HN.out]
                by_cases hji : j = i
                · subst hji
                  have hne1 : ((j : Int) == (j : Int) + 1) = false := by simp; omega
                  have hne2 : ((j : Int) != (j : Int)) = false := by simp
                  have ZC : Hid (Gr.OwnG 72 2 csV wr B2 (.slice (some ⟨gs, 0, none⟩) n c1) (if j + 1 < j + 1 then vs.set (j + 1) X else vs)) := Lib.hid (by have h1 := HVC.out; rw [if_neg (by omega)] at h1 ⊢; exact h1)
                  have htk : ((vs.set (j + 1) X).take (j + 1)).eraseIdx j = ((vs.set (j + 1) X).take j).eraseIdx j := take_erase_at _ _ (by rw [List.length_set]; omega)
                  have ZO : Hid (Gr.OwnG 72 2 csV wr B6 (.slice Ao no co) (((vs.set (j + 1) X).take (j + 1)).eraseIdx j)) := Lib.hid (by rw [htk]; exact HVO.out)
                  have ZN : Hid ((((vs.set (j + 1) X).take (j + 1)).eraseIdx j).length = no) := Lib.hid (by rw [htk]; exact HNO.out)
                  clear hvl htk HVC HVO HNO
                  go_wp2_with fail
                  go_roundw
                  case rel => exact ⟨j + 1, Ao, no, co, by omega, by go_num, HX7, HX4, HX12, ZC, ZO, ZN, HPT, LWR, HBX⟩
                  case measure => simp [intOf]; omega
                · have hne2 : ((j : Int) != (i : Int)) = true := by simp; omega
                  have hyj : ∃ y, (vs.set (i + 1) X)[j]? = some y := ⟨_, List.getElem?_eq_getElem (by rw [List.length_set]; omega)⟩
                  obtain ⟨y, hyj⟩ := hyj
                  have HTK : Hid (((vs.set (i + 1) X).take (j + 1)).eraseIdx i = ((vs.set (i + 1) X).take j).eraseIdx i ++ [y]) := Lib.hid (take_erase_ne _ _ _ _ hyj hji)
                  have HVL : Hid (((((vs.set (i + 1) X).take j).eraseIdx i).length + 1) * 32 ≤ 140737488355328) := Lib.hid (by
                    have h1 : (((vs.set (i + 1) X).take j).eraseIdx i).length ≤ ((vs.set (i + 1) X).take j).length := (List.eraseIdx_sublist _ _).length_le
                    rw [List.length_take] at h1
                    omega)
                  by_cases hj1 : j = i + 1
                  · have hne1 : ((j : Int) == (i : Int) + 1) = true := by simp; omega
                    have HYX : Hid (y = X) := Lib.hid (by rw [hj1, List.getElem?_set_self (by omega)] at hyj; injection hyj with hyj; exact hyj.symm)
                    have hvc0 : Gr.OwnG 72 2 csV wr B2 (.slice (some ⟨gs, 0, none⟩) n c1) vs := by have h1 := HVC.out; rw [if_neg (by omega)] at h1; exact h1
                    have hx1 : ∃ x1, vs[i + 1]? = some x1 := ⟨_, List.getElem?_eq_getElem (by omega)⟩
                    obtain ⟨x1', hx1⟩ := hx1
                    obtain ⟨g', cs', ev, _, ⟨curg, hcurg⟩, hcl⟩ := own_at hvc0 (fun _ => rfl) (fun e => by rw [e] at hvl; simp at hvl; omega)
                    injection ev with ev
                    injection ev with ev
                    injection ev with ev
                    subst ev
                    have hk1 : wr.cell? ⟨gs, j * 2 + 1, none⟩ = some (.slice x1'.A x1'.n x1'.c) := by have h1 := hcl (i + 1) x1' hx1 1 _ rfl; rw [← hj1] at h1; exact h1
                    have hf1 : wr.frozen? ⟨gs, j * 2 + 1, none⟩ = false := hcurg.frozen _
                    obtain ⟨wx, hwx⟩ : ∃ wx, wx = wr.setCell ⟨gs, j * 2 + 1, none⟩ (.slice A9 n9 c9) := ⟨_, rfl⟩
                    have hXt : X.txg = x1'.txg := by rw [HXE.out]; show tx = x1'.txg; obtain ⟨h1, h2, h3⟩ := HX1.out; rw [h2] at hx1; injection hx1 with hx1; rw [← hx1, h3]; exact HTX.out
                    have hset : Gr.OwnG 72 2 csV wx B2 (.slice (some ⟨gs, 0, none⟩) n c1) (vs.set (i + 1) X) := by rw [hwx, hj1]; exact hvc0.setAt (i := i + 1) (j := 1) (x := x1') (y := X) (u := .slice A9 n9 c9) (fun _ => rfl) hx1 (by omega) (by rw [HXE.out] at hXt ⊢; show csV ⟨tx, A9, n9, c9⟩ = _; have hXt2 : tx = x1'.txg := hXt; rw [hXt2]; rfl)
                    have hkw : ∀ g, g ≠ gs → wx.heap[g]? = wr.heap[g]? := fun g hg => by rw [hwx]; exact Below.heap_setCell _ _ _ g hg
                    have hG := HG12.out
                    have hGS := HGS.out
                    have hc2 : ∀ q u, (csV y)[q]? = some u → wx.cell? ⟨gs, j * 2 + q, none⟩ = some u := fun q u hu => by
                      obtain ⟨g', cs', ev, _, _, hcl2⟩ := own_at hset (fun _ => rfl) (fun e => by have h1 : (vs.set (i + 1) X).length = vs.length := List.length_set; rw [e] at h1; simp at h1; omega)
                      injection ev with ev
                      injection ev with ev
                      injection ev with ev
                      subst ev
                      exact hcl2 j y hyj q u hu
                    have HX7w := Lib.hid ((hkw r7 (by omega)).trans HX7.out)
                    have HX4w := Lib.hid ((hkw r4 (by omega)).trans HX4.out)
                    have HX12w := Lib.hid ((hkw g12 (by omega)).trans HX12.out)
                    have HPTw : Hid (∀ g cur, Blk W6 g 27 cur → wx.heap[g]? = W6.heap[g]?) := Lib.hid fun g cur hg => by
                      have h1 := HPT.out g cur hg
                      have h2 : Blk wr g 27 cur := h1.trans hg
                      exact (hkw g (Blk.ne_ h2 hcurg (by decide))).trans h1
                    have LWRw : Hid (Below w.heap.size w wx) := Lib.hid (by rw [hwx]; exact LWR.out.setCell (p := ⟨gs, j * 2 + 1, none⟩) (by show w.heap.size ≤ gs; omega) _)
                    have hszx : wx.heap.size = wr.heap.size := by rw [hwx]; simp [World.setCell]
                    have HBXw : Hid (B6 ≤ wx.heap.size) := Lib.hid (by rw [hszx]; exact HBX.out)
                    have HVOw : Hid (Gr.OwnG 72 2 csV wx B6 (.slice Ao no co) (((vs.set (i + 1) X).take j).eraseIdx i)) := Lib.hid (HVO.out.keep fun g hg => hkw g (by have := (HVO.out.lt hg).2; omega))
                    have HVCw := Lib.hid hset
                    have HS : Hid (Blk wx.drew r7 25 #[.int .i64 bs, .slice (some ⟨gs, 0, none⟩) n c1, .slice A5 m c5] ∧ Blk wx.drew g12 25 #[.int .i64 bs, .slice Ao no co, .slice A5 m c5] ∧ (wx.drew.cell? ⟨gs, 0 + j * 2, none⟩ = some (.int .i64 y.txg) ∧ wx.drew.cell? ⟨gs, 0 + j * 2 + 1, none⟩ = some (.slice y.A y.n y.c))) := Lib.hid ⟨HX7w.out, HX12w.out, by rw [Nat.zero_add]; exact hc2 0 _ rfl, by rw [Nat.zero_add]; exact hc2 1 _ rfl⟩
                    have HWX := Lib.hid hwx
                    clear hyj hset hkw hG hGS hc2 hszx hcl hvc0 hXt hx1 hcurg hvl hwx HYX HX7 HX4 HX12 HPT LWR HBX HVO HVC
                    have HJ1 := Lib.hid hj1
                    clear hj1
                    go_upto_region 24 with (fail)
                    rw [← HWX.out]
                    clear q1 hne1 hne2 hk1 hf1
                    have HX7 := HX7w
                    have HX4 := HX4w
                    have HX12 := HX12w
                    have HPT := HPTw
                    have LWR := LWRw
                    have HBX := HBXw
                    have HVO := HVOw
                    have HVC := HVCw
                    clear HX7w HX4w HX12w HPTw LWRw HBXw HVOw HVCw
                    have HIFX : Hid ((if i + 1 < j + 1 then vs.set (i + 1) X else vs) = vs.set (i + 1) X) := Lib.hid (if_pos (by have := HJ1.out; omega))
                    refine region_anyZ (fun w' => Blk w' r7 25 #[.int .i64 bs, .slice (some ⟨gs, 0, none⟩) n c1, .slice A5 m c5] ∧ Blk w' g12 25 #[.int .i64 bs, .slice Ao no co, .slice A5 m c5] ∧ (w'.cell? ⟨gs, 0 + j * 2, none⟩ = some (.int .i64 y.txg) ∧ w'.cell? ⟨gs, 0 + j * 2 + 1, none⟩ = some (.slice y.A y.n y.c))) 10 (by kernel_rfl) ?_
                    refine takeG 0 (.fieldAddr 25 (.tmp 12) 1) (some 107) none (.pointer (some ⟨g12, 1, none⟩)) (by kernel_rfl) (by kernel_rfl) (by kernel_rfl) (fun _ _ _ h => h) (fun o' wq e hS => exec_field (u := .pointer (some ⟨g12, 0, none⟩)) wq e (by kernel_rfl) (by kernel_rfl)) HS.out ?_
                    refine takeG 1 (.load 22 (.tmp 107)) (some 108) none (.slice Ao no co) (by kernel_rfl) (by kernel_rfl) (by kernel_rfl) (fun _ _ _ h => h) (fun o' wq e hS => exec_load (x := (.tmp 107)) e (by kernel_rfl) (load_one Try.underlying22 (by kernel_rfl) (hS.2.1.cell 1))) HS.out ?_
                    refine takeG 2 (.fieldAddr 25 (.tmp 7) 1) (some 109) none (.pointer (some ⟨r7, 1, none⟩)) (by kernel_rfl) (by kernel_rfl) (by kernel_rfl) (fun _ _ _ h => h) (fun o' wq e hS => exec_field (u := .pointer (some ⟨r7, 0, none⟩)) wq e (by kernel_rfl) (by kernel_rfl)) HS.out ?_
                    refine takeG 3 (.load 22 (.tmp 109)) (some 110) none (.slice (some ⟨gs, 0, none⟩) n c1) (by kernel_rfl) (by kernel_rfl) (by kernel_rfl) (fun _ _ _ h => h) (fun o' wq e hS => exec_load (x := (.tmp 109)) e (by kernel_rfl) (load_one Try.underlying22 (by kernel_rfl) (hS.1.cell 1))) HS.out ?_
                    refine takeG 4 (.move (.tmp 13)) (some 111) none (.int .i64 (j : Int)) (by kernel_rfl) (by kernel_rfl) (by kernel_rfl) (fun _ _ _ h => h) (fun o' wq e hS => exec_move wq e (by kernel_rfl)) HS.out ?_
                    refine takeG 5 (.indexAddr 22 (.tmp 110) (.tmp 111)) (some 112) none (.pointer (some ⟨gs, 0 + j * 2, none⟩)) (by kernel_rfl) (by kernel_rfl) (by kernel_rfl) (fun _ _ _ h => h) (fun o' wq e hS => exec_index (u1 := .slice (some ⟨gs, 0, none⟩) n c1) (u2 := .int .i64 (j : Int)) wq e (by kernel_rfl) (by kernel_rfl) (index_rsn gs 0 n c1 j hlt _)) HS.out ?_
                    refine takeG 6 (.load 72 (.tmp 112)) (some 113) none (.agg #[.int .i64 y.txg, .slice y.A y.n y.c]) (by kernel_rfl) (by kernel_rfl) (by kernel_rfl) (fun _ _ _ h => h) (fun o' wq e hS => exec_load (x := (.tmp 112)) e (by kernel_rfl) (load_rsn hS.2.2)) HS.out ?_
                    refine loneG 7 (.buildSlice 22 1 #[(0, (.tmp 113))]) (some 114) none (by kernel_rfl) (by kernel_rfl) (by kernel_rfl) ?_
                    intro o' ho hod
                    refine wp_val (exec_buildSlice1 ho (by kernel_rfl) (bs_rs y.txg y.A y.n y.c _)) ?_
                    rw [hod]
                    clear hod ho
                    have HS1 : Hid (Blk (wx.drew.alloc (.cells #[.int .i64 y.txg, .slice y.A y.n y.c] 72)) r7 25 #[.int .i64 bs, .slice (some ⟨gs, 0, none⟩) n c1, .slice A5 m c5] ∧ Blk (wx.drew.alloc (.cells #[.int .i64 y.txg, .slice y.A y.n y.c] 72)) g12 25 #[.int .i64 bs, .slice Ao no co, .slice A5 m c5] ∧ ((wx.drew.alloc (.cells #[.int .i64 y.txg, .slice y.A y.n y.c] 72)).cell? ⟨gs, 0 + j * 2, none⟩ = some (.int .i64 y.txg) ∧ (wx.drew.alloc (.cells #[.int .i64 y.txg, .slice y.A y.n y.c] 72)).cell? ⟨gs, 0 + j * 2 + 1, none⟩ = some (.slice y.A y.n y.c))) := Lib.hid ⟨HS.out.1.alloc _, HS.out.2.1.alloc _, Lib.cell?_alloc_some _ HS.out.2.2.1, Lib.cell?_alloc_some _ HS.out.2.2.2⟩
                    refine ⟨fun _ => HS1.out, ?_⟩
                    refine loneG 8 (.call ⟨.builtin .append, #[(.tmp 108), (.tmp 114)], #[22, 22]⟩) (some 115) none (by kernel_rfl) (by kernel_rfl) (by kernel_rfl) ?_
                    intro o' ho hod
                    obtain ⟨v7, w7, hrun, ho7, hb7, hsz7, hkp7⟩ := append_sv (TS := 22) (w := wx.drew) Try.underlying22 info_rs HVO.out y HVL.out HBX.out o'.type
                    refine Gr.wp_append 22 (.tmp 108) (.tmp 114) ho (by kernel_rfl) (by kernel_rfl) hrun ?_
                    rw [hod]
                    clear hod ho hrun
                    obtain ⟨A7, c7, hv7, _, _, _, _, _⟩ := ho7.shape (fun _ => rfl)
                    have hl7 : (((vs.set (i + 1) X).take j).eraseIdx i ++ [y]).length = no + 1 := by rw [List.length_append, HNO.out]; rfl
                    rw [hl7] at hv7
                    subst hv7
                    have hnO : (Value.slice Ao no co).ownBlock ≠ some gs := fun e => by have h1 := (HVO.out.lt e).2; have h2 := HG12.out; omega
                    have hRL : ∀ g cur, Blk wx g 25 cur → w7.heap[g]? = wx.heap[g]? := fun g cur hg => hkp7 g hg.lt fun e => by
                      obtain ⟨cu, h1⟩ := HVO.out.blk_of e
                      exact (Blk.ne_ h1 hg (by decide)) rfl
                    have hPT : ∀ g cur, Blk wx g 27 cur → w7.heap[g]? = wx.heap[g]? := fun g cur hg => hkp7 g hg.lt fun e => by
                      obtain ⟨cu, h1⟩ := HVO.out.blk_of e
                      exact (Blk.ne_ h1 hg (by decide)) rfl
                    have Y7 := (hRL r7 _ HX7.out).trans HX7.out
                    have Y4 := (hRL r4 _ HX4.out).trans HX4.out
                    have Y12 := (hRL g12 _ HX12.out).trans HX12.out
                    have HYY := Lib.hid (⟨Y7, Y12⟩ : Blk w7 r7 25 _ ∧ Blk w7 g12 25 _)
                    have hgs : w7.heap[gs]? = wx.heap[gs]? := hkp7 gs (by have := HG12.out; have h9 : B6 ≤ wx.drew.heap.size := HBX.out; omega) hnO
                    have hcellgs : ∀ o, w7.cell? ⟨gs, o, none⟩ = wx.cell? ⟨gs, o, none⟩ := fun o => by unfold World.cell?; rw [hgs]
                    have HS2 : Hid (Blk w7 r7 25 #[.int .i64 bs, .slice (some ⟨gs, 0, none⟩) n c1, .slice A5 m c5] ∧ Blk w7 g12 25 #[.int .i64 bs, .slice Ao no co, .slice A5 m c5] ∧ (w7.cell? ⟨gs, 0 + j * 2, none⟩ = some (.int .i64 y.txg) ∧ w7.cell? ⟨gs, 0 + j * 2 + 1, none⟩ = some (.slice y.A y.n y.c))) := Lib.hid ⟨Y7, Y12, (hcellgs _).trans HS.out.2.2.1, (hcellgs _).trans HS.out.2.2.2⟩
                    have hk8 : ∀ g, g ≠ g12 → (w7.setCell ⟨g12, 1, none⟩ (.slice A7 (no + 1) c7)).heap[g]? = w7.heap[g]? := fun g hg => Below.heap_setCell _ _ _ g hg
                    have Z7 : Hid (Blk (w7.setCell ⟨g12, 1, none⟩ (.slice A7 (no + 1) c7)) r7 25 #[.int .i64 bs, .slice (some ⟨gs, 0, none⟩) n c1, .slice A5 m c5]) := Lib.hid ((hk8 r7 (by have := HG12.out; omega)).trans Y7)
                    have Z4 : Hid (Blk (w7.setCell ⟨g12, 1, none⟩ (.slice A7 (no + 1) c7)) r4 25 #[.int .i64 0, .slice none 0 0, .slice none 0 0]) := Lib.hid ((hk8 r4 (by have := HG12.out; omega)).trans Y4)
                    have Z12 : Hid (Blk (w7.setCell ⟨g12, 1, none⟩ (.slice A7 (no + 1) c7)) g12 25 #[.int .i64 bs, .slice A7 (no + 1) c7, .slice A5 m c5]) := Lib.hid (Blk.set_ Y12 1 _)
                    have ZC : Hid (Gr.OwnG 72 2 csV (w7.setCell ⟨g12, 1, none⟩ (.slice A7 (no + 1) c7)) B2 (.slice (some ⟨gs, 0, none⟩) n c1) (if i + 1 < j + 1 then vs.set (i + 1) X else vs)) := Lib.hid (by
                      rw [HIFX.out]
                      exact HVC.out.keep fun g hg => by
                        have e : g = gs := by injection hg with hg; exact hg.symm
                        rw [e]
                        exact (hk8 gs (by have := HG12.out; have := HGS.out; omega)).trans hgs)
                    have ZO : Hid (Gr.OwnG 72 2 csV (w7.setCell ⟨g12, 1, none⟩ (.slice A7 (no + 1) c7)) B6 (.slice A7 (no + 1) c7) (((vs.set (i + 1) X).take (j + 1)).eraseIdx i)) := Lib.hid (by
                      rw [HTK.out]
                      exact ho7.keep fun g hg => hk8 g (by have := (ho7.lt hg).2; have := HG12.out; omega))
                    have ZPT : Hid (∀ g cur, Blk W6 g 27 cur → (w7.setCell ⟨g12, 1, none⟩ (.slice A7 (no + 1) c7)).heap[g]? = W6.heap[g]?) := Lib.hid (fun g cur hg => by
                      have h1 := HPT.out g cur hg
                      have h2 : Blk wx g 27 cur := h1.trans hg
                      have h3 := hPT g cur h2
                      have h4 : Blk w7 g 27 cur := h3.trans h2
                      exact (hk8 g (Blk.ne_ h4 Y12 (by decide))).trans (h3.trans h1))
                    have ZL : Hid (Below w.heap.size w (w7.setCell ⟨g12, 1, none⟩ (.slice A7 (no + 1) c7))) := Lib.hid ((LWR.out.drew.trans ((hb7.mono (by have := HG12.out; omega)) : Below w.heap.size wx.drew w7)).setCell (p := ⟨g12, 1, none⟩) (by show w.heap.size ≤ g12; have := HG12.out; omega) _)
                    have ZB : Hid (B6 ≤ (w7.setCell ⟨g12, 1, none⟩ (.slice A7 (no + 1) c7)).heap.size) := Lib.hid (by have := HBX.out; have h9 : wx.heap.size ≤ w7.heap.size := hsz7; simp [World.setCell]; omega)
                    clear hl7 hnO hRL hPT Y7 Y4 Y12 hgs hcellgs hk8 ho7 hb7 hsz7 hkp7
                    refine ⟨fun _ => HS2.out, ?_⟩
                    refine takeG 9 (.fieldAddr 25 (.tmp 12) 1) (some 116) none (.pointer (some ⟨g12, 1, none⟩)) (by kernel_rfl) (by kernel_rfl) (by kernel_rfl) (fun _ _ _ h => h) (fun o' wq e hS => exec_field (u := .pointer (some ⟨g12, 0, none⟩)) wq e (by kernel_rfl) (by kernel_rfl)) HS2.out ?_
                    refine lastStore 10 22 (.tmp 116) (.tmp 115) (.pointer (some ⟨g12, 1, none⟩)) (.slice A7 (no + 1) c7) _ (by kernel_rfl) (by kernel_rfl) (by kernel_rfl) rfl (by kernel_rfl) (by kernel_rfl) (store_one size_slr rfl rfl (by rw [HYY.out.2.cell 1]; rfl) (HYY.out.2.frozen 1) (by rw [add_plain])) ?_
                    simp only [put_some, put_none, List.setIfInBounds_toArray, List.set_cons_succ, List.set_cons_zero]
                    clear HS
                    go_wp2_with fail
                    go_roundw
                    case rel => exact ⟨j + 1, A7, no + 1, c7, by omega, by go_num, Z7, Z4, Z12, ZC, ZO, Lib.hid (by rw [HTK.out, List.length_append, HNO.out]; rfl), ZPT, ZL, ZB⟩
                    case measure => simp [intOf]; omega
                  · have hne1 : ((j : Int) == (i : Int) + 1) = false := by simp; omega
                    obtain ⟨wx, hwx⟩ : ∃ wx, wx = wr := ⟨_, rfl⟩
                    subst hwx
                    obtain ⟨vc, hvc⟩ : ∃ vc, vc = (if i + 1 < j then vs.set (i + 1) X else vs) := ⟨_, rfl⟩
                    rw [← hvc] at HVC
                    have hvcy : vc[j]? = some y := by
                      rw [hvc]
                      split
                      · exact hyj
                      · rw [List.getElem?_set_ne (by omega)] at hyj; exact hyj
                    have HIFX : Hid ((if i + 1 < j + 1 then vs.set (i + 1) X else vs) = vc) := Lib.hid (by
                      rw [hvc]
                      by_cases h : i + 1 < j
                      · rw [if_pos h, if_pos (by omega)]
                      · rw [if_neg h, if_neg (by omega)])
                    have hcl : ∀ q u, (csV y)[q]? = some u → wx.cell? ⟨gs, j * 2 + q, none⟩ = some u := fun q u hu => by
                      obtain ⟨g', cs', ev, _, _, hcl⟩ := own_at HVC.out (fun _ => rfl) (fun e => by rw [e] at hvcy; simp at hvcy)
                      injection ev with ev
                      injection ev with ev
                      injection ev with ev
                      subst ev
                      exact hcl j y hvcy q u hu
                    have HS : Hid (Blk wx.drew r7 25 #[.int .i64 bs, .slice (some ⟨gs, 0, none⟩) n c1, .slice A5 m c5] ∧ Blk wx.drew g12 25 #[.int .i64 bs, .slice Ao no co, .slice A5 m c5] ∧ (wx.drew.cell? ⟨gs, 0 + j * 2, none⟩ = some (.int .i64 y.txg) ∧ wx.drew.cell? ⟨gs, 0 + j * 2 + 1, none⟩ = some (.slice y.A y.n y.c))) := Lib.hid ⟨HX7.out, HX12.out, by rw [Nat.zero_add]; exact hcl 0 _ rfl, by rw [Nat.zero_add]; exact hcl 1 _ rfl⟩
                    clear hyj hvl hvc hvcy hcl
                    go_upto_region 24 with (fail)
                    clear q1 hne1 hne2
                    refine region_anyZ (fun w' => Blk w' r7 25 #[.int .i64 bs, .slice (some ⟨gs, 0, none⟩) n c1, .slice A5 m c5] ∧ Blk w' g12 25 #[.int .i64 bs, .slice Ao no co, .slice A5 m c5] ∧ (w'.cell? ⟨gs, 0 + j * 2, none⟩ = some (.int .i64 y.txg) ∧ w'.cell? ⟨gs, 0 + j * 2 + 1, none⟩ = some (.slice y.A y.n y.c))) 10 (by kernel_rfl) ?_
                    refine takeG 0 (.fieldAddr 25 (.tmp 12) 1) (some 107) none (.pointer (some ⟨g12, 1, none⟩)) (by kernel_rfl) (by kernel_rfl) (by kernel_rfl) (fun _ _ _ h => h) (fun o' wq e hS => exec_field (u := .pointer (some ⟨g12, 0, none⟩)) wq e (by kernel_rfl) (by kernel_rfl)) HS.out ?_
                    refine takeG 1 (.load 22 (.tmp 107)) (some 108) none (.slice Ao no co) (by kernel_rfl) (by kernel_rfl) (by kernel_rfl) (fun _ _ _ h => h) (fun o' wq e hS => exec_load (x := (.tmp 107)) e (by kernel_rfl) (load_one Try.underlying22 (by kernel_rfl) (hS.2.1.cell 1))) HS.out ?_
                    refine takeG 2 (.fieldAddr 25 (.tmp 7) 1) (some 109) none (.pointer (some ⟨r7, 1, none⟩)) (by kernel_rfl) (by kernel_rfl) (by kernel_rfl) (fun _ _ _ h => h) (fun o' wq e hS => exec_field (u := .pointer (some ⟨r7, 0, none⟩)) wq e (by kernel_rfl) (by kernel_rfl)) HS.out ?_
                    refine takeG 3 (.load 22 (.tmp 109)) (some 110) none (.slice (some ⟨gs, 0, none⟩) n c1) (by kernel_rfl) (by kernel_rfl) (by kernel_rfl) (fun _ _ _ h => h) (fun o' wq e hS => exec_load (x := (.tmp 109)) e (by kernel_rfl) (load_one Try.underlying22 (by kernel_rfl) (hS.1.cell 1))) HS.out ?_
                    refine takeG 4 (.move (.tmp 13)) (some 111) none (.int .i64 (j : Int)) (by kernel_rfl) (by kernel_rfl) (by kernel_rfl) (fun _ _ _ h => h) (fun o' wq e hS => exec_move wq e (by kernel_rfl)) HS.out ?_
                    refine takeG 5 (.indexAddr 22 (.tmp 110) (.tmp 111)) (some 112) none (.pointer (some ⟨gs, 0 + j * 2, none⟩)) (by kernel_rfl) (by kernel_rfl) (by kernel_rfl) (fun _ _ _ h => h) (fun o' wq e hS => exec_index (u1 := .slice (some ⟨gs, 0, none⟩) n c1) (u2 := .int .i64 (j : Int)) wq e (by kernel_rfl) (by kernel_rfl) (index_rsn gs 0 n c1 j hlt _)) HS.out ?_
                    refine takeG 6 (.load 72 (.tmp 112)) (some 113) none (.agg #[.int .i64 y.txg, .slice y.A y.n y.c]) (by kernel_rfl) (by kernel_rfl) (by kernel_rfl) (fun _ _ _ h => h) (fun o' wq e hS => exec_load (x := (.tmp 112)) e (by kernel_rfl) (load_rsn hS.2.2)) HS.out ?_
                    refine loneG 7 (.buildSlice 22 1 #[(0, (.tmp 113))]) (some 114) none (by kernel_rfl) (by kernel_rfl) (by kernel_rfl) ?_
                    intro o' ho hod
                    refine wp_val (exec_buildSlice1 ho (by kernel_rfl) (bs_rs y.txg y.A y.n y.c _)) ?_
                    rw [hod]
                    clear hod ho
                    have HS1 : Hid (Blk (wx.drew.alloc (.cells #[.int .i64 y.txg, .slice y.A y.n y.c] 72)) r7 25 #[.int .i64 bs, .slice (some ⟨gs, 0, none⟩) n c1, .slice A5 m c5] ∧ Blk (wx.drew.alloc (.cells #[.int .i64 y.txg, .slice y.A y.n y.c] 72)) g12 25 #[.int .i64 bs, .slice Ao no co, .slice A5 m c5] ∧ ((wx.drew.alloc (.cells #[.int .i64 y.txg, .slice y.A y.n y.c] 72)).cell? ⟨gs, 0 + j * 2, none⟩ = some (.int .i64 y.txg) ∧ (wx.drew.alloc (.cells #[.int .i64 y.txg, .slice y.A y.n y.c] 72)).cell? ⟨gs, 0 + j * 2 + 1, none⟩ = some (.slice y.A y.n y.c))) := Lib.hid ⟨HS.out.1.alloc _, HS.out.2.1.alloc _, Lib.cell?_alloc_some _ HS.out.2.2.1, Lib.cell?_alloc_some _ HS.out.2.2.2⟩
                    refine ⟨fun _ => HS1.out, ?_⟩
                    refine loneG 8 (.call ⟨.builtin .append, #[(.tmp 108), (.tmp 114)], #[22, 22]⟩) (some 115) none (by kernel_rfl) (by kernel_rfl) (by kernel_rfl) ?_
                    intro o' ho hod
                    obtain ⟨v7, w7, hrun, ho7, hb7, hsz7, hkp7⟩ := append_sv (TS := 22) (w := wx.drew) Try.underlying22 info_rs HVO.out y HVL.out HBX.out o'.type
                    refine Gr.wp_append 22 (.tmp 108) (.tmp 114) ho (by kernel_rfl) (by kernel_rfl) hrun ?_
                    rw [hod]
                    clear hod ho hrun
                    obtain ⟨A7, c7, hv7, _, _, _, _, _⟩ := ho7.shape (fun _ => rfl)
                    have hl7 : (((vs.set (i + 1) X).take j).eraseIdx i ++ [y]).length = no + 1 := by rw [List.length_append, HNO.out]; rfl
                    rw [hl7] at hv7
                    subst hv7
                    have hnO : (Value.slice Ao no co).ownBlock ≠ some gs := fun e => by have h1 := (HVO.out.lt e).2; have h2 := HG12.out; omega
                    have hRL : ∀ g cur, Blk wx g 25 cur → w7.heap[g]? = wx.heap[g]? := fun g cur hg => hkp7 g hg.lt fun e => by
                      obtain ⟨cu, h1⟩ := HVO.out.blk_of e
                      exact (Blk.ne_ h1 hg (by decide)) rfl
                    have hPT : ∀ g cur, Blk wx g 27 cur → w7.heap[g]? = wx.heap[g]? := fun g cur hg => hkp7 g hg.lt fun e => by
                      obtain ⟨cu, h1⟩ := HVO.out.blk_of e
                      exact (Blk.ne_ h1 hg (by decide)) rfl
                    have Y7 := (hRL r7 _ HX7.out).trans HX7.out
                    have Y4 := (hRL r4 _ HX4.out).trans HX4.out
                    have Y12 := (hRL g12 _ HX12.out).trans HX12.out
                    have HYY := Lib.hid (⟨Y7, Y12⟩ : Blk w7 r7 25 _ ∧ Blk w7 g12 25 _)
                    have hgs : w7.heap[gs]? = wx.heap[gs]? := hkp7 gs (by have := HG12.out; have h9 : B6 ≤ wx.drew.heap.size := HBX.out; omega) hnO
                    have hcellgs : ∀ o, w7.cell? ⟨gs, o, none⟩ = wx.cell? ⟨gs, o, none⟩ := fun o => by unfold World.cell?; rw [hgs]
                    have HS2 : Hid (Blk w7 r7 25 #[.int .i64 bs, .slice (some ⟨gs, 0, none⟩) n c1, .slice A5 m c5] ∧ Blk w7 g12 25 #[.int .i64 bs, .slice Ao no co, .slice A5 m c5] ∧ (w7.cell? ⟨gs, 0 + j * 2, none⟩ = some (.int .i64 y.txg) ∧ w7.cell? ⟨gs, 0 + j * 2 + 1, none⟩ = some (.slice y.A y.n y.c))) := Lib.hid ⟨Y7, Y12, (hcellgs _).trans HS.out.2.2.1, (hcellgs _).trans HS.out.2.2.2⟩
                    have hk8 : ∀ g, g ≠ g12 → (w7.setCell ⟨g12, 1, none⟩ (.slice A7 (no + 1) c7)).heap[g]? = w7.heap[g]? := fun g hg => Below.heap_setCell _ _ _ g hg
                    have Z7 : Hid (Blk (w7.setCell ⟨g12, 1, none⟩ (.slice A7 (no + 1) c7)) r7 25 #[.int .i64 bs, .slice (some ⟨gs, 0, none⟩) n c1, .slice A5 m c5]) := Lib.hid ((hk8 r7 (by have := HG12.out; omega)).trans Y7)
                    have Z4 : Hid (Blk (w7.setCell ⟨g12, 1, none⟩ (.slice A7 (no + 1) c7)) r4 25 #[.int .i64 0, .slice none 0 0, .slice none 0 0]) := Lib.hid ((hk8 r4 (by have := HG12.out; omega)).trans Y4)
                    have Z12 : Hid (Blk (w7.setCell ⟨g12, 1, none⟩ (.slice A7 (no + 1) c7)) g12 25 #[.int .i64 bs, .slice A7 (no + 1) c7, .slice A5 m c5]) := Lib.hid (Blk.set_ Y12 1 _)
                    have ZC : Hid (Gr.OwnG 72 2 csV (w7.setCell ⟨g12, 1, none⟩ (.slice A7 (no + 1) c7)) B2 (.slice (some ⟨gs, 0, none⟩) n c1) (if i + 1 < j + 1 then vs.set (i + 1) X else vs)) := Lib.hid (by
                      rw [HIFX.out]
                      exact HVC.out.keep fun g hg => by
                        have e : g = gs := by injection hg with hg; exact hg.symm
                        rw [e]
                        exact (hk8 gs (by have := HG12.out; have := HGS.out; omega)).trans hgs)
                    have ZO : Hid (Gr.OwnG 72 2 csV (w7.setCell ⟨g12, 1, none⟩ (.slice A7 (no + 1) c7)) B6 (.slice A7 (no + 1) c7) (((vs.set (i + 1) X).take (j + 1)).eraseIdx i)) := Lib.hid (by
                      rw [HTK.out]
                      exact ho7.keep fun g hg => hk8 g (by have := (ho7.lt hg).2; have := HG12.out; omega))
                    have ZPT : Hid (∀ g cur, Blk W6 g 27 cur → (w7.setCell ⟨g12, 1, none⟩ (.slice A7 (no + 1) c7)).heap[g]? = W6.heap[g]?) := Lib.hid (fun g cur hg => by
                      have h1 := HPT.out g cur hg
                      have h2 : Blk wx g 27 cur := h1.trans hg
                      have h3 := hPT g cur h2
                      have h4 : Blk w7 g 27 cur := h3.trans h2
                      exact (hk8 g (Blk.ne_ h4 Y12 (by decide))).trans (h3.trans h1))
                    have ZL : Hid (Below w.heap.size w (w7.setCell ⟨g12, 1, none⟩ (.slice A7 (no + 1) c7))) := Lib.hid ((LWR.out.drew.trans ((hb7.mono (by have := HG12.out; omega)) : Below w.heap.size wx.drew w7)).setCell (p := ⟨g12, 1, none⟩) (by show w.heap.size ≤ g12; have := HG12.out; omega) _)
                    have ZB : Hid (B6 ≤ (w7.setCell ⟨g12, 1, none⟩ (.slice A7 (no + 1) c7)).heap.size) := Lib.hid (by have := HBX.out; have h9 : wx.heap.size ≤ w7.heap.size := hsz7; simp [World.setCell]; omega)
                    clear hl7 hnO hRL hPT Y7 Y4 Y12 hgs hcellgs hk8 ho7 hb7 hsz7 hkp7
                    refine ⟨fun _ => HS2.out, ?_⟩
                    refine takeG 9 (.fieldAddr 25 (.tmp 12) 1) (some 116) none (.pointer (some ⟨g12, 1, none⟩)) (by kernel_rfl) (by kernel_rfl) (by kernel_rfl) (fun _ _ _ h => h) (fun o' wq e hS => exec_field (u := .pointer (some ⟨g12, 0, none⟩)) wq e (by kernel_rfl) (by kernel_rfl)) HS2.out ?_
                    refine lastStore 10 22 (.tmp 116) (.tmp 115) (.pointer (some ⟨g12, 1, none⟩)) (.slice A7 (no + 1) c7) _ (by kernel_rfl) (by kernel_rfl) (by kernel_rfl) rfl (by kernel_rfl) (by kernel_rfl) (store_one size_slr rfl rfl (by rw [HYY.out.2.cell 1]; rfl) (HYY.out.2.frozen 1) (by rw [add_plain])) ?_
                    simp only [put_some, put_none, List.setIfInBounds_toArray, List.set_cons_succ, List.set_cons_zero]
                    clear HS
                    go_wp2_with fail
                    go_roundw
                    case rel => exact ⟨j + 1, A7, no + 1, c7, by omega, by go_num, Z7, Z4, Z12, ZC, ZO, Lib.hid (by rw [HTK.out, List.length_append, HNO.out]; rfl), ZPT, ZL, ZB⟩
                    case measure => simp [intOf]; omega
              · obtain rfl : j = n := by omega
                have i1 : ¬ ((j : Int) < (j : Int)) := by omega
                have hvl : vs.length = j := by rw [HO6.out.oH.1, ← HN.out]
                have q0 : wr.cell? ⟨g12, 0, none⟩ = some (.int .i64 bs) := HX12.out.cell 0
                have q1' : wr.cell? ⟨g12, 1, none⟩ = some (.slice Ao no co) := HX12.out.cell 1
                have q2' : wr.cell? ⟨g12, 2, none⟩ = some (.slice A5 m c5) := HX12.out.cell 2
                have hlast : ((i : Int) == (j : Int) - 1) = false := by simp; have := HIN.out; omega
                have p0 : wr.cell? ⟨r4, 0, none⟩ = some (.int .i64 0) := HX4.out.cell 0
                have p1 : wr.cell? ⟨r4, 1, none⟩ = some (.slice none 0 0) := HX4.out.cell 1
                have p2 : wr.cell? ⟨r4, 2, none⟩ = some (.slice none 0 0) := HX4.out.cell 2
                have pf0 : wr.frozen? ⟨r4, 0, none⟩ = false := HX4.out.frozen 0
                have pf1 : wr.frozen? ⟨r4, 1, none⟩ = false := HX4.out.frozen 1
                have pf2 : wr.frozen? ⟨r4, 2, none⟩ = false := HX4.out.frozen 2
                have HWF := Lib.hid (rfl : wr = wr)
                obtain ⟨wf, hwf⟩ : ∃ wf, wf = wr := ⟨_, rfl⟩
                subst hwf
                have HX12F := HX12
                go_wp2_with fail
                have T5 := ((HX4.out.set_ 0 (.int .i64 bs)).set_ 1 (.slice Ao no co)).set_ 2 (.slice A5 m c5)
                refine bodyPost_ret (results_cell3 rfl rfl (loadVar_blk T5 Try.underlying25 rfl size_rln) rfl rfl) rfl ?_
                obtain ⟨we, hwe⟩ : ∃ we, we = ((wf.setCell ⟨r4, 0, none⟩ (.int .i64 bs)).setCell ⟨r4, 1, none⟩ (.slice Ao no co)).setCell ⟨r4, 2, none⟩ (.slice A5 m c5) := ⟨_, rfl⟩
                have hk6 : ∀ g, g ≠ r4 → we.heap[g]? = wf.heap[g]? := fun g hg => by
                  rw [hwe]
                  exact ((Below.heap_setCell _ ⟨r4, 2, none⟩ _ g hg).trans (Below.heap_setCell _ ⟨r4, 1, none⟩ _ g hg)).trans (Below.heap_setCell _ ⟨r4, 0, none⟩ _ g hg)
                have hr4' : w.heap.size ≤ r4 := by have := HE.out; omega
                have LFIN : Hid (Below w.heap.size w we) := Lib.hid (by rw [hwe]; exact ((LWR.out.setCell (p := ⟨r4, 0, none⟩) hr4' _).setCell (p := ⟨r4, 1, none⟩) hr4' _).setCell (p := ⟨r4, 2, none⟩) hr4' _)
                have hpte : ∀ g cur, Blk W6 g 27 cur → we.heap[g]? = W6.heap[g]? := fun g cur hg => by
                  have h1 := HPT.out g cur hg
                  have h2 : Blk wf g 27 cur := h1.trans hg
                  exact (hk6 g (Blk.ne_ h2 HX4.out (by decide))).trans h1
                have keepP : ∀ {b : Nat} {v : Value} {D : List Pt}, OwnP W6 b v D → OwnP we b v D := fun h => h.keep fun g hg => by obtain ⟨cu, h1⟩ := h.blk_of hg; exact hpte g cu h1
                have hvoe : Gr.OwnG 72 2 csV we B6 (.slice Ao no co) ((vs.set (i + 1) X).eraseIdx i) := by
                  have h1 : (vs.set (i + 1) X).take j = vs.set (i + 1) X := List.take_of_length_le (by rw [List.length_set]; omega)
                  have h2 := HVO.out
                  rw [h1] at h2
                  exact h2.keep fun g hg => hk6 g (by have := (h2.lt hg).2; have := HG12.out; omega)
                have hK := HKK6.out.1
                have hhold : Holds we ((vs.set (i + 1) X).eraseIdx i) ((L.snaps.set (i + 1) ⟨tx, s.dead ++ olderL t s1.dead⟩).eraseIdx i) := by
                  refine ⟨by rw [List.length_eraseIdx, List.length_eraseIdx, List.length_set, List.length_set, HO6.out.oH.1], fun q s' hs' => ?_⟩
                  rw [get_erase] at hs' ⊢
                  have hq := up_ne i q
                  revert hs' hq
                  generalize up i q = q'
                  intro hs' hq
                  by_cases e : q' = i + 1
                  · subst e
                    have hlt' : i + 1 < L.snaps.length := by have := (List.getElem?_eq_some_iff.1 hs').1; rw [List.length_set] at this; exact this
                    rw [List.getElem?_set_self hlt'] at hs'
                    injection hs' with hs'
                    subst hs'
                    refine ⟨X, List.getElem?_set_self (by rw [HO6.out.oH.1]; exact hlt'), by rw [HXE.out], by rw [HXE.out]; exact HN9.out, ?_⟩
                    rw [HXE.out]
                    exact rdp_of (keepP hK)
                  · rw [List.getElem?_set_ne (fun e' => e e'.symm)] at hs' ⊢
                    obtain ⟨x', e1, e2, e3, e4⟩ := HO6.out.oH.2 q' s' hs'
                    exact ⟨x', e1, e2, e3, rdp_of (keepP e4)⟩
                have HLS : Hid (((L.snaps.set (i + 1) ⟨tx, s.dead ++ olderL t s1.dead⟩).eraseIdx i).length = no) := Lib.hid (by
                  obtain ⟨A8, c8, e8, _⟩ := hvoe.shape (fun _ => rfl)
                  injection e8 with _ e8
                  rw [e8, hhold.1])
                have HRS : Hid (RdS we Ao ((L.snaps.set (i + 1) ⟨tx, s.dead ++ olderL t s1.dead⟩).eraseIdx i) ∧ (Ao = none → co = 0)) := Lib.hid ⟨rds_of hvoe hhold, by
                  obtain ⟨A8, c8, e8, _, _, _, e9, _⟩ := hvoe.shape (fun _ => rfl)
                  injection e8 with e8 _ e10
                  subst e8 e10
                  exact e9⟩
                have HFREE : Hid (OwnP we w.heap.size (.slice A10 n10 c10) (laterL t s1.dead)) := Lib.hid (own_base (keepP HKK6.out.2) (by have := HB4.out; have := HE.out; have := HB3E2.out; omega))
                have HRDD : Hid (RdP we A5 L.dead ∧ (A5 = none → c5 = 0)) := Lib.hid (rdp_of (keepP (show OwnP W6 B2 (.slice A5 L.dead.length c5) L.dead from HO6.out.oD)))
                have hKE : keepL L i = s.dead ++ olderL t s1.dead := by rw [keepL_eq HSI.out.1, HNXT.out, ← HTT.out]
                rw [← hwe]
                rw [← HTT.out] at HQ
                rw [HQ.out, HDES.out, HNXT.out, hKE]
                refine ⟨_, _, rfl, ?_, HFREE.out, LFIN.out⟩
                have hb : L.base = bs := HBS.out.symm
                show RdLn _ _ ⟨L.base, (L.snaps.set (i + 1) ⟨s1.txg, s.dead ++ olderL t s1.dead⟩).eraseIdx i, L.dead⟩
                rw [hb]
                have hls : ((L.snaps.set (i + 1) ⟨s1.txg, s.dead ++ olderL t s1.dead⟩).eraseIdx i).length = no := by rw [← HTX.out]; exact HLS.out
                have hrs := HRS.out
                rw [HTX.out] at hrs
                exact ⟨Ao, co, A5, c5, by rw [hls, ← HM.out]; rfl, hrs.1, HRDD.out.1, hrs.2, HRDD.out.2⟩
      · have HIN := Lib.hid hmid
        have hs1 : L.snaps[i + 1]? = none := List.getElem?_eq_none (by have := HN.out; omega)
        have HNX : Hid (m = L.dead.length ∧ L.dead.length * 40 ≤ room ∧ OwnP W4 B2 (.slice A5 m c5) L.dead) := Lib.hid ⟨HM.out, HF.out.rd, by rw [HM.out]; exact HO4.out.oD⟩
        have HNXT : Hid (nextL L i = L.dead) := Lib.hid (nextL_last hs1)
        have HDES : Hid (∀ K, desL L i K = ⟨L.base, L.snaps.eraseIdx i, K⟩) := Lib.hid fun K => desL_last hs1
        have HS1N := Lib.hid hs1
        obtain ⟨tx, htx⟩ : ∃ tx : Int, tx = 0 := ⟨_, rfl⟩
        have HTX := Lib.hid htx
        have hq0 : W4.cell? ⟨r7, 0, none⟩ = some (.int .i64 bs) := HZ4.out.2.1.cell 0
        have hq1 : W4.cell? ⟨r7, 1, none⟩ = some (.slice (some ⟨gs, 0, none⟩) n c1) := HZ4.out.2.1.cell 1
        have hq2 : W4.cell? ⟨r7, 2, none⟩ = some (.slice A5 m c5) := HZ4.out.2.1.cell 2
        have hin : ¬ (i : Int) < (n : Int) - 1 := by omega
        clear hs1 htx
        go_upto_region 9 with (fail)
        clear hq0 hq1 hq2 hin
        obtain ⟨Wn, hWn⟩ : ∃ Wn, Wn = W4.alloc (.cells #[] 27) := ⟨_, rfl⟩
        have hbn : Below W4.heap.size W4 Wn := by rw [hWn]; exact (Below.refl _ _).alloc (Nat.le_refl _) _
        have HOE : Hid (OwnP (W4.alloc (.cells #[] 27)) B3 (.slice (some ⟨W4.heap.size, 0, none⟩) 0 0) []) := Lib.hid (by rw [HB3E.out]; exact own_empty W4)
        have n7 := (HZ4.out.2.1.below hbn HZ4.out.2.1.lt)
        have nO := HO4.out.below hbn (Nat.le_refl _)
        have nX := HCX.out Wn nO
        have HRX := Lib.hid (rdp_of (HROW.out Wn c1 nO))
        have HSL := Lib.hid ((HROW.out Wn c1 nO).slen)
        have hbn2 := HB3E.out
        rw [hWn] at n7 nX HRX hbn
        have e7 : (W4.alloc (.cells #[] 27)).cell? ⟨r7, 1, none⟩ = some (.slice (some ⟨gs, 0, none⟩) n c1) := n7.cell 1
        have eX : (W4.alloc (.cells #[] 27)).cell? ⟨gs, i * 2 + 1, none⟩ = some (.slice xA xn xc) := nX
        have HBY0 : Hid ((([] : List Pt).length + s.dead.length) * 40 ≤ 140737488355328) := Lib.hid (by have := HF.out.rp s (List.mem_of_getElem? HSI.out.1); unfold room at this; simp; omega)
        have HBZ0 : Hid (B3 ≤ (W4.alloc (.cells #[] 27)).heap.size) := Lib.hid (by rw [HB3E.out]; exact hbn.size)
        have HBN := Lib.hid hbn
        clear n7 nO nX hbn hWn hbn2
        go_wp2_with (at_builtin; refine wpList_appP (v := .slice (some ⟨W4.heap.size, 0, none⟩) 0 0) (A := xA) (n := xn) (c := xc) s.dead rfl (.tmp 45) (.tmp 51) rfl rfl rfl HOE.out HSL.out HRX.out.1 HRX.out.2 HBY0.out HBZ0.out ?_; intro vK WK oK bK cK; refine of_hid ?_)
        refine Lib.hid ?_
        rw [List.nil_append] at oK
        have HK9 : Hid (OwnP WK B3 vK (s.dead ++ olderL t (L.dead.take 0))) := Lib.hid (by rw [show s.dead ++ olderL t (L.dead.take 0) = s.dead by simp [olderL]]; exact oK)
        have HK10 : Hid (OwnP WK B3 (.slice none 0 0) (laterL t (L.dead.take 0))) := Lib.hid (Gr.OwnG.nil _ _)
        have HAP : Hid (∀ g, vK.ownBlock = some g → (Value.slice none 0 0).ownBlock ≠ some g) := Lib.hid fun g _ h => by cases h
        have LWX : Hid (Below B3 W4 WK) := Lib.hid (by have h1 := HBN.out; rw [← HB3E.out] at h1; exact h1.trans bK)
        clear e7 eX HBY0 HBZ0 HOE HRX HSL oK bK cK HBN
        have hnnb : m ≤ 4194304 := by have h4 := HSM.out.next i; rw [HNXT.out] at h4; have := HNX.out.1; omega
        go_wp2_with fail
        go_loopw [11, 9, 10] (fun y s9 s10 wr => ∃ j : Nat, j ≤ m ∧ y = .int .i64 (j : Int) ∧ Hid (OwnP wr B3 s9 (s.dead ++ olderL t (L.dead.take j))) ∧ Hid (OwnP wr B3 s10 (laterL t (L.dead.take j))) ∧ Hid (∀ g, s9.ownBlock = some g → s10.ownBlock ≠ some g) ∧ Hid (Below B3 W4 wr)) (fun y _ _ _ => m - (intOf y).toNat)
        case atStart => exact ⟨0, by omega, rfl, HK9, HK10, HAP, LWX⟩
        case round =>
          clear HK9 HK10 HAP LWX
          obtain ⟨j, hj, rfl, HK9, HK10, HAP, LWX⟩ := hrel
          have LWR : Hid (Below w.heap.size w wr) := Lib.hid (HZ4.out.2.2.trans (LWX.out.mono (by have := HB4.out; have := HB3E2.out; omega)))
          by_cases hlt : j < m
          · have i1 : (j : Int) < (m : Int) := by omega
            have hjl : j < L.dead.length := by have := HNX.out.1; omega
            obtain ⟨p, hp⟩ : ∃ p, p = L.dead[j] := ⟨_, rfl⟩
            have hpi : L.dead[j]? = some p := by rw [hp]; exact List.getElem?_eq_getElem hjl
            have hstep : L.dead.take (j + 1) = L.dead.take j ++ [p] := by rw [List.take_succ_eq_append_getElem hjl, hp]
            have hbl : Below W4.heap.size W4 wr := by have h1 := LWX.out; rw [HB3E.out] at h1; exact h1
            obtain ⟨gX, oX, hA, hgb, kk⟩ := ((rdp_of HNX.out.2.2).1.below hbl) j p hpi
            have HCL1 : Hid (wr.cell? ⟨gX, oX + j * 4, none⟩ = some (.int .i64 p.addr) ∧ wr.cell? ⟨gX, oX + j * 4 + 1, none⟩ = some (.int .i64 p.size) ∧ wr.cell? ⟨gX, oX + j * 4 + 2, none⟩ = some (.int .i64 p.birth) ∧ wr.cell? ⟨gX, oX + j * 4 + 3, none⟩ = some (.string p.sum)) := Lib.hid ⟨kk 0 (.int .i64 p.addr) rfl, kk 1 (.int .i64 p.size) rfl, kk 2 (.int .i64 p.birth) rfl, kk 3 (.string p.sum) rfl⟩
            have HGX : Hid (gX < wr.heap.size) := Lib.hid hgb
            have HS : Hid (Blk wr.drew r0 25 #[.int .i64 bs, .slice A n c, .slice A' m c'] ∧ wr.drew.cell? ⟨gX, oX + j * 4 + 2, none⟩ = some (.int .i64 p.birth)) := Lib.hid ⟨HZ0.out.below hbl.drew HZ0.out.lt, HCL1.out.2.2.1⟩
            have HLEN : Hid ((s.dead ++ olderL t (L.dead.take j)).length ≤ 8388609 ∧ (laterL t (L.dead.take j)).length ≤ 8388609) := Lib.hid (by
              have h1 : (olderL t (L.dead.take j)).length ≤ (L.dead.take j).length := older_len _ _
              have h2 : (laterL t (L.dead.take j)).length ≤ (L.dead.take j).length := List.length_filter_le _ _
              rw [List.length_take] at h1 h2
              have h3 := HSM.out.2.2 s (List.mem_of_getElem? HSI.out.1)
              have h4 := HSM.out.next i
              rw [HNXT.out] at h4
              rw [List.length_append]
              omega)
            subst hA
            clear hpi hp hjl kk hbl hgb
            by_cases hz : t < p.birth
            · go_upto_region 14 with (fail)
              have e1 : decide (t < p.birth) = true := by simp [hz]
              have hof : olderL t (L.dead.take (j + 1)) = olderL t (L.dead.take j) := by rw [hstep, older_app, if_neg (by omega), List.append_nil]
              have hlf : laterL t (L.dead.take (j + 1)) = laterL t (L.dead.take j) ++ [p] := by rw [hstep, later_app, if_pos (by omega)]
              have HOF := Lib.hid (⟨hof, hlf⟩ : _ ∧ _)
              clear hof hlf hz
              refine region_anyZ (fun w' => Blk w' r0 25 #[.int .i64 bs, .slice A n c, .slice A' m c'] ∧ w'.cell? ⟨gX, oX + j * 4 + 2, none⟩ = some (.int .i64 p.birth)) 9 (by kernel_rfl) ?_
              refine takeG 0 (.move (.tmp 8)) (some 59) none (.slice (some ⟨gX, oX, none⟩) m c5) (by kernel_rfl) (by kernel_rfl) (by kernel_rfl) (fun _ _ _ h => h) (fun o' wq e hS => exec_move wq e (by kernel_rfl)) HS.out ?_
              refine takeG 1 (.move (.tmp 11)) (some 60) none (.int .i64 (j : Int)) (by kernel_rfl) (by kernel_rfl) (by kernel_rfl) (fun _ _ _ h => h) (fun o' wq e hS => exec_move wq e (by kernel_rfl)) HS.out ?_
              refine takeG 2 (.indexAddr 23 (.tmp 59) (.tmp 60)) (some 61) none (.pointer (some ⟨gX, oX + j * 4, none⟩)) (by kernel_rfl) (by kernel_rfl) (by kernel_rfl) (fun _ _ _ h => h) (fun o' wq e hS => exec_index (u1 := .slice (some ⟨gX, oX, none⟩) m c5) (u2 := .int .i64 (j : Int)) wq e (by kernel_rfl) (by kernel_rfl) (index_pt gX oX m c5 j hlt _)) HS.out ?_
              refine takeG 3 (.fieldAddr 27 (.tmp 61) 2) (some 62) none (.pointer (some ⟨gX, oX + j * 4 + 2, none⟩)) (by kernel_rfl) (by kernel_rfl) (by kernel_rfl) (fun _ _ _ h => h) (fun o' wq e hS => exec_field (u := .pointer (some ⟨gX, oX + j * 4, none⟩)) wq e (by kernel_rfl) (by kernel_rfl)) HS.out ?_
              refine takeG 4 (.load 3 (.tmp 62)) (some 63) none (.int .i64 p.birth) (by kernel_rfl) (by kernel_rfl) (by kernel_rfl) (fun _ _ _ h => h) (fun o' wq e hS => exec_load (x := (.tmp 62)) e (by kernel_rfl) (load_one Try.underlying3 (by kernel_rfl) hS.2)) HS.out ?_
              refine takeG 5 (.load 25 (.tmp 2)) (some 64) none (.agg #[.int .i64 bs, .slice A n c, .slice A' m c']) (by kernel_rfl) (by kernel_rfl) (by kernel_rfl) (fun _ _ _ h => h) (fun o' wq e hS => exec_load (x := (.tmp 2)) e (by kernel_rfl) (load_rln hS.1)) HS.out ?_
              refine takeG 6 (.move (.tmp 1)) (some 65) none (.int .i64 (i : Int)) (by kernel_rfl) (by kernel_rfl) (by kernel_rfl) (fun _ _ _ h => h) (fun o' wq e hS => exec_move wq e (by kernel_rfl)) HS.out ?_
              refine loneG 7 (.call ⟨.value (.func 27), #[(.tmp 64), (.tmp 65)], #[25, 3]⟩) (some 66) none (by kernel_rfl) (by kernel_rfl) (by kernel_rfl) ?_
              intro o' ho hod
              refine wp_callC (f := 27) (args := #[.agg #[.int .i64 bs, .slice A n c, .slice A' m c'], .int .i64 (i : Int)]) (by cases o'; cases ho; kernel_rfl) (HLA.out _ LWR.out.drew) ?_
              rintro ee w5 ⟨rfl, b5⟩
              rw [← HTT.out]
              have b5' : Below wr.heap.size wr w5 := (Below.refl wr.heap.size wr).drew.trans b5
              have HS5 := Lib.hid (⟨HS.out.1.below b5 HS.out.1.lt, (b5.cell (p := ⟨gX, oX + j * 4 + 2, none⟩) HGX.out).trans HS.out.2⟩ : _ ∧ _)
              have HB5 := Lib.hid b5'
              refine ⟨.int .i64 t, rfl, ?_⟩
              rw [hod]
              clear hod ho b5 b5'
              refine ⟨fun _ => HS5.out, ?_⟩
              refine lastS 8 (.binOp .gtr 3 (.tmp 63) (.tmp 66) 3) (some 67) (.bool true) (by kernel_rfl) (by kernel_rfl) (by kernel_rfl) HS5.out (fun o' e => exec_bin (u1 := .int .i64 p.birth) (u2 := .int .i64 t) _ e (by kernel_rfl) (by kernel_rfl) (eqG_int ..) (gtr_isK p.birth t _ e1 _)) ?_
              simp only [put_some, put_none, List.setIfInBounds_toArray, List.set_cons_succ, List.set_cons_zero]
              have hk5 : ∀ q u, wr.cell? ⟨gX, oX + j * 4 + q, none⟩ = some u → w5.cell? ⟨gX, oX + j * 4 + q, none⟩ = some u := fun q u h => (HB5.out.cell (p := ⟨gX, oX + j * 4 + q, none⟩) HGX.out).trans h
              have y0 : w5.cell? ⟨gX, oX + j * 4, none⟩ = some (.int .i64 p.addr) := hk5 0 _ HCL1.out.1
              have y1 : w5.cell? ⟨gX, oX + j * 4 + 1, none⟩ = some (.int .i64 p.size) := hk5 1 _ HCL1.out.2.1
              have y2 : w5.cell? ⟨gX, oX + j * 4 + 2, none⟩ = some (.int .i64 p.birth) := hk5 2 _ HCL1.out.2.2.1
              have y3 : w5.cell? ⟨gX, oX + j * 4 + 3, none⟩ = some (.string p.sum) := hk5 3 _ HCL1.out.2.2.2
              have hba : Below w5.heap.size w5 (w5.alloc (.cells #[.int .i64 p.addr, .int .i64 p.size, .int .i64 p.birth, .string p.sum] 27)) := (Below.refl _ _).alloc (Nat.le_refl _) _
              have HBA := Lib.hid hba
              have HOA := Lib.hid ((HK10.out.below HB5.out (Nat.le_refl _)).below hba (Nat.le_refl _))
              have HOB := Lib.hid ((HK9.out.below HB5.out (Nat.le_refl _)).below hba (Nat.le_refl _))
              have HP1 := Lib.hid (rd_one w5 p)
              have HBY : Hid (((laterL t (L.dead.take j)).length + [p].length) * 40 ≤ 140737488355328) := Lib.hid (by
                have h1 := HLEN.out
                have h2 : [p].length = 1 := rfl
                rw [h2]
                omega)
              have HBZ : Hid (B3 ≤ (w5.alloc (.cells #[.int .i64 p.addr, .int .i64 p.size, .int .i64 p.birth, .string p.sum] 27)).heap.size) := Lib.hid (by have h1 := LWX.out.size; have h2 := HB5.out.size; have h3 := HB3E.out; have h4 := hba.size; omega)
              clear hba hk5 HS
              go_wp2_with (at_builtin; refine wpList_appP (v := u10) (A := some ⟨w5.heap.size, 0, none⟩) (n := 1) (c := 1) [p] rfl (.tmp 68) (.tmp 73) rfl rfl rfl HOA.out rfl HP1.out (fun e => by cases e) HBY.out HBZ.out ?_; intro v7 w7 o7 b7 c7; refine of_hid ?_)
              refine Lib.hid ?_
              have ZA : Hid (OwnP w7 B3 v7 (laterL t (L.dead.take (j + 1)))) := Lib.hid (by rw [HOF.out.2]; first | exact o7 | (rw [← List.append_assoc]; exact o7))
              have ZB : Hid (OwnP w7 B3 u9 (s.dead ++ olderL t (L.dead.take (j + 1)))) := Lib.hid (by rw [HOF.out.1]; exact HOB.out.keep fun g hg => c7.2.1 g (HOB.out.lt hg).1 (HAP.out g hg))
              have ZL : Hid (Below B3 W4 w7) := Lib.hid ((LWX.out.trans (HB5.out.mono (by have h1 := LWX.out.size; have h3 := HB3E.out; omega))).trans ((HBA.out.mono (by have h1 := LWX.out.size; have h3 := HB3E.out; have h2 := HB5.out.size; omega)).trans b7))
              have ZP : Hid (∀ g, u9.ownBlock = some g → v7.ownBlock ≠ some g) := Lib.hid (fun g hg he => by
                rcases c7.2.2 with h | h
                · exact HAP.out g (hg) (h.symm.trans he)
                · rw [h] at he
                  have h := he
                  injection h with h
                  have := (HOB.out.lt hg).1
                  omega)
              clear y0 y1 y2 y3 o7 b7 c7 HOA HOB HP1 HBY HBZ HBA HK9 HK10 HAP HOF LWX HS5 HB5 e1 HGX HCL1 LWR HLEN
              go_wp2_with fail
              go_roundw
              case rel => exact ⟨j + 1, by omega, by go_num, ZB, ZA, ZP, ZL⟩
              case measure => simp [intOf]; omega
            · go_upto_region 14 with (fail)
              have e1 : decide (t < p.birth) = false := by simp; omega
              have hof : olderL t (L.dead.take (j + 1)) = olderL t (L.dead.take j) ++ [p] := by rw [hstep, older_app, if_pos (by omega)]
              have hlf : laterL t (L.dead.take (j + 1)) = laterL t (L.dead.take j) := by rw [hstep, later_app, if_neg (by omega), List.append_nil]
              have HOF := Lib.hid (⟨hof, hlf⟩ : _ ∧ _)
              clear hof hlf hz
              refine region_anyZ (fun w' => Blk w' r0 25 #[.int .i64 bs, .slice A n c, .slice A' m c'] ∧ w'.cell? ⟨gX, oX + j * 4 + 2, none⟩ = some (.int .i64 p.birth)) 9 (by kernel_rfl) ?_
              refine takeG 0 (.move (.tmp 8)) (some 59) none (.slice (some ⟨gX, oX, none⟩) m c5) (by kernel_rfl) (by kernel_rfl) (by kernel_rfl) (fun _ _ _ h => h) (fun o' wq e hS => exec_move wq e (by kernel_rfl)) HS.out ?_
              refine takeG 1 (.move (.tmp 11)) (some 60) none (.int .i64 (j : Int)) (by kernel_rfl) (by kernel_rfl) (by kernel_rfl) (fun _ _ _ h => h) (fun o' wq e hS => exec_move wq e (by kernel_rfl)) HS.out ?_
              refine takeG 2 (.indexAddr 23 (.tmp 59) (.tmp 60)) (some 61) none (.pointer (some ⟨gX, oX + j * 4, none⟩)) (by kernel_rfl) (by kernel_rfl) (by kernel_rfl) (fun _ _ _ h => h) (fun o' wq e hS => exec_index (u1 := .slice (some ⟨gX, oX, none⟩) m c5) (u2 := .int .i64 (j : Int)) wq e (by kernel_rfl) (by kernel_rfl) (index_pt gX oX m c5 j hlt _)) HS.out ?_
              refine takeG 3 (.fieldAddr 27 (.tmp 61) 2) (some 62) none (.pointer (some ⟨gX, oX + j * 4 + 2, none⟩)) (by kernel_rfl) (by kernel_rfl) (by kernel_rfl) (fun _ _ _ h => h) (fun o' wq e hS => exec_field (u := .pointer (some ⟨gX, oX + j * 4, none⟩)) wq e (by kernel_rfl) (by kernel_rfl)) HS.out ?_
              refine takeG 4 (.load 3 (.tmp 62)) (some 63) none (.int .i64 p.birth) (by kernel_rfl) (by kernel_rfl) (by kernel_rfl) (fun _ _ _ h => h) (fun o' wq e hS => exec_load (x := (.tmp 62)) e (by kernel_rfl) (load_one Try.underlying3 (by kernel_rfl) hS.2)) HS.out ?_
              refine takeG 5 (.load 25 (.tmp 2)) (some 64) none (.agg #[.int .i64 bs, .slice A n c, .slice A' m c']) (by kernel_rfl) (by kernel_rfl) (by kernel_rfl) (fun _ _ _ h => h) (fun o' wq e hS => exec_load (x := (.tmp 2)) e (by kernel_rfl) (load_rln hS.1)) HS.out ?_
              refine takeG 6 (.move (.tmp 1)) (some 65) none (.int .i64 (i : Int)) (by kernel_rfl) (by kernel_rfl) (by kernel_rfl) (fun _ _ _ h => h) (fun o' wq e hS => exec_move wq e (by kernel_rfl)) HS.out ?_
              refine loneG 7 (.call ⟨.value (.func 27), #[(.tmp 64), (.tmp 65)], #[25, 3]⟩) (some 66) none (by kernel_rfl) (by kernel_rfl) (by kernel_rfl) ?_
              intro o' ho hod
              refine wp_callC (f := 27) (args := #[.agg #[.int .i64 bs, .slice A n c, .slice A' m c'], .int .i64 (i : Int)]) (by cases o'; cases ho; kernel_rfl) (HLA.out _ LWR.out.drew) ?_
              rintro ee w5 ⟨rfl, b5⟩
              rw [← HTT.out]
              have b5' : Below wr.heap.size wr w5 := (Below.refl wr.heap.size wr).drew.trans b5
              have HS5 := Lib.hid (⟨HS.out.1.below b5 HS.out.1.lt, (b5.cell (p := ⟨gX, oX + j * 4 + 2, none⟩) HGX.out).trans HS.out.2⟩ : _ ∧ _)
              have HB5 := Lib.hid b5'
              refine ⟨.int .i64 t, rfl, ?_⟩
              rw [hod]
              clear hod ho b5 b5'
              refine ⟨fun _ => HS5.out, ?_⟩
              refine lastS 8 (.binOp .gtr 3 (.tmp 63) (.tmp 66) 3) (some 67) (.bool false) (by kernel_rfl) (by kernel_rfl) (by kernel_rfl) HS5.out (fun o' e => exec_bin (u1 := .int .i64 p.birth) (u2 := .int .i64 t) _ e (by kernel_rfl) (by kernel_rfl) (eqG_int ..) (gtr_isK p.birth t _ e1 _)) ?_
              simp only [put_some, put_none, List.setIfInBounds_toArray, List.set_cons_succ, List.set_cons_zero]
              have hk5 : ∀ q u, wr.cell? ⟨gX, oX + j * 4 + q, none⟩ = some u → w5.cell? ⟨gX, oX + j * 4 + q, none⟩ = some u := fun q u h => (HB5.out.cell (p := ⟨gX, oX + j * 4 + q, none⟩) HGX.out).trans h
              have y0 : w5.cell? ⟨gX, oX + j * 4, none⟩ = some (.int .i64 p.addr) := hk5 0 _ HCL1.out.1
              have y1 : w5.cell? ⟨gX, oX + j * 4 + 1, none⟩ = some (.int .i64 p.size) := hk5 1 _ HCL1.out.2.1
              have y2 : w5.cell? ⟨gX, oX + j * 4 + 2, none⟩ = some (.int .i64 p.birth) := hk5 2 _ HCL1.out.2.2.1
              have y3 : w5.cell? ⟨gX, oX + j * 4 + 3, none⟩ = some (.string p.sum) := hk5 3 _ HCL1.out.2.2.2
              have hba : Below w5.heap.size w5 (w5.alloc (.cells #[.int .i64 p.addr, .int .i64 p.size, .int .i64 p.birth, .string p.sum] 27)) := (Below.refl _ _).alloc (Nat.le_refl _) _
              have HBA := Lib.hid hba
              have HOA := Lib.hid ((HK9.out.below HB5.out (Nat.le_refl _)).below hba (Nat.le_refl _))
              have HOB := Lib.hid ((HK10.out.below HB5.out (Nat.le_refl _)).below hba (Nat.le_refl _))
              have HP1 := Lib.hid (rd_one w5 p)
              have HBY : Hid (((s.dead ++ olderL t (L.dead.take j)).length + [p].length) * 40 ≤ 140737488355328) := Lib.hid (by
                have h1 := HLEN.out
                have h2 : [p].length = 1 := rfl
                rw [h2]
                omega)
              have HBZ : Hid (B3 ≤ (w5.alloc (.cells #[.int .i64 p.addr, .int .i64 p.size, .int .i64 p.birth, .string p.sum] 27)).heap.size) := Lib.hid (by have h1 := LWX.out.size; have h2 := HB5.out.size; have h3 := HB3E.out; have h4 := hba.size; omega)
              clear hba hk5 HS
              go_wp2_with (at_builtin; refine wpList_appP (v := u9) (A := some ⟨w5.heap.size, 0, none⟩) (n := 1) (c := 1) [p] rfl (.tmp 75) (.tmp 80) rfl rfl rfl HOA.out rfl HP1.out (fun e => by cases e) HBY.out HBZ.out ?_; intro v7 w7 o7 b7 c7; refine of_hid ?_)
              refine Lib.hid ?_
              have ZA : Hid (OwnP w7 B3 v7 (s.dead ++ olderL t (L.dead.take (j + 1)))) := Lib.hid (by rw [HOF.out.1]; first | exact o7 | (rw [← List.append_assoc]; exact o7))
              have ZB : Hid (OwnP w7 B3 u10 (laterL t (L.dead.take (j + 1)))) := Lib.hid (by rw [HOF.out.2]; exact HOB.out.keep fun g hg => c7.2.1 g (HOB.out.lt hg).1 (fun e => HAP.out g e hg))
              have ZL : Hid (Below B3 W4 w7) := Lib.hid ((LWX.out.trans (HB5.out.mono (by have h1 := LWX.out.size; have h3 := HB3E.out; omega))).trans ((HBA.out.mono (by have h1 := LWX.out.size; have h3 := HB3E.out; have h2 := HB5.out.size; omega)).trans b7))
              have ZP : Hid (∀ g, v7.ownBlock = some g → u10.ownBlock ≠ some g) := Lib.hid (fun g hg he => by
                rcases c7.2.2 with h | h
                · exact HAP.out g (h.symm.trans hg) (he)
                · rw [h] at hg
                  have h := hg
                  injection h with h
                  have := (HOB.out.lt he).1
                  omega)
              clear y0 y1 y2 y3 o7 b7 c7 HOA HOB HP1 HBY HBZ HBA HK9 HK10 HAP HOF LWX HS5 HB5 e1 HGX HCL1 LWR HLEN
              go_wp2_with fail
              go_roundw
              case rel => exact ⟨j + 1, by omega, by go_num, ZA, ZB, ZP, ZL⟩
              case measure => simp [intOf]; omega
          · obtain rfl : m = j := by omega
            have i1 : ¬ ((m : Int) < (m : Int)) := by omega
            have hbl : Below W4.heap.size W4 wr := by have h1 := LWX.out; rw [HB3E.out] at h1; exact h1
            have HEND : Hid (L.dead.take m = L.dead) := Lib.hid (List.take_of_length_le (by have := HNX.out.1; omega))
            have h9 := HK9.out
            have h10 := HK10.out
            rw [HEND.out] at h9 h10
            obtain ⟨A9, c9, hv9, _, _, _, _, _⟩ := h9.shape (fun _ => rfl)
            obtain ⟨n9, hn9⟩ : ∃ n9, n9 = (s.dead ++ olderL t L.dead).length := ⟨_, rfl⟩
            rw [← hn9] at hv9
            subst hv9
            obtain ⟨A10, c10, hv10, _, _, _, _, _⟩ := h10.shape (fun _ => rfl)
            obtain ⟨n10, hn10⟩ : ∃ n10, n10 = (laterL t L.dead).length := ⟨_, rfl⟩
            rw [← hn10] at hv10
            subst hv10
            have HN9 := Lib.hid hn9
            have HKK := Lib.hid (⟨h9, h10⟩ : _ ∧ _)
            obtain ⟨W5, hW5⟩ : ∃ W5, W5 = wr := ⟨_, rfl⟩
            subst hW5
            obtain ⟨W6, hW6⟩ : ∃ W6, W6 = W5.alloc (.cells #[.int .i64 bs, .slice none 0 0, .slice A5 m c5] 25) := ⟨_, rfl⟩
            obtain ⟨g12, hg12⟩ : ∃ g12, g12 = W5.heap.size := ⟨_, rfl⟩
            obtain ⟨B6, hB6⟩ : ∃ B6, B6 = W6.heap.size := ⟨_, rfl⟩
            have hb56 : Below W5.heap.size W5 W6 := by rw [hW6]; exact (Below.refl _ _).alloc (Nat.le_refl _) _
            have hB612 : B6 = g12 + 1 := by rw [hB6, hW6, hg12]; simp
            have hb46 : Below W4.heap.size W4 W6 := hbl.trans (hb56.mono hbl.size)
            have hX12 : Blk W6 g12 25 #[.int .i64 bs, .slice none 0 0, .slice A5 m c5] := by rw [hW6, hg12]; exact Blk.new _ _ _
            have z7 := HZ4.out.2.1.below hbl HZ4.out.2.1.lt
            have s0 : W5.cell? ⟨r7, 0, none⟩ = some (.int .i64 bs) := z7.cell 0
            have s2 : W5.cell? ⟨r7, 2, none⟩ = some (.slice A5 m c5) := z7.cell 2
            have HX12 := Lib.hid hX12
            have HX7 := Lib.hid (HZ4.out.2.1.below hb46 HZ4.out.2.1.lt)
            have HX4 := Lib.hid (HZ4.out.1.below hb46 HZ4.out.1.lt)
            have HO6 := Lib.hid (HO4.out.below hb46 (Nat.le_refl _))
            have HKK6 := Lib.hid (⟨HKK.out.1.below hb56 (Nat.le_refl _), HKK.out.2.below hb56 (Nat.le_refl _)⟩ : _ ∧ _)
            have LWR6 := Lib.hid (LWR.out.trans (hb56.mono LWR.out.size))
            have HG12 : Hid (r7 < g12 ∧ r4 < g12 ∧ gs < g12 ∧ w.heap.size ≤ g12 ∧ B6 = g12 + 1) := Lib.hid (by have h1 := hbl.size; have h2 := HB4.out; have h3 := HE.out; have h4 := HGS.out; have h5 := HB3E.out; omega)
            have HGS6 := HGS
            obtain ⟨X, hXX⟩ : ∃ X : SV, X = ⟨tx, A9, n9, c9⟩ := ⟨_, rfl⟩
            have HXE := Lib.hid hXX
            have HVC : Hid (Gr.OwnG 72 2 csV W6 B2 (.slice (some ⟨gs, 0, none⟩) n c1) (if i + 1 < 0 then vs.set (i + 1) X else vs)) := Lib.hid (by rw [if_neg (by omega), HN.out]; exact HO6.out.oS)
            have HVO : Hid (Gr.OwnG 72 2 csV W6 B6 (.slice none 0 0) (((vs.set (i + 1) X).take 0).eraseIdx i)) := Lib.hid (by rw [List.take_zero, List.eraseIdx_nil]; exact Gr.OwnG.nil _ _)
            have HBX : Hid (B6 ≤ W6.heap.size) := Lib.hid (Nat.le_of_eq hB6)
            have HW6 := Lib.hid (⟨hW6, hg12⟩ : _ ∧ _)
            have HNO0 : Hid ((((vs.set (i + 1) X).take 0).eraseIdx i).length = 0) := Lib.hid (by simp)
            clear hn9 hn10 h9 h10 hbl hb56 hB612 hb46 hX12 z7 hW6 hg12 hB6 hXX HK9 HK10 HAP LWX HKK LWR hlt
            go_upto_region 18 with (fail)
            rw [← HW6.out.1, ← HW6.out.2]
            clear s0 s2 HW6
            go_wp2_with fail
            go_loopw [13] (fun y wr => ∃ (j : Nat) (Ao : Option Addr) (no co : Nat), j ≤ n ∧ y = .int .i64 (j : Int) ∧ Hid (Blk wr r7 25 #[.int .i64 bs, .slice (some ⟨gs, 0, none⟩) n c1, .slice A5 m c5]) ∧ Hid (Blk wr r4 25 #[.int .i64 0, .slice none 0 0, .slice none 0 0]) ∧ Hid (Blk wr g12 25 #[.int .i64 bs, .slice Ao no co, .slice A5 m c5]) ∧ Hid (Gr.OwnG 72 2 csV wr B2 (.slice (some ⟨gs, 0, none⟩) n c1) (if i + 1 < j then vs.set (i + 1) X else vs)) ∧ Hid (Gr.OwnG 72 2 csV wr B6 (.slice Ao no co) (((vs.set (i + 1) X).take j).eraseIdx i)) ∧ Hid ((((vs.set (i + 1) X).take j).eraseIdx i).length = no) ∧ Hid (∀ g cur, Blk W6 g 27 cur → wr.heap[g]? = W6.heap[g]?) ∧ Hid (Below w.heap.size w wr) ∧ Hid (B6 ≤ wr.heap.size)) (fun y _ => n - (intOf y).toNat)
            case atStart => exact ⟨0, none, 0, 0, by omega, rfl, HX7, HX4, HX12, HVC, HVO, HNO0, Lib.hid (fun _ _ _ => rfl), LWR6, HBX⟩
            case round =>
              clear HX7 HX4 HX12 HVC HVO HNO0 LWR6 HBX
              obtain ⟨j, Ao, no, co, hj, rfl, HX7, HX4, HX12, HVC, HVO, HNO, HPT, LWR, HBX⟩ := hrel
              have q1 : wr.cell? ⟨r7, 1, none⟩ = some (.slice (some ⟨gs, 0, none⟩) n c1) := HX7.out.cell 1
              by_cases hlt : j < n
              · have i1 : (j : Int) < (n : Int) := by omega
                have hvl : vs.length = n := by rw [HO6.out.oH.1, ← HN.out]
                by_cases hji : j = i
                · subst hji
                  have hne1 : ((j : Int) == (j : Int) + 1) = false := by simp; omega
                  have hne2 : ((j : Int) != (j : Int)) = false := by simp
                  have ZC : Hid (Gr.OwnG 72 2 csV wr B2 (.slice (some ⟨gs, 0, none⟩) n c1) (if j + 1 < j + 1 then vs.set (j + 1) X else vs)) := Lib.hid (by have h1 := HVC.out; rw [if_neg (by omega)] at h1 ⊢; exact h1)
                  have htk : ((vs.set (j + 1) X).take (j + 1)).eraseIdx j = ((vs.set (j + 1) X).take j).eraseIdx j := take_erase_at _ _ (by rw [List.length_set]; omega)
                  have ZO : Hid (Gr.OwnG 72 2 csV wr B6 (.slice Ao no co) (((vs.set (j + 1) X).take (j + 1)).eraseIdx j)) := Lib.hid (by rw [htk]; exact HVO.out)
                  have ZN : Hid ((((vs.set (j + 1) X).take (j + 1)).eraseIdx j).length = no) := Lib.hid (by rw [htk]; exact HNO.out)
                  clear hvl htk HVC HVO HNO
                  go_wp2_with fail
                  go_roundw
                  case rel => exact ⟨j + 1, Ao, no, co, by omega, by go_num, HX7, HX4, HX12, ZC, ZO, ZN, HPT, LWR, HBX⟩
                  case measure => simp [intOf]; omega
                · have hne2 : ((j : Int) != (i : Int)) = true := by simp; omega
                  have hyj : ∃ y, (vs.set (i + 1) X)[j]? = some y := ⟨_, List.getElem?_eq_getElem (by rw [List.length_set]; omega)⟩
                  obtain ⟨y, hyj⟩ := hyj
                  have HTK : Hid (((vs.set (i + 1) X).take (j + 1)).eraseIdx i = ((vs.set (i + 1) X).take j).eraseIdx i ++ [y]) := Lib.hid (take_erase_ne _ _ _ _ hyj hji)
                  have HVL : Hid (((((vs.set (i + 1) X).take j).eraseIdx i).length + 1) * 32 ≤ 140737488355328) := Lib.hid (by
                    have h1 : (((vs.set (i + 1) X).take j).eraseIdx i).length ≤ ((vs.set (i + 1) X).take j).length := (List.eraseIdx_sublist _ _).length_le
                    rw [List.length_take] at h1
                    omega)
                  by_cases hj1 : j = i + 1
                  · have hne1 : ((j : Int) == (i : Int) + 1) = true := by simp; omega
                    exact absurd HIN.out (by omega)
                  · have hne1 : ((j : Int) == (i : Int) + 1) = false := by simp; omega
                    obtain ⟨wx, hwx⟩ : ∃ wx, wx = wr := ⟨_, rfl⟩
                    subst hwx
                    obtain ⟨vc, hvc⟩ : ∃ vc, vc = (if i + 1 < j then vs.set (i + 1) X else vs) := ⟨_, rfl⟩
                    rw [← hvc] at HVC
                    have hvcy : vc[j]? = some y := by
                      rw [hvc]
                      split
                      · exact hyj
                      · rw [List.getElem?_set_ne (by omega)] at hyj; exact hyj
                    have HIFX : Hid ((if i + 1 < j + 1 then vs.set (i + 1) X else vs) = vc) := Lib.hid (by
                      rw [hvc]
                      by_cases h : i + 1 < j
                      · rw [if_pos h, if_pos (by omega)]
                      · rw [if_neg h, if_neg (by omega)])
                    have hcl : ∀ q u, (csV y)[q]? = some u → wx.cell? ⟨gs, j * 2 + q, none⟩ = some u := fun q u hu => by
                      obtain ⟨g', cs', ev, _, _, hcl⟩ := own_at HVC.out (fun _ => rfl) (fun e => by rw [e] at hvcy; simp at hvcy)
                      injection ev with ev
                      injection ev with ev
                      injection ev with ev
                      subst ev
                      exact hcl j y hvcy q u hu
                    have HS : Hid (Blk wx.drew r7 25 #[.int .i64 bs, .slice (some ⟨gs, 0, none⟩) n c1, .slice A5 m c5] ∧ Blk wx.drew g12 25 #[.int .i64 bs, .slice Ao no co, .slice A5 m c5] ∧ (wx.drew.cell? ⟨gs, 0 + j * 2, none⟩ = some (.int .i64 y.txg) ∧ wx.drew.cell? ⟨gs, 0 + j * 2 + 1, none⟩ = some (.slice y.A y.n y.c))) := Lib.hid ⟨HX7.out, HX12.out, by rw [Nat.zero_add]; exact hcl 0 _ rfl, by rw [Nat.zero_add]; exact hcl 1 _ rfl⟩
                    clear hyj hvl hvc hvcy hcl
                    go_upto_region 24 with (fail)
                    clear q1 hne1 hne2
                    refine region_anyZ (fun w' => Blk w' r7 25 #[.int .i64 bs, .slice (some ⟨gs, 0, none⟩) n c1, .slice A5 m c5] ∧ Blk w' g12 25 #[.int .i64 bs, .slice Ao no co, .slice A5 m c5] ∧ (w'.cell? ⟨gs, 0 + j * 2, none⟩ = some (.int .i64 y.txg) ∧ w'.cell? ⟨gs, 0 + j * 2 + 1, none⟩ = some (.slice y.A y.n y.c))) 10 (by kernel_rfl) ?_
                    refine takeG 0 (.fieldAddr 25 (.tmp 12) 1) (some 107) none (.pointer (some ⟨g12, 1, none⟩)) (by kernel_rfl) (by kernel_rfl) (by kernel_rfl) (fun _ _ _ h => h) (fun o' wq e hS => exec_field (u := .pointer (some ⟨g12, 0, none⟩)) wq e (by kernel_rfl) (by kernel_rfl)) HS.out ?_
                    refine takeG 1 (.load 22 (.tmp 107)) (some 108) none (.slice Ao no co) (by kernel_rfl) (by kernel_rfl) (by kernel_rfl) (fun _ _ _ h => h) (fun o' wq e hS => exec_load (x := (.tmp 107)) e (by kernel_rfl) (load_one Try.underlying22 (by kernel_rfl) (hS.2.1.cell 1))) HS.out ?_
                    refine takeG 2 (.fieldAddr 25 (.tmp 7) 1) (some 109) none (.pointer (some ⟨r7, 1, none⟩)) (by kernel_rfl) (by kernel_rfl) (by kernel_rfl) (fun _ _ _ h => h) (fun o' wq e hS => exec_field (u := .pointer (some ⟨r7, 0, none⟩)) wq e (by kernel_rfl) (by kernel_rfl)) HS.out ?_
                    refine takeG 3 (.load 22 (.tmp 109)) (some 110) none (.slice (some ⟨gs, 0, none⟩) n c1) (by kernel_rfl) (by kernel_rfl) (by kernel_rfl) (fun _ _ _ h => h) (fun o' wq e hS => exec_load (x := (.tmp 109)) e (by kernel_rfl) (load_one Try.underlying22 (by kernel_rfl) (hS.1.cell 1))) HS.out ?_
                    refine takeG 4 (.move (.tmp 13)) (some 111) none (.int .i64 (j : Int)) (by kernel_rfl) (by kernel_rfl) (by kernel_rfl) (fun _ _ _ h => h) (fun o' wq e hS => exec_move wq e (by kernel_rfl)) HS.out ?_
                    refine takeG 5 (.indexAddr 22 (.tmp 110) (.tmp 111)) (some 112) none (.pointer (some ⟨gs, 0 + j * 2, none⟩)) (by kernel_rfl) (by kernel_rfl) (by kernel_rfl) (fun _ _ _ h => h) (fun o' wq e hS => exec_index (u1 := .slice (some ⟨gs, 0, none⟩) n c1) (u2 := .int .i64 (j : Int)) wq e (by kernel_rfl) (by kernel_rfl) (index_rsn gs 0 n c1 j hlt _)) HS.out ?_
                    refine takeG 6 (.load 72 (.tmp 112)) (some 113) none (.agg #[.int .i64 y.txg, .slice y.A y.n y.c]) (by kernel_rfl) (by kernel_rfl) (by kernel_rfl) (fun _ _ _ h => h) (fun o' wq e hS => exec_load (x := (.tmp 112)) e (by kernel_rfl) (load_rsn hS.2.2)) HS.out ?_
                    refine loneG 7 (.buildSlice 22 1 #[(0, (.tmp 113))]) (some 114) none (by kernel_rfl) (by kernel_rfl) (by kernel_rfl) ?_
                    intro o' ho hod
                    refine wp_val (exec_buildSlice1 ho (by kernel_rfl) (bs_rs y.txg y.A y.n y.c _)) ?_
                    rw [hod]
                    clear hod ho
                    have HS1 : Hid (Blk (wx.drew.alloc (.cells #[.int .i64 y.txg, .slice y.A y.n y.c] 72)) r7 25 #[.int .i64 bs, .slice (some ⟨gs, 0, none⟩) n c1, .slice A5 m c5] ∧ Blk (wx.drew.alloc (.cells #[.int .i64 y.txg, .slice y.A y.n y.c] 72)) g12 25 #[.int .i64 bs, .slice Ao no co, .slice A5 m c5] ∧ ((wx.drew.alloc (.cells #[.int .i64 y.txg, .slice y.A y.n y.c] 72)).cell? ⟨gs, 0 + j * 2, none⟩ = some (.int .i64 y.txg) ∧ (wx.drew.alloc (.cells #[.int .i64 y.txg, .slice y.A y.n y.c] 72)).cell? ⟨gs, 0 + j * 2 + 1, none⟩ = some (.slice y.A y.n y.c))) := Lib.hid ⟨HS.out.1.alloc _, HS.out.2.1.alloc _, Lib.cell?_alloc_some _ HS.out.2.2.1, Lib.cell?_alloc_some _ HS.out.2.2.2⟩
                    refine ⟨fun _ => HS1.out, ?_⟩
                    refine loneG 8 (.call ⟨.builtin .append, #[(.tmp 108), (.tmp 114)], #[22, 22]⟩) (some 115) none (by kernel_rfl) (by kernel_rfl) (by kernel_rfl) ?_
                    intro o' ho hod
                    obtain ⟨v7, w7, hrun, ho7, hb7, hsz7, hkp7⟩ := append_sv (TS := 22) (w := wx.drew) Try.underlying22 info_rs HVO.out y HVL.out HBX.out o'.type
                    refine Gr.wp_append 22 (.tmp 108) (.tmp 114) ho (by kernel_rfl) (by kernel_rfl) hrun ?_
                    rw [hod]
                    clear hod ho hrun
                    obtain ⟨A7, c7, hv7, _, _, _, _, _⟩ := ho7.shape (fun _ => rfl)
                    have hl7 : (((vs.set (i + 1) X).take j).eraseIdx i ++ [y]).length = no + 1 := by rw [List.length_append, HNO.out]; rfl
                    rw [hl7] at hv7
                    subst hv7
                    have hnO : (Value.slice Ao no co).ownBlock ≠ some gs := fun e => by have h1 := (HVO.out.lt e).2; have h2 := HG12.out; omega
                    have hRL : ∀ g cur, Blk wx g 25 cur → w7.heap[g]? = wx.heap[g]? := fun g cur hg => hkp7 g hg.lt fun e => by
                      obtain ⟨cu, h1⟩ := HVO.out.blk_of e
                      exact (Blk.ne_ h1 hg (by decide)) rfl
                    have hPT : ∀ g cur, Blk wx g 27 cur → w7.heap[g]? = wx.heap[g]? := fun g cur hg => hkp7 g hg.lt fun e => by
                      obtain ⟨cu, h1⟩ := HVO.out.blk_of e
                      exact (Blk.ne_ h1 hg (by decide)) rfl
                    have Y7 := (hRL r7 _ HX7.out).trans HX7.out
                    have Y4 := (hRL r4 _ HX4.out).trans HX4.out
                    have Y12 := (hRL g12 _ HX12.out).trans HX12.out
                    have HYY := Lib.hid (⟨Y7, Y12⟩ : Blk w7 r7 25 _ ∧ Blk w7 g12 25 _)
                    have hgs : w7.heap[gs]? = wx.heap[gs]? := hkp7 gs (by have := HG12.out; have h9 : B6 ≤ wx.drew.heap.size := HBX.out; omega) hnO
                    have hcellgs : ∀ o, w7.cell? ⟨gs, o, none⟩ = wx.cell? ⟨gs, o, none⟩ := fun o => by unfold World.cell?; rw [hgs]
                    have HS2 : Hid (Blk w7 r7 25 #[.int .i64 bs, .slice (some ⟨gs, 0, none⟩) n c1, .slice A5 m c5] ∧ Blk w7 g12 25 #[.int .i64 bs, .slice Ao no co, .slice A5 m c5] ∧ (w7.cell? ⟨gs, 0 + j * 2, none⟩ = some (.int .i64 y.txg) ∧ w7.cell? ⟨gs, 0 + j * 2 + 1, none⟩ = some (.slice y.A y.n y.c))) := Lib.hid ⟨Y7, Y12, (hcellgs _).trans HS.out.2.2.1, (hcellgs _).trans HS.out.2.2.2⟩
                    have hk8 : ∀ g, g ≠ g12 → (w7.setCell ⟨g12, 1, none⟩ (.slice A7 (no + 1) c7)).heap[g]? = w7.heap[g]? := fun g hg => Below.heap_setCell _ _ _ g hg
                    have Z7 : Hid (Blk (w7.setCell ⟨g12, 1, none⟩ (.slice A7 (no + 1) c7)) r7 25 #[.int .i64 bs, .slice (some ⟨gs, 0, none⟩) n c1, .slice A5 m c5]) := Lib.hid ((hk8 r7 (by have := HG12.out; omega)).trans Y7)
                    have Z4 : Hid (Blk (w7.setCell ⟨g12, 1, none⟩ (.slice A7 (no + 1) c7)) r4 25 #[.int .i64 0, .slice none 0 0, .slice none 0 0]) := Lib.hid ((hk8 r4 (by have := HG12.out; omega)).trans Y4)
                    have Z12 : Hid (Blk (w7.setCell ⟨g12, 1, none⟩ (.slice A7 (no + 1) c7)) g12 25 #[.int .i64 bs, .slice A7 (no + 1) c7, .slice A5 m c5]) := Lib.hid (Blk.set_ Y12 1 _)
                    have ZC : Hid (Gr.OwnG 72 2 csV (w7.setCell ⟨g12, 1, none⟩ (.slice A7 (no + 1) c7)) B2 (.slice (some ⟨gs, 0, none⟩) n c1) (if i + 1 < j + 1 then vs.set (i + 1) X else vs)) := Lib.hid (by
                      rw [HIFX.out]
                      exact HVC.out.keep fun g hg => by
                        have e : g = gs := by injection hg with hg; exact hg.symm
                        rw [e]
                        exact (hk8 gs (by have := HG12.out; have := HGS.out; omega)).trans hgs)
                    have ZO : Hid (Gr.OwnG 72 2 csV (w7.setCell ⟨g12, 1, none⟩ (.slice A7 (no + 1) c7)) B6 (.slice A7 (no + 1) c7) (((vs.set (i + 1) X).take (j + 1)).eraseIdx i)) := Lib.hid (by
                      rw [HTK.out]
                      exact ho7.keep fun g hg => hk8 g (by have := (ho7.lt hg).2; have := HG12.out; omega))
                    have ZPT : Hid (∀ g cur, Blk W6 g 27 cur → (w7.setCell ⟨g12, 1, none⟩ (.slice A7 (no + 1) c7)).heap[g]? = W6.heap[g]?) := Lib.hid (fun g cur hg => by
                      have h1 := HPT.out g cur hg
                      have h2 : Blk wx g 27 cur := h1.trans hg
                      have h3 := hPT g cur h2
                      have h4 : Blk w7 g 27 cur := h3.trans h2
                      exact (hk8 g (Blk.ne_ h4 Y12 (by decide))).trans (h3.trans h1))
                    have ZL : Hid (Below w.heap.size w (w7.setCell ⟨g12, 1, none⟩ (.slice A7 (no + 1) c7))) := Lib.hid ((LWR.out.drew.trans ((hb7.mono (by have := HG12.out; omega)) : Below w.heap.size wx.drew w7)).setCell (p := ⟨g12, 1, none⟩) (by show w.heap.size ≤ g12; have := HG12.out; omega) _)
                    have ZB : Hid (B6 ≤ (w7.setCell ⟨g12, 1, none⟩ (.slice A7 (no + 1) c7)).heap.size) := Lib.hid (by have := HBX.out; have h9 : wx.heap.size ≤ w7.heap.size := hsz7; simp [World.setCell]; omega)
                    clear hl7 hnO hRL hPT Y7 Y4 Y12 hgs hcellgs hk8 ho7 hb7 hsz7 hkp7
                    refine ⟨fun _ => HS2.out, ?_⟩
                    refine takeG 9 (.fieldAddr 25 (.tmp 12) 1) (some 116) none (.pointer (some ⟨g12, 1, none⟩)) (by kernel_rfl) (by kernel_rfl) (by kernel_rfl) (fun _ _ _ h => h) (fun o' wq e hS => exec_field (u := .pointer (some ⟨g12, 0, none⟩)) wq e (by kernel_rfl) (by kernel_rfl)) HS2.out ?_
                    refine lastStore 10 22 (.tmp 116) (.tmp 115) (.pointer (some ⟨g12, 1, none⟩)) (.slice A7 (no + 1) c7) _ (by kernel_rfl) (by kernel_rfl) (by kernel_rfl) rfl (by kernel_rfl) (by kernel_rfl) (store_one size_slr rfl rfl (by rw [HYY.out.2.cell 1]; rfl) (HYY.out.2.frozen 1) (by rw [add_plain])) ?_
                    simp only [put_some, put_none, List.setIfInBounds_toArray, List.set_cons_succ, List.set_cons_zero]
                    clear HS
                    go_wp2_with fail
                    go_roundw
                    case rel => exact ⟨j + 1, A7, no + 1, c7, by omega, by go_num, Z7, Z4, Z12, ZC, ZO, Lib.hid (by rw [HTK.out, List.length_append, HNO.out]; rfl), ZPT, ZL, ZB⟩
                    case measure => simp [intOf]; omega
              · obtain rfl : j = n := by omega
                have i1 : ¬ ((j : Int) < (j : Int)) := by omega
                have hvl : vs.length = j := by rw [HO6.out.oH.1, ← HN.out]
                have q0 : wr.cell? ⟨g12, 0, none⟩ = some (.int .i64 bs) := HX12.out.cell 0
                have q1' : wr.cell? ⟨g12, 1, none⟩ = some (.slice Ao no co) := HX12.out.cell 1
                have q2' : wr.cell? ⟨g12, 2, none⟩ = some (.slice A5 m c5) := HX12.out.cell 2
                have hlast : ((i : Int) == (j : Int) - 1) = true := by simp; have := HIN.out; have := HIL.out; omega
                have qf2 : wr.frozen? ⟨g12, 2, none⟩ = false := HX12.out.frozen 2
                obtain ⟨wf, hwf⟩ : ∃ wf, wf = wr.setCell ⟨g12, 2, none⟩ (.slice A9 n9 c9) := ⟨_, rfl⟩
                have hkf : ∀ g, g ≠ g12 → wf.heap[g]? = wr.heap[g]? := fun g hg => by rw [hwf]; exact Below.heap_setCell _ _ _ g hg
                have hx12f : Blk wf g12 25 #[.int .i64 bs, .slice Ao no co, .slice A9 n9 c9] := by rw [hwf]; exact HX12.out.set_ 2 _
                have hx4f : Blk wf r4 25 #[.int .i64 0, .slice none 0 0, .slice none 0 0] := (hkf r4 (by have := HG12.out; omega)).trans HX4.out
                have hvof : Gr.OwnG 72 2 csV wf B6 (.slice Ao no co) (((vs.set (i + 1) X).take j).eraseIdx i) := HVO.out.keep fun g hg => hkf g (by have := (HVO.out.lt hg).2; have := HG12.out; omega)
                have hptf : ∀ g cur, Blk W6 g 27 cur → wf.heap[g]? = W6.heap[g]? := fun g cur hg => by
                  have h1 := HPT.out g cur hg
                  have h2 : Blk wr g 27 cur := h1.trans hg
                  exact (hkf g (Blk.ne_ h2 HX12.out (by decide))).trans h1
                have hlf : Below w.heap.size w wf := by rw [hwf]; exact LWR.out.setCell (p := ⟨g12, 2, none⟩) (by show w.heap.size ≤ g12; have := HG12.out; omega) _
                have HWF := Lib.hid hwf
                have HX12F := Lib.hid hx12f
                have HX4F := Lib.hid hx4f
                have HVOF := Lib.hid hvof
                have HPTF := Lib.hid hptf
                have LWRF := Lib.hid hlf
                clear hkf hx12f hx4f hvof hptf hlf hwf HX4 HVO HPT LWR
                have HX4 := HX4F
                have HVO := HVOF
                have HPT := HPTF
                have LWR := LWRF
                go_upto_region 27 with (fail)
                rw [← HWF.out]
                clear q0 q1' q2' qf2
                have q0 : wf.cell? ⟨g12, 0, none⟩ = some (.int .i64 bs) := HX12F.out.cell 0
                have q1' : wf.cell? ⟨g12, 1, none⟩ = some (.slice Ao no co) := HX12F.out.cell 1
                have q2' : wf.cell? ⟨g12, 2, none⟩ = some (.slice A9 n9 c9) := HX12F.out.cell 2
                have p0 : wf.cell? ⟨r4, 0, none⟩ = some (.int .i64 0) := HX4.out.cell 0
                have p1 : wf.cell? ⟨r4, 1, none⟩ = some (.slice none 0 0) := HX4.out.cell 1
                have p2 : wf.cell? ⟨r4, 2, none⟩ = some (.slice none 0 0) := HX4.out.cell 2
                have pf0 : wf.frozen? ⟨r4, 0, none⟩ = false := HX4.out.frozen 0
                have pf1 : wf.frozen? ⟨r4, 1, none⟩ = false := HX4.out.frozen 1
                have pf2 : wf.frozen? ⟨r4, 2, none⟩ = false := HX4.out.frozen 2
                go_wp2_with fail
                have T5 := ((HX4.out.set_ 0 (.int .i64 bs)).set_ 1 (.slice Ao no co)).set_ 2 (.slice A9 n9 c9)
                refine bodyPost_ret (results_cell3 rfl rfl (loadVar_blk T5 Try.underlying25 rfl size_rln) rfl rfl) rfl ?_
                obtain ⟨we, hwe⟩ : ∃ we, we = ((wf.setCell ⟨r4, 0, none⟩ (.int .i64 bs)).setCell ⟨r4, 1, none⟩ (.slice Ao no co)).setCell ⟨r4, 2, none⟩ (.slice A9 n9 c9) := ⟨_, rfl⟩
                have hk6 : ∀ g, g ≠ r4 → we.heap[g]? = wf.heap[g]? := fun g hg => by
                  rw [hwe]
                  exact ((Below.heap_setCell _ ⟨r4, 2, none⟩ _ g hg).trans (Below.heap_setCell _ ⟨r4, 1, none⟩ _ g hg)).trans (Below.heap_setCell _ ⟨r4, 0, none⟩ _ g hg)
                have hr4' : w.heap.size ≤ r4 := by have := HE.out; omega
                have LFIN : Hid (Below w.heap.size w we) := Lib.hid (by rw [hwe]; exact ((LWR.out.setCell (p := ⟨r4, 0, none⟩) hr4' _).setCell (p := ⟨r4, 1, none⟩) hr4' _).setCell (p := ⟨r4, 2, none⟩) hr4' _)
                have hpte : ∀ g cur, Blk W6 g 27 cur → we.heap[g]? = W6.heap[g]? := fun g cur hg => by
                  have h1 := HPT.out g cur hg
                  have h2 : Blk wf g 27 cur := h1.trans hg
                  exact (hk6 g (Blk.ne_ h2 HX4.out (by decide))).trans h1
                have keepP : ∀ {b : Nat} {v : Value} {D : List Pt}, OwnP W6 b v D → OwnP we b v D := fun h => h.keep fun g hg => by obtain ⟨cu, h1⟩ := h.blk_of hg; exact hpte g cu h1
                have hvoe : Gr.OwnG 72 2 csV we B6 (.slice Ao no co) ((vs.set (i + 1) X).eraseIdx i) := by
                  have h1 : (vs.set (i + 1) X).take j = vs.set (i + 1) X := List.take_of_length_le (by rw [List.length_set]; omega)
                  have h2 := HVO.out
                  rw [h1] at h2
                  exact h2.keep fun g hg => hk6 g (by have := (h2.lt hg).2; have := HG12.out; omega)
                have hK := HKK6.out.1
                have hhold : Holds we ((vs.set (i + 1) X).eraseIdx i) ((L.snaps.set (i + 1) ⟨tx, s.dead ++ olderL t L.dead⟩).eraseIdx i) := by
                  refine ⟨by rw [List.length_eraseIdx, List.length_eraseIdx, List.length_set, List.length_set, HO6.out.oH.1], fun q s' hs' => ?_⟩
                  rw [get_erase] at hs' ⊢
                  have hq := up_ne i q
                  revert hs' hq
                  generalize up i q = q'
                  intro hs' hq
                  by_cases e : q' = i + 1
                  · subst e
                    have hlt' : i + 1 < L.snaps.length := by have := (List.getElem?_eq_some_iff.1 hs').1; rw [List.length_set] at this; exact this
                    rw [List.getElem?_set_self hlt'] at hs'
                    injection hs' with hs'
                    subst hs'
                    refine ⟨X, List.getElem?_set_self (by rw [HO6.out.oH.1]; exact hlt'), by rw [HXE.out], by rw [HXE.out]; exact HN9.out, ?_⟩
                    rw [HXE.out]
                    exact rdp_of (keepP hK)
                  · rw [List.getElem?_set_ne (fun e' => e e'.symm)] at hs' ⊢
                    obtain ⟨x', e1, e2, e3, e4⟩ := HO6.out.oH.2 q' s' hs'
                    exact ⟨x', e1, e2, e3, rdp_of (keepP e4)⟩
                have HLS : Hid (((L.snaps.set (i + 1) ⟨tx, s.dead ++ olderL t L.dead⟩).eraseIdx i).length = no) := Lib.hid (by
                  obtain ⟨A8, c8, e8, _⟩ := hvoe.shape (fun _ => rfl)
                  injection e8 with _ e8
                  rw [e8, hhold.1])
                have HRS : Hid (RdS we Ao ((L.snaps.set (i + 1) ⟨tx, s.dead ++ olderL t L.dead⟩).eraseIdx i) ∧ (Ao = none → co = 0)) := Lib.hid ⟨rds_of hvoe hhold, by
                  obtain ⟨A8, c8, e8, _, _, _, e9, _⟩ := hvoe.shape (fun _ => rfl)
                  injection e8 with e8 _ e10
                  subst e8 e10
                  exact e9⟩
                have HFREE : Hid (OwnP we w.heap.size (.slice A10 n10 c10) (laterL t L.dead)) := Lib.hid (own_base (keepP HKK6.out.2) (by have := HB4.out; have := HE.out; have := HB3E2.out; omega))
                have HRDD : Hid (RdP we A9 (s.dead ++ olderL t L.dead) ∧ (A9 = none → c9 = 0)) := Lib.hid (rdp_of (keepP hK))
                have hKE : keepL L i = s.dead ++ olderL t L.dead := by rw [keepL_eq HSI.out.1, HNXT.out, ← HTT.out]
                rw [← hwe]
                rw [← HTT.out] at HQ
                rw [HQ.out, HDES.out, HNXT.out, hKE]
                refine ⟨_, _, rfl, ?_, HFREE.out, LFIN.out⟩
                have hb : L.base = bs := HBS.out.symm
                show RdLn _ _ ⟨L.base, L.snaps.eraseIdx i, s.dead ++ olderL t L.dead⟩
                rw [hb]
                have hset : L.snaps.set (i + 1) (⟨tx, s.dead ++ olderL t L.dead⟩ : Sn) = L.snaps := List.set_eq_of_length_le (by have := HN.out; omega)
                have hls : (L.snaps.eraseIdx i).length = no := by rw [← hset]; exact HLS.out
                have hrs := HRS.out
                rw [hset] at hrs
                exact ⟨Ao, co, A9, c9, by rw [hls, ← HN9.out]; rfl, hrs.1, HRDD.out.1, hrs.2, HRDD.out.2⟩
end Dd
end Go.Proofs.Ytpoacgofbbfhcaa
