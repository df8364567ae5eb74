/-
  '(Line).clone' by a contract: memory of its own. The conditions: the line can be read, its rows have room.
-/
import Derived.Test.YtefgofoocabkkaaGenSetM
namespace Go.Proofs.Ytefgofoocabkkaa
open Go Go.RowKit
set_option maxRecDepth 100000
set_option linter.unusedVariables false
namespace Dd
theorem own_base {α : Type} {E : TypeId} {k : Nat} {cs : α → List Value} {w : World} {base base' : Nat} {v : Value} {l : List α} (h : Gr.OwnG E k cs w base v l) (hb : base' ≤ base) : Gr.OwnG E k cs w base' v l :=
  ⟨h.1, h.2.imp id fun ⟨g, cap, cur, e1, e2, e3⟩ => ⟨g, cap, cur, e1, Nat.le_trans hb e2, e3⟩⟩
theorem own_at {α : Type} {E : TypeId} {k : Nat} {cs : α → List Value} {w : World} {base : Nat} {v : Value} {l : List α} (h : Gr.OwnG E k cs w base v l) (hk : ∀ x, (cs x).length = k) (hl : l ≠ []) :
    ∃ g c, v = .slice (some ⟨g, 0, none⟩) l.length c ∧ base ≤ g ∧ (∃ cur, Blk w g E cur) ∧ ∀ (i : Nat) (x : α), l[i]? = some x → ∀ j u, (cs x)[j]? = some u → w.cell? ⟨g, i * k + j, none⟩ = some u := by
  obtain ⟨A, c, e1, e2, e3, e4, e5, e6⟩ := h.shape hk
  rcases h.2 with ⟨h1, h2⟩ | ⟨g, cap, cur, h1, h2, h3, _⟩
  · exact absurd (List.eq_nil_of_length_eq_zero h2) hl
  · rw [e1] at h1
    injection h1 with h1 h7 h8
    subst h1 h8
    refine ⟨g, c, e1, h2, ⟨cur, h3⟩, fun i x hx j u hu => ?_⟩
    obtain ⟨b, o, f1, _, f3⟩ := e2 i x hx
    injection f1 with f1
    injection f1 with f1 f4
    subst f1 f4
    have := f3 j u hu
    rw [Nat.zero_add] at this
    exact this
/-- each list is a row of its own -/
def OHolds (w : World) (base : Nat) (vs : List SV) (S : List Sn) : Prop := vs.length = S.length ∧ ∀ (i : Nat) (s : Sn), S[i]? = some s → ∃ x : SV, vs[i]? = some x ∧ x.txg = s.txg ∧ x.n = s.dead.length ∧ OwnP w base (.slice x.A x.n x.c) s.dead
/-- so far -/
def HalfC (w0 w : World) (base : Nat) (vs : List SV) (S : List Sn) (k : Nat) : Prop := vs.length = S.length ∧ ∀ (i : Nat) (s : Sn), S[i]? = some s → ∃ x : SV, vs[i]? = some x ∧ x.txg = s.txg ∧ x.n = s.dead.length ∧ (i < k → OwnP w base (.slice x.A x.n x.c) s.dead) ∧ (k ≤ i → RdP w0 x.A s.dead ∧ (x.A = none → x.c = 0))
theorem HalfC.start {w0 w : World} {base : Nat} {vs : List SV} {S : List Sn} (h : Holds w0 vs S) : HalfC w0 w base vs S 0 :=
  ⟨h.1, fun i s hs => by obtain ⟨x, h1, h2, h3, h4, h5⟩ := h.2 i s hs; exact ⟨x, h1, h2, h3, fun h => by omega, fun _ => ⟨h4, h5⟩⟩⟩
theorem HalfC.done {w0 w : World} {base : Nat} {vs : List SV} {S : List Sn} {k : Nat} (h : HalfC w0 w base vs S k) (hk : S.length ≤ k) : OHolds w base vs S :=
  ⟨h.1, fun i s hs => by
    obtain ⟨x, h1, h2, h3, h4, _⟩ := h.2 i s hs
    exact ⟨x, h1, h2, h3, h4 (by have := (List.getElem?_eq_some_iff.1 hs).1; omega)⟩⟩
/-- rows of blocks stay when others change -/
theorem HalfC.keep {w0 w w' : World} {base : Nat} {vs : List SV} {S : List Sn} {k : Nat} (h : HalfC w0 w base vs S k) (hf : ∀ g cur, Blk w g 36 cur → w'.heap[g]? = w.heap[g]?) : HalfC w0 w' base vs S k :=
  ⟨h.1, fun i s hs => by
    obtain ⟨x, h1, h2, h3, h4, h5⟩ := h.2 i s hs
    exact ⟨x, h1, h2, h3, fun hi => (h4 hi).keep fun g hg => by obtain ⟨cur, hc⟩ := (h4 hi).blk_of hg; exact hf g cur hc, h5⟩⟩
theorem HalfC.step {w0 w : World} {base : Nat} {vs : List SV} {S : List Sn} {k : Nat} {s : Sn} {A : Option Addr} {c : Nat} {t : Int} (h : HalfC w0 w base vs S k) (hs : S[k]? = some s) (ht : t = s.txg) (ho : OwnP w base (.slice A s.dead.length c) s.dead) : HalfC w0 w base (vs.set k ⟨t, A, s.dead.length, c⟩) S (k + 1) := by
  refine ⟨by rw [List.length_set]; exact h.1, fun i s' hs' => ?_⟩
  by_cases e : i = k
  · subst e
    rw [hs] at hs'
    injection hs' with hs'
    subst hs'
    have hk : i < vs.length := by rw [h.1]; exact (List.getElem?_eq_some_iff.1 hs).1
    exact ⟨_, by rw [List.getElem?_set_self hk], ht, rfl, fun _ => ho, fun h => by omega⟩
  · obtain ⟨x, h1, h2, h3, h4, h5⟩ := h.2 i s' hs'
    exact ⟨x, by rw [List.getElem?_set_ne (fun q => e q.symm)]; exact h1, h2, h3, fun hi => h4 (by omega), fun hi => h5 (by omega)⟩
def SV.row (x : SV) : Value := .slice x.A x.n x.c
/-- the first k rows lie apart -/
def ApartTo (vs : List SV) (k : Nat) : Prop := ∀ (i j : Nat) (x y : SV), i < j → j < k → vs[i]? = some x → vs[j]? = some y → ∀ g, x.row.ownBlock = some g → y.row.ownBlock ≠ some g
theorem ApartTo.step {w0 w : World} {B : Nat} {vs : List SV} {S : List Sn} {k : Nat} {t : Int} {A : Option Addr} {n c : Nat} (h : ApartTo vs k) (hc : HalfC w0 w B vs S k) (hk : k < vs.length) (ho : ∀ g, (Value.slice A n c).ownBlock = some g → w.heap.size ≤ g) : ApartTo (vs.set k ⟨t, A, n, c⟩) (k + 1) := by
  intro i j x y hij hj hx hy g hg he
  rw [List.getElem?_set_ne (by omega)] at hx
  by_cases e : j = k
  · subst e
    rw [List.getElem?_set_self hk] at hy
    injection hy with hy
    subst hy
    have hi : i < S.length := by rw [← hc.1]; omega
    obtain ⟨x', e1, _, _, e4, _⟩ := hc.2 i _ (List.getElem?_eq_getElem hi)
    rw [hx] at e1
    injection e1 with e1
    subst e1
    have h1 := ((e4 hij).lt hg).1
    have h2 := ho g he
    omega
  · rw [List.getElem?_set_ne (by omega)] at hy
    exact h i j x y hij (by omega) hx hy g hg he
theorem exec_bld3 {P : Program} {a : Act} {o : Oper} {ty : TypeId} {i j k : Nat} {x y z : Operand} {u0 u1 u2 r : Value} (w : World) (e : o.op = .build ty #[(i, x), (j, y), (k, z)]) (hx : a.eval x = u0) (hy : a.eval y = u1) (hz : a.eval z = u2)
    (hl : (Instr.build ty #[(i, u0), (j, u1), (k, u2)]).run P w = .ok r w) : (execOp a.eval o).run P w = .ok (.value r) w := by
  unfold execOp; simp only [e, List.map_toArray, List.map_cons, List.map_nil, hx, hy, hz, hl, Sem.run_bind, Sem.run_pure, Result.andThen_ok]
theorem size_slp : (Try.prog.info? 26).map (·.size) = some 1 := by kernel_rfl
theorem size_ln : (Try.prog.info? 28).map (·.size) = some 3 := by kernel_rfl
def CloPost (w : World) (L : Ln) (e : Ending) (w' : World) : Prop := ∃ vS vD vs, e = .returned (.agg #[.int .i64 L.base, vS, vD]) ∧ Gr.OwnG 51 2 csV w' w.heap.size vS vs ∧ OHolds w' w.heap.size vs L.snaps ∧ OwnP w' w.heap.size vD L.dead ∧ Below w.heap.size w w' ∧ (∀ (i : Nat) (x : SV), vs[i]? = some x → ∀ g g', (Value.slice x.A x.n x.c).ownBlock = some g → vD.ownBlock = some g' → g ≠ g') ∧ ApartTo vs vs.length
set_option maxHeartbeats 12800000 in
theorem lclone_at (w : World) (L : Ln) (A A' : Option Addr) (c c' : Nat) (hf : Fit L) (hs : RdS w A L.snaps) (hsn : A = none → c = 0) (hd : RdP w A' L.dead) (hdn : A' = none → c' = 0) :
    Calls Try.prog 12 #[.agg #[.int .i64 L.base, .slice A L.snaps.length c, .slice A' L.dead.length c']] w fun e w' => CloPost w L e w' := by
  obtain ⟨n, hn⟩ : ∃ n, n = L.snaps.length := ⟨_, rfl⟩
  obtain ⟨m, hm⟩ : ∃ m, m = L.dead.length := ⟨_, rfl⟩
  have HN := Lib.hid hn
  have HM := Lib.hid hm
  have HF := Lib.hid hf
  have hnr : n * 32 ≤ 140737488351432 := by rw [hn]; exact hf.rs
  obtain ⟨vs0, hh0, hv0⟩ := sv_of_rds hs
  rw [← hn, ← hm]
  obtain ⟨bs, hbs⟩ : ∃ bs, bs = L.base := ⟨_, rfl⟩
  have HBS := Lib.hid hbs
  rw [← hbs]
  obtain ⟨W, hW⟩ : ∃ W, W = (w.alloc (.cells #[.int .i64 bs, .slice A n c, .slice A' m c'] 28)).alloc (.cells #[.int .i64 0, .slice none 0 0, .slice none 0 0] 28) := ⟨_, rfl⟩
  obtain ⟨ro, hro⟩ : ∃ ro, ro = w.heap.size := ⟨_, rfl⟩
  have hs0 : (w.alloc (.cells #[.int .i64 bs, .slice A n c, .slice A' m c'] 28)).heap.size = ro + 1 := by rw [hro]; simp
  have hsW : W.heap.size = ro + 2 := by rw [hW, hro]; simp
  obtain ⟨b2, hb2⟩ : ∃ b2, b2 = ro + 1 := ⟨_, rfl⟩
  have hbel : Below w.heap.size w W := by rw [hW]; exact ((Below.refl _ _).alloc (Nat.le_refl _) _).alloc (by rw [hs0, hro]; omega) _
  have X1 : Blk W ro 28 #[.int .i64 bs, .slice A n c, .slice A' m c'] := by rw [hW, hro]; exact (Blk.new _ _ _).alloc _
  have X2 : Blk W b2 28 #[.int .i64 0, .slice none 0 0, .slice none 0 0] := by
    have h := Blk.new (w.alloc (.cells #[.int .i64 bs, .slice A n c, .slice A' m c'] 28)) 28 #[.int .i64 0, .slice none 0 0, .slice none 0 0]
    rw [hs0, ← hb2] at h
    rw [hW]
    exact h
  obtain ⟨B, hB⟩ : ∃ B, B = W.heap.size := ⟨_, rfl⟩
  have HNB : Hid (ro = w.heap.size ∧ b2 = ro + 1 ∧ B = ro + 2 ∧ W.heap.size = B) := Lib.hid ⟨hro, hb2, by omega, hB.symm⟩
  have HX1 := Lib.hid X1
  have HX2 := Lib.hid X2
  have LW := Lib.hid hbel
  have HH0 := Lib.hid hh0
  have hvl0 : vs0.length = n := by rw [hh0.1, ← hn]
  have HC := Lib.hid (clone_s W vs0 A c n hvl0.symm (hv0.below hbel) hsn (by omega))
  have HRD := Lib.hid (⟨hs, hd, hdn⟩ : _ ∧ _ ∧ _)
  have d1 : W.cell? ⟨ro, 1, none⟩ = some (.slice A n c) := X1.cell 1
  have HWE := Lib.hid hW
  have HRO := Lib.hid hro
  have HB2 := Lib.hid hb2
  clear hn hm hf hs hsn hd hdn hbs hbel X1 X2 hs0 hsW hB hv0 hh0 hW hro hb2
  go_enter Try.func12, Try.ntmps12
  go_upto_region 1 with (fail)
  rw [← HRO.out, ← HB2.out, ← HWE.out]
  go_wp2_with fail
  refine HC.out.mono ?_
  rintro e w2 ⟨vS, rfl, ho, b2'⟩
  have hbw := HNB.out
  rw [hbw.2.2.2] at ho b2'
  obtain ⟨A1, c1, hv, _, _, _, _, _⟩ := ho.shape (fun _ => rfl)
  rw [hvl0] at hv
  subst hv
  have HO := Lib.hid ho
  have L2 : Hid (Below w.heap.size w w2) := Lib.hid (LW.out.trans (b2'.mono (by omega)))
  have Y1 : Hid (Blk w2 ro 28 #[.int .i64 bs, .slice A n c, .slice A' m c']) := Lib.hid (HX1.out.below b2' (by omega))
  have Y2 : Hid (Blk w2 b2 28 #[.int .i64 0, .slice none 0 0, .slice none 0 0]) := Lib.hid (HX2.out.below b2' (by omega))
  have HH : Hid (HalfC w w2 B vs0 L.snaps 0) := Lib.hid (HalfC.start HH0.out)
  have HBs : Hid (B ≤ w2.heap.size) := Lib.hid (by have := b2'.size; omega)
  clear ho b2' d1 HC HWE HX1 HX2 LW hbw
  go_wp2_with fail
  go_loopw [10] (fun y wr => ∃ (i : Nat) (vs : List SV), i ≤ n ∧ y = .int .i64 (i : Int) ∧ Hid (Gr.OwnG 51 2 csV wr B (.slice A1 n c1) vs) ∧ Hid (HalfC w wr B vs L.snaps i) ∧ Hid (Blk wr ro 28 #[.int .i64 bs, .slice A n c, .slice A' m c']) ∧ Hid (Blk wr b2 28 #[.int .i64 0, .slice none 0 0, .slice none 0 0]) ∧ Hid (Below w.heap.size w wr) ∧ Hid (B ≤ wr.heap.size) ∧ Hid (ApartTo vs i)) (fun y _ => n - (intOf y).toNat)
  case atStart => exact ⟨0, vs0, by omega, rfl, HO, HH, Y1, Y2, L2, HBs, Lib.hid fun i j x y _ h => by omega⟩
  case round =>
    clear HO HH Y1 Y2 L2 HBs
    obtain ⟨i, vs, hi, rfl, HO, HH, Y1, Y2, LW, HBs, HAT⟩ := hrel
    by_cases hlt : i < n
    · have i1 : (i : Int) < (n : Int) := by omega
      have hil : i < L.snaps.length := by have := HN.out; omega
      obtain ⟨s, hse⟩ : ∃ s, s = L.snaps[i] := ⟨_, rfl⟩
      have hsi : L.snaps[i]? = some s := by rw [hse]; exact List.getElem?_eq_getElem hil
      obtain ⟨x, hx1, hx2, hx3, _, hx5⟩ := HH.out.2 i s hsi
      obtain ⟨hrp, hrn⟩ := hx5 (Nat.le_refl _)
      have hvl : vs.length = n := by rw [HH.out.1, ← HN.out]
      obtain ⟨g, c9, hv, hgB, hblk, hcells⟩ := own_at HO.out (fun _ => rfl) (fun e => by rw [e] at hvl; simp at hvl; omega)
      injection hv with hv1 hv2 hv3
      clear hv2
      subst hv1 hv3
      have k1 := hcells i x hx1 1 (.slice x.A x.n x.c) rfl
      have HCL := Lib.hid (clone_p wr s.dead x.A x.c x.n hx3 (hrp.below LW.out) hrn (by have := HF.out.rp s (List.mem_of_getElem? hsi); unfold room at this; omega))
      have HX := Lib.hid (⟨hsi, hx1, hx2, hgB, hblk⟩ : L.snaps[i]? = some s ∧ vs[i]? = some x ∧ x.txg = s.txg ∧ B ≤ g ∧ ∃ cur, Blk wr g 51 cur)
      obtain ⟨xA, hxA⟩ : ∃ xA, xA = x.A := ⟨_, rfl⟩
      obtain ⟨xn, hxn⟩ : ∃ xn, xn = x.n := ⟨_, rfl⟩
      obtain ⟨xc, hxc⟩ : ∃ xc, xc = x.c := ⟨_, rfl⟩
      rw [← hxA, ← hxn, ← hxc] at k1 HCL
      clear hil hse hsi hx1 hx2 hx3 hx5 hrp hrn hvl hcells hblk hxA hxn hxc
      go_wp2_with fail
      refine HCL.out.mono ?_
      rintro e w5 ⟨v5, rfl, o5, b5⟩
      obtain ⟨A5, c5, hv5, _, _, _, _, _⟩ := o5.shape (fun _ => rfl)
      obtain ⟨cur, hcur⟩ := HX.out.2.2.2.2
      have hcur5 := hcur.below b5 hcur.lt
      have hO5 : Gr.OwnG 51 2 csV w5 B (.slice (some ⟨g, 0, none⟩) n c1) vs := HO.out.below b5 (Nat.le_refl _)
      have hH5 : HalfC w w5 B vs L.snaps i := HH.out.keep fun g' cur' hg' => b5.block g' hg'.lt
      have hlen5 : ∃ v0, w5.cell? ⟨g, i * 2 + 1, none⟩ = some v0 := ⟨_, (b5.cell (p := ⟨g, i * 2 + 1, none⟩) hcur.lt).trans k1⟩
      obtain ⟨v0, q1⟩ := hlen5
      have f1 : w5.frozen? ⟨g, i * 2 + 1, none⟩ = false := hcur5.frozen _
      subst hv5
      have Z0 : Gr.OwnG 51 2 csV (w5.setCell ⟨g, i * 2 + 1, none⟩ (.slice A5 s.dead.length c5)) B (.slice (some ⟨g, 0, none⟩) n c1) (vs.set i ⟨x.txg, A5, s.dead.length, c5⟩) := hO5.setAt (i := i) (j := 1) (x := x) (u := .slice A5 s.dead.length c5) (fun _ => rfl) HX.out.2.1 (by omega) rfl
      have hne : ∀ g' cur', Blk w5 g' 36 cur' → g' ≠ g := fun g' cur' h e => by
        subst e
        unfold Blk at h hcur5
        rw [h] at hcur5
        injection hcur5 with hcur5
        injection hcur5 with _ hcur5
        exact absurd hcur5 (by decide)
      have hstep : HalfC w w5 B (vs.set i ⟨x.txg, A5, s.dead.length, c5⟩) L.snaps (i + 1) := hH5.step HX.out.1 HX.out.2.2.1 (own_base o5 HBs.out)
      have ZO := Lib.hid Z0
      have ZH : Hid (HalfC w (w5.setCell ⟨g, i * 2 + 1, none⟩ (.slice A5 s.dead.length c5)) B (vs.set i ⟨x.txg, A5, s.dead.length, c5⟩) L.snaps (i + 1)) := Lib.hid (hstep.keep fun g' cur' hg' => Below.heap_setCell w5 ⟨g, i * 2 + 1, none⟩ _ g' (hne g' cur' hg'))
      have hnb := HNB.out
      have Z1 : Hid (Blk (w5.setCell ⟨g, i * 2 + 1, none⟩ (.slice A5 s.dead.length c5)) ro 28 #[.int .i64 bs, .slice A n c, .slice A' m c']) := Lib.hid ((Y1.out.below b5 Y1.out.lt).far (p := ⟨g, i * 2 + 1, none⟩) (by show ro ≠ g; omega) _)
      have Z2 : Hid (Blk (w5.setCell ⟨g, i * 2 + 1, none⟩ (.slice A5 s.dead.length c5)) b2 28 #[.int .i64 0, .slice none 0 0, .slice none 0 0]) := Lib.hid ((Y2.out.below b5 Y2.out.lt).far (p := ⟨g, i * 2 + 1, none⟩) (by show b2 ≠ g; omega) _)
      have ZL : Hid (Below w.heap.size w (w5.setCell ⟨g, i * 2 + 1, none⟩ (.slice A5 s.dead.length c5))) := Lib.hid ((LW.out.trans (b5.mono LW.out.size)).setCell (p := ⟨g, i * 2 + 1, none⟩) (by show w.heap.size ≤ g; omega) _)
      have ZB : Hid (B ≤ (w5.setCell ⟨g, i * 2 + 1, none⟩ (.slice A5 s.dead.length c5)).heap.size) := Lib.hid (by simp [World.setCell]; exact Nat.le_trans HBs.out b5.size)
      have ZAT : Hid (ApartTo (vs.set i ⟨x.txg, A5, s.dead.length, c5⟩) (i + 1)) := Lib.hid (HAT.out.step HH.out (by rw [HH.out.1]; exact (List.getElem?_eq_some_iff.1 HX.out.1).1) (fun g hg => (o5.lt hg).2))
      obtain ⟨sl, hsl⟩ : ∃ sl, sl = s.dead.length := ⟨_, rfl⟩
      rw [← hsl] at ZO ZH Z1 Z2 ZL ZB ZAT ⊢
      clear o5 b5 hcur hcur5 hO5 hH5 Z0 hne hstep hnb HCL k1 HX hsl HO HH Y1 Y2 LW HBs hgB HAT
      go_wp2_with fail
      go_roundw
      case rel => exact ⟨i + 1, _, by omega, by go_num, ZO, ZH, Z1, Z2, ZL, ZB, ZAT⟩
      case measure => simp [intOf]; omega
    · obtain rfl : i = n := by omega
      have i1 : ¬ ((i : Int) < (i : Int)) := by omega
      have HOH : Hid (OHolds wr B vs L.snaps) := Lib.hid (HH.out.done (by rw [← HN.out]; exact Nat.le_refl _))
      have HCL := Lib.hid (clone_p wr.drew L.dead A' c' m HM.out ((HRD.out.2.1.below LW.out).below (Below.refl _ _).drew) HRD.out.2.2 (by have := HF.out.rd; unfold room at this; omega))
      have HS := Lib.hid (show Blk wr.drew ro 28 #[.int .i64 bs, .slice A i c, .slice A' m c'] from Y1.out)
      clear hlt HH
      go_upto_region 7 with (fail)
      refine region_anyZ (fun w' => Blk w' ro 28 #[.int .i64 bs, .slice A i c, .slice A' m c']) 7 (by kernel_rfl) ?_
      refine takeG 0 (.fieldAddr 28 (.tmp 1) 0) (some 24) none (.pointer (some ⟨ro, 0, none⟩)) (by kernel_rfl) (by kernel_rfl) (by kernel_rfl) (fun _ _ _ h => h) (fun o' wq e hS => exec_field (u := .pointer (some ⟨ro, 0, none⟩)) wq e (by kernel_rfl) (by kernel_rfl)) HS.out ?_
      refine takeG 1 (.load 3 (.tmp 24)) (some 25) none (.int .i64 bs) (by kernel_rfl) (by kernel_rfl) (by kernel_rfl) (fun _ _ _ h => h) (fun o' wq e hS => exec_load (x := (.tmp 24)) e (by kernel_rfl) (load_one Try.underlying3 (by kernel_rfl) (hS.cell 0))) HS.out ?_
      refine takeG 2 (.move (.tmp 3)) (some 26) none (.slice A1 i c1) (by kernel_rfl) (by kernel_rfl) (by kernel_rfl) (fun _ _ _ h => h) (fun o' wq e hS => exec_move wq e (by kernel_rfl)) HS.out ?_
      refine takeG 3 (.fieldAddr 28 (.tmp 1) 2) (some 27) none (.pointer (some ⟨ro, 2, none⟩)) (by kernel_rfl) (by kernel_rfl) (by kernel_rfl) (fun _ _ _ h => h) (fun o' wq e hS => exec_field (u := .pointer (some ⟨ro, 0, none⟩)) wq e (by kernel_rfl) (by kernel_rfl)) HS.out ?_
      refine takeG 4 (.load 26 (.tmp 27)) (some 28) none (.slice A' m c') (by kernel_rfl) (by kernel_rfl) (by kernel_rfl) (fun _ _ _ h => h) (fun o' wq e hS => exec_load (x := (.tmp 27)) e (by kernel_rfl) (load_one Try.underlying26 (by kernel_rfl) (hS.cell 2))) HS.out ?_
      refine loneG 5 (.call ⟨.value (.func 20), #[(.tmp 28)], #[26]⟩) (some 29) none (by kernel_rfl) (by kernel_rfl) (by kernel_rfl) ?_
      intro o' ho hod
      refine wp_callC (f := 20) (args := #[.slice A' m c']) (by cases o'; cases ho; kernel_rfl) HCL.out ?_
      rintro ee w6 ⟨v6, rfl, o6, b6⟩
      obtain ⟨A6, c6, hv6, _⟩ := o6.shape (fun _ => rfl)
      rw [← HM.out] at hv6
      subst hv6
      have hnb := HNB.out
      have b6' : Below wr.heap.size wr w6 := (Below.refl wr.heap.size wr).drew.trans b6
      have T1 := Y1.out.below b6' Y1.out.lt
      have T2 := Y2.out.below b6' Y2.out.lt
      have HS6 := Lib.hid T1
      have HT2 := Lib.hid T2
      have HT4 : Hid (Blk (((w6.setCell ⟨b2, 0, none⟩ (.int .i64 bs)).setCell ⟨b2, 0 + 1, none⟩ (.slice A1 i c1)).setCell ⟨b2, 0 + 1 + 1, none⟩ (.slice A6 m c6)) b2 28 #[.int .i64 bs, .slice A1 i c1, .slice A6 m c6]) := Lib.hid (((T2.set_ 0 (.int .i64 bs)).set_ 1 (.slice A1 i c1)).set_ 2 (.slice A6 m c6))
      have hk : ∀ g, B ≤ g → (((w6.setCell ⟨b2, 0, none⟩ (.int .i64 bs)).setCell ⟨b2, 0 + 1, none⟩ (.slice A1 i c1)).setCell ⟨b2, 0 + 1 + 1, none⟩ (.slice A6 m c6)).heap[g]? = w6.heap[g]? := fun g hg => ((Below.heap_setCell _ ⟨b2, 0 + 1 + 1, none⟩ _ g (by show g ≠ b2; omega)).trans (Below.heap_setCell _ ⟨b2, 0 + 1, none⟩ _ g (by show g ≠ b2; omega))).trans (Below.heap_setCell _ ⟨b2, 0, none⟩ _ g (by show g ≠ b2; omega))
      have ZO : Hid (Gr.OwnG 51 2 csV (((w6.setCell ⟨b2, 0, none⟩ (.int .i64 bs)).setCell ⟨b2, 0 + 1, none⟩ (.slice A1 i c1)).setCell ⟨b2, 0 + 1 + 1, none⟩ (.slice A6 m c6)) B (.slice A1 i c1) vs) := Lib.hid ((HO.out.below b6' (Nat.le_refl _)).keep fun g hg => hk g (HO.out.lt hg).2)
      have ZH : Hid (OHolds (((w6.setCell ⟨b2, 0, none⟩ (.int .i64 bs)).setCell ⟨b2, 0 + 1, none⟩ (.slice A1 i c1)).setCell ⟨b2, 0 + 1 + 1, none⟩ (.slice A6 m c6)) B vs L.snaps) := Lib.hid ⟨HOH.out.1, fun j s hs => by
        obtain ⟨x, q1, q2, q3, q4⟩ := HOH.out.2 j s hs
        exact ⟨x, q1, q2, q3, (q4.below b6' (Nat.le_refl _)).keep fun g hg => hk g (q4.lt hg).2⟩⟩
      have ZD : Hid (OwnP (((w6.setCell ⟨b2, 0, none⟩ (.int .i64 bs)).setCell ⟨b2, 0 + 1, none⟩ (.slice A1 i c1)).setCell ⟨b2, 0 + 1 + 1, none⟩ (.slice A6 m c6)) wr.heap.size (.slice A6 m c6) L.dead) := Lib.hid (o6.keep fun g hg => hk g (by have := (o6.lt hg).2; have h9 := HBs.out; have h8 : wr.heap.size ≤ g := this; omega))
      have ZL : Hid (Below w.heap.size w (((w6.setCell ⟨b2, 0, none⟩ (.int .i64 bs)).setCell ⟨b2, 0 + 1, none⟩ (.slice A1 i c1)).setCell ⟨b2, 0 + 1 + 1, none⟩ (.slice A6 m c6))) := Lib.hid ((((LW.out.trans (b6'.mono LW.out.size)).setCell (p := ⟨b2, 0, none⟩) (by show w.heap.size ≤ b2; omega) _).setCell (p := ⟨b2, 0 + 1, none⟩) (by show w.heap.size ≤ b2; omega) _).setCell (p := ⟨b2, 0 + 1 + 1, none⟩) (by show w.heap.size ≤ b2; omega) _)
      refine ⟨(.slice A6 m c6), rfl, ?_⟩
      rw [hod]
      clear hod ho o6 b6 b6' T1 T2 hk hnb
      refine ⟨fun _ => HS6.out, ?_⟩
      refine takeG 6 (.build 28 #[(0, (.tmp 25)), (1, (.tmp 26)), (2, (.tmp 29))]) (some 30) none (.agg #[.int .i64 bs, .slice A1 i c1, .slice A6 m c6]) (by kernel_rfl) (by kernel_rfl) (by kernel_rfl) (fun _ _ _ h => h) (fun o' wq e hS => exec_bld3 (u0 := .int .i64 bs) (u1 := .slice A1 i c1) (u2 := .slice A6 m c6) wq e (by kernel_rfl) (by kernel_rfl) (by kernel_rfl) (by kernel_rfl)) HS6.out ?_
      refine lastStore 7 28 (.tmp 2) (.tmp 30) (.pointer (some ⟨b2, 0, none⟩)) (.agg #[.int .i64 bs, .slice A1 i c1, .slice A6 m c6]) (((w6.setCell ⟨b2, 0, none⟩ (.int .i64 bs)).setCell ⟨b2, 0 + 1, none⟩ (.slice A1 i c1)).setCell ⟨b2, 0 + 1 + 1, none⟩ (.slice A6 m c6)) (by kernel_rfl) (by kernel_rfl) (by kernel_rfl) rfl (by kernel_rfl) (by kernel_rfl) (run_storeAt_mid w6 b2 0 28 #[.int .i64 bs, .slice A1 i c1, .slice A6 m c6] (fun j hj => ⟨by
        rw [Nat.zero_add, HT2.out.cell]
        have hj' : j < 3 := hj
        rw [Array.getElem?_eq_getElem (by simpa using hj')]
        rfl, HT2.out.frozen _⟩) (by kernel_rfl) (by simp [Value.oneCell'])) ?_
      simp only [put_some, put_none, List.setIfInBounds_toArray, List.set_cons_succ, List.set_cons_zero]
      go_wp2_with fail
      refine bodyPost_ret (results_cell rfl rfl (loadVar_blk HT4.out Try.underlying28 rfl size_ln)) rfl ?_
      rw [HBS.out] at *
      exact ⟨_, _, vs, rfl, own_base ZO.out (by have := HNB.out; omega), ⟨ZH.out.1, fun j s hs => by obtain ⟨x, q1, q2, q3, q4⟩ := ZH.out.2 j s hs; exact ⟨x, q1, q2, q3, own_base q4 (by have := HNB.out; omega)⟩⟩, own_base ZD.out (by have := LW.out.size; exact this), ZL.out, fun j x hx g g' h1 h2 e => by
        have hj : j < L.snaps.length := by rw [← HOH.out.1]; exact (List.getElem?_eq_some_iff.1 hx).1
        obtain ⟨y, e1, _, _, e4⟩ := HOH.out.2 j _ (List.getElem?_eq_getElem hj)
        rw [hx] at e1
        injection e1 with e1
        subst e1
        have h8 := (e4.lt h1).1
        have h9 := (ZD.out.lt h2).2
        have h7 : wr.heap.size ≤ g' := h9
        omega, by rw [HOH.out.1, ← HN.out]; exact HAT.out⟩
end Dd
end Go.Proofs.Ytefgofoocabkkaa
