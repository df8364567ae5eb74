/-
  A line in memory of its own: its rows lie apart. No conditions beyond those that each theorem types.
-/
import Derived.Test.YtefgofoocabkkaaDeadCloneL
import Derived.Test.YtefgofoocabkkaaDeadCheck
namespace Go.Proofs.Ytefgofoocabkkaa
open Go Go.RowKit
set_option maxRecDepth 100000
set_option linter.unusedVariables false
namespace Dd
theorem holds_of {w : World} {base : Nat} {vs : List SV} {S : List Sn} (h : OHolds w base vs S) : Holds w vs S :=
  ⟨h.1, fun i s hs => by
    obtain ⟨x, h1, h2, h3, h4⟩ := h.2 i s hs
    obtain ⟨A, c, e1, e2, _, _, e3, _⟩ := h4.shape (fun _ => rfl)
    injection e1 with e1 _ e4
    subst e1 e4
    exact ⟨x, h1, h2, h3, e2, e3⟩⟩
theorem rdp_of {w : World} {base n c : Nat} {A : Option Addr} {l : List Pt} (h : OwnP w base (.slice A n c) l) : RdP w A l ∧ (A = none → c = 0) := by
  obtain ⟨A1, c1, e1, e2, _, _, e3, _⟩ := h.shape (fun _ => rfl)
  injection e1 with e1 _ e4
  subst e1 e4
  exact ⟨e2, e3⟩
theorem OHolds.keep {w w' : World} {base : Nat} {vs : List SV} {S : List Sn} (h : OHolds w base vs S) (hf : ∀ (i : Nat) (x : SV), vs[i]? = some x → ∀ g, (Value.slice x.A x.n x.c).ownBlock = some g → base ≤ g → g < w.heap.size → w'.heap[g]? = w.heap[g]?) : OHolds w' base vs S :=
  ⟨h.1, fun i s hs => by
    obtain ⟨x, h1, h2, h3, h4⟩ := h.2 i s hs
    exact ⟨x, h1, h2, h3, h4.keep fun g hg => hf i x h1 g hg (h4.lt hg).2 (h4.lt hg).1⟩⟩
structure LnO (E : TypeId) (w : World) (base : Nat) (A : Option Addr) (c : Nat) (A' : Option Addr) (c' : Nat) (vs : List SV) (L : Ln) : Prop where
  oS : Gr.OwnG E 2 csV w base (.slice A L.snaps.length c) vs
  oH : OHolds w base vs L.snaps
  oD : OwnP w base (.slice A' L.dead.length c') L.dead
  ap : ApartTo vs vs.length
  ad : ∀ (i : Nat) (x : SV), vs[i]? = some x → ∀ g, x.row.ownBlock = some g → (Value.slice A' L.dead.length c').ownBlock ≠ some g
def LnV (E : TypeId) (w : World) (base : Nat) (v : Value) (L : Ln) : Prop := ∃ A c A' c' vs, v = .agg #[.int .i64 L.base, .slice A L.snaps.length c, .slice A' L.dead.length c'] ∧ LnO E w base A c A' c' vs L
section
variable {E : TypeId} {w w' : World} {base : Nat} {A A' : Option Addr} {c c' : Nat} {vs : List SV} {L : Ln} {v : Value}
theorem LnO.keep (h : LnO E w base A c A' c' vs L) (hf : ∀ g, base ≤ g → g < w.heap.size → w'.heap[g]? = w.heap[g]?) : LnO E w' base A c A' c' vs L :=
  ⟨h.oS.keep fun g hg => hf g (h.oS.lt hg).2 (h.oS.lt hg).1, h.oH.keep fun i x _ g _ h1 h2 => hf g h1 h2, h.oD.keep fun g hg => hf g (h.oD.lt hg).2 (h.oD.lt hg).1, h.ap, h.ad⟩
theorem LnO.below {B : Nat} (h : LnO E w base A c A' c' vs L) (hb : Below B w w') (hB : w.heap.size ≤ B) : LnO E w' base A c A' c' vs L := h.keep fun g _ hg => hb.block g (by omega)
theorem LnO.base_ {b : Nat} (h : LnO E w base A c A' c' vs L) (hb : b ≤ base) : LnO E w b A c A' c' vs L :=
  ⟨own_base h.oS hb, ⟨h.oH.1, fun i s hs => by obtain ⟨x, h1, h2, h3, h4⟩ := h.oH.2 i s hs; exact ⟨x, h1, h2, h3, own_base h4 hb⟩⟩, own_base h.oD hb, h.ap, h.ad⟩
theorem LnO.rs (h : LnO E w base A c A' c' vs L) : RdS w A L.snaps ∧ (A = none → c = 0) := by
  obtain ⟨A1, c1, e1, _, _, _, e3, _⟩ := h.oS.shape (fun _ => rfl)
  injection e1 with e1 _ e4
  subst e1 e4
  exact ⟨rds_of h.oS (holds_of h.oH), e3⟩
theorem LnO.rd (h : LnO E w base A c A' c' vs L) : RdP w A' L.dead ∧ (A' = none → c' = 0) := rdp_of h.oD
theorem LnO.toV (h : LnO E w base A c A' c' vs L) : LnV E w base (.agg #[.int .i64 L.base, .slice A L.snaps.length c, .slice A' L.dead.length c']) L := ⟨A, c, A', c', vs, rfl, h⟩
theorem LnV.rdl (h : LnV E w base v L) : RdLn w v L := by
  obtain ⟨A, c, A', c', vs, rfl, h⟩ := h
  exact ⟨A, c, A', c', rfl, h.rs.1, h.rd.1, h.rs.2, h.rd.2⟩
theorem LnV.keep (h : LnV E w base v L) (hf : ∀ g, base ≤ g → g < w.heap.size → w'.heap[g]? = w.heap[g]?) : LnV E w' base v L := by
  obtain ⟨A, c, A', c', vs, e, h⟩ := h
  exact ⟨A, c, A', c', vs, e, h.keep hf⟩
theorem LnV.below {B : Nat} (h : LnV E w base v L) (hb : Below B w w') (hB : w.heap.size ≤ B) : LnV E w' base v L := h.keep fun g _ hg => hb.block g (by omega)
theorem LnV.base_ {b : Nat} (h : LnV E w base v L) (hb : b ≤ base) : LnV E w b v L := by
  obtain ⟨A, c, A', c', vs, e, h⟩ := h
  exact ⟨A, c, A', c', vs, e, h.base_ hb⟩
def lnZero : Ln := ⟨0, [], []⟩
theorem LnV.zero (E : TypeId) (w : World) (base : Nat) : LnV E w base (.agg #[.int .i64 0, .slice none 0 0, .slice none 0 0]) lnZero :=
  ⟨none, 0, none, 0, [], rfl, Gr.OwnG.nil _ _, ⟨rfl, fun i s h => by simp [lnZero] at h⟩, Gr.OwnG.nil _ _, fun i j x y h1 h2 => by simp at h2, fun i x h => by simp at h⟩
/-- rows of snapshots lie in other blocks than rows of blocks -/
theorem LnO.sne (h : LnO E w base A c A' c' vs L) (hE : E ≠ 36) {g : Nat} {cur : Array Value} (hg : Blk w g 36 cur) : (Value.slice A L.snaps.length c).ownBlock ≠ some g := fun e => by
  obtain ⟨cu, h1⟩ := h.oS.blk_of e
  exact (Blk.ne_ h1 hg hE) rfl
/-- 'l.Dead = append(l.Dead, p)' -/
theorem LnO.pushDead (h : LnO E w base A c A' c' vs L) (hE : E ≠ 36) {v7 : Value} {D : List Pt} (ho : OwnP w' base v7 D) (hk : ∀ g, g < w.heap.size → (Value.slice A' L.dead.length c').ownBlock ≠ some g → w'.heap[g]? = w.heap[g]?) (hv : v7.ownBlock = (Value.slice A' L.dead.length c').ownBlock ∨ ∃ g, v7.ownBlock = some g ∧ w.heap.size ≤ g) :
    ∃ A7 c7, v7 = .slice A7 D.length c7 ∧ LnO E w' base A c A7 c7 vs ⟨L.base, L.snaps, D⟩ := by
  obtain ⟨A7, c7, e7, _⟩ := ho.shape (fun _ => rfl)
  subst e7
  refine ⟨A7, c7, rfl, h.oS.keep fun g hg => hk g (h.oS.lt hg).1 fun e => ?_, h.oH.keep fun i x hx g hg _ hlt => hk g hlt fun e => h.ad i x hx g hg e, ho, h.ap, fun i x hx g hg e => ?_⟩
  · obtain ⟨cu, h1⟩ := h.oD.blk_of e
    exact h.sne hE h1 hg
  · have hi : i < L.snaps.length := by rw [← h.oH.1]; exact (List.getElem?_eq_some_iff.1 hx).1
    obtain ⟨x', e1, _, _, e4⟩ := h.oH.2 i _ (List.getElem?_eq_getElem hi)
    rw [hx] at e1
    injection e1 with e1
    subst e1
    rcases hv with hv | ⟨g', hv, hg'⟩
    · exact h.ad i x hx g hg (hv.symm.trans e)
    · rw [hv] at e
      injection e with e
      have := (e4.lt hg).1
      omega
/-- 'l.Snaps = append(l.Snaps, Snap{txg, l.Dead}); l.Dead = nil' -/
theorem LnO.pushSnap (h : LnO E w base A c A' c' vs L) (hE : E ≠ 36) {v7 : Value} {t : Int} (ho : Gr.OwnG E 2 csV w' base v7 (vs ++ [⟨t, A', L.dead.length, c'⟩])) (hk : ∀ g, g < w.heap.size → (Value.slice A L.snaps.length c).ownBlock ≠ some g → w'.heap[g]? = w.heap[g]?) :
    ∃ A7 c7, v7 = .slice A7 (L.snaps.length + 1) c7 ∧ LnO E w' base A7 c7 none 0 (vs ++ [⟨t, A', L.dead.length, c'⟩]) ⟨L.base, L.snaps ++ [⟨t, L.dead⟩], []⟩ := by
  obtain ⟨A7, c7, e7, _⟩ := ho.shape (fun _ => rfl)
  have hl : (vs ++ [(⟨t, A', L.dead.length, c'⟩ : SV)]).length = L.snaps.length + 1 := by rw [List.length_append, h.oH.1]; rfl
  rw [hl] at e7
  subst e7
  have hne : ∀ (g : Nat) (cur : Array Value), Blk w g 36 cur → w'.heap[g]? = w.heap[g]? := fun g cur hb => hk g hb.lt (h.sne hE hb)
  refine ⟨A7, c7, rfl, by simpa using ho, ⟨by simp [h.oH.1], fun i s hs => ?_⟩, Gr.OwnG.nil _ _, fun i j x y hij hj hx hy g hg => ?_, fun i x hx g hg e => by cases e⟩
  · by_cases hi : i < L.snaps.length
    · rw [List.getElem?_append_left hi] at hs
      obtain ⟨x, e1, e2, e3, e4⟩ := h.oH.2 i s hs
      exact ⟨x, by rw [List.getElem?_append_left (by rw [h.oH.1]; exact hi)]; exact e1, e2, e3, e4.keep fun g hg => by obtain ⟨cu, h1⟩ := e4.blk_of hg; exact hne g cu h1⟩
    · rw [List.getElem?_append_right (by omega)] at hs
      have e : i - L.snaps.length = 0 := by
        have := (List.getElem?_eq_some_iff.1 hs).1
        simp at this
        omega
      rw [e] at hs
      injection hs with hs
      subst hs
      exact ⟨_, by rw [List.getElem?_append_right (by rw [h.oH.1]; omega), h.oH.1, e]; rfl, rfl, rfl, h.oD.keep fun g hg => by obtain ⟨cu, h1⟩ := h.oD.blk_of hg; exact hne g cu h1⟩
  · have hj' : j < vs.length + 1 := by simpa using hj
    rw [List.getElem?_append_left (by omega)] at hx
    by_cases e : j = vs.length
    · subst e
      rw [List.getElem?_append_right (Nat.le_refl _), Nat.sub_self] at hy
      injection hy with hy
      subst hy
      exact h.ad i x hx g hg
    · rw [List.getElem?_append_left (by omega)] at hy
      exact h.ap i j x y hij (by omega) hx hy g hg
end
def CloneL (w : World) (L : Ln) (e : Ending) (w' : World) : Prop := ∃ A c A' c' vs, e = .returned (.agg #[.int .i64 L.base, .slice A L.snaps.length c, .slice A' L.dead.length c']) ∧ LnO 51 w' w.heap.size A c A' c' vs L ∧ Below w.heap.size w w'
theorem clone_o (w : World) (L : Ln) (A A' : Option Addr) (c c' : Nat) (hf : Fit L) (hs : RdS w A L.snaps) (hsn : A = none → c = 0) (hd : RdP w A' L.dead) (hdn : A' = none → c' = 0) :
    Calls Try.prog 12 #[.agg #[.int .i64 L.base, .slice A L.snaps.length c, .slice A' L.dead.length c']] w fun e w' => CloneL w L e w' := by
  refine (lclone_at w L A A' c c' hf hs hsn hd hdn).mono fun e w' h => ?_
  obtain ⟨vS, vD, vs, rfl, oS, hH, oD, b3, had, hap⟩ := h
  obtain ⟨A1, c1, hvS, _⟩ := oS.shape (fun _ => rfl)
  obtain ⟨A5, c5, hvD, _⟩ := oD.shape (fun _ => rfl)
  rw [hH.1] at hvS
  subst hvS hvD
  exact ⟨A1, c1, A5, c5, vs, rfl, ⟨oS, hH, oD, hap, fun i x hx g hg e => had i x hx g g hg e rfl⟩, b3⟩
theorem ne_ds : 51 ≠ 36 := by decide
theorem results_cell3 {fn : Func} {t s r : Tmp} {ty : TypeId} (h : fn.results = #[.cell t ty, .tmp s, .tmp r]) {tmps : Array Value} {g : Nat} {v v1 v2 : Value} {w : World} (hp : tmps.getD t undef = .pointer (some ⟨g, 0, none⟩)) (hl : (loadVar ty ⟨g, 0, none⟩).run Try.prog w = .ok v w) (h1 : tmps.getD s undef = v1) (h2 : tmps.getD r undef = v2) :
    (results fn tmps).run Try.prog w = .ok (.tuple #[v, v1, v2]) w := by
  have hp2 : tmps[t]?.getD undef = .pointer (some ⟨g, 0, none⟩) := by rw [← hp]; simp
  have h12 : tmps[s]?.getD undef = v1 := by rw [← h1]; simp
  have h22 : tmps[r]?.getD undef = v2 := by rw [← h2]; simp
  simp [results, h]
  rw [hp2]
  simp [asAddr, hl, h12, h22]
theorem results_cell2 {fn : Func} {t s : Tmp} {ty : TypeId} (h : fn.results = #[.cell t ty, .tmp s]) {tmps : Array Value} {g : Nat} {v v1 : Value} {w : World} (hp : tmps.getD t undef = .pointer (some ⟨g, 0, none⟩)) (hl : (loadVar ty ⟨g, 0, none⟩).run Try.prog w = .ok v w) (h1 : tmps.getD s undef = v1) :
    (results fn tmps).run Try.prog w = .ok (.tuple #[v, v1]) w := by
  have hp2 : tmps[t]?.getD undef = .pointer (some ⟨g, 0, none⟩) := by rw [← hp]; simp
  have h12 : tmps[s]?.getD undef = v1 := by rw [← h1]; simp
  simp [results, h]
  rw [hp2]
  simp [asAddr, hl, h12]
theorem gtr_isK (a b : Int) (r : Bool) (h : decide (b < a) = r) (W : World) : (binOp .gtr 3 (.int .i64 a) (.int .i64 b)).run Try.prog W = .ok (.bool r) W := by rw [← h]; rfl
theorem rd_one (w : World) (p : Pt) : RdP (w.alloc (.cells #[.int .i64 p.addr, .int .i64 p.size, .int .i64 p.birth, .string p.sum] 36)) (some ⟨w.heap.size, 0, none⟩) [p] := fun i x hx => by
  have hi : i = 0 := by have := (List.getElem?_eq_some_iff.1 hx).1; simp at this; omega
  subst hi
  injection hx with hx
  subst hx
  refine ⟨w.heap.size, 0, rfl, by simp, fun j u hu => ?_⟩
  have h := (Blk.new w 36 #[.int .i64 p.addr, .int .i64 p.size, .int .i64 p.birth, .string p.sum]).cell j
  rw [show 0 + 0 * 4 + j = j by omega, h]
  simpa [csP] using hu
theorem exec_bs0 {P : Program} {w w' : World} {o : Oper} {a : Act} {ty : TypeId} {v : Value} (ho : o.op = .buildSlice ty 0 #[]) (hl : (Instr.buildSlice ty 0 #[]).run P w = .ok v w') : (execOp a.eval o).run P w = .ok (.value v) w' := by
  unfold execOp
  simp [ho, hl, Sem.run_bind, Sem.run_pure]
theorem bs_pt0 (w : World) : (Instr.buildSlice 26 0 #[]).run Try.prog w = .ok (.slice (some ⟨w.heap.size, 0, none⟩) 0 0) (w.alloc (.cells #[] 36)) := by kernel_rfl
/-- one snapshot more, its list a new row -/
theorem LnO.addSnap {E : TypeId} {w w2 w7 : World} {B : Nat} {A A' A2 : Option Addr} {c c' c2 : Nat} {vs : List SV} {L : Ln} {v7 : Value} {t : Int} {D : List Pt} (h : LnO E w B A c A' c' vs L) (hE : E ≠ 36) (hk : ∀ g, g < w.heap.size → w2.heap[g]? = w.heap[g]?) (hz : w.heap.size ≤ w2.heap.size) (hB : B ≤ w.heap.size)
    (ho : OwnP w2 w.heap.size (.slice A2 D.length c2) D) (ho7 : Gr.OwnG E 2 csV w7 B v7 (vs ++ [⟨t, A2, D.length, c2⟩])) (hk7 : ∀ g, g < w2.heap.size → (Value.slice A L.snaps.length c).ownBlock ≠ some g → w7.heap[g]? = w2.heap[g]?) :
    ∃ A7 c7, v7 = .slice A7 (L.snaps.length + 1) c7 ∧ LnO E w7 B A7 c7 A' c' (vs ++ [⟨t, A2, D.length, c2⟩]) ⟨L.base, L.snaps ++ [⟨t, D⟩], L.dead⟩ := by
  obtain ⟨A7, c7, e7, _⟩ := ho7.shape (fun _ => rfl)
  have hl : (vs ++ [(⟨t, A2, D.length, c2⟩ : SV)]).length = L.snaps.length + 1 := by rw [List.length_append, h.oH.1]; rfl
  rw [hl] at e7
  subst e7
  have h2 : LnO E w2 B A c A' c' vs L := h.keep fun g _ hg => hk g hg
  have hne : ∀ (g : Nat) (cur : Array Value), Blk w2 g 36 cur → w7.heap[g]? = w2.heap[g]? := fun g cur hb => hk7 g hb.lt (h2.sne hE hb)
  have old : ∀ (i : Nat) (x : SV), vs[i]? = some x → ∀ g, x.row.ownBlock = some g → g < w.heap.size := fun i x hx g hg => by
    have hi : i < L.snaps.length := by rw [← h.oH.1]; exact (List.getElem?_eq_some_iff.1 hx).1
    obtain ⟨x', e1, _, _, e4⟩ := h.oH.2 i _ (List.getElem?_eq_getElem hi)
    rw [hx] at e1
    injection e1 with e1
    subst e1
    exact (e4.lt hg).1
  refine ⟨A7, c7, rfl, by simpa using ho7, ⟨by simp [h.oH.1], fun i s hs => ?_⟩, h2.oD.keep fun g hg => by obtain ⟨cu, h1⟩ := h2.oD.blk_of hg; exact hne g cu h1, fun i j x y hij hj hx hy g hg => ?_, fun i x hx g hg e => ?_⟩
  · by_cases hi : i < L.snaps.length
    · rw [List.getElem?_append_left hi] at hs
      obtain ⟨x, e1, e2, e3, e4⟩ := h2.oH.2 i s hs
      exact ⟨x, by rw [List.getElem?_append_left (by rw [h.oH.1]; exact hi)]; exact e1, e2, e3, e4.keep fun g hg => by obtain ⟨cu, h1⟩ := e4.blk_of hg; exact hne g cu h1⟩
    · rw [List.getElem?_append_right (by omega)] at hs
      have e : i - L.snaps.length = 0 := by
        have := (List.getElem?_eq_some_iff.1 hs).1
        simp at this
        omega
      rw [e] at hs
      injection hs with hs
      subst hs
      exact ⟨_, by rw [List.getElem?_append_right (by rw [h.oH.1]; omega), h.oH.1, e]; rfl, rfl, rfl, (own_base ho hB).keep fun g hg => by obtain ⟨cu, h1⟩ := ho.blk_of hg; exact hne g cu h1⟩
  · have hj' : j < vs.length + 1 := by simpa using hj
    rw [List.getElem?_append_left (by omega)] at hx
    by_cases e : j = vs.length
    · subst e
      rw [List.getElem?_append_right (Nat.le_refl _), Nat.sub_self] at hy
      injection hy with hy
      subst hy
      intro he
      have h1 := old i x hx g hg
      have h3 := (ho.lt he).2
      omega
    · rw [List.getElem?_append_left (by omega)] at hy
      exact h.ap i j x y hij (by omega) hx hy g hg
  · by_cases hi : i < vs.length
    · rw [List.getElem?_append_left hi] at hx
      exact h.ad i x hx g hg e
    · rw [List.getElem?_append_right (by omega)] at hx
      have e0 : i - vs.length = 0 := by
        have := (List.getElem?_eq_some_iff.1 hx).1
        simp at this
        omega
      rw [e0] at hx
      injection hx with hx
      subst hx
      have h1 := (h.oD.lt e).1
      have h3 := (ho.lt hg).2
      omega
theorem exec_ext {P : Program} {a : Act} {o : Oper} {x : Operand} {k : Nat} {vs : Array Value} {v : Value} (w : World) (e : o.op = .extract x k) (hx : a.eval x = .tuple vs) (hv : vs[k]? = some v) : (execOp a.eval o).run P w = .ok (.value v) w := by
  unfold execOp
  simp [e, hx, Instr.extract, hv, Sem.run_bind, Sem.run_pure]
end Dd
end Go.Proofs.Ytefgofoocabkkaa
