/-
  All that the law's history keeps in memory: what one step may have changed. No conditions beyond those that each theorem types.
-/
import Derived.Test.YtefgofoocabkkaaDeadExC
namespace Go.Proofs.Ytefgofoocabkkaa
open Go Go.RowKit
set_option maxRecDepth 100000
set_option linter.unusedVariables false
namespace Dd
open Nr (OwnN csN)
def Off (v v' : Value) : Prop := ∀ g, v.ownBlock = some g → v'.ownBlock ≠ some g
/-- the rows: the head's numbers, the origin's, the snapshots' rows, the births, the marks -/
structure Mm (w : World) (base : Nat) (vH vO vS vB vF : Value) (H O : List Nat) (S : List (List Nat)) (B : List Nat) (F : List Bool) : Prop where
  oH : OwnN w base vH H
  oO : OwnN w base vO O
  oB : OwnN w base vB B
  oF : OwnT w base vF F
  oS : ∃ vs : List RV, OwnR w base vS vs ∧ vs.length = S.length ∧ ∀ (i : Nat) (x : RV) (V : List Nat), vs[i]? = some x → S[i]? = some V → OwnN w base x.v V ∧ Off x.v vB
  aH : Off vH vB
  aO : Off vO vB
  sz : base ≤ w.heap.size
/-- blocks that may hold rows of the history -/
def rowT (t : TypeId) : Prop := t = 3 ∨ t = 4 ∨ t = 29
section
variable {w w' : World} {base : Nat} {vH vO vS vB vF v : Value} {H O : List Nat} {S : List (List Nat)} {B : List Nat} {F : List Bool}
theorem Mm.keep (h : Mm w base vH vO vS vB vF H O S B F) (hz : w.heap.size ≤ w'.heap.size) (hf : ∀ g t cur, rowT t → Blk w g t cur → w'.heap[g]? = w.heap[g]?) : Mm w' base vH vO vS vB vF H O S B F := by
  obtain ⟨vs, h1, h2, h3⟩ := h.oS
  have kN : ∀ {v : Value} {l : List Nat}, OwnN w base v l → OwnN w' base v l := fun ho => ho.keep fun g hg => by obtain ⟨cu, hc⟩ := ho.blk_of hg; exact hf g _ cu (.inl rfl) hc
  refine ⟨kN h.oH, kN h.oO, kN h.oB, h.oF.keep fun g hg => by obtain ⟨cu, hc⟩ := h.oF.blk_of hg; exact hf g _ cu (.inr (.inl rfl)) hc, ⟨vs, h1.keep fun g hg => by obtain ⟨cu, hc⟩ := h1.blk_of hg; exact hf g _ cu (.inr (.inr rfl)) hc, h2, fun i x V hx hV => ?_⟩, h.aH, h.aO, Nat.le_trans h.sz hz⟩
  obtain ⟨h4, h5⟩ := h3 i x V hx hV
  exact ⟨kN h4, h5⟩
theorem Mm.below (h : Mm w base vH vO vS vB vF H O S B F) (hb : Below w.heap.size w w') : Mm w' base vH vO vS vB vF H O S B F :=
  h.keep hb.size fun g t cur _ hg => hb.block g hg.lt
/-- a store into a line, or into a block -/
theorem Mm.put (h : Mm w base vH vO vS vB vF H O S B F) {g : Nat} {t : TypeId} {cur : Array Value} (hg : Blk w g t cur) (ht : ¬ rowT t) (hz : w.heap.size ≤ w'.heap.size) (hf : ∀ g', g' ≠ g → w'.heap[g']? = w.heap[g']?) : Mm w' base vH vO vS vB vF H O S B F :=
  h.keep hz fun g' t' cur' hr hg' => hf g' (Blk.ne_ hg' hg fun e => ht (e ▸ hr))
theorem off_row {v v' x : Value} (h : ∀ g, x.ownBlock = some g → g < w.heap.size) (hr : v'.ownBlock = v.ownBlock ∨ ∃ g, v'.ownBlock = some g ∧ w.heap.size ≤ g) (ha : Off x v) : Off x v' := fun g hg e => by
  rcases hr with hr | ⟨g', h1, h2⟩
  · exact ha g hg (hr.symm.trans e)
  · rw [h1] at e
    injection e with e
    have := h g hg
    omega
/-- 'births = append(births, x)' -/
theorem Mm.pushB (h : Mm w base vH vO vS vB vF H O S B F) {vB' : Value} {B' : List Nat} (ho : OwnN w' base vB' B') (hr : RowC vB vB' w w') : Mm w' base vH vO vS vB' vF H O S B' F := by
  obtain ⟨vs, h1, h2, h3⟩ := h.oS
  obtain ⟨r1, r2, r3⟩ := hr
  have kN : ∀ {v : Value} {l : List Nat}, OwnN w base v l → Off v vB → OwnN w' base v l ∧ Off v vB' := fun ho ha => ⟨ho.keep fun g hg => r2 g (ho.lt hg).1 fun e => ha g hg e, off_row (fun g hg => (ho.lt hg).1) r3 ha⟩
  have hne : ∀ {g : Nat} {t : TypeId} {cu : Array Value}, Blk w g t cu → t ≠ 3 → w'.heap[g]? = w.heap[g]? := fun {g t cu} hc ht => r2 g hc.lt fun e => by
    obtain ⟨cu', hc'⟩ := h.oB.blk_of e
    exact (Blk.ne_ hc hc' ht) rfl
  refine ⟨(kN h.oH h.aH).1, (kN h.oO h.aO).1, ho, h.oF.keep fun g hg => by obtain ⟨cu, hc⟩ := h.oF.blk_of hg; exact hne hc (by decide), ⟨vs, h1.keep fun g hg => by obtain ⟨cu, hc⟩ := h1.blk_of hg; exact hne hc (by decide), h2, fun i x V hx hV => ?_⟩, (kN h.oH h.aH).2, (kN h.oO h.aO).2, Nat.le_trans h.sz r1⟩
  obtain ⟨h4, h5⟩ := h3 i x V hx hV
  exact kN h4 h5
/-- 'free = append(free, x)', or a mark -/
theorem Mm.pushF (h : Mm w base vH vO vS vB vF H O S B F) {vF' : Value} {F' : List Bool} (ho : OwnT w' base vF' F') (hr : RowC vF vF' w w') : Mm w' base vH vO vS vB vF' H O S B F' := by
  obtain ⟨vs, h1, h2, h3⟩ := h.oS
  obtain ⟨r1, r2, r3⟩ := hr
  have hne : ∀ {g : Nat} {t : TypeId} {cu : Array Value}, Blk w g t cu → t ≠ 4 → w'.heap[g]? = w.heap[g]? := fun {g t cu} hc ht => r2 g hc.lt fun e => by
    obtain ⟨cu', hc'⟩ := h.oF.blk_of e
    exact (Blk.ne_ hc hc' ht) rfl
  have kN : ∀ {v : Value} {l : List Nat}, OwnN w base v l → OwnN w' base v l := fun ho => ho.keep fun g hg => by obtain ⟨cu, hc⟩ := ho.blk_of hg; exact hne hc (by decide)
  refine ⟨kN h.oH, kN h.oO, kN h.oB, ho, ⟨vs, h1.keep fun g hg => by obtain ⟨cu, hc⟩ := h1.blk_of hg; exact hne hc (by decide), h2, fun i x V hx hV => ?_⟩, h.aH, h.aO, Nat.le_trans h.sz r1⟩
  obtain ⟨h4, h5⟩ := h3 i x V hx hV
  exact ⟨kN h4, h5⟩
/-- another row of rows -/
theorem Mm.setS (h : Mm w base vH vO vS vB vF H O S B F) {vS' : Value} {vs' : List RV} {S' : List (List Nat)} (ho : OwnR w' base vS' vs') (hz : w.heap.size ≤ w'.heap.size) (hk : ∀ g t cur, (t = 3 ∨ t = 4) → Blk w g t cur → w'.heap[g]? = w.heap[g]?) (hl : vs'.length = S'.length)
    (hs : ∀ (i : Nat) (x : RV) (V : List Nat), vs'[i]? = some x → S'[i]? = some V → OwnN w base x.v V ∧ Off x.v vB) : Mm w' base vH vO vS' vB vF H O S' B F := by
  have kN : ∀ {v : Value} {l : List Nat}, OwnN w base v l → OwnN w' base v l := fun ho => ho.keep fun g hg => by obtain ⟨cu, hc⟩ := ho.blk_of hg; exact hk g _ cu (.inl rfl) hc
  refine ⟨kN h.oH, kN h.oO, kN h.oB, h.oF.keep fun g hg => by obtain ⟨cu, hc⟩ := h.oF.blk_of hg; exact hk g _ cu (.inr rfl) hc, ⟨vs', ho, hl, fun i x V hx hV => ?_⟩, h.aH, h.aO, Nat.le_trans h.sz hz⟩
  obtain ⟨h4, h5⟩ := hs i x V hx hV
  exact ⟨kN h4, h5⟩
/-- another head, that was made now -/
theorem Mm.setH (h : Mm w base vH vO vS vB vF H O S B F) {vH' : Value} {H' : List Nat} (ho : OwnN w' w.heap.size vH' H') (hb : Below w.heap.size w w') : Mm w' base vH' vO vS vB vF H' O S B F := by
  have h1 := h.below hb
  refine ⟨own_base ho h.sz, h1.oO, h1.oB, h1.oF, h1.oS, fun g hg e => ?_, h1.aO, h1.sz⟩
  have h2 := (ho.lt hg).2
  have h3 := (h.oB.lt e).1
  omega
/-- a snapshot more -/
theorem Mm.snap (h : Mm w base vH vO vS vB vF H O S B F) {vs : List RV} (hv : OwnR w base vS vs ∧ vs.length = S.length ∧ ∀ (i : Nat) (x : RV) (V : List Nat), vs[i]? = some x → S[i]? = some V → OwnN w base x.v V ∧ Off x.v vB) {x : RV} {V : List Nat} (hx : OwnN w base x.v V) (ha : Off x.v vB) {vS' : Value} (ho : OwnR w' base vS' (vs ++ [x])) (hr : RowC vS vS' w w') : Mm w' base vH vO vS' vB vF H O (S ++ [V]) B F := by
  obtain ⟨h1, h2, h3⟩ := hv
  obtain ⟨r1, r2, r3⟩ := hr
  refine h.setS ho r1 (fun g t cur ht hg => r2 g hg.lt fun e => ?_) (by simp [h2]) fun i y U hy hU => ?_
  · obtain ⟨cu', hc'⟩ := h1.blk_of e
    exact (Blk.ne_ hg hc' (by rcases ht with rfl | rfl <;> decide)) rfl
  · by_cases hi : i < vs.length
    · rw [List.getElem?_append_left hi] at hy
      rw [List.getElem?_append_left (by omega)] at hU
      exact h3 i y U hy hU
    · have hi2 : i = vs.length := by
        have := (List.getElem?_eq_some_iff.1 hy).1
        simp at this
        omega
      subst hi2
      simp at hy
      rw [h2] at hU
      simp at hU
      subst hy hU
      exact ⟨hx, ha⟩
/-- a snapshot less -/
theorem Mm.less (h : Mm w base vH vO vS vB vF H O S B F) {vs : List RV} (hv : OwnR w base vS vs ∧ vs.length = S.length ∧ ∀ (i : Nat) (x : RV) (V : List Nat), vs[i]? = some x → S[i]? = some V → OwnN w base x.v V ∧ Off x.v vB) {k : Nat} {vS' : Value} (ho : OwnR w' w.heap.size vS' (vs.eraseIdx k)) (hb : Below w.heap.size w w') : Mm w' base vH vO vS' vB vF H O (S.eraseIdx k) B F := by
  obtain ⟨h1, h2, h3⟩ := hv
  refine h.setS (own_base ho h.sz) hb.size (fun g t cur ht hg => hb.block g hg.lt) (by rw [List.length_eraseIdx, List.length_eraseIdx, h2]) fun i y U hy hU => ?_
  rw [get_erase] at hy hU
  exact h3 _ y U hy hU
/-- the line beside the rows -/
theorem LS.row {g : Nat} {L : Ln} {A A' : Option Addr} {c c' : Nat} (h : LS w g L A c A' c') (hf : ∀ g t cur, ¬ rowT t → Blk w g t cur → w'.heap[g]? = w.heap[g]?) : LS w' g L A c A' c' := by
  obtain ⟨h1, vs, h2⟩ := h
  refine ⟨(hf g _ _ (by unfold rowT; decide) h1).trans h1, vs, h2.oS.keep fun g hg => by obtain ⟨cu, hc⟩ := h2.oS.blk_of hg; exact hf g _ cu (by unfold rowT; decide) hc, h2.oH.keep fun i x hx g hg _ hlt => ?_, h2.oD.keep fun g hg => by obtain ⟨cu, hc⟩ := h2.oD.blk_of hg; exact hf g _ cu (by unfold rowT; decide) hc, h2.ap, h2.ad⟩
  have hi : i < L.snaps.length := by rw [← h2.oH.1]; exact (List.getElem?_eq_some_iff.1 hx).1
  obtain ⟨x', e1, _, _, e4⟩ := h2.oH.2 i _ (List.getElem?_eq_getElem hi)
  rw [hx] at e1
  injection e1 with e1
  subst e1
  obtain ⟨cu, hc⟩ := e4.blk_of hg
  exact hf g _ cu (by unfold rowT; decide) hc
theorem LS.rowC {g : Nat} {L : Ln} {A A' : Option Addr} {c c' : Nat} {t : TypeId} {α : Type} {cs : α → List Value} {l : List α} {vR vR' : Value} (h : LS w g L A c A' c') (ho : Gr.OwnG t 1 cs w base vR l) (ht : rowT t) (hr : RowC vR vR' w w') : LS w' g L A c A' c' :=
  h.row fun g t' cur hn hg => hr.2.1 g hg.lt fun e => by
    obtain ⟨cu', hc'⟩ := ho.blk_of e
    exact (Blk.ne_ hg hc' fun e => hn (e ▸ ht)) rfl
theorem OwnP.rowC {D : List Pt} {b2 : Nat} {t : TypeId} {α : Type} {cs : α → List Value} {l : List α} {vR vR' : Value} (h : OwnP w b2 v D) (ho : Gr.OwnG t 1 cs w base vR l) (ht : rowT t) (hr : RowC vR vR' w w') : OwnP w' b2 v D :=
  h.keep fun g hg => hr.2.1 g (h.lt hg).1 fun e => by
    obtain ⟨cu', hc'⟩ := ho.blk_of e
    obtain ⟨cu, hc⟩ := h.blk_of hg
    exact (Blk.ne_ hc hc' fun e => by subst e; rcases ht with e | e | e <;> exact absurd e (by decide)) rfl
/-- an own row that holds something: its block, and what stands there -/
theorem own_in {α : Type} {t : TypeId} {cs : α → List Value} {l : List α} (hk : ∀ x, (cs x).length = 1) (h : Gr.OwnG t 1 cs w base v l) {i : Nat} (hi : i < l.length) : ∃ g c cur, v = .slice (some ⟨g, 0, none⟩) l.length c ∧ base ≤ g ∧ g < w.heap.size ∧ l.length ≤ c ∧ c ≤ maxLen ∧ Blk w g t cur ∧ cur.size = c ∧ Gr.RdG 1 cs w (some ⟨g, 0, none⟩) l := by
  have hs := h.shape hk
  have h0 := h
  rcases h.2 with ⟨h1, h2⟩ | ⟨g, cap, cur, h1, h2, h3, h4, h5, h6, h7⟩
  · omega
  · obtain ⟨A, c, e1, e2, e3, e4, e5, e6⟩ := hs
    rw [h1] at e1
    injection e1 with e1 e7 e8
    subst e1 e8
    exact ⟨g, cap, cur, h1, h2, (e6 g 0 none rfl).2, h4, h5, h3, by rw [h6, Nat.mul_one], e2⟩
/-- 'free[n] = true' -/
theorem mark {F : List Bool} {g n c : Nat} (h : OwnT w base (.slice (some ⟨g, 0, none⟩) F.length c) F) (hn : n < F.length) : OwnT (w.setCell ⟨g, n, none⟩ (.bool true)) base (.slice (some ⟨g, 0, none⟩) F.length c) (F.set n true) ∧ RowC (.slice (some ⟨g, 0, none⟩) F.length c) (.slice (some ⟨g, 0, none⟩) F.length c) w (w.setCell ⟨g, n, none⟩ (.bool true)) := by
  have hz : (w.setCell ⟨g, n, none⟩ (.bool true)).heap.size = w.heap.size := by simp [World.setCell]
  refine ⟨⟨?_, ?_⟩, by rw [hz]; exact Nat.le_refl _, fun g' _ hne => Below.heap_setCell _ ⟨g, n, none⟩ _ g' (fun e => hne (by rw [e]; rfl)), .inl rfl⟩
  · exact Gr.flat_length (k := 1) (cs := csT) (fun _ => rfl) _
  · rcases h.2 with ⟨h1, h2⟩ | ⟨g', cap, cur, h1, h2, h3, h4, h5, h6, h7⟩
    · cases h1
    · injection h1 with h1 h8 h9
      injection h1 with h1
      injection h1 with h1
      subst h1 h9
      rw [List.length_set]
      have hb : Blk w g 4 cur := h3
      refine .inr ⟨g, c, cur.setIfInBounds n (.bool true), rfl, h2, hb.set_ n _, h4, h5, by simpa using h6, ?_⟩
      have hcs : ∀ l : List Bool, l.flatMap csT = l.map Value.bool := fun l => by
        induction l with
        | nil => rfl
        | cons x l ih => rw [List.flatMap_cons, ih]; rfl
      rw [hcs] at h7 ⊢
      rw [Nat.mul_one] at h7 ⊢
      rw [Array.toList_setIfInBounds, List.take_set, h7, List.map_set]
theorem mark_k {F : List Bool} {g n c k : Nat} (hk : k = F.length) (h : OwnT w base (.slice (some ⟨g, 0, none⟩) k c) F) (hn : n < k) : OwnT (w.setCell ⟨g, n, none⟩ (.bool true)) base (.slice (some ⟨g, 0, none⟩) k c) (F.set n true) ∧ RowC (.slice (some ⟨g, 0, none⟩) k c) (.slice (some ⟨g, 0, none⟩) k c) w (w.setCell ⟨g, n, none⟩ (.bool true)) := by
  subst hk
  exact mark h hn
theorem nd_take {l : List Nat} (h : l.Nodup) {r n : Nat} (hn : l[r]? = some n) : n ∉ l.take r := fun hm => by
  obtain ⟨i, hi⟩ := List.getElem?_of_mem hm
  have hir := (List.getElem?_eq_some_iff.1 hi).1
  rw [List.length_take] at hir
  rw [List.getElem?_take_of_lt (by omega)] at hi
  have := (List.getElem?_inj (List.getElem?_eq_some_iff.1 hi).1 h).1 (hi.trans hn.symm)
  omega
/-- an own row in a block can be read -/
theorem _root_.Go.Proofs.Ytefgofoocabkkaa.Gr.OwnG.rd_some {α : Type} {t : TypeId} {cs : α → List Value} {l : List α} {A : Option Addr} {n c : Nat} (h : Gr.OwnG t 1 cs w base (.slice A n c) l) (hk : ∀ x, (cs x).length = 1) : Gr.RdG 1 cs w A l := by
  obtain ⟨A1, c1, e1, e2, _⟩ := h.shape hk
  injection e1 with e1 _ _
  rw [e1]
  exact e2
theorem off_symm {v v' : Value} (h : Off v v') : Off v' v := fun g hg e => h g e hg
/-- ahead of the first step: the head's row and the origin's grow too -/
structure M1 (w : World) (base : Nat) (vH vO vB vF : Value) (H O B : List Nat) (F : List Bool) : Prop where
  m : Mm w base vH vO (.slice none 0 0) vB vF H O [] B F
  a : Off vH vO
theorem M1.below (h : M1 w base vH vO vB vF H O B F) (hb : Below w.heap.size w w') : M1 w' base vH vO vB vF H O B F := ⟨h.m.below hb, h.a⟩
theorem M1.pushB (h : M1 w base vH vO vB vF H O B F) {vB' : Value} {B' : List Nat} (ho : OwnN w' base vB' B') (hr : RowC vB vB' w w') : M1 w' base vH vO vB' vF H O B' F := ⟨h.m.pushB ho hr, h.a⟩
theorem M1.pushF (h : M1 w base vH vO vB vF H O B F) {vF' : Value} {F' : List Bool} (ho : OwnT w' base vF' F') (hr : RowC vF vF' w w') : M1 w' base vH vO vB vF' H O B F' := ⟨h.m.pushF ho hr, h.a⟩
theorem nilR (w : World) (base : Nat) (vB : Value) : ∃ vs : List RV, OwnR w base (.slice none 0 0) vs ∧ vs.length = ([] : List (List Nat)).length ∧ ∀ (i : Nat) (x : RV) (V : List Nat), vs[i]? = some x → ([] : List (List Nat))[i]? = some V → OwnN w base x.v V ∧ Off x.v vB :=
  ⟨[], Gr.OwnG.nil _ _, rfl, fun i x V h => by simp at h⟩
theorem M1.pushH (h : M1 w base vH vO vB vF H O B F) {vH' : Value} {H' : List Nat} (ho : OwnN w' base vH' H') (hr : RowC vH vH' w w') : M1 w' base vH' vO vB vF H' O B F := by
  obtain ⟨r1, r2, r3⟩ := hr
  have kN : ∀ {v : Value} {l : List Nat}, OwnN w base v l → Off v vH → OwnN w' base v l := fun ho ha => ho.keep fun g hg => r2 g (ho.lt hg).1 fun e => ha g hg e
  refine ⟨⟨ho, kN h.m.oO (off_symm h.a), kN h.m.oB (off_symm h.m.aH), h.m.oF.keep fun g hg => ?_, nilR _ _ _, off_symm (off_row (fun g hg => (h.m.oB.lt hg).1) r3 (off_symm h.m.aH)), h.m.aO, Nat.le_trans h.m.sz r1⟩, off_symm (off_row (fun g hg => (h.m.oO.lt hg).1) r3 (off_symm h.a))⟩
  obtain ⟨cu, hc⟩ := h.m.oF.blk_of hg
  refine r2 g hc.lt fun e => ?_
  obtain ⟨cu', hc'⟩ := h.m.oH.blk_of e
  exact (Blk.ne_ hc hc' (by decide)) rfl
theorem M1.pushO (h : M1 w base vH vO vB vF H O B F) {vO' : Value} {O' : List Nat} (ho : OwnN w' base vO' O') (hr : RowC vO vO' w w') : M1 w' base vH vO' vB vF H O' B F := by
  obtain ⟨r1, r2, r3⟩ := hr
  have kN : ∀ {v : Value} {l : List Nat}, OwnN w base v l → Off v vO → OwnN w' base v l := fun ho ha => ho.keep fun g hg => r2 g (ho.lt hg).1 fun e => ha g hg e
  refine ⟨⟨kN h.m.oH h.a, ho, kN h.m.oB (off_symm h.m.aO), h.m.oF.keep fun g hg => ?_, nilR _ _ _, h.m.aH, off_symm (off_row (fun g hg => (h.m.oB.lt hg).1) r3 (off_symm h.m.aO)), Nat.le_trans h.m.sz r1⟩, off_row (fun g hg => (h.m.oH.lt hg).1) r3 h.a⟩
  obtain ⟨cu, hc⟩ := h.m.oF.blk_of hg
  refine r2 g hc.lt fun e => ?_
  obtain ⟨cu', hc'⟩ := h.m.oO.blk_of e
  exact (Blk.ne_ hc hc' (by decide)) rfl
theorem M1.start (w : World) (base : Nat) (hb : base ≤ w.heap.size) : M1 w base (.slice none 0 0) (.slice none 0 0) (.slice none 0 0) (.slice none 0 0) [] [] [] [] :=
  ⟨⟨Gr.OwnG.nil _ _, Gr.OwnG.nil _ _, Gr.OwnG.nil _ _, Gr.OwnG.nil _ _, nilR _ _ _, (fun g hg => by cases hg), (fun g hg => by cases hg), hb⟩, fun g hg => by cases hg⟩
end
def brs (b m : Nat) : List Nat := (List.range m).map fun j => 1 + j % b
theorem brs_len (b m : Nat) : (brs b m).length = m := by simp [brs]
theorem brs_push (b m : Nat) : brs b (m + 1) = brs b m ++ [1 + m % b] := by
  unfold brs
  rw [List.range_succ, List.map_append]
  rfl
theorem bn_brs {b m n : Nat} (h : n < m) : bn (brs b m) n = 1 + n % b := by
  unfold bn brs
  simp [h]
/-- a history begins: blocks of the origin, if there is one -/
theorem Ex.start (b m : Nat) (hm : m ≤ 4) (hb : b = 0 → m = 0) : Ex ⟨(b : Int), [], []⟩ b (b + 1) (List.range m) [] (List.range m) (brs b m) [] := by
  have hA : allB ⟨(b : Int), [], []⟩ = [] := rfl
  have hbn : ∀ n, n < m → 1 ≤ bn (brs b m) n ∧ bn (brs b m) n ≤ b := fun n hn => by
    rw [bn_brs hn]
    have hb0 : 0 < b := by
      rcases Nat.eq_zero_or_pos b with e | e
      · have := hb e; omega
      · exact e
    have := Nat.mod_lt n hb0
    omega
  refine ⟨?_, rfl, by omega, rfl, ?_, (fun s hs => by cases hs), fun n hn => ?_, fun n hn => ?_, List.nodup_range, (fun n hn p hp => by rw [hA] at hp; cases hp), (fun n hn i V s hV => by simp at hV), (fun p hp => by rw [hA] at hp; cases hp), by rw [hA]; simp, fun k hk p hp => ?_, (fun n hn => by cases hn), (fun V hV => by cases hV), fun n hn => ?_, fun n hn => ?_, fun n hn => ?_, by rw [hA]; simp, by simp, by rw [brs_len]; omega, by simp; omega, (fun V hV => by cases hV), by simp; omega⟩
  · refine rightL_iff.2 ⟨by show (0 : Int) ≤ (b : Int); omega, fun i s hs => by simp at hs, rfl⟩
  · show (b : Int) ≤ ((b + 1 : Nat) : Int); omega
  · rw [brs_len] at hn; have := hbn n hn; omega
  · rw [brs_len]; exact ⟨List.mem_range.1 hn, by simp⟩
  · have : p ∈ allB ⟨(b : Int), [], []⟩ := mem_all.2 ⟨k, hk, hp⟩
    rw [hA] at this
    cases this
  · rw [brs_len] at hn; exact .inl (List.mem_range.2 hn)
  · rw [brs_len] at hn
    exact ⟨fun _ => (hbn n hn).2, fun _ => List.mem_range.2 hn⟩
  · rw [brs_len]; exact List.mem_range.1 hn
end Dd
end Go.Proofs.Ytefgofoocabkkaa
