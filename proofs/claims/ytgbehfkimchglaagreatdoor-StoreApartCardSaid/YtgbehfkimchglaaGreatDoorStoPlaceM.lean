/-
 What a store is made of, told by what lies in a block: what a call may have changed, and what it leaves. No conditions beyond those that each theorem types.
-/
import Derived.Test.YtgbehfkimchglaaGreatDoorStoKM
import Derived.Test.YtgbehfkimchglaaGreatDoorDrawDeepM
import Derived.Test.YtgbehfkimchglaaGreatDoorArrLawLayM
namespace Go.Proofs.YtgbehfkimchglaaGreatDoor
open Go Go.RowKit refRack
set_option maxRecDepth 100000
set_option linter.unusedVariables false
namespace Sto
open Sp
def strKey : Value → Bool
 | .string _ => true
 | _ => false
def stoObj : Obj → Bool
 | .map es _ => es.all fun e => !strKey e.key
 | .cells _ t _ => t == 128 || t == 176 || t == 150 || t == 61 || t == 103 || t == 202
 | _ => false
structure KeepT (B : Nat) (w w' : World) : Prop where
 below : Below B w w'
 kept : ∀ (k : Nat) (o : Obj), w.heap[k]? = some o → stoObj o = false → w'.heap[k]? = some o
section
variable {B : Nat} {a w w' : World}
theorem KeepT.refl (B : Nat) (w : World) : KeepT B w w := ⟨Below.refl B w, fun _ _ h _ => h⟩
theorem KeepT.trans (h : KeepT B a w) (k : KeepT B w w') : KeepT B a w' := ⟨h.below.trans k.below, fun i o h1 h2 => k.kept i o (h.kept i o h1 h2) h2⟩
theorem rack_sto {o : Obj} (h : rackObj o = true) : stoObj o = true := by
 cases o with
 | map es c =>
  unfold rackObj at h
  unfold stoObj
  rw [Array.all_eq_true'] at h ⊢
  intro e he
  have := h e he
  cases hk : e.key <;> rw [hk] at this <;> first | rfl | (exact absurd this (by simp [aggKey])) | (simp [strKey])
 | cells c t fr =>
  unfold rackObj at h
  unfold stoObj
  simp only [Bool.or_eq_true] at h ⊢
  rcases h with h | h
  ·exact .inl (.inl (.inl (.inl (.inl h))))
  ·exact .inl (.inl (.inl (.inl (.inr h))))
 | _ => simp [rackObj] at h
theorem KeepT.rack (h : Keep B w w') : KeepT B w w' := ⟨h.below, fun k o h1 h2 => h.kept k o h1 (by
 cases hr : rackObj o with
 | false => rfl
 | true => rw [rack_sto hr] at h2; cases h2)⟩
theorem KeepT.new (h : KeepT B a w) (hb : Below w.heap.size w w') (hs : B ≤ w.heap.size) : KeepT B a w' :=
 ⟨h.below.trans (hb.mono hs), fun i x h1 h2 => by
  have h3 := h.kept i x h1 h2
  exact (hb.block i (Array.getElem?_eq_some_iff.1 h3).1).trans h3⟩
theorem KeepT.of_new (hb : Below w.heap.size w w') (hs : B ≤ w.heap.size) : KeepT B w w' := (KeepT.refl B w).new hb hs
theorem KeepT.of {O : Nat → Prop} (hf : Frm O w w') (hs : B ≤ w.heap.size) (hO : ∀ g, O g → B ≤ g ∧ ∃ o, w.heap[g]? = some o ∧ stoObj o = true) : KeepT B w w' :=
 ⟨⟨hf.os, hf.tape, hf.output, hf.size, fun g hg => hf.block g (by omega) (fun ho => by have := (hO g ho).1; omega)⟩, fun g o h1 h2 =>
  (hf.block g (Array.getElem?_eq_some_iff.1 h1).1 (fun ho => by
   obtain ⟨_, o', e1, e2⟩ := hO g ho
   rw [h1] at e1
   injection e1 with e1
   rw [e1, e2] at h2
   cases h2)).trans h1⟩
theorem keep_byt (h : Keep B w w') : ∀ (g : Nat) (cur : Array Value) (fr : Nat × Nat), w.heap[g]? = some (.cells cur 5 fr) → w'.heap[g]? = some (.cells cur 5 fr) := fun g cur fr hg => h.kept g _ hg rfl
end
theorem MapI.isMapK {w : World} {b n : Nat} {F : Nat → Option Value} (h : MapI w b n F) (hne : ∃ k, k < 3 ∧ F k ≠ none) : ∃ es c, w.heap[b]? = some (.map es c) ∧ (es.all fun e => aggKey e.key) = false ∧ (es.all fun e => !strKey e.key) = true := by
 obtain ⟨D, ⟨es, c, h1, h2, h3, h4⟩, h5, h6, h7⟩ := h
 have hk : ∀ e ∈ es, ∃ q i, e.key = .int q i := fun e he => by
  obtain ⟨l, hl⟩ := h2.keys e (Array.mem_toList_iff.2 he)
  obtain ⟨x, e1, _⟩ := Maps.keyOf_int_inv Tryz.underlying151 hl
  exact ⟨_, _, e1⟩
 have hpos : es ≠ #[] := by
  rintro rfl
  obtain ⟨k, hk3, hF⟩ := hne
  have e1 := h6 k (by omega) (.held (.int .i64 0))
  have e2 := h6 k (by omega) (.held (.int .i64 1))
  rw [h4] at e1 e2
  cases hFk : F k with
  | none => exact hF hFk
  | some v =>
   rw [hFk] at e1 e2
   simp [DataW.atKey] at e1 e2
   rw [← e1] at e2
   simp at e2
 refine ⟨es, c, h1, ?_, ?_⟩
 ·cases ha : es.all fun e => aggKey e.key with
  | false => rfl
  | true =>
   rw [Array.all_eq_true'] at ha
   have h0 : 0 < es.size := by
    rcases Nat.eq_zero_or_pos es.size with e | e
    ·exact absurd (Array.eq_empty_of_size_eq_zero e) hpos
    ·exact e
   have hm : es[0] ∈ es := Array.getElem_mem h0
   obtain ⟨q, i, e⟩ := hk _ hm
   have := ha _ hm
   rw [e] at this
   cases this
 ·rw [Array.all_eq_true']
  intro e he
  obtain ⟨q, i, e'⟩ := hk e he
  rw [e']
  rfl
theorem cnt_mem {lo : Nat} {l : List Rg} {c : Nat} (h : Ris lo l) (hm : Sp.mem l c) : 0 < cnt l := by
 obtain ⟨r, hr, h1, h2⟩ := hm
 induction l generalizing lo with
 | nil => cases hr
 | cons q l ih =>
  unfold cnt
  rcases List.mem_cons.1 hr with rfl | h3
  ·omega
  ·have := ih h.2.2 h3
   omega
section
variable {B : Nat} {w w' : World} {b m : Nat} {s : SS}
def spcObj : Obj → Bool
 | .map es _ => !(es.all fun e => aggKey e.key)
 | .cells _ t _ => t == 150 || t == 61
 | _ => false
def SpB (b m : Nat) (V : Nat → Value) (g : Nat) : Prop := g = b ∨ g = m ∨ ∃ k, k < 3 ∧ (V k).ownBlock = some g
theorem spc_obj {n : Nat} {F : Nat → Option Value} {V : Nat → Value} (h : Spc w B b m n F V s) {g : Nat} (hg : SpB b m V g) : B ≤ g ∧ ∃ o, w.heap[g]? = some o ∧ stoObj o = true ∧ rackObj o = false ∧ spcObj o = true := by
 rcases hg with rfl | rfl | ⟨k, hk, hg⟩
 ·exact ⟨h.mem.lo.1, _, h.mem.blk, rfl, rfl, rfl⟩
 ·refine ⟨h.mem.lo.2, ?_⟩
  have hne : ∃ k, k < 3 ∧ F k ≠ none := by
   obtain ⟨k, hk, hm⟩ := h.good.all 0 (by have := h.good.hc.1; omega)
   refine ⟨k, hk, fun e => ?_⟩
   have hv := h.mem.val k hk
   rw [e] at hv
   have hv : zp = .agg #[V k, .int .i64 (cnt (s.S k) : Int)] := hv
   have hp := cnt_mem (h.good.ris k hk) hm
   unfold zp at hv
   simp at hv
   omega
  obtain ⟨es, c, h1, h2, h3⟩ := MapI.isMapK h.mem.map hne
  exact ⟨_, h1, h3, h2, by show (!(es.all fun e => aggKey e.key)) = true; rw [h2]; rfl⟩
 ·refine ⟨((h.mem.own k hk).lt hg).2, ?_⟩
  obtain ⟨cur, hb⟩ := (h.mem.own k hk).blk_of hg
  exact ⟨_, hb, rfl, rfl, rfl⟩
def SpX (B : Nat) (w : World) (b m : Nat) (s : SS) : Prop := B ≤ w.heap.size ∧ ∃ F V, Spc w B b m 3 F V s
theorem SpX.good (h : SpX B w b m s) : Sp.Good s := by obtain ⟨_, F, V, h⟩ := h; exact h.good
theorem SpX.a (h : SpX B w b m s) : SpA B w b m s := h
theorem SpX.rack (h : SpX B w b m s) {B' : Nat} (hk : Keep B' w w') : SpX B w' b m s := by
 obtain ⟨h0, F, V, h⟩ := h
 have hh : ∀ g, SpB b m V g → w'.heap[g]? = w.heap[g]? := fun g hg => by
  obtain ⟨_, o, h1, _, h2, _⟩ := spc_obj h hg
  exact (hk.kept g o h1 h2).trans h1.symm
 exact ⟨Nat.le_trans h0 hk.below.size, F, V, h.mem.keep (hh b (.inl rfl)) (hh m (.inr (.inl rfl))) (fun k hk' g hg => hh g (.inr (.inr ⟨k, hk', hg⟩))), h.good⟩
theorem SpX.below (h : SpX B w b m s) (hb : Below w.heap.size w w') : SpX B w' b m s := SpA.keep h hb
theorem SpX.of {n : Nat} {F F' : Nat → Option Value} {V V' : Nat → Value} {s' : SS} {n' : Nat} (hB : B ≤ w.heap.size) (h : Spc w B b m n F V s) (c : Chg w w' b m V V') (h' : Spc w' B b m n' F' V' s') :
  SpX B w' b m s' ∧ Frm (SpB b m V) w w' :=
 ⟨⟨Nat.le_trans hB c.size, F', V', h'.three⟩, ⟨c.os, c.tape, c.output, c.size, fun g hg ho => c.block g hg (fun e => ho (.inl e)) (fun e => ho (.inr (.inl e))) fun k hk e => ho (.inr (.inr ⟨k, hk, e⟩))⟩⟩
theorem rack_spx {B' r n : Nat} {F : Nat → Option Value} {V : Nat → Value} {t : RS} (h : RackAt B' w r t) (hs : Spc w B b m n F V s) (hf : Frm (SpB b m V) w w') : RackAt B' w' r t := by
 obtain ⟨h0, m1, m2, v, hk⟩ := h
 have hh : ∀ (g : Nat) (o : Obj), w.heap[g]? = some o → rackObj o = true → w'.heap[g]? = some o := fun g o h1 h2 => (hf.block g (Array.getElem?_eq_some_iff.1 h1).1 (fun ho => by
  obtain ⟨_, o', e1, _, e2, _⟩ := spc_obj hs ho
  rw [h1] at e1
  injection e1 with e1
  rw [e1, e2] at h2
  cases h2)).trans h1
 refine ⟨h0, m1, m2, v, hk.move (fun i hi hor => ?_) hf.size⟩
 rcases hor with e | e | e | e
 ·subst e
  rw [show w.heap[i]? = _ from hk.blk]
  exact hh _ _ hk.blk rfl
 ·subst e
  obtain ⟨n, F, _, h1, _⟩ := hk.last
  obtain ⟨es, c, hm, hmk⟩ := h1.isMapK
  rw [hm]
  exact hh _ _ hm hmk
 ·subst e
  obtain ⟨es, c, hm, hmk⟩ := hk.newest.isMapK
  rw [hm]
  exact hh _ _ hm hmk
 ·obtain ⟨_, cs, hb⟩ := own_blk hk.row e
  rw [show w.heap[i]? = _ from hb]
  exact hh _ _ hb rfl
def memObj : Obj → Bool
 | .cells _ t _ => t == 103 || t == 202
 | _ => false
structure KeepM (B : Nat) (w w' : World) : Prop where
 below : Below B w w'
 kept : ∀ (k : Nat) (o : Obj), w.heap[k]? = some o → memObj o = false → w'.heap[k]? = some o
theorem KeepM.refl (B : Nat) (w : World) : KeepM B w w := ⟨Below.refl B w, fun _ _ h _ => h⟩
theorem KeepM.trans {a : World} (h : KeepM B a w) (k : KeepM B w w') : KeepM B a w' := ⟨h.below.trans k.below, fun i o h1 h2 => k.kept i o (h.kept i o h1 h2) h2⟩
theorem KeepM.new {a : World} (h : KeepM B a w) (hb : Below w.heap.size w w') (hs : B ≤ w.heap.size) : KeepM B a w' :=
 ⟨h.below.trans (hb.mono hs), fun i x h1 h2 => by
  have h3 := h.kept i x h1 h2
  exact (hb.block i (Array.getElem?_eq_some_iff.1 h3).1).trans h3⟩
theorem KeepM.only {g : Nat} {t : TypeId} {cs : Array Value} (hb : Blk w g t cs) (ht : (t == 103 || t == 202) = true) (hg : w.grownBy w' (some g)) (hB : B ≤ g) (hs : B ≤ w.heap.size) : KeepM B w w' :=
 ⟨⟨hg.os, hg.tape, hg.output, hg.size, fun k hk => hg.block k (by omega) (fun e => by injection e; omega)⟩, fun i x h1 h2 => (hg.block i (Array.getElem?_eq_some_iff.1 h1).1 (fun e => by
  injection e with e
  subst e
  rw [show w.heap[i]? = _ from hb] at h1
  injection h1 with h1
  rw [← h1] at h2
  have h2 : (t == 103 || t == 202) = false := h2
  rw [ht] at h2
  cases h2)).trans h1⟩
theorem mem_sto {o : Obj} (h : memObj o = true) : stoObj o = true := by
 cases o with
 | cells c t fr =>
  unfold memObj at h
  unfold stoObj
  simp only [Bool.or_eq_true] at h ⊢
  rcases h with h | h
  ·exact .inl (.inr h)
  ·exact .inr h
 | _ => simp [memObj] at h
theorem KeepT.mem (h : KeepM B w w') : KeepT B w w' := ⟨h.below, fun k o h1 h2 => h.kept k o h1 (by
 cases hr : memObj o with
 | false => rfl
 | true => rw [mem_sto hr] at h2; cases h2)⟩
theorem mem_no {o : Obj} (h : rackObj o = true ∨ spcObj o = true) : memObj o = false := by
 cases o with
 | cells c t fr =>
  have h : ((t == 128 || t == 176) = true) ∨ ((t == 150 || t == 61) = true) := h
  show (t == 103 || t == 202) = false
  simp only [Bool.or_eq_true, beq_iff_eq] at h
  rcases h with (h | h) | (h | h) <;> subst h <;> rfl
 | _ => rfl
theorem rack_mem {B' r : Nat} {t : RS} (h : RackAt B' w r t) (hm : KeepM B w w') : RackAt B' w' r t := by
 obtain ⟨h0, m1, m2, v, hk⟩ := h
 have hh : ∀ (g : Nat) (o : Obj), w.heap[g]? = some o → rackObj o = true → w'.heap[g]? = some o := fun g o h1 h2 => hm.kept g o h1 (mem_no (.inl h2))
 refine ⟨h0, m1, m2, v, hk.move (fun i hi hor => ?_) hm.below.size⟩
 rcases hor with e | e | e | e
 ·subst e
  rw [show w.heap[i]? = _ from hk.blk]
  exact hh _ _ hk.blk rfl
 ·subst e
  obtain ⟨n, F, _, h1, _⟩ := hk.last
  obtain ⟨es, c, hm, hmk⟩ := h1.isMapK
  rw [hm]
  exact hh _ _ hm hmk
 ·subst e
  obtain ⟨es, c, hm, hmk⟩ := hk.newest.isMapK
  rw [hm]
  exact hh _ _ hm hmk
 ·obtain ⟨_, cs, hb⟩ := own_blk hk.row e
  rw [show w.heap[i]? = _ from hb]
  exact hh _ _ hb rfl
theorem SpX.mem {B' : Nat} (h : SpX B w b m s) (hm : KeepM B' w w') : SpX B w' b m s := by
 obtain ⟨h0, F, V, h⟩ := h
 have hh : ∀ g, SpB b m V g → w'.heap[g]? = w.heap[g]? := fun g hg => by
  obtain ⟨_, o, h1, _, _, h2⟩ := spc_obj h hg
  exact (hm.kept g o h1 (mem_no (.inr h2))).trans h1.symm
 exact ⟨Nat.le_trans h0 hm.below.size, F, V, h.mem.keep (hh b (.inl rfl)) (hh m (.inr (.inl rfl))) (fun k hk' g hg => hh g (.inr (.inr ⟨k, hk', hg⟩))), h.good⟩
theorem at_mem {a r f : Nat} {t : RS} (h : Arr.At B w a r f t) {B' : Nat} (hm : KeepM B' w w') : Arr.At B w' a r f t := ⟨rack_mem h.rack hm, hm.kept _ _ h.blk rfl, h.five, h.first⟩
theorem at_spx {a r f n : Nat} {t : RS} {F : Nat → Option Value} {V : Nat → Value} {B' : Nat} (h : Arr.At B w a r f t) (hs : Spc w B' b m n F V s) (hf : Frm (SpB b m V) w w') : Arr.At B w' a r f t :=
 ⟨rack_spx h.rack hs hf, (hf.block a h.blk.lt (fun ho => by
  obtain ⟨_, o', e1, _, _, e2⟩ := spc_obj hs ho
  rw [show w.heap[a]? = _ from h.blk] at e1
  injection e1 with e1
  rw [← e1] at e2
  cases e2)).trans h.blk, h.five, h.first⟩
theorem Frm.out {n : Nat} {F : Nat → Option Value} {V : Nat → Value} (hs : Spc w B b m n F V s) (hf : Frm (SpB b m V) w w') {g : Nat} {o : Obj} (hg : w.heap[g]? = some o) (ho : spcObj o = false) : w'.heap[g]? = some o :=
 (hf.block g (Array.getElem?_eq_some_iff.1 hg).1 (fun hb => by
  obtain ⟨_, o', e1, _, _, e2⟩ := spc_obj hs hb
  rw [hg] at e1
  injection e1 with e1
  rw [e1, e2] at ho
  cases ho)).trans hg
theorem KeepT.spc {n : Nat} {F : Nat → Option Value} {V : Nat → Value} (hs : Spc w B b m n F V s) (hf : Frm (SpB b m V) w w') (hB : B ≤ w.heap.size) : KeepT B w w' :=
 KeepT.of hf hB fun g hg => by
  obtain ⟨h1, o, h2, h3, _⟩ := spc_obj hs hg
  exact ⟨h1, o, h2, h3⟩
theorem Row.keep {v : Value} {l : List Kx} (h : Row w B v l) (hz : ∀ g, v.ownBlock = some g → w'.heap[g]? = w.heap[g]?) (hb : ∀ (g : Nat) (cur : Array Value) (fr : Nat × Nat), w.heap[g]? = some (.cells cur 5 fr) → w'.heap[g]? = some (.cells cur 5 fr)) : Row w' B v l :=
 ⟨h.own.keep hz, fun x hx => (h.ok x hx).keep hb⟩
theorem Row.rack {B' : Nat} {v : Value} {l : List Kx} (h : Row w B v l) (hk : Keep B' w w') : Row w' B v l :=
 h.keep (fun g hg => by
  obtain ⟨cur, hb⟩ := h.own.blk_of hg
  exact (hk.kept _ _ hb rfl).trans hb.symm) (keep_byt hk)
theorem Row.below {v : Value} {l : List Kx} (h : Row w B v l) (hb : Below w.heap.size w w') : Row w' B v l :=
 h.keep (fun g hg => hb.block g (h.own.lt hg).1) (fun g cur fr hg => (hb.block g (Array.getElem?_eq_some_iff.1 hg).1).trans hg)
theorem Row.spc {n : Nat} {F : Nat → Option Value} {V : Nat → Value} {v : Value} {l : List Kx} (h : Row w B v l) {B' : Nat} (hs : Spc w B' b m n F V s) (hf : Frm (SpB b m V) w w') : Row w' B v l :=
 h.keep (fun g hg => by
  obtain ⟨cur, hb⟩ := h.own.blk_of hg
  exact (Frm.out hs hf hb rfl).trans hb.symm) (fun g cur fr hg => Frm.out hs hf hg rfl)
end
end Sto
end Go.Proofs.YtgbehfkimchglaaGreatDoor
namespace Go.Proofs.YtgbehfkimchglaaGreatDoor
open Go Go.RowKit
set_option maxRecDepth 100000
set_option linter.unusedVariables false
namespace Sto
theorem idx_eq {a : Int} : ∀ {l : List Kx} {i : Nat} {x : Kx}, (∀ (j : Nat) (y : Kx), j < i → l[j]? = some y → (y.addr == a) = false) → l[i]? = some x → (x.addr == a) = true → idx a l = i
 | [], i, x, _, hx, _ => by simp at hx
 | y :: l, 0, x, _, hx, ha => by
  simp at hx
  subst hx
  unfold idx
  rw [List.findIdx_cons, ha]
  rfl
 | y :: l, i + 1, x, h, hx, ha => by
  have h0 := h 0 y (by omega) rfl
  have h1 := idx_eq (l := l) (i := i) (x := x) (fun j z hj hz => h (j + 1) z (by omega) (by simpa using hz)) (by simpa using hx) ha
  unfold idx at h1 ⊢
  rw [List.findIdx_cons, h0, h1]
  rfl
theorem idx_all {a : Int} : ∀ {l : List Kx}, (∀ (j : Nat) (y : Kx), l[j]? = some y → (y.addr == a) = false) → idx a l = l.length
 | [], _ => rfl
 | y :: l, h => by
  have h0 := h 0 y rfl
  have h1 := idx_all (l := l) (fun j z hz => h (j + 1) z (by simpa using hz))
  unfold idx at h1 ⊢
  rw [List.findIdx_cons, h0, h1]
  rfl
theorem place1 (w : World) (b3 : Nat) (a : Int) (x : Kx) (h3 : w.cell? ⟨b3, 0, none⟩ = some (.int .i64 a)) :
  Calls Tryz.prog 175 #[.agg #[.int .i64 x.addr, .string x.sum, .slice x.hA x.hn x.hc], .pointer (some ⟨b3, 0, none⟩)] w fun e w' => e = .returned (.bool (x.addr == a)) ∧ Below w.heap.size w w' := by
 obtain ⟨ad, sm, dt, hA, hn, hc⟩ := x
 have hb : Below w.heap.size w (w.alloc (.cells #[.int .i64 ad, .string sm, .slice hA hn hc] 202)) := (Below.refl _ _).alloc (Nat.le_refl _) _
 have HB := Lib.hid hb
 have hlt : b3 < w.heap.size := block_lt_of_cell h3
 have h3' : (w.alloc (.cells #[.int .i64 ad, .string sm, .slice hA hn hc] 202)).cell? ⟨b3, 0, none⟩ = some (.int .i64 a) := (hb.cell (p := ⟨b3, 0, none⟩) hlt).trans h3
 clear hb h3
 show Calls _ _ #[.agg #[.int .i64 ad, .string sm, .slice hA hn hc], .pointer (some ⟨b3, 0, none⟩)] w _
 go_enter Tryz.func175, Tryz.ntmps175
 go_wp2_with fail
 go_ret
 exact ⟨rfl, HB.out⟩
set_option maxHeartbeats 1600000 in
theorem index_any (w : World) (A : Option Addr) (c b3 : Nat) (a : Int) (l : List Kx) (hr : Gr.RdG 3 csK w A l) (h3 : w.cell? ⟨b3, 0, none⟩ = some (.int .i64 a)) (hlen : l.length ≤ 1000) :
  Calls Tryz.prog 174 #[.slice A l.length c, .func (.func 175) #[] #[.pointer (some ⟨b3, 0, none⟩)]] w fun e w' => e = .returned (.int .i64 (plc a l)) ∧ Below w.heap.size w w' := by
 have HR := Lib.hid hr
 have hlt3 : b3 < w.heap.size := block_lt_of_cell h3
 have H3 := Lib.hid (⟨h3, hlt3⟩ : _ ∧ _)
 obtain ⟨n, hn⟩ : ∃ n, n = l.length := ⟨_, rfl⟩
 have HN := Lib.hid hn
 rw [← hn] at hlen ⊢
 clear hr h3 hlt3 hn
 go_enter Tryz.func174, Tryz.ntmps174
 go_wp2_with fail
 go_loopw [8] (fun y wr => ∃ i : Nat, i ≤ n ∧ y = .int .i64 (i : Int) ∧ Hid (∀ j z, j < i → l[j]? = some z → (z.addr == a) = false) ∧ Hid (Below w.heap.size w wr)) (fun y _ => n - (intOf y).toNat)
 case atStart => exact ⟨0, Nat.zero_le _, rfl, Lib.hid fun j z hj _ => absurd hj (by omega), Lib.hid (Below.refl _ _)⟩
 case round =>
  obtain ⟨i, hi, rfl, HI, HB⟩ := hrel
  by_cases hlt : i < n
  ·have hil : i < l.length := by have := HN.out; omega
   have hx := List.getElem?_eq_getElem hil
   obtain ⟨g, o, rfl, hg, hcs⟩ := HR.out i _ hx
   have HX := Lib.hid hx
   generalize l[i] = x at *
   have q0 : wr.cell? ⟨g, o + i * 3, none⟩ = some (.int .i64 x.addr) := (HB.out.cell (p := ⟨g, o + i * 3, none⟩) hg).trans (by have := hcs 0 (.int .i64 x.addr) rfl; rwa [Nat.add_zero] at this)
   have q1 : wr.cell? ⟨g, o + i * 3 + 1, none⟩ = some (.string x.sum) := (HB.out.cell (p := ⟨g, o + i * 3 + 1, none⟩) hg).trans (hcs 1 (.string x.sum) rfl)
   have q2 : wr.cell? ⟨g, o + i * 3 + 2, none⟩ = some (.slice x.hA x.hn x.hc) := (HB.out.cell (p := ⟨g, o + i * 3 + 2, none⟩) hg).trans (hcs 2 (.slice x.hA x.hn x.hc) rfl)
   have t2 : (i : Int) < (n : Int) := by omega
   have HP := Lib.hid (place1 wr b3 a x ((HB.out.cell (p := ⟨b3, 0, none⟩) H3.out.2).trans H3.out.1))
   have HPA : Hid (((i : Nat) : Int) = plc a l ∨ (x.addr == a) = false) := Lib.hid (by
    by_cases e : (x.addr == a) = true
    ·have h1 := idx_eq HI.out HX.out e
     left
     unfold plc
     rw [h1, if_pos hil]
    ·right; simpa using e)
   clear hx hcs
   go_wp2_with fail
   refine HP.out.mono ?_
   rintro e w3 ⟨rfl, b3'⟩
   have B3 : Hid (Below w.heap.size w w3) := Lib.hid (HB.out.trans (b3'.mono HB.out.size))
   clear b3'
   cases he : (x.addr == a) with
   | true =>
    have HE := Lib.hid he
    clear he
    go_wp2_with fail
    go_ret
    refine ⟨?_, B3.out⟩
    rcases HPA.out with h | h
    ·rw [← h]; rfl
    ·rw [HE.out] at h; cases h
   | false =>
    have HE := Lib.hid he
    clear he
    go_wp2_with fail
    go_roundw
    case rel =>
     refine ⟨i + 1, by omega, by go_num, Lib.hid fun j z hj hz => ?_, B3⟩
     by_cases e : j = i
     ·subst e
      rw [HX.out] at hz
      injection hz with hz
      rw [← hz]
      exact HE.out
     ·exact HI.out j z (by omega) hz
    case measure => simp [intOf]; omega
  ·obtain rfl : i = n := by omega
   have HPA : Hid (plc a l = -1) := Lib.hid (by
    have h := idx_all (a := a) (l := l) fun j y hy => HI.out j y (by have := (List.getElem?_eq_some_iff.1 hy).1; have := HN.out; omega) hy
    unfold plc
    rw [h, if_neg (by omega)])
   go_wp2_with fail
   go_ret
   rw [HPA.out]
   exact ⟨rfl, HB.out⟩
theorem place_any (w : World) (st base : Nat) (v : Value) (l : List Kx) (a : Int) (hc : w.cell? ⟨st, 5, none⟩ = some v) (hr : Gr.OwnG 202 3 csK w base v l) (hlen : l.length ≤ 1000) :
  Calls Tryz.prog 121 #[.pointer (some ⟨st, 5, none⟩), .int .i64 a] w fun e w' => e = .returned (.int .i64 (plc a l)) ∧ Below w.heap.size w w' := by
 obtain ⟨A, c, rfl, h1, h2, h3, _⟩ := hr.shape (fun _ => rfl)
 have hb : Below w.heap.size w (w.alloc (.cells #[.int .i64 a] 3)) := (Below.refl _ _).alloc (Nat.le_refl _) _
 have hst : st < w.heap.size := block_lt_of_cell hc
 have hc' : (w.alloc (.cells #[.int .i64 a] 3)).cell? ⟨st, 5, none⟩ = some (.slice A l.length c) := (hb.cell (p := ⟨st, 5, none⟩) hst).trans hc
 have HI := Lib.hid (index_any (w.alloc (.cells #[.int .i64 a] 3)) A c w.heap.size a l (h1.below hb) ((Blk.new w 3 #[.int .i64 a]).cell 0) hlen)
 have HB := Lib.hid hb
 clear hc hr h1 h2 h3 hb hlen
 go_enter Tryz.func121, Tryz.ntmps121
 go_wp2_with fail
 refine HI.out.mono ?_
 rintro e w3 ⟨rfl, b3⟩
 have B3 : Hid (Below w.heap.size w w3) := Lib.hid (HB.out.trans (b3.mono HB.out.size))
 clear b3 HI
 go_wp2_with fail
 go_ret
 exact ⟨rfl, B3.out⟩
end Sto
end Go.Proofs.YtgbehfkimchglaaGreatDoor
