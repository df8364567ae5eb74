/-
 Rows that a statement keeps of a store's blocks: pointers, and a sliced row of numbers. No conditions beyond those that each theorem types.
-/
import Derived.Test.YtgbehfkimchglaaGreatDoorArrListsM
import Derived.Test.YtgbehfkimchglaaGreatDoorStoGiveM
import Derived.Test.YtgbehfkimchglaaGreatDoorStoApartM
namespace Go.Proofs.YtgbehfkimchglaaGreatDoor
open Go Go.RowKit refRack
set_option maxRecDepth 100000
set_option linter.unusedVariables false
namespace Sto
structure Pt4 where
 ad : Int
 n : Int
 bi : Int
 sm : ByteArray
def csPt (x : Pt4) : List Value := [.int .i64 x.ad, .int .i64 x.n, .int .i64 x.bi, .string x.sm]
theorem csPt_one (x : Pt4) : ∀ u ∈ csPt x, u.oneCell' = true := fun u hu => by
 simp [csPt] at hu
 rcases hu with rfl | rfl | rfl | rfl <;> rfl
theorem info_pt : (Tryz.prog.info? 73).map (fun i => (i.zero, i.size, i.bytes)) = some (some (.agg #[.int .i64 0, .int .i64 0, .int .i64 0, .string ⟨#[]⟩]), 4, 40) := by kernel_rfl
abbrev OwnPt (w : World) (base : Nat) (v : Value) (l : List Pt4) : Prop := Gr.OwnG 73 4 csPt w base v l
section
variable {w w' : World} {base : Nat} {v : Value}
theorem appPt {l : List Pt4} (h : OwnPt w base v l) (x : Pt4) (hl : l.length ≤ 1000000) (hb : base ≤ w.heap.size) (ty : TypeId) :
  ∃ v' w', (Builtin.append_ #[41, 41] ty #[v, .slice (some ⟨w.heap.size, 0, none⟩) 1 1]).run Tryz.prog (w.alloc (.cells #[.int .i64 x.ad, .int .i64 x.n, .int .i64 x.bi, .string x.sm] 73)) = .ok v' w' ∧ OwnPt w' base v' (l ++ [x]) ∧ Below base w w' ∧ Arr.GrowB v v' w w' :=
 Arr.app1 (k := 4) (cs := csPt) (fun _ => rfl) csPt_one Tryz.underlying41 info_pt rfl (by omega) (by omega) h x hl hb ty
structure OwnY (w : World) (base g o n c : Nat) (l : List Nat) : Prop where
 lo : base ≤ g
 len : n = l.length
 le : n ≤ c
 max : c ≤ maxLen
 blk : ∃ cur, Blk w g 3 cur ∧ o + c ≤ cur.size ∧ ∀ (i x : Nat), l[i]? = some x → cur[o + i]? = some (.int .i64 (x : Int))
end
open Sp Arr in
theorem StoV.asideN {B : Nat} {w w' : World} {p a r sp m q : Nat} {lk : Int} {v : Value} {S : St} {cs : Array Value} (h : StoV B w p a r sp m lk v S) (hX : Blk w q 3 cs) (ho : Only q w w') : StoV B w' p a r sp m lk v S := by
 have hh : ∀ (g : Nat) (c : Array Value) (t : TypeId) (fr : Nat × Nat), w.heap[g]? = some (.cells c t fr) → (t == 3) = false → w'.heap[g]? = some (.cells c t fr) := fun g c t fr h1 h2 =>
  (ho.block g (Array.getElem?_eq_some_iff.1 h1).1 (fun e => by
   injection e with e
   subst e
   rw [show w.heap[g]? = _ from hX] at h1
   injection h1 with h1
   injection h1 with _ h1 _
   rw [← h1] at h2
   cases h2)).trans h1
 have hm : ∀ (g : Nat) (x : Obj), w.heap[g]? = some x → (∀ c t fr, x ≠ .cells c t fr) → w'.heap[g]? = some x := fun g x h1 h2 =>
  (ho.block g (Array.getElem?_eq_some_iff.1 h1).1 (fun e => by
   injection e with e
   subst e
   rw [show w.heap[g]? = _ from hX] at h1
   injection h1 with h1
   exact h2 _ _ _ h1.symm)).trans h1
 have hb : ∀ (g : Nat) (t : TypeId) (c : Array Value), Blk w g t c → (t == 3) = false → w'.heap[g]? = w.heap[g]? := fun g t c h1 h2 => (hh g _ _ _ h1 h2).trans (show w.heap[g]? = _ from h1).symm
 have hrk : RackAt B w' r S.s := by
  obtain ⟨h0, m1, m2, v, hk⟩ := h.arr.rack
  refine ⟨h0, m1, m2, v, hk.move (fun i hi hor => ?_) ho.size⟩
  rcases hor with e | e | e | e
  ·subst e
   exact hb _ _ _ hk.blk rfl
  ·subst e
   obtain ⟨n, F, _, h1, _⟩ := hk.last
   obtain ⟨es, c, hmm, hmk⟩ := h1.isMapK
   rw [hm _ _ hmm (fun _ _ _ e => by cases e), hmm]
  ·subst e
   obtain ⟨es, c, hmm, hmk⟩ := hk.newest.isMapK
   rw [hm _ _ hmm (fun _ _ _ e => by cases e), hmm]
  ·obtain ⟨_, cs, hbb⟩ := own_blk hk.row e
   exact hb _ _ _ hbb rfl
 refine ⟨⟨hrk, (hb _ _ _ h.arr.blk rfl).trans h.arr.blk, h.arr.five, h.arr.first⟩, ?_, (hb _ _ _ h.blk rfl).trans h.blk, ?_, h.lo⟩
 ·obtain ⟨h0, F, V, h⟩ := h.spc
  have hs : ∀ g, SpB sp m V g → w'.heap[g]? = w.heap[g]? := fun g hg => by
   obtain ⟨_, o, h1, _, _, h2⟩ := spc_obj h hg
   cases o with
   | cells c t fr =>
    have h2 : (t == 150 || t == 61) = true := h2
    refine (hh g _ _ _ h1 ?_).trans h1.symm
    simp only [Bool.or_eq_true, beq_iff_eq] at h2
    rcases h2 with h2 | h2 <;> subst h2 <;> rfl
   | _ => exact (hm g _ h1 (fun _ _ _ e => by cases e)).trans h1.symm
  exact ⟨Nat.le_trans h0 ho.size, F, V, h.mem.keep (hs sp (.inl rfl)) (hs m (.inr (.inl rfl))) (fun k hk' g hg => hs g (.inr (.inr ⟨k, hk', hg⟩))), h.good⟩
 ·exact h.row.keep (fun g hg => by
   obtain ⟨cur, hbb⟩ := h.row.own.blk_of hg
   exact hb _ _ _ hbb rfl) (fun g cur fr hg => hh _ _ _ _ hg rfl)
open Sp Arr in
theorem StoV.asideB {B : Nat} {w w' : World} {p a r sp m q : Nat} {lk : Int} {v : Value} {S : St} {cs : Array Value} (h : StoV B w p a r sp m lk v S) (hX : Blk w q 4 cs) (ho : Only q w w') : StoV B w' p a r sp m lk v S := by
 have hh : ∀ (g : Nat) (c : Array Value) (t : TypeId) (fr : Nat × Nat), w.heap[g]? = some (.cells c t fr) → (t == 4) = false → w'.heap[g]? = some (.cells c t fr) := fun g c t fr h1 h2 =>
  (ho.block g (Array.getElem?_eq_some_iff.1 h1).1 (fun e => by
   injection e with e
   subst e
   rw [show w.heap[g]? = _ from hX] at h1
   injection h1 with h1
   injection h1 with _ h1 _
   rw [← h1] at h2
   cases h2)).trans h1
 have hm : ∀ (g : Nat) (x : Obj), w.heap[g]? = some x → (∀ c t fr, x ≠ .cells c t fr) → w'.heap[g]? = some x := fun g x h1 h2 =>
  (ho.block g (Array.getElem?_eq_some_iff.1 h1).1 (fun e => by
   injection e with e
   subst e
   rw [show w.heap[g]? = _ from hX] at h1
   injection h1 with h1
   exact h2 _ _ _ h1.symm)).trans h1
 have hb : ∀ (g : Nat) (t : TypeId) (c : Array Value), Blk w g t c → (t == 4) = false → w'.heap[g]? = w.heap[g]? := fun g t c h1 h2 => (hh g _ _ _ h1 h2).trans (show w.heap[g]? = _ from h1).symm
 have hrk : RackAt B w' r S.s := by
  obtain ⟨h0, m1, m2, v, hk⟩ := h.arr.rack
  refine ⟨h0, m1, m2, v, hk.move (fun i hi hor => ?_) ho.size⟩
  rcases hor with e | e | e | e
  ·subst e
   exact hb _ _ _ hk.blk rfl
  ·subst e
   obtain ⟨n, F, _, h1, _⟩ := hk.last
   obtain ⟨es, c, hmm, hmk⟩ := h1.isMapK
   rw [hm _ _ hmm (fun _ _ _ e => by cases e), hmm]
  ·subst e
   obtain ⟨es, c, hmm, hmk⟩ := hk.newest.isMapK
   rw [hm _ _ hmm (fun _ _ _ e => by cases e), hmm]
  ·obtain ⟨_, cs, hbb⟩ := own_blk hk.row e
   exact hb _ _ _ hbb rfl
 refine ⟨⟨hrk, (hb _ _ _ h.arr.blk rfl).trans h.arr.blk, h.arr.five, h.arr.first⟩, ?_, (hb _ _ _ h.blk rfl).trans h.blk, ?_, h.lo⟩
 ·obtain ⟨h0, F, V, h⟩ := h.spc
  have hs : ∀ g, SpB sp m V g → w'.heap[g]? = w.heap[g]? := fun g hg => by
   obtain ⟨_, o, h1, _, _, h2⟩ := spc_obj h hg
   cases o with
   | cells c t fr =>
    have h2 : (t == 150 || t == 61) = true := h2
    refine (hh g _ _ _ h1 ?_).trans h1.symm
    simp only [Bool.or_eq_true, beq_iff_eq] at h2
    rcases h2 with h2 | h2 <;> subst h2 <;> rfl
   | _ => exact (hm g _ h1 (fun _ _ _ e => by cases e)).trans h1.symm
  exact ⟨Nat.le_trans h0 ho.size, F, V, h.mem.keep (hs sp (.inl rfl)) (hs m (.inr (.inl rfl))) (fun k hk' g hg => hs g (.inr (.inr ⟨k, hk', hg⟩))), h.good⟩
 ·exact h.row.keep (fun g hg => by
   obtain ⟨cur, hbb⟩ := h.row.own.blk_of hg
   exact hb _ _ _ hbb rfl) (fun g cur fr hg => hh _ _ _ _ hg rfl)
theorem StoV.rowP {B base : Nat} {w w' : World} {p a r sp m : Nat} {lk : Int} {v : Value} {S : St} {pv v' : Value} {l : List Pt4} (h : StoV B w p a r sp m lk v S) (ho : OwnPt w base pv l) (hb : Below base w w') (hg : Arr.GrowB pv v' w w') : StoV B w' p a r sp m lk v S := by
 cases hq : pv.ownBlock with
 | none => exact h.below ⟨hb.os, hb.tape, hb.output, hg.1, fun g hgl => hg.2.1 g hgl (by rw [hq]; simp)⟩
 | some g =>
  obtain ⟨cur, hbk⟩ := ho.blk_of hq
  exact h.aside hbk ⟨hb.os, hb.tape, hb.output, hg.1, fun k hk hne => hg.2.1 k hk (by rw [hq]; exact fun e => hne (by injection e with e; rw [e]))⟩
theorem blk_ne {w : World} {g g' : Nat} {t t' : TypeId} {c c' : Array Value} (h : Blk w g t c) (h' : Blk w g' t' c') (hne : t ≠ t') : g ≠ g' := fun e => by
 subst e
 have h1 : w.heap[g]? = some (.cells c t) := h
 have h2 : w.heap[g]? = some (.cells c' t') := h'
 rw [h1] at h2
 injection h2 with h2
 injection h2 with _ h2
 exact hne h2
theorem keep_row {w w' : World} {pv v' : Value} {g : Nat} {t : TypeId} {c : Array Value} (hg : Arr.GrowB pv v' w w') (hb : Blk w g t c) (hp : ∀ q, pv.ownBlock = some q → q ≠ g) : w'.heap[g]? = w.heap[g]? := hg.2.1 g hb.lt (fun e => hp g e rfl)
theorem cells_pt {w : World} {base g n c : Nat} {l : List Pt4} (h : OwnPt w base (.slice (some ⟨g, 0, none⟩) n c) l) {k : Nat} {x : Pt4} (hx : l[k]? = some x) : w.cell? ⟨g, k * 4, none⟩ = some (.int .i64 x.ad) ∧ w.cell? ⟨g, k * 4 + 1, none⟩ = some (.int .i64 x.n) ∧ w.cell? ⟨g, k * 4 + 2, none⟩ = some (.int .i64 x.bi) ∧ w.cell? ⟨g, k * 4 + 3, none⟩ = some (.string x.sm) := by
 obtain ⟨A, c', e, hr, _⟩ := h.shape (fun _ => rfl)
 injection e with e1 e2 e3
 obtain ⟨b, o, e4, _, h5⟩ := hr k x hx
 rw [← e1] at e4
 injection e4 with e4
 injection e4 with e4 e5
 subst e4 e5
 have h0 := h5 0 _ rfl
 have h1 := h5 1 _ rfl
 have h2 := h5 2 _ rfl
 have h3 := h5 3 _ rfl
 rw [Nat.zero_add] at h0 h1 h2 h3
 exact ⟨h0, h1, h2, h3⟩
theorem index_pt (g n c k : Nat) (h : k < n) (w : World) : (Instr.indexAt 41 (.slice (some ⟨g, 0, none⟩) n c) (.int .i64 (k : Int))).run Tryz.prog w = .ok (.pointer (some ⟨g, k * 4, none⟩)) w := by
 have h1 := Gr.index_gen (k := 4) Tryz.underlying41 (by kernel_rfl) g 0 n c k h w
 rw [Nat.zero_add] at h1
 exact h1
theorem ownPt_shape {w : World} {base : Nat} {v : Value} {l : List Pt4} (h : OwnPt w base v l) (hl : 1 ≤ l.length) : ∃ g c, v = .slice (some ⟨g, 0, none⟩) l.length c := by
 rcases h.2 with ⟨_, e⟩ | ⟨g, cap, cur, e, _⟩
 ·omega
 ·exact ⟨g, cap, e⟩
end Sto
end Go.Proofs.YtgbehfkimchglaaGreatDoor
namespace Go.Proofs.YtgbehfkimchglaaGreatDoor
open Go Go.RowKit refRack
set_option maxRecDepth 100000
set_option linter.unusedVariables false
namespace Sto
open Sp Arr
def heldA (H : Nat → Bool) : Array Value := Array.ofFn (n := 77) fun c => .bool (H c.val)
theorem heldA_get {H : Nat → Bool} {c : Nat} (h : c < 77) : (heldA H)[c]? = some (.bool (H c)) := by simp [heldA, h]
theorem heldA_set {H : Nat → Bool} {c : Nat} (h : c < 77) : (heldA H).setIfInBounds c (.bool true) = heldA fun j => decide (j = c) || H j := by
 apply Array.ext_getElem?
 intro j
 rw [Array.getElem?_setIfInBounds]
 have hs : (heldA H).size = 77 := by simp [heldA]
 rw [hs]
 by_cases hj : j < 77
 ·by_cases e : c = j
  ·subst e
   rw [if_pos rfl, if_pos hj, heldA_get hj]
   simp
  ·rw [if_neg e, heldA_get hj, heldA_get hj]
   have : ¬ j = c := fun h => e h.symm
   simp [this]
 ·rw [Array.getElem?_eq_none (by rw [hs]; omega), Array.getElem?_eq_none (by simp [heldA]; omega)]
  have : ¬ c = j := by omega
  rw [if_neg this]
theorem heldA_none : heldA (fun _ => false) = Array.replicate 77 (.bool false) := by
 apply Array.ext_getElem?
 intro j
 by_cases hj : j < 77
 ·rw [heldA_get hj, Array.getElem?_replicate, if_pos hj]
 ·rw [Array.getElem?_eq_none (by simp [heldA]; omega), Array.getElem?_eq_none (by simp; omega)]
theorem info_boolA : (Tryz.prog.info? 4).map (fun i => (i.zero, i.size, i.bytes)) = some (some (.bool false), 1, 1) := by kernel_rfl
theorem make_boolsA (n : Nat) (hn : n ≤ 70000) (w : World) :
  (Instr.makeSlice 53 (.int .i64 (n : Int)) (.int .i64 (n : Int))).run Tryz.prog w = .ok (.slice (some ⟨w.heap.size, 0, none⟩) n n) (w.alloc (.cells (Array.replicate n (.bool false)) 4)) := by
 obtain ⟨i0, hi, hz0, hz1, hz2⟩ := info_parts info_boolA
 have h := run_make (P := Tryz.prog) (w := w) 53 4 i0 (.bool false) Tryz.underlying53 hi hz0 .i64 .i64 (n : Int) (n : Int) (by omega) (by omega) (by rw [hz2]; omega) (by omega)
 rw [h, hz1, Int.toNat_natCast, Nat.mul_one]
 show _ = _
 rw [show (Value.bool false).cells = #[.bool false] from rfl, madeCells_one]
theorem make_u8A (n : Nat) (hn : n ≤ 70000) (w : World) :
  (Instr.makeSlice 76 (.int .i64 (n : Int)) (.int .i64 (n : Int))).run Tryz.prog w = .ok (.slice (some ⟨w.heap.size, 0, none⟩) n n) (w.alloc (.cells (Array.replicate n (.int .u8 0)) 5)) := by
 obtain ⟨i0, hi, hz0, hz1, hz2⟩ := info_parts info_u8
 have h := run_make (P := Tryz.prog) (w := w) 76 5 i0 (.int .u8 0) Tryz.underlying76 hi hz0 .i64 .i64 (n : Int) (n : Int) (by omega) (by omega) (by rw [hz2]; omega) (by omega)
 rw [h, hz1, Int.toNat_natCast, Nat.mul_one]
 show _ = _
 rw [show (Value.int .u8 0).cells = #[.int .u8 0] from rfl, madeCells_one]
theorem byt_zeros (w : World) (n : Nat) : Byt (w.alloc (.cells (Array.replicate n (.int .u8 0)) 5)) (some ⟨w.heap.size, 0, none⟩) (List.replicate n 0) :=
 ⟨fun x hx => by rw [List.eq_of_mem_replicate hx]; omega, .inr ⟨w.heap.size, 0, _, (0, 0), rfl, heap_alloc_new w _, fun j x hj => by
  obtain ⟨hj1, hj2⟩ := List.getElem?_eq_some_iff.1 hj
  rw [List.length_replicate] at hj1
  rw [List.getElem_replicate] at hj2
  subst hj2
  rw [Nat.zero_add, Array.getElem?_replicate, if_pos hj1]
  rfl⟩⟩
def ptF (x : Lf) : Pt4 := ⟨(x.ad : Int), (x.n : Int), 1, x.sm⟩
theorem index_bl (g n c i : Nat) (h : i < n) (w : World) : (Instr.indexAt 53 (.slice (some ⟨g, 0, none⟩) n c) (.int .i64 (i : Int))).run Tryz.prog w = .ok (.pointer (some ⟨g, i, none⟩)) w := by
 have h1 := Gr.index_gen (k := 1) Tryz.underlying53 (by kernel_rfl) g 0 n c i h w
 rw [Nat.mul_one, Nat.zero_add] at h1
 exact h1
theorem OwnPt_take {w : World} {base g n c : Nat} {l : List Pt4} {x : Pt4} (h : OwnPt w base (.slice (some ⟨g, 0, none⟩) (n + 1) c) (l ++ [x])) (hn : n = l.length) : OwnPt w base (.slice (some ⟨g, 0, none⟩) n c) l := by
 rcases h.2 with ⟨e, _⟩ | ⟨g', cap, cur, e, f1, f2, f3, f4, f5, f6⟩
 ·cases e
 ·injection e with e1 e2 e3
  injection e1 with e1
  injection e1 with e1
  subst e1 e3
  refine ⟨by rw [Gr.flat_length (k := 4) (fun _ => rfl)], .inr ⟨g, c, cur, by rw [hn], f1, f2, ?_, f4, f5, ?_⟩⟩
  ·rw [List.length_append] at f3
   exact Nat.le_trans (Nat.le_add_right _ _) f3
  ·have h1 : cur.toList.take (l.length * 4) = (cur.toList.take ((l ++ [x]).length * 4)).take (l.length * 4) := by
    rw [List.take_take, List.length_append]
    congr 1
    have : ([x] : List Pt4).length = 1 := rfl
    omega
   rw [h1, f6, List.flatMap_append, List.take_append_of_le_length (by rw [Gr.flat_length (cs := csPt) (k := 4) (fun _ => rfl)]; omega), List.take_of_length_le (by rw [Gr.flat_length (cs := csPt) (k := 4) (fun _ => rfl)]; omega)]
theorem slice_pt (b n c hi : Nat) (h : hi ≤ c) (w : World) :
  (Instr.sliceAt 41 (.slice (some ⟨b, 0, none⟩) n c) none (some (.int .i64 (hi : Int))) none).run Tryz.prog w = .ok (.slice (some ⟨b, 0, none⟩) hi c) w := by
 have hu : Tryz.prog.underlying 41 = some (.slice (Tryz.prog.elem 41)) := by kernel_rfl
 have he : Tryz.prog.elem 41 = 73 := by kernel_rfl
 have hs : ∀ w : World, (sizeOf 73).run Tryz.prog w = .ok 4 w := fun w => by
  obtain ⟨i0, hi, hz0, hz1, hz2⟩ : ∃ i0, Tryz.prog.info? 73 = some i0 ∧ i0.zero = _ ∧ i0.size = 4 ∧ i0.bytes = 40 := info_parts info_pt
  simp [sizeOf, typeInfo, hi, hz1]
 rw [run_sliceAt_slice (P := Tryz.prog) (w := w) (h := hu), run_slice_h (P := Tryz.prog) (w := w) 41 _ n c hu .i64 (hi : Int) (by omega) (by omega), he, hs]
 by_cases e : c = 0
 ·simp [sliced, e, Addr.add]
 ·simp [sliced, e, Addr.add]
structure A1 (B : Nat) (W0 W : World) (p a r sp m hb K : Nat) (lv : Value) (H : Nat → Bool) (l lr : List Lf) : Prop where
 ap : Ap B W p a r sp m K H l
 pts : OwnPt W B lv (lr.map ptF)
 hel : Blk W hb 4 (heldA H)
 bel : Below B W0 W
 lo : B ≤ hb
section
variable {B : Nat} {W0 w w' : World} {p a r sp m K hb : Nat} {lv : Value} {H : Nat → Bool} {l lr : List Lf}
theorem Ap.map (h : Ap B w p a r sp m K H l) (hf : ∀ v S, StoV B w p a r sp m 0 v S → StoV B w' p a r sp m 0 v S) : Ap B w' p a r sp m K H l := by
 obtain ⟨v, S, hs, h⟩ := h
 exact ⟨v, S, hf _ _ hs, h⟩
theorem A1.below (h : A1 B W0 w p a r sp m hb K lv H l lr) (hw : Below w.heap.size w w') : A1 B W0 w' p a r sp m hb K lv H l lr :=
 ⟨h.ap.below hw, h.pts.below hw (Nat.le_refl _), h.hel.below hw h.hel.lt, h.bel.trans (hw.mono h.ap.le), h.lo⟩
theorem A1.keep (h : A1 B W0 w p a r sp m hb K lv H l lr) (hk : KeepT B w w') {K' : Nat} {H' : Nat → Bool} {l' : List Lf} (ha : Ap B w' p a r sp m K' H' l') : Ap B w' p a r sp m K' H' l' ∧ OwnPt w' B lv (lr.map ptF) ∧ Blk w' hb 4 (heldA H) ∧ Below B W0 w' :=
 ⟨ha, h.pts.keep fun g hg => by
  obtain ⟨cur, hbk⟩ := h.pts.blk_of hg
  exact (hk.kept _ _ hbk rfl).trans hbk.symm, hk.kept _ _ h.hel rfl, h.bel.trans hk.below⟩
theorem cost_ap (w : World) (h : Ap B w p a r sp m K H l) (n : Nat) (h1 : 1 ≤ n) (hn : n ≤ 1024) : Calls Tryz.prog 22 #[.pointer (some ⟨a, 0, none⟩), .int .i64 (n : Int)] w fun e w' => e = .returned (.tuple #[.int .i64 ((Arr.cost 7 n : Nat) : Int), .int .i64 0]) ∧ w' = w := by
 obtain ⟨v, S, hs, e1, _⟩ := h
 have hc := cost_ok w hs.arr n h1 hn
 rw [e1.nd] at hc
 exact hc
theorem ap_last {x : Lf} (h : Ap B w p a r sp m K H (l ++ [x])) : (∀ c, x.in_ c → ¬ lfIn l c) ∧ 1 ≤ x.n ∧ x.n ≤ 1024 := by
 obtain ⟨v, S, hs, e1, e2, e3, e4, e5, e6, e7, e8, e9, e10⟩ := h
 refine ⟨fun c hc ⟨y, hy, hyc⟩ => ?_, e10.size x (by simp)⟩
 exact (List.pairwise_append.1 e10.apart).2.2 y hy x (by simp) c hyc hc
theorem A1.hold {HH : Nat → Bool} (h1 : Ap B w p a r sp m K H l) (hX : Blk w hb 4 (heldA HH)) {c : Nat} (hc : c < 77) : Ap B (w.setCell ⟨hb, c, none⟩ (.bool true)) p a r sp m K H l ∧ Blk (w.setCell ⟨hb, c, none⟩ (.bool true)) hb 4 (heldA fun j => decide (j = c) || HH j) := by
 have ho : Only hb w (w.setCell ⟨hb, c, none⟩ (.bool true)) := (Only.refl hb w).setCell _ _
 refine ⟨h1.map fun v S hs => hs.asideB hX ho, ?_⟩
 have h2 := hX.set_ c (.bool true)
 rw [heldA_set hc] at h2
 exact h2
theorem app_l {pts : List Pt4} (w : World) (hr : Ap B w p a r sp m K H l) (hp : OwnPt w B lv pts) (x : Pt4) (hi : pts.length ≤ 1000) {HH : Nat → Bool} (hh : Blk w hb 4 (heldA HH)) (hb2 : Below B W0 w) (ty : TypeId) :
  ∃ v' w', (Builtin.append_ #[41, 41] ty #[lv, .slice (some ⟨w.heap.size, 0, none⟩) 1 1]).run Tryz.prog (w.alloc (.cells #[.int .i64 x.ad, .int .i64 x.n, .int .i64 x.bi, .string x.sm] 73)) = .ok v' w' ∧ Ap B w' p a r sp m K H l ∧ OwnPt w' B v' (pts ++ [x]) ∧ Blk w' hb 4 (heldA HH) ∧ Below B W0 w' ∧ Arr.GrowB lv v' w w' := by
 obtain ⟨v', w', e1, e2, e3, e4⟩ := appPt hp x (by omega) hr.le ty
 refine ⟨v', w', e1, hr.map (fun v S hs => hs.rowP hp e3 e4), e2, ?_, hb2.trans e3, e4⟩
 exact (keep_row e4 hh fun q hq => by
  obtain ⟨cur2, hb3⟩ := hp.blk_of hq
  exact blk_ne hb3 hh (by decide)).trans hh
end
theorem heldA_congr {H H' : Nat → Bool} (h : ∀ c, c < 77 → H c = H' c) : heldA H = heldA H' := by
 apply Array.ext_getElem?
 intro j
 by_cases hj : j < 77
 ·rw [heldA_get hj, heldA_get hj, h j hj]
 ·rw [Array.getElem?_eq_none (by simp [heldA]; omega), Array.getElem?_eq_none (by simp [heldA]; omega)]
section
variable {B : Nat} {w w' : World} {p a r sp m : Nat}
theorem Done.below (h : Done B w p a r sp m) (hb : Below w.heap.size w w') : Done B w' p a r sp m := by
 obtain ⟨v, S, hs, h⟩ := h
 exact ⟨v, S, hs.below hb, h⟩
theorem free_done (w : World) (h : Done B w p a r sp m) : Calls Tryz.prog 8 #[.pointer (some ⟨p, 0, none⟩)] w fun e w' => e = .returned (.int .i64 77) ∧ Done B w' p a r sp m ∧ KeepT B w w' := by
 obtain ⟨v, S, hs, e1, e2, e3, e4, e5⟩ := h
 refine (sfree_any w hs).mono ?_
 rintro e w' ⟨rfl, hs', hk⟩
 refine ⟨?_, ⟨v, S, hs', e1, e2, e3, e4, e5⟩, hk⟩
 rw [e3, e4]
 rfl
theorem used_done (w : World) (h : Done B w p a r sp m) : Calls Tryz.prog 14 #[.pointer (some ⟨p, 0, none⟩)] w fun e w' => (∃ A c, e = .returned (.slice A 0 c)) ∧ Below B w w' := by
 obtain ⟨v, S, hs, e1, e2, e3, e4, e5⟩ := h
 refine (sused_any w hs).mono ?_
 rintro e w' ⟨⟨A, c, rfl⟩, _, hk⟩
 rw [e5]
 exact ⟨⟨A, c, rfl⟩, hk.below⟩
theorem cells_done (w : World) (h : Done B w p a r sp m) : Calls Tryz.prog 20 #[.pointer (some ⟨a, 0, none⟩)] w fun e w' => e = .returned (.int .i64 77) ∧ ∃ d, w' = w.drewN d := by
 obtain ⟨v, S, hs, e1, e2, e3, e4, e5⟩ := h
 have h := cells_any w hs.arr
 have hc : Arr.cells S.s S.f = 77 := by unfold Arr.cells; rw [e1.nd, e1.ns, e2]; rfl
 rw [hc] at h
 exact h
theorem give_apK {K : Nat} {H : Nat → Bool} {l : List Lf} (w : World) {k : Nat} {x : Lf} (h : Ap B w p a r sp m K H (l.drop k)) (hx : l[k]? = some x) :
  Calls Tryz.prog 23 #[.pointer (some ⟨p, 0, none⟩), .agg #[.int .i64 (x.ad : Int), .int .i64 (x.n : Int), .int .i64 1, .string x.sm]] w fun e w' => e = .returned (.int .i64 0) ∧ Ap B w' p a r sp m K H (l.drop (k + 1)) ∧ KeepT B w w' := by
 obtain ⟨hk, e⟩ := List.getElem?_eq_some_iff.1 hx
 rw [List.drop_eq_getElem_cons hk, e] at h
 exact give_ap w h (List.Perm.refl _)
end
end Sto
end Go.Proofs.YtgbehfkimchglaaGreatDoor
