/-
 Rows that a statement keeps of a store's blocks: pointers, and a sliced row of numbers. No conditions beyond those that each theorem types.
-/
import Derived.Test.YtkbndlnmbbbohaaGreatDoorStoKM
import Derived.Test.YtkbndlnmbbbohaaGreatDoorStoFrontM
namespace Go.Proofs.YtkbndlnmbbbohaaGreatDoor
open Go Go.RowKit refRack
set_option maxRecDepth 100000
set_option linter.unusedVariables false
namespace Sto
structure Pt4 where
 ad : Int
 n : Int
 bi : Int
 sm : ByteArray
def csPt (x : Pt4) : List Value := [.int .i64 x.ad, .int .i64 x.n, .int .i64 x.bi, .string x.sm]
theorem csPt_one (x : Pt4) : ∀ u ∈ csPt x, u.oneCell' = true := fun u hu => by
 simp [csPt] at hu
 rcases hu with rfl | rfl | rfl | rfl <;> rfl
theorem info_pt : (Tryz.prog.info? 38).map (fun i => (i.zero, i.size, i.bytes)) = some (some (.agg #[.int .i64 0, .int .i64 0, .int .i64 0, .string ⟨#[]⟩]), 4, 40) := by kernel_rfl
abbrev OwnPt (w : World) (base : Nat) (v : Value) (l : List Pt4) : Prop := Gr.OwnG 38 4 csPt w base v l
section
variable {w w' : World} {base : Nat} {v : Value}
theorem appPt {l : List Pt4} (h : OwnPt w base v l) (x : Pt4) (hl : l.length ≤ 1000000) (hb : base ≤ w.heap.size) (ty : TypeId) :
  ∃ v' w', (Builtin.append_ #[36, 36] ty #[v, .slice (some ⟨w.heap.size, 0, none⟩) 1 1]).run Tryz.prog (w.alloc (.cells #[.int .i64 x.ad, .int .i64 x.n, .int .i64 x.bi, .string x.sm] 38)) = .ok v' w' ∧ OwnPt w' base v' (l ++ [x]) ∧ Below base w w' ∧ Arr.GrowB v v' w w' :=
 Arr.app1 (k := 4) (cs := csPt) (fun _ => rfl) csPt_one Tryz.underlying36 info_pt rfl (by omega) (by omega) h x hl hb ty
structure OwnY (w : World) (base g o n c : Nat) (l : List Nat) : Prop where
 lo : base ≤ g
 len : n = l.length
 le : n ≤ c
 max : c ≤ maxLen
 blk : ∃ cur, Blk w g 3 cur ∧ o + c ≤ cur.size ∧ ∀ (i x : Nat), l[i]? = some x → cur[o + i]? = some (.int .i64 (x : Int))
theorem OwnY.keep {g o n c : Nat} {l : List Nat} (h : OwnY w base g o n c l) (hk : w'.heap[g]? = w.heap[g]?) : OwnY w' base g o n c l := by
 obtain ⟨cur, h1, h2⟩ := h.blk
 exact ⟨h.lo, h.len, h.le, h.max, cur, hk.trans h1, h2⟩
theorem OwnY.lt {g o n c : Nat} {l : List Nat} (h : OwnY w base g o n c l) : g < w.heap.size := by
 obtain ⟨cur, h1, h2⟩ := h.blk
 exact h1.lt
theorem OwnY.cell {g o n c : Nat} {l : List Nat} (h : OwnY w base g o n c l) {i x : Nat} (hx : l[i]? = some x) : w.cell? ⟨g, o + i, none⟩ = some (.int .i64 (x : Int)) := by
 obtain ⟨cur, h1, h2, h3⟩ := h.blk
 rw [h1.cell, h3 i x hx]
theorem OwnY.of {g n c : Nat} {l : List Nat} (h : Nr.OwnN w base (.slice (some ⟨g, 0, none⟩) n c) l) : OwnY w base g 0 n c l := by
 rcases Nr.own_shape h with ⟨e, _⟩ | ⟨g', c', e, h1, h2, h3, h4, h5⟩
 ·cases e
 ·injection e with e1 e2 e3
  injection e1 with e1
  injection e1 with e1
  subst e1 e2 e3
  rcases h.2 with ⟨e, _⟩ | ⟨g2, cap, cur, e, f1, f2, f3, f4, f5, f6⟩
  ·cases e
  ·injection e with e1 e2 e3
   injection e1 with e1
   injection e1 with e1
   subst e1 e3
   refine ⟨h1, rfl, h3, h4, cur, f2, by rw [f5]; omega, fun i x hx => ?_⟩
   have h6 := h5 i x hx
   rw [(show Blk w g 3 cur from f2).cell] at h6
   rw [Nat.zero_add]
   exact h6
theorem OwnY.drop {g o n c : Nat} {l : List Nat} (h : OwnY w base g o n c l) (k : Nat) (hk : k ≤ n) : OwnY w base g (o + k) (n - k) (c - k) (l.drop k) := by
 obtain ⟨cur, h1, h2, h3⟩ := h.blk
 have := h.le
 have := h.max
 refine ⟨h.lo, by rw [List.length_drop, h.len], by omega, by omega, cur, h1, by omega, fun i x hx => ?_⟩
 rw [List.getElem?_drop] at hx
 have h4 := h3 _ _ hx
 rw [Nat.add_assoc]
 exact h4
theorem appY {g o n c : Nat} {l : List Nat} (h : OwnY w base g o n c l) (x : Nat) (hl : l.length ≤ 1000000) (hb : base ≤ w.heap.size) (ty : TypeId) :
  ∃ v' w', (Builtin.append_ #[22, 22] ty #[.slice (some ⟨g, o, none⟩) n c, .slice (some ⟨w.heap.size, 0, none⟩) 1 1]).run Tryz.prog (w.alloc (.cells #[.int .i64 (x : Int)] 3)) = .ok v' w' ∧ (∃ g' o' n' c', v' = .slice (some ⟨g', o', none⟩) n' c' ∧ OwnY w' base g' o' n' c' (l ++ [x]) ∧ (g' = g ∨ w.heap.size ≤ g')) ∧ Below base w w' ∧ Only g w w' := by
 obtain ⟨i0, hi', hz0, hz1, hz2⟩ : ∃ i0, Tryz.prog.info? 3 = some i0 ∧ i0.zero = some (.int .i64 0) ∧ i0.size = 1 ∧ i0.bytes = 8 := info_parts Ir.info_int
 obtain ⟨W, hW⟩ : ∃ W, W = w.alloc (.cells #[.int .i64 (x : Int)] 3) := ⟨_, rfl⟩
 have hB : Below w.heap.size w W := by rw [hW]; exact (Below.refl _ _).alloc (Nat.le_refl _) _
 have hs : W.heap.size = w.heap.size + 1 := by rw [hW]; simp
 rw [← hW]
 have hone : ∀ u ∈ Nr.csN x, u.oneCell' = true := fun u hu => by simp [Nr.csN] at hu; subst hu; rfl
 have hnews : ∀ j u, (Nr.csN x)[j]? = some u → W.cell? ((⟨w.heap.size, 0, none⟩ : Addr).add j) = some u := fun j u hu => by
  rw [hW]
  exact Gr.one_cells (cs := Nr.csN) x w 3 j u (by simpa using hu)
 have hgl := h.lt
 have hW2 := h.keep (w' := W) (hB.block g hgl)
 obtain ⟨cur, h1, h2, h3⟩ := hW2.blk
 by_cases hroom : n + 1 ≤ c
 ·have hlt : o + n < cur.size := by omega
  have hcl : W.cell? ⟨g, o + n, none⟩ = some cur[o + n] := by rw [h1.cell, Array.getElem?_eq_getElem hlt]
  have hr := run_append_room_cells (P := Tryz.prog) W 22 ty 3 i0 Tryz.underlying22 hi' g o n c ⟨w.heap.size, 0, none⟩ 1 1 (Nr.csN x) (by rw [hz1]; rfl) hnews hone hroom (fun j hj => by
   have hj : j < 1 := hj
   obtain rfl : j = 0 := by omega
   rw [hz1, Nat.mul_one, Nat.add_zero, hcl]; rfl) (fun j hj => by
   have hj : j < 1 := hj
   obtain rfl : j = 0 := by omega
   rw [hz1, Nat.mul_one, Nat.add_zero]
   exact h1.frozen _)
  rw [hz1, Nat.mul_one] at hr
  have hset : W.setCells g (o + n) (Nr.csN x) = W.setCell ⟨g, o + n, none⟩ (.int .i64 (x : Int)) := rfl
  rw [hset] at hr
  have hb2 : Blk (W.setCell ⟨g, o + n, none⟩ (.int .i64 (x : Int))) g 3 (cur.setIfInBounds (o + n) (.int .i64 (x : Int))) := h1.set_ _ _
  have ho : Only g W (W.setCell ⟨g, o + n, none⟩ (.int .i64 (x : Int))) := (Only.refl g W).setCell _ _
  refine ⟨_, _, hr, ⟨g, o, n + 1, c, rfl, ⟨h.lo, by rw [List.length_append, ← h.len]; rfl, hroom, h.max, _, hb2, by rw [Array.size_setIfInBounds]; exact h2, fun i y hy => ?_⟩, .inl rfl⟩, ?_, ?_⟩
  ·rcases Nat.lt_trichotomy i l.length with hi | hi | hi
   ·rw [List.getElem?_append_left hi] at hy
    rw [Array.getElem?_setIfInBounds_ne (by rw [h.len]; omega)]
    exact h3 i y hy
   ·subst hi
    simp at hy
    subst hy
    rw [← h.len, Array.getElem?_setIfInBounds_self_of_lt hlt]
   ·rw [List.getElem?_eq_none (by simp; omega)] at hy
    cases hy
  ·exact (hB.mono hb).trans (ho.below h.lo (by omega))
  ·exact (Only.of_below hB g).trans ho
 ·have holds : ∀ j u, (l.flatMap Nr.csN)[j]? = some u → W.cell? ((⟨g, o, none⟩ : Addr).add j) = some u := fun j u hu => by
   rw [Nr.flat_csN, List.getElem?_map] at hu
   rw [add_plain]
   cases hx : l[j]? with
   | none => rw [hx] at hu; cases hu
   | some y => rw [hx] at hu; injection hu with hu; rw [← hu]; exact hW2.cell hx
  obtain ⟨v', w', hr, hown, hgr⟩ := run_append_arg_grows (P := Tryz.prog) W 22 ty 3 i0 (.int .i64 0) 1 8 Tryz.underlying22 hi' hz0 hz1 hz2 rfl (by omega) ⟨g, o, none⟩ n c (l.flatMap Nr.csN) (by rw [Gr.flat_length (cs := Nr.csN) (k := 1) (fun _ => rfl), h.len]) holds ⟨w.heap.size, 0, none⟩ 1 1 (Nr.csN x) rfl hnews (by omega) (by have := h.len; unfold maxLen; omega) (by have := h.len; omega)
  have hN : Nr.OwnN w' W.heap.size v' (l ++ [x]) := by
   show w'.ownsRow _ _ _ _ _ _
   rw [List.length_append, ← h.len, List.flatMap_append]
   exact hown
  rcases Nr.own_shape hN with ⟨e, he⟩ | ⟨g', c', e, f1, f2, f3, f4, f5⟩
  ·cases l <;> cases he
  ·subst e
   have hy := OwnY.of hN
   refine ⟨_, w', hr, ⟨g', 0, _, c', rfl, ⟨by omega, hy.len, hy.le, hy.max, hy.blk⟩, .inr (by omega)⟩, ?_, ?_⟩
   ·exact (hB.mono hb).trans ⟨hgr.os, hgr.tape, hgr.output, hgr.size, fun k hk => hgr.block k (by omega) (by simp)⟩
   ·exact (Only.of_below hB g).trans ⟨hgr.os, hgr.tape, hgr.output, hgr.size, fun k hk _ => hgr.block k hk (by simp)⟩
end
open Sp Arr in
theorem StoV.asideN {B : Nat} {w w' : World} {p a r sp m q : Nat} {lk : Int} {v : Value} {S : St} {cs : Array Value} (h : StoV B w p a r sp m lk v S) (hX : Blk w q 3 cs) (ho : Only q w w') : StoV B w' p a r sp m lk v S := by
 have hh : ∀ (g : Nat) (c : Array Value) (t : TypeId) (fr : Nat × Nat), w.heap[g]? = some (.cells c t fr) → (t == 3) = false → w'.heap[g]? = some (.cells c t fr) := fun g c t fr h1 h2 =>
  (ho.block g (Array.getElem?_eq_some_iff.1 h1).1 (fun e => by
   injection e with e
   subst e
   rw [show w.heap[g]? = _ from hX] at h1
   injection h1 with h1
   injection h1 with _ h1 _
   rw [← h1] at h2
   cases h2)).trans h1
 have hm : ∀ (g : Nat) (x : Obj), w.heap[g]? = some x → (∀ c t fr, x ≠ .cells c t fr) → w'.heap[g]? = some x := fun g x h1 h2 =>
  (ho.block g (Array.getElem?_eq_some_iff.1 h1).1 (fun e => by
   injection e with e
   subst e
   rw [show w.heap[g]? = _ from hX] at h1
   injection h1 with h1
   exact h2 _ _ _ h1.symm)).trans h1
 have hb : ∀ (g : Nat) (t : TypeId) (c : Array Value), Blk w g t c → (t == 3) = false → w'.heap[g]? = w.heap[g]? := fun g t c h1 h2 => (hh g _ _ _ h1 h2).trans (show w.heap[g]? = _ from h1).symm
 have hrk : RackAt B w' r S.s := by
  obtain ⟨h0, m1, m2, v, hk⟩ := h.arr.rack
  refine ⟨h0, m1, m2, v, hk.move (fun i hi hor => ?_) ho.size⟩
  rcases hor with e | e | e | e
  ·subst e
   exact hb _ _ _ hk.blk rfl
  ·subst e
   obtain ⟨n, F, _, h1, _⟩ := hk.last
   obtain ⟨es, c, hmm, hmk⟩ := h1.isMapK
   rw [hm _ _ hmm (fun _ _ _ e => by cases e), hmm]
  ·subst e
   obtain ⟨es, c, hmm, hmk⟩ := hk.newest.isMapK
   rw [hm _ _ hmm (fun _ _ _ e => by cases e), hmm]
  ·obtain ⟨_, cs, hbb⟩ := own_blk hk.row e
   exact hb _ _ _ hbb rfl
 refine ⟨⟨hrk, (hb _ _ _ h.arr.blk rfl).trans h.arr.blk, h.arr.five, h.arr.first⟩, ?_, (hb _ _ _ h.blk rfl).trans h.blk, ?_, h.lo⟩
 ·obtain ⟨h0, F, V, h⟩ := h.spc
  have hs : ∀ g, SpB sp m V g → w'.heap[g]? = w.heap[g]? := fun g hg => by
   obtain ⟨_, o, h1, _, _, h2⟩ := spc_obj h hg
   cases o with
   | cells c t fr =>
    have h2 : (t == 134 || t == 115) = true := h2
    refine (hh g _ _ _ h1 ?_).trans h1.symm
    simp only [Bool.or_eq_true, beq_iff_eq] at h2
    rcases h2 with h2 | h2 <;> subst h2 <;> rfl
   | _ => exact (hm g _ h1 (fun _ _ _ e => by cases e)).trans h1.symm
  exact ⟨Nat.le_trans h0 ho.size, F, V, h.mem.keep (hs sp (.inl rfl)) (hs m (.inr (.inl rfl))) (fun k hk' g hg => hs g (.inr (.inr ⟨k, hk', hg⟩))), h.good⟩
 ·exact h.row.keep (fun g hg => by
   obtain ⟨cur, hbb⟩ := h.row.own.blk_of hg
   exact hb _ _ _ hbb rfl) (fun g cur fr hg => hh _ _ _ _ hg rfl)
open Sp Arr in
theorem StoV.rowP {B base : Nat} {w w' : World} {p a r sp m : Nat} {lk : Int} {v : Value} {S : St} {pv v' : Value} {l : List Pt4} (h : StoV B w p a r sp m lk v S) (ho : OwnPt w base pv l) (hb : Below base w w') (hg : Arr.GrowB pv v' w w') : StoV B w' p a r sp m lk v S := by
 cases hq : pv.ownBlock with
 | none => exact h.below ⟨hb.os, hb.tape, hb.output, hg.1, fun g hgl => hg.2.1 g hgl (by rw [hq]; simp)⟩
 | some g =>
  obtain ⟨cur, hbk⟩ := ho.blk_of hq
  exact h.aside hbk ⟨hb.os, hb.tape, hb.output, hg.1, fun k hk hne => hg.2.1 k hk (by rw [hq]; exact fun e => hne (by injection e with e; rw [e]))⟩
theorem StoV.rowN {B base : Nat} {w w' : World} {p a r sp m : Nat} {lk : Int} {v : Value} {S : St} {pv v' : Value} {l : List Nat} (h : StoV B w p a r sp m lk v S) (ho : Nr.OwnN w base pv l) (hb : Below base w w') (hg : Arr.GrowB pv v' w w') : StoV B w' p a r sp m lk v S := by
 cases hq : pv.ownBlock with
 | none => exact h.below ⟨hb.os, hb.tape, hb.output, hg.1, fun g hgl => hg.2.1 g hgl (by rw [hq]; simp)⟩
 | some g =>
  obtain ⟨cur, hbk⟩ := ho.blk_of hq
  exact h.asideN hbk ⟨hb.os, hb.tape, hb.output, hg.1, fun k hk hne => hg.2.1 k hk (by rw [hq]; exact fun e => hne (by injection e with e; rw [e]))⟩
theorem blk_ne {w : World} {g g' : Nat} {t t' : TypeId} {c c' : Array Value} (h : Blk w g t c) (h' : Blk w g' t' c') (hne : t ≠ t') : g ≠ g' := fun e => by
 subst e
 have h1 : w.heap[g]? = some (.cells c t) := h
 have h2 : w.heap[g]? = some (.cells c' t') := h'
 rw [h1] at h2
 injection h2 with h2
 injection h2 with _ h2
 exact hne h2
theorem keep_row {w w' : World} {pv v' : Value} {g : Nat} {t : TypeId} {c : Array Value} (hg : Arr.GrowB pv v' w w') (hb : Blk w g t c) (hp : ∀ q, pv.ownBlock = some q → q ≠ g) : w'.heap[g]? = w.heap[g]? := hg.2.1 g hb.lt (fun e => hp g e rfl)
theorem slice_fromO (b o n c lo : Nat) (h : lo ≤ n) (hc : lo < c) (w : World) :
  (Instr.sliceAt 22 (.slice (some ⟨b, o, none⟩) n c) (some (.int .i64 (lo : Int))) none none).run Tryz.prog w = .ok (.slice (some ⟨b, o + lo, none⟩) (n - lo) (c - lo)) w := by
 have hu : Tryz.prog.underlying 22 = some (.slice (Tryz.prog.elem 22)) := by kernel_rfl
 have he : Tryz.prog.elem 22 = 3 := by kernel_rfl
 rw [run_sliceAt_slice (P := Tryz.prog) (w := w) (h := hu), run_slice_l (P := Tryz.prog) (w := w) 22 _ n c hu .i64 (lo : Int) (by omega) (by omega), he, Nr.sizeOf_int]
 have e : ¬ c = lo := by omega
 simp [sliced, e, add_plain]
theorem slice_fromE (b o n c lo : Nat) (h : lo ≤ n) :
  ∃ o', (∀ w : World, (Instr.sliceAt 22 (.slice (some ⟨b, o, none⟩) n c) (some (.int .i64 (lo : Int))) none none).run Tryz.prog w = .ok (.slice (some ⟨b, o', none⟩) (n - lo) (c - lo)) w) ∧ (lo < c → o' = o + lo) := by
 by_cases hc : lo < c
 ·exact ⟨_, fun w => slice_fromO b o n c lo h hc w, fun _ => rfl⟩
 ·have hu : Tryz.prog.underlying 22 = some (.slice (Tryz.prog.elem 22)) := by kernel_rfl
  have he : Tryz.prog.elem 22 = 3 := by kernel_rfl
  by_cases e : c = lo
  ·subst e
   refine ⟨o, fun w => ?_, fun h => absurd h hc⟩
   rw [run_sliceAt_slice (P := Tryz.prog) (w := w) (h := hu), run_slice_l (P := Tryz.prog) (w := w) 22 _ n c hu .i64 (c : Int) (by omega) (by omega), he, Nr.sizeOf_int]
   simp [sliced]
  ·refine ⟨o + lo, fun w => ?_, fun _ => rfl⟩
   rw [run_sliceAt_slice (P := Tryz.prog) (w := w) (h := hu), run_slice_l (P := Tryz.prog) (w := w) 22 _ n c hu .i64 (lo : Int) (by omega) (by omega), he, Nr.sizeOf_int]
   simp [sliced, e, add_plain]
theorem slice_toO (b o n c hi : Nat) (h : hi ≤ c) (w : World) :
  (Instr.sliceAt 22 (.slice (some ⟨b, o, none⟩) n c) none (some (.int .i64 (hi : Int))) none).run Tryz.prog w = .ok (.slice (some ⟨b, o, none⟩) hi c) w := by
 have hu : Tryz.prog.underlying 22 = some (.slice (Tryz.prog.elem 22)) := by kernel_rfl
 have he : Tryz.prog.elem 22 = 3 := by kernel_rfl
 rw [run_sliceAt_slice (P := Tryz.prog) (w := w) (h := hu), run_slice_h (P := Tryz.prog) (w := w) 22 _ n c hu .i64 (hi : Int) (by omega) (by omega), he, Nr.sizeOf_int]
 by_cases e : c = 0
 ·simp [sliced, e, Addr.add]
 ·simp [sliced, e, Addr.add]
theorem cells_pt {w : World} {base g n c : Nat} {l : List Pt4} (h : OwnPt w base (.slice (some ⟨g, 0, none⟩) n c) l) {k : Nat} {x : Pt4} (hx : l[k]? = some x) : w.cell? ⟨g, k * 4, none⟩ = some (.int .i64 x.ad) ∧ w.cell? ⟨g, k * 4 + 1, none⟩ = some (.int .i64 x.n) ∧ w.cell? ⟨g, k * 4 + 2, none⟩ = some (.int .i64 x.bi) ∧ w.cell? ⟨g, k * 4 + 3, none⟩ = some (.string x.sm) := by
 obtain ⟨A, c', e, hr, _⟩ := h.shape (fun _ => rfl)
 injection e with e1 e2 e3
 obtain ⟨b, o, e4, _, h5⟩ := hr k x hx
 rw [← e1] at e4
 injection e4 with e4
 injection e4 with e4 e5
 subst e4 e5
 have h0 := h5 0 _ rfl
 have h1 := h5 1 _ rfl
 have h2 := h5 2 _ rfl
 have h3 := h5 3 _ rfl
 rw [Nat.zero_add] at h0 h1 h2 h3
 exact ⟨h0, h1, h2, h3⟩
theorem index_pt (g n c k : Nat) (h : k < n) (w : World) : (Instr.indexAt 36 (.slice (some ⟨g, 0, none⟩) n c) (.int .i64 (k : Int))).run Tryz.prog w = .ok (.pointer (some ⟨g, k * 4, none⟩)) w := by
 have h1 := Gr.index_gen (k := 4) Tryz.underlying36 (by kernel_rfl) g 0 n c k h w
 rw [Nat.zero_add] at h1
 exact h1
theorem index_y (g o n c i : Nat) (h : i < n) (w : World) : (Instr.indexAt 22 (.slice (some ⟨g, o, none⟩) n c) (.int .i64 (i : Int))).run Tryz.prog w = .ok (.pointer (some ⟨g, o + i, none⟩)) w := by
 have h1 := Gr.index_gen (k := 1) Tryz.underlying22 (by kernel_rfl) g o n c i h w
 rw [Nat.mul_one] at h1
 exact h1
theorem ownPt_shape {w : World} {base : Nat} {v : Value} {l : List Pt4} (h : OwnPt w base v l) (hl : 1 ≤ l.length) : ∃ g c, v = .slice (some ⟨g, 0, none⟩) l.length c := by
 rcases h.2 with ⟨_, e⟩ | ⟨g, cap, cur, e, _⟩
 ·omega
 ·exact ⟨g, cap, e⟩
theorem cut_run {w : World} {base g o n c : Nat} {y : List Nat} (h : OwnY w base g o n c y) (ka : Nat) (hka : ka < n) (hl : y.length ≤ 100000) (ty : TypeId) :
  ∃ v1 w2, (Builtin.append_ #[22, 22] ty #[.slice (some ⟨w.heap.size, 0, none⟩) 0 0, .slice (some ⟨g, o, none⟩) ka c]).run Tryz.prog (w.alloc (.cells #[] 3)) = .ok v1 w2 ∧ Below w.heap.size w w2 ∧ v1.cells = #[v1] ∧ v1.oneCell' = true ∧
   ∀ (ty2 : TypeId) (o2 : Nat), (ka + 1 < c → o2 = o + (ka + 1)) → ∃ v2 w3, (Builtin.append_ #[22, 22] ty2 #[v1, .slice (some ⟨g, o2, none⟩) (n - (ka + 1)) (c - (ka + 1))]).run Tryz.prog w2 = .ok v2 w3 ∧ Nr.OwnN w3 w.heap.size v2 (y.take ka ++ y.drop (ka + 1)) ∧ Below w.heap.size w w3 := by
 obtain ⟨w1, hw1⟩ : ∃ w1, w1 = w.alloc (.cells #[] 3) := ⟨_, rfl⟩
 have hb1 : Below w.heap.size w w1 := by rw [hw1]; exact (Below.refl _ _).alloc (Nat.le_refl _) _
 have hs1 : w1.heap.size = w.heap.size + 1 := by rw [hw1]; simp
 have hk1 : w1.heap[w.heap.size]? = some (.cells #[] 3) := by rw [hw1]; exact heap_alloc_new w _
 have h0 : Nr.OwnN w1 w.heap.size (.slice (some ⟨w.heap.size, 0, none⟩) 0 0) [] := ⟨rfl, .inr ⟨w.heap.size, 0, #[], rfl, Nat.le_refl _, hk1, Nat.le_refl _, by unfold maxLen; omega, rfl, rfl⟩⟩
 rw [← hw1]
 have hy1 := h.keep (hb1.block g h.lt)
 have hn := h.len
 have hlt := h.le
 have hrun := Nr.run_app (m := y.take ka) ty h0 (b := g) (o := o) (n := ka) (c := c) (by rw [List.length_take]; omega) (fun j x hx => by
  rw [List.getElem?_take] at hx
  split at hx
  ·exact hy1.cell hx
  ·cases hx) (by rw [List.length_take]; simp; omega) (by omega)
 obtain ⟨v1, w2, e1, e2, e3, e4⟩ := hrun
 rw [List.nil_append] at e2
 have hb2 : Below w.heap.size w w2 := hb1.trans ⟨e3.os, e3.tape, e3.output, e3.size, fun k hk => e3.block k (by omega) (by simp [Value.ownBlock]; omega)⟩
 have hv1 : v1.cells = #[v1] ∧ v1.oneCell' = true := by
  obtain ⟨A, c', e, _⟩ := e2.shape (fun _ => rfl)
  rw [e]
  exact ⟨rfl, rfl⟩
 refine ⟨v1, w2, e1, hb2, hv1.1, hv1.2, fun ty2 o2 ho2 => ?_⟩
 have hy2 := h.keep (hb2.block g h.lt)
 have hrun := Nr.run_app (m := y.drop (ka + 1)) ty2 e2 (b := g) (o := o2) (n := n - (ka + 1)) (c := c - (ka + 1)) (by rw [List.length_drop]; omega) (fun j x hx => by
  rw [List.getElem?_drop] at hx
  have hj := (List.getElem?_eq_some_iff.1 hx).1
  rw [ho2 (by omega), Nat.add_assoc]
  exact hy2.cell hx) (by rw [List.length_take, List.length_drop]; omega) hb2.size
 obtain ⟨v2, w3, f1, f2, f3, f4⟩ := hrun
 refine ⟨v2, w3, f1, f2, hb2.trans ⟨f3.os, f3.tape, f3.output, f3.size, fun k hk => f3.block k (by have := hb2.size; omega) (fun e => by
  have := (e2.lt e.symm).2
  omega)⟩⟩
theorem exec_buildSlice0 {P : Program} {w w' : World} {o : Oper} {a : Act} {ty : TypeId} {n : Nat} {v : Value} (ho : o.op = .buildSlice ty n #[]) (hl : (Instr.buildSlice ty n #[]).run P w = .ok v w') : (execOp a.eval o).run P w = .ok (.value v) w' := by
 unfold execOp
 simp only [ho, List.map_toArray, List.map_nil, hl, Sem.run_bind, Sem.run_pure, Result.andThen_ok]
end Sto
end Go.Proofs.YtkbndlnmbbbohaaGreatDoor
namespace Go.Proofs.YtkbndlnmbbbohaaGreatDoor
open Go Go.RowKit refRack
set_option maxRecDepth 100000
set_option linter.unusedVariables false
namespace Sto
open Sp Arr Cc
section
variable {B : Nat} {w w' : World} {p a r sp m : Nat} {v : Value} {S : St}
theorem tread_any (w : World) (h : StoV B w p a r sp m 1 v S) (hb : S.c1 ≤ 1000000) :
  Calls Tryz.prog 46 #[.pointer (some ⟨p, 6, none⟩), .bool false] w fun e w' => e = .returned (.tuple #[]) ∧ StoV B w' p a r sp m 1 v { S with c1 := S.c1 + 1 } ∧ KeepM B w w' := by
 have HA := Lib.hid (add_one w p 7 S.c1 hb (h.blk.cell 7) (h.blk.frozen 7))
 have HP := Lib.hid (h.put (i := 7) (u := .int .i64 ((S.c1 + 1 : Nat) : Int)) (lk' := 1) (S' := { S with c1 := S.c1 + 1 }) rfl rfl rfl rfl rfl)
 clear h
 go_enter Tryz.func46, Tryz.ntmps46
 go_wp2_with fail
 refine HA.out.mono ?_
 rintro e w1 ⟨rfl, rfl⟩
 go_wp2_with fail
 first | go_end0 | (simp only [Exit.inBlock, Exit.then]; refine bodyPost_ret (results_none rfl _ _ _) rfl ?_) | refine bodyPost_ret (results_none rfl _ _ _) rfl ?_
 exact ⟨rfl, HP.out.1, HP.out.2⟩
theorem ownG_bytes {w : World} {base gb n c : Nat} {X : Nat → Nat} (h : Gr.OwnG 5 1 csB w base (.slice (some ⟨gb, 0, none⟩) n c) ((List.range n).map X)) (hX : ∀ j, j < n → X j < 256) : Byt w (some ⟨gb, 0, none⟩) ((List.range n).map X) := by
 refine ⟨fun x hx => by
  obtain ⟨j, hj, rfl⟩ := List.mem_map.1 hx
  exact hX j (by simpa using hj), .inr ?_⟩
 obtain ⟨cur, hb⟩ := h.blk_of (g := gb) rfl
 refine ⟨gb, 0, cur, (0, 0), rfl, hb, fun j x hj => ?_⟩
 obtain ⟨A, c', e, hr, _⟩ := h.shape (fun _ => rfl)
 injection e with e1 e2 e3
 subst e1
 obtain ⟨b, o, eb, _, hc⟩ := hr j x hj
 injection eb with eb
 injection eb with eb1 eb2
 subst eb1 eb2
 have h1 := hc 0 _ rfl
 rw [Nat.mul_one, Nat.add_zero, Nat.zero_add, hb.cell] at h1
 rw [Nat.zero_add]
 exact h1
set_option maxHeartbeats 3200000 in
theorem get_read (w : World) (h : StoV B w p a r sp m 0 v S) (hl : Laid w) (hB : 0 < B) (hfew : S.mem.length ≤ 64) (hc1 : S.c1 ≤ 1000000) (hoff : S.s.off = false) (hgone : ∀ d, S.s.gone d = false) (ad n : Nat) (bi : Int) (X : Nat → Nat) (sm : ByteArray) (hsm : sm = sumS n X) (h1 : 1 ≤ n) (hn : n ≤ 1024) (hcl : ad + cost S.s.nd n ≤ Arr.cells S.s S.f) (hX : ∀ j, j < n → X j < 256) (hS : Sound S.s S.f ad n X) (hno : ¬ idx (ad : Int) S.mem < S.mem.length) :
  Calls Tryz.prog 18 #[.pointer (some ⟨p, 0, none⟩), .agg #[.int .i64 (ad : Int), .int .i64 (n : Int), .int .i64 bi, .string sm]] w fun e w' => ∃ gb cb, e = .returned (.tuple #[.slice (some ⟨gb, 0, none⟩) n cb, .int .i64 0]) ∧ Gr.OwnG 5 1 csB w' w.heap.size (.slice (some ⟨gb, 0, none⟩) n cb) ((List.range n).map X) ∧
   (∃ v' x, StoV B w' p a r sp m 0 v' { S with mem := old (Sto.cut (ad : Int) S.mem) ++ [x], c1 := S.c1 + 1 } ∧ x.addr = (ad : Int) ∧ x.sum = sm ∧ x.dat = (List.range n).map X) ∧ KeepT B w w' := by
 obtain ⟨bx, hbx⟩ : ∃ bx, bx = w.heap.size := ⟨_, rfl⟩
 obtain ⟨wa, hwa⟩ : ∃ wa, wa = w.alloc (.cells #[.int .i64 (ad : Int), .int .i64 (n : Int), .int .i64 bi, .string sm] 38) := ⟨_, rfl⟩
 have hba : Below w.heap.size w wa := by rw [hwa]; exact (Below.refl _ _).alloc (Nat.le_refl _) _
 have HA := Lib.hid (h.below hba)
 have XB : Hid (Blk wa bx 38 #[.int .i64 (ad : Int), .int .i64 (n : Int), .int .i64 bi, .string sm]) := Lib.hid (by rw [hwa, hbx]; exact Blk.new _ _ _)
 have KA : Hid (KeepT B w wa) := Lib.hid (KeepT.of_new hba h.le)
 have HE := Lib.hid (enter_any wa HA.out)
 have HWA := Lib.hid hwa
 have HBX := Lib.hid hbx
 have HLW := Lib.hid hl
 have HIN := Lib.hid (⟨hfew, hno, hB, hoff, hgone, hc1, hsm⟩ : _ ∧ _ ∧ _ ∧ _ ∧ _ ∧ _ ∧ _)
 have HRB := Lib.hid (⟨hcl, hX, hS⟩ : _ ∧ _ ∧ _)
 clear h hba hwa hbx hfew hno hB hoff hgone hc1 hsm hl hcl hX hS
 go_enter_defers Tryz.func18, Tryz.ntmps18
 go_wp2_with fail
 rw [← HWA.out, ← HBX.out]
 refine HE.out.mono ?_
 rintro e w1 ⟨rfl, s1, k1⟩
 have S1 := Lib.hid s1
 have K1 := Lib.hid (KA.out.trans (KeepT.mem k1))
 have X1 : Hid (Blk w1 bx 38 #[.int .i64 (ad : Int), .int .i64 (n : Int), .int .i64 bi, .string sm]) := Lib.hid (k1.kept _ _ XB.out rfl)
 clear s1 k1 HE HA XB KA
 go_upto_region 4 with (fail)
 have SD := Lib.hid (S1.out.below (Below.refl w1.heap.size w1).drew)
 have KD := Lib.hid (K1.out.new (Below.refl w1.heap.size w1).drew S1.out.le)
 have HS0 : Hid (Blk w1.drew bx 38 #[.int .i64 (ad : Int), .int .i64 (n : Int), .int .i64 bi, .string sm]) := Lib.hid (show Blk w1 bx _ _ from X1.out)
 have HRE := Lib.hid (recall_no (B := B) w1.drew p _ v S.mem (ad : Int) (n : Int) bi sm SD.out.blk rfl SD.out.row HIN.out.1 HIN.out.2.1)
 clear S1 K1 X1
 refine wp_region_noPanic ?_
 refine region_anyZ (fun W => Blk W bx 38 #[.int .i64 (ad : Int), .int .i64 (n : Int), .int .i64 bi, .string sm]) 10 (by kernel_rfl) ?_
 refine takeG 0 (.move (.tmp 0)) (some 20) none (.pointer (some ⟨p, 0, none⟩)) (by kernel_rfl) (by kernel_rfl) (by kernel_rfl) (fun _ _ _ h => h) (fun o' wq e hS => exec_move wq e (by kernel_rfl)) HS0.out ?_
 refine takeG 1 (.nilCheck (.tmp 20)) (some 21) none (.pointer (some ⟨p, 0, none⟩)) (by kernel_rfl) (by kernel_rfl) (by kernel_rfl) (fun _ _ _ h => h) (fun o' wq e hS => exec_nil wq e (by kernel_rfl)) HS0.out ?_
 refine takeG 2 (.fieldAddr 92 (.tmp 21) 4) (some 22) none (.pointer (some ⟨p, 5, none⟩)) (by kernel_rfl) (by kernel_rfl) (by kernel_rfl) (fun _ _ _ h => h) (fun o' wq e hS => exec_field (u := .pointer (some ⟨p, 0, none⟩)) wq e (by kernel_rfl) (by kernel_rfl)) HS0.out ?_
 refine takeG 3 (.load 38 (.tmp 3)) (some 23) none (.agg #[.int .i64 (ad : Int), .int .i64 (n : Int), .int .i64 bi, .string sm]) (by kernel_rfl) (by kernel_rfl) (by kernel_rfl) (fun _ _ _ h => h) (fun o' wq e hS => exec_load (x := (.tmp 3)) e (by kernel_rfl) (load_blk hS Tryz.underlying38 rfl size_ptr)) HS0.out ?_
 refine loneG 4 (.call ⟨.value (.func 42), #[(.tmp 22), (.tmp 23)], #[84, 38]⟩) (some 24) none (by kernel_rfl) (by kernel_rfl) (by kernel_rfl) ?_
 intro o' ho hod
 refine wp_callC (f := 42) (args := #[.pointer (some ⟨p, 5, none⟩), .agg #[.int .i64 (ad : Int), .int .i64 (n : Int), .int .i64 bi, .string sm]]) (by cases o'; cases ho; kernel_rfl) HRE.out ?_
 rintro ee w2 ⟨rfl, b2⟩
 refine ⟨_, rfl, ?_⟩
 rw [hod]
 clear hod ho
 have B2 := Lib.hid b2
 have HS1 : Hid (Blk w2 bx 38 #[.int .i64 (ad : Int), .int .i64 (n : Int), .int .i64 bi, .string sm]) := Lib.hid (HS0.out.below b2 HS0.out.lt)
 clear b2
 refine ⟨fun _ => HS1.out, ?_⟩
 refine takeG 5 (.move (.tmp 24)) (some 19) none (.tuple #[.slice none 0 0, .bool false]) (by kernel_rfl) (by kernel_rfl) (by kernel_rfl) (fun _ _ _ h => h) (fun o' wq e hS => exec_move wq e (by kernel_rfl)) HS1.out ?_
 refine takeG 6 (.extract (.tmp 19) 0) (some 25) none (.slice none 0 0) (by kernel_rfl) (by kernel_rfl) (by kernel_rfl) (fun _ _ _ h => h) (fun o' wq e hS => exec_ext (vs := #[.slice none 0 0, .bool false]) wq e (by kernel_rfl) (by rfl)) HS1.out ?_
 refine takeG 7 (.extract (.tmp 19) 1) (some 26) none (.bool false) (by kernel_rfl) (by kernel_rfl) (by kernel_rfl) (fun _ _ _ h => h) (fun o' wq e hS => exec_ext (vs := #[.slice none 0 0, .bool false]) wq e (by kernel_rfl) (by rfl)) HS1.out ?_
 refine loneG 8 (.assign (.tmp 25)) (some 6) none (by kernel_rfl) (by kernel_rfl) (by kernel_rfl) ?_
 intro o' ho hod
 refine wp_val (v := .slice none 0 0) (exec_assign _ ho (by kernel_rfl)) ?_
 rw [hod]
 clear hod ho
 refine ⟨fun _ => HS1.out, ?_⟩
 refine lastS 9 (.assign (.tmp 26)) (some 7) (.bool false) (by kernel_rfl) (by kernel_rfl) (by kernel_rfl) HS1.out (fun o' e => exec_assign _ e (by kernel_rfl)) ?_
 refine NoPanic.normal ?_
 simp only [put_some, put_none, List.setIfInBounds_toArray, List.set_cons_succ, List.set_cons_zero]
 have S2 := Lib.hid (SD.out.below B2.out)
 have K2 := Lib.hid (KD.out.new B2.out SD.out.le)
 go_upto_region 8 with (fail)
 have SD2 := Lib.hid (S2.out.below (Below.refl w2.heap.size w2).drew)
 have KD2 := Lib.hid (K2.out.new (Below.refl w2.heap.size w2).drew S2.out.le)
 have HT0 : Hid (w2.drew.cell? ⟨p, 0, none⟩ = some (.pointer (some ⟨a, 0, none⟩)) ∧ Blk w2.drew bx 38 #[.int .i64 (ad : Int), .int .i64 (n : Int), .int .i64 bi, .string sm]) := Lib.hid ⟨SD2.out.blk.cell 0, show Blk w2 bx _ _ from HS1.out⟩
 have HRD : Hid (Calls Tryz.prog 44 #[.pointer (some ⟨a, 0, none⟩), .int .i64 (ad : Int), .int .i64 (n : Int), .string sm] w2.drew fun e w' => ∃ gb c oA oc, e = .returned (.tuple #[.slice (some ⟨gb, 0, none⟩) n c, .slice oA 0 oc, .int .i64 0]) ∧ Gr.OwnG 5 1 csB w' w2.drew.heap.size (.slice (some ⟨gb, 0, none⟩) n c) ((List.range n).map X) ∧ RackAt B w' r S.s ∧ Keep B w2.drew w') := Lib.hid (by
  rw [HIN.out.2.2.2.2.2.2]
  have hg : goneB S.s ad n = [] := goneB_none HIN.out.2.2.2.2.1
  refine (read_sound w2.drew SD2.out.arr (HLW.out.below KD2.out.below HIN.out.2.2.1) HIN.out.2.2.1 HIN.out.2.2.2.1 ad n h1 hn HRB.out.1 X HRB.out.2.1 HRB.out.2.2 (by rw [hg]; exact Nat.zero_le _)).mono ?_
  rintro e w' ⟨⟨gb, c, ov, rfl, ho, hov⟩, hr, hk⟩
  rw [hg] at hov
  have e0 : Sq.srt ([] : List Nat) = [] := by unfold Sq.srt; simp
  rw [e0] at hov
  rcases Nr.own_shape hov with ⟨rfl, _⟩ | ⟨g, c', rfl, _⟩
  ·exact ⟨gb, c, none, 0, rfl, ho, hr, hk⟩
  ·exact ⟨gb, c, _, _, rfl, ho, hr, hk⟩)
 clear S2 K2 SD KD HS0 HS1 HRE B2
 refine wp_region_noPanic ?_
 refine region_anyZ (fun W => W.cell? ⟨p, 0, none⟩ = some (.pointer (some ⟨a, 0, none⟩)) ∧ Blk W bx 38 #[.int .i64 (ad : Int), .int .i64 (n : Int), .int .i64 bi, .string sm]) 18 (by kernel_rfl) ?_
 refine takeG 0 (.move (.tmp 0)) (some 34) none (.pointer (some ⟨p, 0, none⟩)) (by kernel_rfl) (by kernel_rfl) (by kernel_rfl) (fun _ _ _ h => h) (fun o' wq e hS => exec_move wq e (by kernel_rfl)) HT0.out ?_
 refine takeG 1 (.nilCheck (.tmp 34)) (some 35) none (.pointer (some ⟨p, 0, none⟩)) (by kernel_rfl) (by kernel_rfl) (by kernel_rfl) (fun _ _ _ h => h) (fun o' wq e hS => exec_nil wq e (by kernel_rfl)) HT0.out ?_
 refine takeG 2 (.fieldAddr 92 (.tmp 35) 0) (some 36) none (.pointer (some ⟨p, 0, none⟩)) (by kernel_rfl) (by kernel_rfl) (by kernel_rfl) (fun _ _ _ h => h) (fun o' wq e hS => exec_field (u := .pointer (some ⟨p, 0, none⟩)) wq e (by kernel_rfl) (by kernel_rfl)) HT0.out ?_
 refine takeG 3 (.load 29 (.tmp 36)) (some 37) none (.pointer (some ⟨a, 0, none⟩)) (by kernel_rfl) (by kernel_rfl) (by kernel_rfl) (fun _ _ _ h => h) (fun o' wq e hS => exec_load (x := (.tmp 36)) e (by kernel_rfl) (load_one Tryz.underlying29 (by kernel_rfl) hS.1)) HT0.out ?_
 refine takeG 4 (.fieldAddr 38 (.tmp 3) 0) (some 38) none (.pointer (some ⟨bx, 0, none⟩)) (by kernel_rfl) (by kernel_rfl) (by kernel_rfl) (fun _ _ _ h => h) (fun o' wq e hS => exec_field (u := .pointer (some ⟨bx, 0, none⟩)) wq e (by kernel_rfl) (by kernel_rfl)) HT0.out ?_
 refine takeG 5 (.load 3 (.tmp 38)) (some 39) none (.int .i64 (ad : Int)) (by kernel_rfl) (by kernel_rfl) (by kernel_rfl) (fun _ _ _ h => h) (fun o' wq e hS => exec_load (x := (.tmp 38)) e (by kernel_rfl) (load_one Tryz.underlying3 (by kernel_rfl) (hS.2.cell 0))) HT0.out ?_
 refine takeG 6 (.fieldAddr 38 (.tmp 3) 1) (some 40) none (.pointer (some ⟨bx, 1, none⟩)) (by kernel_rfl) (by kernel_rfl) (by kernel_rfl) (fun _ _ _ h => h) (fun o' wq e hS => exec_field (u := .pointer (some ⟨bx, 0, none⟩)) wq e (by kernel_rfl) (by kernel_rfl)) HT0.out ?_
 refine takeG 7 (.load 3 (.tmp 40)) (some 41) none (.int .i64 (n : Int)) (by kernel_rfl) (by kernel_rfl) (by kernel_rfl) (fun _ _ _ h => h) (fun o' wq e hS => exec_load (x := (.tmp 40)) e (by kernel_rfl) (load_one Tryz.underlying3 (by kernel_rfl) (hS.2.cell 1))) HT0.out ?_
 refine takeG 8 (.fieldAddr 38 (.tmp 3) 3) (some 42) none (.pointer (some ⟨bx, 3, none⟩)) (by kernel_rfl) (by kernel_rfl) (by kernel_rfl) (fun _ _ _ h => h) (fun o' wq e hS => exec_field (u := .pointer (some ⟨bx, 0, none⟩)) wq e (by kernel_rfl) (by kernel_rfl)) HT0.out ?_
 refine takeG 9 (.load 9 (.tmp 42)) (some 43) none (.string sm) (by kernel_rfl) (by kernel_rfl) (by kernel_rfl) (fun _ _ _ h => h) (fun o' wq e hS => exec_load (x := (.tmp 42)) e (by kernel_rfl) (load_one Tryz.underlying9 (by kernel_rfl) (hS.2.cell 3))) HT0.out ?_
 refine loneG 10 (.call ⟨.value (.func 44), #[(.tmp 37), (.tmp 39), (.tmp 41), (.tmp 43)], #[29, 3, 3, 9]⟩) (some 44) none (by kernel_rfl) (by kernel_rfl) (by kernel_rfl) ?_
 intro o' ho hod
 refine wp_callC (f := 44) (args := #[.pointer (some ⟨a, 0, none⟩), .int .i64 (ad : Int), .int .i64 (n : Int), .string sm]) (by cases o'; cases ho; kernel_rfl) HRD.out ?_
 rintro ee w3 ⟨gb, cb, oA, oc, rfl, ow, rr, rk⟩
 refine ⟨_, rfl, ?_⟩
 rw [hod]
 clear hod ho
 have HOW := Lib.hid ow
 have HRR := Lib.hid rr
 have HRK := Lib.hid rk
 have HT1 : Hid (w3.cell? ⟨p, 0, none⟩ = some (.pointer (some ⟨a, 0, none⟩)) ∧ Blk w3 bx 38 #[.int .i64 (ad : Int), .int .i64 (n : Int), .int .i64 bi, .string sm]) := Lib.hid ⟨(show Blk w3 p 92 _ from rk.kept _ _ SD2.out.blk rfl).cell 0, rk.kept _ _ HT0.out.2 rfl⟩
 clear ow rr rk
 refine ⟨fun _ => HT1.out, ?_⟩
 refine takeG 11 (.move (.tmp 44)) (some 33) none (.tuple #[.slice (some ⟨gb, 0, none⟩) n cb, .slice oA 0 oc, .int .i64 0]) (by kernel_rfl) (by kernel_rfl) (by kernel_rfl) (fun _ _ _ h => h) (fun o' wq e hS => exec_move wq e (by kernel_rfl)) HT1.out ?_
 refine takeG 12 (.extract (.tmp 33) 0) (some 45) none (.slice (some ⟨gb, 0, none⟩) n cb) (by kernel_rfl) (by kernel_rfl) (by kernel_rfl) (fun _ _ _ h => h) (fun o' wq e hS => exec_ext (vs := #[.slice (some ⟨gb, 0, none⟩) n cb, .slice oA 0 oc, .int .i64 0]) wq e (by kernel_rfl) (by rfl)) HT1.out ?_
 refine takeG 13 (.extract (.tmp 33) 1) (some 46) none (.slice oA 0 oc) (by kernel_rfl) (by kernel_rfl) (by kernel_rfl) (fun _ _ _ h => h) (fun o' wq e hS => exec_ext (vs := #[.slice (some ⟨gb, 0, none⟩) n cb, .slice oA 0 oc, .int .i64 0]) wq e (by kernel_rfl) (by rfl)) HT1.out ?_
 refine takeG 14 (.extract (.tmp 33) 2) (some 47) none (.int .i64 0) (by kernel_rfl) (by kernel_rfl) (by kernel_rfl) (fun _ _ _ h => h) (fun o' wq e hS => exec_ext (vs := #[.slice (some ⟨gb, 0, none⟩) n cb, .slice oA 0 oc, .int .i64 0]) wq e (by kernel_rfl) (by rfl)) HT1.out ?_
 refine loneG 15 (.assign (.tmp 45)) (some 8) none (by kernel_rfl) (by kernel_rfl) (by kernel_rfl) ?_
 intro o' ho hod
 refine wp_val (v := .slice (some ⟨gb, 0, none⟩) n cb) (exec_assign _ ho (by kernel_rfl)) ?_
 rw [hod]
 clear hod ho
 refine ⟨fun _ => HT1.out, ?_⟩
 refine loneG 16 (.assign (.tmp 46)) (some 9) none (by kernel_rfl) (by kernel_rfl) (by kernel_rfl) ?_
 intro o' ho hod
 refine wp_val (v := .slice oA 0 oc) (exec_assign _ ho (by kernel_rfl)) ?_
 rw [hod]
 clear hod ho
 refine ⟨fun _ => HT1.out, ?_⟩
 refine lastS 17 (.assign (.tmp 47)) (some 10) (.int .i64 0) (by kernel_rfl) (by kernel_rfl) (by kernel_rfl) HT1.out (fun o' e => exec_assign _ e (by kernel_rfl)) ?_
 refine NoPanic.normal ?_
 simp only [put_some, put_none, List.setIfInBounds_toArray, List.set_cons_succ, List.set_cons_zero]
 have S3 := Lib.hid (SD2.out.rack HRR.out HRK.out rfl rfl)
 have K3 := Lib.hid (KD2.out.trans (KeepT.rack HRK.out))
 have HOB : Hid (w.heap.size ≤ w2.drew.heap.size) := Lib.hid KD2.out.below.size
 clear SD2 KD2 HT0 HRD HRR HRK
 go_upto_region 15 with (fail)
 have S4 := Lib.hid (S3.out.below (Below.refl w3.heap.size w3).drew)
 have K4 := Lib.hid (K3.out.new (Below.refl w3.heap.size w3).drew S3.out.le)
 have HU0 : Hid (Blk w3.drew bx 38 #[.int .i64 (ad : Int), .int .i64 (n : Int), .int .i64 bi, .string sm]) := Lib.hid (show Blk w3 bx _ _ from HT1.out.2)
 have D4 : Hid (Byt w3.drew (some ⟨gb, 0, none⟩) ((List.range n).map X)) := Lib.hid ((ownG_bytes HOW.out HRB.out.2.1).keep fun k cur fr hk => hk)
 have HLN : Hid (n = ((List.range n).map X).length) := Lib.hid (by simp)
 have HRM := Lib.hid (remember_any w3.drew p _ v S.mem (ad : Int) (n : Int) bi sm gb 0 n cb ((List.range n).map X) S4.out.blk rfl S4.out.row HIN.out.1 S4.out.lo (by rw [HIN.out.2.2.2.2.2.2]; exact Nat.le_trans (Nat.le_of_eq (strB_size _ _)) (by omega)) D4.out HLN.out (by rw [← HLN.out]; omega) (by rw [← HLN.out]; omega))
 clear S3 K3
 refine wp_region_noPanic ?_
 refine region_anyZ (fun W => Blk W bx 38 #[.int .i64 (ad : Int), .int .i64 (n : Int), .int .i64 bi, .string sm]) 5 (by kernel_rfl) ?_
 refine takeE 0 (.move (.tmp 0)) (some 71) none (.pointer (some ⟨p, 0, none⟩)) (by kernel_rfl) (by kernel_rfl) (by kernel_rfl) (fun _ _ _ h => h) (fun o' wq e hS => exec_move wq e (by kernel_rfl)) HU0.out ?_
 refine takeE 1 (.nilCheck (.tmp 71)) (some 72) none (.pointer (some ⟨p, 0, none⟩)) (by kernel_rfl) (by kernel_rfl) (by kernel_rfl) (fun _ _ _ h => h) (fun o' wq e hS => exec_nil wq e (by kernel_rfl)) HU0.out ?_
 refine takeE 2 (.fieldAddr 92 (.tmp 72) 4) (some 73) none (.pointer (some ⟨p, 5, none⟩)) (by kernel_rfl) (by kernel_rfl) (by kernel_rfl) (fun _ _ _ h => h) (fun o' wq e hS => exec_field (u := .pointer (some ⟨p, 0, none⟩)) wq e (by kernel_rfl) (by kernel_rfl)) HU0.out ?_
 refine takeE 3 (.load 38 (.tmp 3)) (some 74) none (.agg #[.int .i64 (ad : Int), .int .i64 (n : Int), .int .i64 bi, .string sm]) (by kernel_rfl) (by kernel_rfl) (by kernel_rfl) (fun _ _ _ h => h) (fun o' wq e hS => exec_load (x := (.tmp 3)) e (by kernel_rfl) (load_blk hS Tryz.underlying38 rfl size_ptr)) HU0.out ?_
 refine takeE 4 (.move (.tmp 8)) (some 75) none (.slice (some ⟨gb, 0, none⟩) n cb) (by kernel_rfl) (by kernel_rfl) (by kernel_rfl) (fun _ _ _ h => h) (fun o' wq e hS => exec_move wq e (by kernel_rfl)) HU0.out ?_
 refine lastOp 5 (.call ⟨.value (.func 33), #[(.tmp 73), (.tmp 74), (.tmp 75)], #[84, 38, 41]⟩) (some 76) (by kernel_rfl) (by kernel_rfl) (by kernel_rfl) rfl ?_
 intro o' ho hod
 refine wp_callC (f := 33) (args := #[.pointer (some ⟨p, 5, none⟩), .agg #[.int .i64 (ad : Int), .int .i64 (n : Int), .int .i64 bi, .string sm], .slice (some ⟨gb, 0, none⟩) n cb]) (by cases o'; cases ho; kernel_rfl) HRM.out ?_
 rintro ee w5 ⟨rfl, x, hx1, hx2, hx3, hm⟩
 refine ⟨_, rfl, ?_⟩
 rw [hod]
 clear hod ho
 refine NoPanic.normal ?_
 simp only [put_some, put_none, List.setIfInBounds_toArray, List.set_cons_succ, List.set_cons_zero]
 obtain ⟨v5, s5, k5⟩ := S4.out.memo hm
 have K5 := Lib.hid (K4.out.trans (KeepT.mem k5))
 have HXX := Lib.hid (⟨hx1, hx2, hx3⟩ : _ ∧ _ ∧ _)
 have HTR := Lib.hid (tread_any w5 s5 HIN.out.2.2.2.2.2.1)
 have O5 : Hid (Gr.OwnG 5 1 csB w5 w2.drew.heap.size (.slice (some ⟨gb, 0, none⟩) n cb) ((List.range n).map X)) := Lib.hid (HOW.out.keep fun g hg => by
  obtain ⟨cur, hb⟩ := HOW.out.blk_of hg
  exact (k5.kept _ _ (show w3.drew.heap[g]? = _ from hb) rfl).trans hb.symm)
 clear hx1 hx2 hx3 hm s5 k5 S4 K4 HRM HU0 D4 HOW
 go_wp2_with fail
 refine HTR.out.mono ?_
 rintro e w6 ⟨rfl, s6, k6⟩
 have S6 := Lib.hid s6
 have K6 := Lib.hid (K5.out.trans (KeepT.mem k6))
 have O6 : Hid (Gr.OwnG 5 1 csB w6 w2.drew.heap.size (.slice (some ⟨gb, 0, none⟩) n cb) ((List.range n).map X)) := Lib.hid (O5.out.keep fun g hg => by
  obtain ⟨cur, hb⟩ := O5.out.blk_of hg
  exact (k6.kept _ _ hb rfl).trans hb.symm)
 have HU := Lib.hid (fun u => unlock_deferred ⟨p, 1, none⟩ u w6 (S6.out.blk.cell 1) (S6.out.blk.frozen 1))
 have HP := Lib.hid (s6.put (i := 1) (u := .int .i32 0) (lk' := 0) (S' := { S with mem := old (Sto.cut (ad : Int) S.mem) ++ [x], c1 := S.c1 + 1 }) rfl rfl rfl rfl rfl)
 clear s6 k6 HTR K5 O5
 go_wp2_with fail
 refine leaves_cons (f := 28) (args := #[.pointer (some ⟨p, 1, none⟩)]) (by simp) (by simp [go_sem]) ?_
 refine (HU.out _).mono ?_
 rintro e u' w7 ⟨rfl, rfl, rfl⟩
 have O7 : Gr.OwnG 5 1 csB (w6.setCell ⟨p, 1, none⟩ (.int .i32 0)) w.heap.size (.slice (some ⟨gb, 0, none⟩) n cb) ((List.range n).map X) := by
  have h := O6.out.keep (w' := w6.setCell ⟨p, 1, none⟩ (.int .i32 0)) fun g hg => by
   obtain ⟨cur, hb⟩ := O6.out.blk_of hg
   exact (HP.out.2.kept _ _ hb rfl).trans hb.symm
  refine ⟨h.1, ?_⟩
  rcases h.2 with e | ⟨g, cap, cur, h1, h2, h3⟩
  ·exact .inl e
  ·exact .inr ⟨g, cap, cur, h1, Nat.le_trans HOB.out h2, h3⟩
 simp [Leaves, settle, results, Tryz.results18, -List.getD_eq_getElem?_getD]
 refine ⟨gb, cb, ⟨rfl, rfl⟩, ?_⟩
 exact ⟨O7, ⟨v5, x, HP.out.1, HXX.out.1, HXX.out.2.1, HXX.out.2.2⟩, K6.out.trans (KeepT.mem HP.out.2)⟩
end
end Sto
end Go.Proofs.YtkbndlnmbbbohaaGreatDoor
