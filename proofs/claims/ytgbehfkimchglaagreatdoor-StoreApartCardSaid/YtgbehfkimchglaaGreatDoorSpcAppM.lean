/-
 Rows of ranges: the call's own, as lists; 'copy', 'clear', 'append' at elements of two cells. No conditions beyond those that each theorem types.
-/
import Derived.Test.YtgbehfkimchglaaGreatDoorSpcMath
import Derived.Test.YtgbehfkimchglaaGreatDoorRackMapM
import Derived.Laws.IdiomCopy
import Derived.Deep.AppendSrc
import Derived.Lib.AppendZerosOnto
import Derived.Lib.Overlaps
namespace Go.Proofs.YtgbehfkimchglaaGreatDoor
open Go Go.RowKit
set_option maxRecDepth 100000
set_option linter.unusedVariables false
namespace Sp
theorem infoR : (Tryz.prog.info? 61).map (fun i => (i.zero, i.size, i.bytes)) = some (some (.agg #[.int .i64 0, .int .i64 0]), 2, 16) := by kernel_rfl
theorem sizeR (w : World) : (sizeOf 61).run Tryz.prog w = .ok 2 w := by
 obtain ⟨i0, hi, hz0, hz1, hz2⟩ := info_parts infoR
 simp [sizeOf, typeInfo, hi, hz1]
theorem zeroR (w : World) : (zeroValue 61).run Tryz.prog w = .ok (.agg #[.int .i64 0, .int .i64 0]) w := by
 obtain ⟨i0, hi, hz0, hz1, hz2⟩ := info_parts infoR
 simp [zeroValue, typeInfo, hi, hz0]
def rcells : List Rg → List Value
 | [] => []
 | r :: l => .int .i64 (r.1 : Int) :: .int .i64 (r.2 : Int) :: rcells l
theorem rcells_length : ∀ l, (rcells l).length = l.length * 2
 | [] => rfl
 | r :: l => by
  show (rcells l).length + 1 + 1 = (l.length + 1) * 2
  rw [rcells_length l]
  omega
theorem rcells_append : ∀ l m, rcells (l ++ m) = rcells l ++ rcells m
 | [], m => rfl
 | r :: l, m => by
  show _ :: _ :: rcells (l ++ m) = _ :: _ :: (rcells l ++ rcells m)
  rw [rcells_append l m]
theorem rcells_take : ∀ (l : List Rg) (i : Nat), rcells (l.take i) = (rcells l).take (i * 2)
 | [], i => by simp [rcells]
 | r :: l, 0 => rfl
 | r :: l, i + 1 => by
  rw [show (i + 1) * 2 = i * 2 + 1 + 1 by omega]
  show _ :: _ :: rcells (l.take i) = _ :: _ :: (rcells l).take (i * 2)
  rw [rcells_take l i]
theorem rcells_drop : ∀ (l : List Rg) (i : Nat), rcells (l.drop i) = (rcells l).drop (i * 2)
 | [], i => by simp [rcells]
 | r :: l, 0 => rfl
 | r :: l, i + 1 => by
  rw [show (i + 1) * 2 = i * 2 + 1 + 1 by omega]
  show rcells (l.drop i) = (rcells l).drop (i * 2)
  exact rcells_drop l i
theorem rcells_get : ∀ {l : List Rg} {i : Nat} {r : Rg}, l[i]? = some r → (rcells l)[i * 2]? = some (.int .i64 (r.1 : Int)) ∧ (rcells l)[i * 2 + 1]? = some (.int .i64 (r.2 : Int))
 | q :: l, 0, r, h => by
  injection h with h
  subst h
  exact ⟨rfl, rfl⟩
 | q :: l, i + 1, r, h => by
  obtain ⟨h1, h2⟩ := rcells_get (l := l) (i := i) h
  rw [show (i + 1) * 2 = i * 2 + 1 + 1 by omega]
  exact ⟨h1, h2⟩
theorem rcells_one : ∀ (l : List Rg), ∀ v ∈ rcells l, v.oneCell' = true
 | [], v, h => by cases h
 | r :: l, v, h => by
  rcases List.mem_cons.1 h with rfl | h
  ·rfl
  ·rcases List.mem_cons.1 h with rfl | h
   ·rfl
   ·exact rcells_one l v h
def setAll (cs : Array Value) : Nat → List Value → Array Value
 | _, [] => cs
 | o, v :: r => setAll (cs.setIfInBounds o v) (o + 1) r
theorem setAll_size : ∀ (vs : List Value) (cs : Array Value) (o : Nat), (setAll cs o vs).size = cs.size
 | [], _, _ => rfl
 | v :: r, cs, o => by
  unfold setAll
  rw [setAll_size r, Array.size_setIfInBounds]
theorem setAll_get : ∀ (vs : List Value) (cs : Array Value) (o p : Nat), p < cs.size → (setAll cs o vs)[p]? = if o ≤ p ∧ p < o + vs.length then vs[p - o]? else cs[p]?
 | [], cs, o, p, h => by
  rw [if_neg (fun x => by have h1 := x.1; have h2 : p < o + 0 := x.2; omega)]
  rfl
 | v :: r, cs, o, p, h => by
  unfold setAll
  rw [setAll_get r _ _ _ (by rw [Array.size_setIfInBounds]; exact h)]
  by_cases h1 : o + 1 ≤ p ∧ p < o + 1 + r.length
  ·rw [if_pos h1, if_pos (by simp; omega), show p - o = (p - (o + 1)) + 1 by omega, List.getElem?_cons_succ]
  ·rw [if_neg h1]
   by_cases h2 : p = o
   ·subst h2
    rw [if_pos ⟨Nat.le_refl _, by simp⟩, Nat.sub_self, Array.getElem?_setIfInBounds_self_of_lt h]
    rfl
   ·rw [if_neg (by simp; omega), Array.getElem?_setIfInBounds_ne (by omega)]
theorem Blk_setCells {g : Nat} {t : TypeId} : ∀ (vs : List Value) (o : Nat) {w : World} {cs : Array Value}, Blk w g t cs → Blk (w.setCells g o vs) g t (setAll cs o vs)
 | [], _, _, _, h => h
 | v :: r, o, _, _, h => Blk_setCells r (o + 1) (h.set_ o v)
theorem grown_set (w : World) (g i : Nat) (u : Value) : w.grownBy (w.setCell ⟨g, i, none⟩ u) (some g) :=
 ⟨rfl, rfl, rfl, by simp [World.setCell], fun k hk hne => Below.heap_setCell w ⟨g, i, none⟩ u k (fun e => hne (by rw [e]))⟩
theorem grown_setCells (g : Nat) : ∀ (vs : List Value) (o : Nat) (w : World), w.grownBy (w.setCells g o vs) (some g)
 | [], _, w => World.grownBy.refl w _
 | v :: r, o, w => by
  have h1 := grown_set w g o v
  have h2 := grown_setCells g r (o + 1) (w.setCell ⟨g, o, none⟩ v)
  exact ⟨h2.os.trans h1.os, h2.tape.trans h1.tape, h2.output.trans h1.output, Nat.le_trans h1.size h2.size, fun i hi hne => (h2.block i (Nat.lt_of_lt_of_le hi h1.size) hne).trans (h1.block i hi hne)⟩
theorem grown_tr {a b c : World} {g : Nat} (h : a.grownBy b (some g)) (k : b.grownBy c (some g)) : a.grownBy c (some g) :=
 ⟨k.os.trans h.os, k.tape.trans h.tape, k.output.trans h.output, Nat.le_trans h.size k.size, fun i hi hne => (k.block i (Nat.lt_of_lt_of_le hi h.size) hne).trans (h.block i hi hne)⟩
/-! ### what the builtins do -/
theorem run_copy2 (w : World) (ty : TypeId) (b o dLen dCap : Nat) (a : Addr) (sLen sCap : Nat) (cs : List Value) (hn : cs.length = Nat.min sLen dLen * 2)
  (hsrc : ∀ j v, cs[j]? = some v → w.cell? (a.add j) = some v) (hc : ∀ j, j < cs.length → (w.cell? ⟨b, o + j, none⟩).isSome = true) (hf : ∀ j, j < cs.length → w.frozen? ⟨b, o + j, none⟩ = false) (h1 : ∀ v ∈ cs, v.oneCell' = true) :
  (Builtin.copy_ #[49, 49] ty #[.slice (some ⟨b, o, none⟩) dLen dCap, .slice (some a) sLen sCap]).run Tryz.prog w = .ok (goInt (Nat.min sLen dLen)) (w.setCells b o cs) := by
 have hl := run_loadCells_list (P := Tryz.prog) w a cs hsrc
 have hst := run_storeCells_cells (P := Tryz.prog) b o cs 0 w (by simpa using hc) (by simpa using hf) h1
 have hz := sizeR w
 rw [hn] at hl
 simp only [Nat.add_zero] at hst
 simp [Builtin.copy_, run_underlying Tryz.underlying49, Builtin.lenOf, Builtin.firstCells, hz, hl, hst]
theorem run_copy2_none (w : World) (ty : TypeId) (d : Option Addr) (dLen dCap : Nat) : (Builtin.copy_ #[49, 49] ty #[.slice d dLen dCap, .slice none 0 0]).run Tryz.prog w = .ok (goInt 0) w := by
 have hz := sizeR w
 cases d <;> simp [Builtin.copy_, run_underlying Tryz.underlying49, Builtin.lenOf, Builtin.firstCells, hz, storeCells]
theorem zcells (n : Nat) : (Builtin.zeroCells (Value.agg #[.int .i64 0, .int .i64 0]).cells n).toList = List.replicate (n * 2) (.int .i64 0) := by
 simp only [Value.cells, Builtin.zeroCells]
 apply List.ext_getElem
 ·simp
 ·intro i h1 h2
  simp at h1
  simp only [Array.getElem_toList, Array.getElem_ofFn, List.getElem_replicate]
  have : i % 2 = 0 ∨ i % 2 = 1 := by omega
  rcases this with e | e <;> simp [e]
theorem run_clear2 (w : World) (ty : TypeId) (b o n c : Nat) (hc : ∀ j, j < n * 2 → (w.cell? ⟨b, o + j, none⟩).isSome = true) (hf : ∀ j, j < n * 2 → w.frozen? ⟨b, o + j, none⟩ = false) :
  (Builtin.clear_ #[49] ty #[.slice (some ⟨b, o, none⟩) n c]).run Tryz.prog w = .ok (.tuple #[]) (w.setCells b o (List.replicate (n * 2) (.int .i64 0))) := by
 have hst := run_storeCells_cells (P := Tryz.prog) b o (List.replicate (n * 2) (Value.int .i64 0)) 0 w (by simpa using hc) (by simpa using hf) (by intro v hv'; rw [List.eq_of_mem_replicate hv']; rfl)
 have hz := zeroR w
 have hzc := zcells n
 simp only [Nat.add_zero] at hst
 cases n with
 | zero => simp [Builtin.clear_, run_underlying Tryz.underlying49, World.setCells]
 | succ m => simp [Builtin.clear_, run_underlying Tryz.underlying49, hz, hzc, hst]
/-! ### rows -/
def Own (w : World) (base : Nat) (v : Value) (l : List Rg) : Prop :=
 (v = .slice none 0 0 ∧ l = []) ∨ ∃ g cap cur, v = .slice (some ⟨g, 0, none⟩) l.length cap ∧ base ≤ g ∧ Blk w g 61 cur ∧ l.length ≤ cap ∧ cap ≤ maxLen ∧ cur.size = cap * 2 ∧ ∀ j, j < l.length * 2 → cur[j]? = (rcells l)[j]?
def Rd (w : World) (A : Option Addr) (l : List Rg) : Prop := l = [] ∨ ∃ b o, A = some ⟨b, o, none⟩ ∧ b < w.heap.size ∧ ∀ j v, (rcells l)[j]? = some v → w.cell? ⟨b, o + j, none⟩ = some v
section
variable {w w' : World} {base : Nat} {v : Value} {l : List Rg}
theorem Own.nil (w : World) (base : Nat) : Own w base (.slice none 0 0) [] := .inl ⟨rfl, rfl⟩
theorem Own.keep (h : Own w base v l) (hk : ∀ g, v.ownBlock = some g → w'.heap[g]? = w.heap[g]?) : Own w' base v l := by
 rcases h with h | ⟨g, cap, cur, rfl, hg, hb, h3⟩
 ·exact .inl h
 ·exact .inr ⟨g, cap, cur, rfl, hg, (hk g rfl).trans hb, h3⟩
theorem Own.lt (h : Own w base v l) {g : Nat} (hg : v.ownBlock = some g) : g < w.heap.size ∧ base ≤ g := by
 rcases h with ⟨rfl, _⟩ | ⟨g', cap, cur, rfl, hb, hblk, _⟩
 ·simp [Value.ownBlock] at hg
 ·simp [Value.ownBlock] at hg
  subst hg
  exact ⟨hblk.lt, hb⟩
theorem Own.below {B : Nat} (h : Own w base v l) (hk : Below B w w') (hB : w.heap.size ≤ B) : Own w' base v l := h.keep fun g hg => hk.block g (by have := (h.lt hg).1; omega)
theorem Own.grown {row : Option Nat} (h : Own w base v l) (hk : w.grownBy w' row) (hne : ∀ g, v.ownBlock = some g → some g ≠ row) : Own w' base v l := h.keep fun g hg => hk.block g (h.lt hg).1 (hne g hg)
theorem Own.base_ {base' : Nat} (h : Own w base v l) (hb : base' ≤ base) : Own w base' v l := by
 rcases h with h | ⟨g, cap, cur, rfl, hg, h3⟩
 ·exact .inl h
 ·exact .inr ⟨g, cap, cur, rfl, Nat.le_trans hb hg, h3⟩
theorem Own.shape (h : Own w base v l) : ∃ A c, v = .slice A l.length c ∧ Rd w A l ∧ l.length ≤ c ∧ c ≤ maxLen ∧ (A = none → c = 0) := by
 rcases h with ⟨rfl, rfl⟩ | ⟨g, cap, cur, rfl, hg, hb, h1, h2, h3, h4⟩
 ·exact ⟨none, 0, rfl, .inl rfl, Nat.le_refl _, by unfold maxLen; omega, fun _ => rfl⟩
 ·exact ⟨_, _, rfl, .inr ⟨g, 0, rfl, hb.lt, fun j u hj => by
   have hlt : j < l.length * 2 := by have := (List.getElem?_eq_some_iff.1 hj).1; rw [rcells_length] at this; exact this
   rw [Nat.zero_add, hb.cell, h4 j hlt]
   exact hj⟩, h1, h2, fun e => by cases e⟩
theorem Own.take {g n c : Nat} (h : Own w base (.slice (some ⟨g, 0, none⟩) n c) l) {i : Nat} (hi : i ≤ l.length) : Own w base (.slice (some ⟨g, 0, none⟩) i c) (l.take i) := by
 rcases h with ⟨e, _⟩ | ⟨g', cap, cur, e, hg, hb, h1, h2, h3, h4⟩
 ·cases e
 ·injection e with e1 e2 e3
  injection e1 with e1
  injection e1 with e1 _ _
  subst e1 e2 e3
  have hl : (l.take i).length = i := by rw [List.length_take]; omega
  refine .inr ⟨g, c, cur, by rw [hl], hg, hb, by omega, h2, h3, fun j hj => ?_⟩
  rw [hl] at hj
  rw [h4 j (by omega), rcells_take, List.getElem?_take_of_lt hj]
theorem Own.set {g n c : Nat} {m : List Rg} {vs : List Value} {o k : Nat} (h : Own w base (.slice (some ⟨g, 0, none⟩) n c) l) (hk : k = m.length) (hm : m.length ≤ c)
  (he : ∀ cur : Array Value, cur.size = c * 2 → (∀ j, j < l.length * 2 → cur[j]? = (rcells l)[j]?) → ∀ j, j < m.length * 2 → (if o ≤ j ∧ j < o + vs.length then vs[j - o]? else cur[j]?) = (rcells m)[j]?) :
  Own (w.setCells g o vs) base (.slice (some ⟨g, 0, none⟩) k c) m := by
 rcases h with ⟨e, _⟩ | ⟨g', cap, cur, e, hg, hb, h1, h2, h3, h4⟩
 ·cases e
 ·injection e with e1 e2 e3
  injection e1 with e1
  injection e1 with e1 _ _
  subst e1 e2 e3 hk
  refine .inr ⟨g, c, setAll cur o vs, rfl, hg, Blk_setCells vs o hb, hm, h2, by rw [setAll_size]; exact h3, fun j hj => ?_⟩
  rw [setAll_get vs cur o j (by omega)]
  exact he cur h3 h4 j hj
theorem Own.room {g n c : Nat} (h : Own w base (.slice (some ⟨g, 0, none⟩) n c) l) : (∀ j, j < c * 2 → (w.cell? ⟨g, j, none⟩).isSome = true) ∧ (∀ j, w.frozen? ⟨g, j, none⟩ = false) ∧ g < w.heap.size ∧ base ≤ g ∧ n = l.length ∧ n ≤ c ∧ c ≤ maxLen ∧ (∀ j v, (rcells l)[j]? = some v → w.cell? ⟨g, j, none⟩ = some v) ∧ ∃ k, w.shape? g = some (61, k) ∧ k = c * 2 := by
 rcases h with ⟨e, _⟩ | ⟨g', cap, cur, e, hg, hb, h1, h2, h3, h4⟩
 ·cases e
 ·injection e with e1 e2 e3
  injection e1 with e1
  injection e1 with e1 _ _
  subst e1 e2 e3
  refine ⟨fun j hj => by rw [hb.cell, Array.getElem?_eq_getElem (by omega)]; rfl, fun j => hb.frozen j, hb.lt, hg, rfl, h1, h2, fun j u hj => ?_, ?_⟩
  ·have hlt : j < l.length * 2 := by have := (List.getElem?_eq_some_iff.1 hj).1; rw [rcells_length] at this; exact this
   rw [hb.cell, h4 j hlt]
   exact hj
  ·refine ⟨cur.size, ?_, h3⟩
   unfold Blk at hb
   simp [World.shape?, hb]
end
end Sp
end Go.Proofs.YtgbehfkimchglaaGreatDoor
namespace Go.Proofs.YtgbehfkimchglaaGreatDoor
open Go Go.RowKit
set_option maxRecDepth 100000
set_option linter.unusedVariables false
namespace Sp
def Sr (w : World) (x : Value) (m : List Rg) : Prop := Src Tryz.prog 2 49 x m.length (rcells m) w
theorem Sr.nil (w : World) : Sr w (.slice none 0 0) [] := Src.ofNil w Tryz.underlying49 0
theorem Sr.of {w : World} {b o c : Nat} {m : List Rg} (h : ∀ j v, (rcells m)[j]? = some v → w.cell? ⟨b, o + j, none⟩ = some v) : Sr w (.slice (some ⟨b, o, none⟩) m.length c) m :=
 Src.ofSlice w Tryz.underlying49 ⟨b, o, none⟩ m.length c (rcells m) (rcells_length m) (fun j u hj => by rw [add_plain]; exact h j u hj) (rcells_one m)
theorem own_new {W : World} {l : List Rg} {k : Nat} {xs : Array Value} (hx : xs = (rcells l).toArray) (hm : l.length + k ≤ maxLen) :
  Own (W.alloc (.cells (xs ++ Builtin.zeroCells (Value.agg #[.int .i64 0, .int .i64 0]).cells k) 61)) W.heap.size (.slice (some ⟨W.heap.size, 0, none⟩) l.length (l.length + k)) l := by
 subst hx
 refine .inr ⟨W.heap.size, l.length + k, _, rfl, Nat.le_refl _, Blk.new W _ _, Nat.le_add_right _ _, hm, ?_, fun j hj => ?_⟩
 ·have hz1 : (Value.agg #[.int .i64 0, .int .i64 0]).cells.size = 2 := rfl
  simp only [Array.size_append, List.size_toArray, size_zeroCells, hz1, rcells_length]
  omega
 ·rw [Array.getElem?_append_left (by simp [rcells_length]; omega)]
  simp
theorem own_cat {n m : Nat} {l k : List Rg} {g c : Nat} {w : World} {base : Nat} (h : Own w base (.slice (some ⟨g, 0, none⟩) n c) l) (hm : l.length + k.length ≤ c) :
  Own (w.setCells g (l.length * 2) (rcells k)) base (.slice (some ⟨g, 0, none⟩) (l.length + k.length) c) (l ++ k) := by
 refine h.set (by rw [List.length_append]) (by rw [List.length_append]; exact hm) fun cur hs he j hj => ?_
 rw [List.length_append] at hj
 rw [rcells_append, rcells_length]
 by_cases h1 : j < l.length * 2
 ·rw [if_neg (by omega), he j h1, List.getElem?_append_left (by rw [rcells_length]; exact h1)]
 ·rw [if_pos ⟨by omega, by omega⟩, List.getElem?_append_right (by rw [rcells_length]; omega), rcells_length]
theorem run_append_rg {w : World} {base : Nat} {v x : Value} {l m : List Rg} (ty : TypeId) (h : Own w base v l) (hs : Sr w x m) (hl : l.length + m.length ≤ 1000000) (hb : base ≤ w.heap.size) :
  ∃ v' w', (Builtin.append_ #[49, 49] ty #[v, x]).run Tryz.prog w = .ok v' w' ∧ Own w' base v' (l ++ m) ∧ w.grownBy w' v.ownBlock ∧ (v'.ownBlock = v.ownBlock ∨ v'.ownBlock = some w.heap.size) := by
 obtain ⟨i0, hi, hz0, hz1, hz2⟩ := info_parts infoR
 have hgrow : ∀ (A : Option Addr) (n c : Nat), n = l.length → c ≤ maxLen → (Builtin.firstCells i0.size n (.slice A n c)).run Tryz.prog w.drew = .ok (rcells l).toArray w.drew → c < n + m.length →
   ∃ v' w', (Builtin.append_ #[49, 49] ty #[.slice A n c, x]).run Tryz.prog w = .ok v' w' ∧ Own w' base v' (l ++ m) ∧ w.grownBy w' (Value.slice A n c).ownBlock ∧ (v'.ownBlock = (Value.slice A n c).ownBlock ∨ v'.ownBlock = some w.heap.size) := fun A n c hn hcm hold hlt => by
  have hr := run_append_grow_src (P := Tryz.prog) w 49 49 ty 61 i0 _ Tryz.underlying49 hi hz0 A n c (rcells l) hold x m.length (rcells m) (by rw [hz1]; exact hs) hlt (by omega) (by rw [hz2]; exact growslice_fits hlt (by omega))
  have hge := grownCap_ge w (n + m.length) c 61
  have hle : grownCap w (n + m.length) c 61 ≤ maxLen := grownCap_le_maxLen w (n + m.length) c 61 (by unfold maxLen; omega)
  obtain ⟨k, hk⟩ : ∃ k, grownCap w (n + m.length) c 61 = n + m.length + k := ⟨_, (Nat.add_sub_cancel' hge).symm⟩
  rw [hk, show n + m.length + k - (n + m.length) = k by omega] at hr
  have hlen : (l ++ m).length = n + m.length := by rw [List.length_append, hn]
  have ho := own_new (W := w.drew) (l := l ++ m) (k := k) (xs := (rcells l ++ rcells m).toArray) (by rw [rcells_append]) (by rw [hlen]; omega)
  rw [hlen] at ho
  exact ⟨_, _, hr, ho.base_ hb, ⟨rfl, rfl, rfl, by simp, fun k hk _ => Below.heap_alloc w.drew _ k hk⟩, .inr rfl⟩
 rcases h with ⟨rfl, rfl⟩ | ⟨g, cap, cur, rfl, hg, hblk, h1, h2, h3, h4⟩
 ·by_cases hm : m = []
  ·subst hm
   refine ⟨.slice none 0 0, w, ?_, .inl ⟨rfl, rfl⟩, World.grownBy.refl w _, .inl rfl⟩
   have hz := sizeR w
   have hc := hs.cells
   have hc' : (Builtin.firstCells 2 0 x).run Tryz.prog w = .ok #[] w := hc
   simp [Builtin.append_, run_underlying Tryz.underlying49, hz, hs.len, hc']
  ·have hpos : 0 < m.length := List.length_pos_iff.2 hm
   exact hgrow none 0 0 rfl (by unfold maxLen; omega) (run_firstCells_none w.drew i0.size 0 0 0) (by omega)
 ·have hown : Own w base (.slice (some ⟨g, 0, none⟩) l.length cap) l := .inr ⟨g, cap, cur, rfl, hg, hblk, h1, h2, h3, h4⟩
  obtain ⟨r1, r2, r3, r4, _, _, _, r8, _⟩ := hown.room
  by_cases hroom : l.length + m.length ≤ cap
  ·have hr := run_append_room_src (P := Tryz.prog) w 49 49 ty 61 i0 Tryz.underlying49 hi g 0 l.length cap x m.length (rcells m) (by rw [hz1]; exact hs) hroom
    (fun j hj => by rw [hz1, Nat.zero_add]; rw [rcells_length] at hj; exact r1 _ (by omega)) (fun j _ => r2 _)
   rw [hz1, Nat.zero_add] at hr
   exact ⟨_, _, hr, own_cat (n := l.length) (m := 0) hown hroom, grown_setCells g _ _ w, .inl rfl⟩
  ·refine hgrow (some ⟨g, 0, none⟩) l.length cap rfl h2 ?_ (by omega)
   rw [hz1]
   exact run_firstCells_some (P := Tryz.prog) w.drew 2 l.length ⟨g, 0, none⟩ l.length cap (rcells l) (rcells_length l) (fun j u hj => by rw [add_plain, Nat.zero_add]; exact r8 j u hj)
theorem wpList_append_rg {w : World} {ops : Array Oper} {rest : List Oper} {o : Oper} {a : Act} {Q : Exit → Act → World → Prop} (hgd : o.guard = none) (s y : Operand)
  (ho : o.op = .call { callee := .builtin .append, args := #[s, y], argTypes := #[49, 49] }) {base : Nat} {v x : Value} {l m : List Rg} (hv : a.eval s = v) (hx : a.eval y = x)
  (h : Own w base v l) (hs : Sr w x m) (hl : l.length + m.length ≤ 1000000) (hb : base ≤ w.heap.size)
  (hK : ∀ v' w', Own w' base v' (l ++ m) → w.grownBy w' v.ownBlock → (v'.ownBlock = v.ownBlock ∨ v'.ownBlock = some w.heap.size) → wpList Tryz.prog ops Q rest (a.put o.dst v') w') : wpList Tryz.prog ops Q (o :: rest) a w := by
 refine wpList_plain hgd fun K hK' => ?_
 obtain ⟨v', w', hrun, h1, h2, h3⟩ := run_append_rg o.type h hs hl hb
 unfold Oper.wp execOp
 simp only [ho, resolve, invoke, builtin, Sem.run_bind, Sem.run_pure, Result.andThen_ok, List.map_toArray, List.map_cons, List.map_nil, hv, hx, hrun]
 exact hK' _ _ (hK v' w' h1 h2 h3)
theorem wpList_copy_rg (w : World) {ops : Array Oper} {rest : List Oper} {o : Oper} {a : Act} {Q : Exit → Act → World → Prop} (hgd : o.guard = none) (d s : Operand)
  (ho : o.op = .call { callee := .builtin .copy, args := #[d, s], argTypes := #[49, 49] }) (v u : Value) (hd : a.eval d = v) (hs : a.eval s = u) {v' : Value} {w' : World}
  (hr : (Builtin.copy_ #[49, 49] o.type #[v, u]).run Tryz.prog w = .ok v' w') (h : wpList Tryz.prog ops Q rest (a.put o.dst v') w') : wpList Tryz.prog ops Q (o :: rest) a w := by
 refine wpList_plain hgd fun K hK' => ?_
 unfold Oper.wp execOp
 simp only [ho, resolve, invoke, builtin, Sem.run_bind, Sem.run_pure, Result.andThen_ok, List.map_toArray, List.map_cons, List.map_nil, hd, hs, hr]
 exact hK' _ _ h
theorem wpList_clear_rg (w : World) {ops : Array Oper} {rest : List Oper} {o : Oper} {a : Act} {Q : Exit → Act → World → Prop} (hgd : o.guard = none) (d : Operand)
  (ho : o.op = .call { callee := .builtin .clear, args := #[d], argTypes := #[49] }) (v : Value) (hd : a.eval d = v) {v' : Value} {w' : World}
  (hr : (Builtin.clear_ #[49] o.type #[v]).run Tryz.prog w = .ok v' w') (h : wpList Tryz.prog ops Q rest (a.put o.dst v') w') : wpList Tryz.prog ops Q (o :: rest) a w := by
 refine wpList_plain hgd fun K hK' => ?_
 unfold Oper.wp execOp
 simp only [ho, resolve, invoke, builtin, Sem.run_bind, Sem.run_pure, Result.andThen_ok, List.map_toArray, List.map_cons, List.map_nil, hd, hr]
 exact hK' _ _ h
end Sp
end Go.Proofs.YtgbehfkimchglaaGreatDoor
