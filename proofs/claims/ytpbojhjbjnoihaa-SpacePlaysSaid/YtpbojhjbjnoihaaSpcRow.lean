/-
  Rows of ranges: the call's own, as lists; 'copy', 'clear', 'append' at elements of two cells. No conditions beyond those that each theorem types.
-/
import Derived.Test.YtpbojhjbjnoihaaSpcMath
import Derived.Test.YtpbojhjbjnoihaaRackMem
import Derived.Laws.IdiomCopy
import Derived.Deep.AppendSrc
import Derived.Lib.AppendZerosOnto
import Derived.Lib.Overlaps
namespace Go.Proofs.Ytpbojhjbjnoihaa
open Go Go.RowKit
set_option maxRecDepth 100000
set_option linter.unusedVariables false
namespace Sp
theorem infoR : (Try.prog.info? 34).map (fun i => (i.zero, i.size, i.bytes)) = some (some (.agg #[.int .i64 0, .int .i64 0]), 2, 16) := by kernel_rfl
theorem sizeR (w : World) : (sizeOf 34).run Try.prog w = .ok 2 w := by
  obtain ⟨i0, hi, hz0, hz1, hz2⟩ := info_parts infoR
  simp [sizeOf, typeInfo, hi, hz1]
theorem zeroR (w : World) : (zeroValue 34).run Try.prog w = .ok (.agg #[.int .i64 0, .int .i64 0]) w := by
  obtain ⟨i0, hi, hz0, hz1, hz2⟩ := info_parts infoR
  simp [zeroValue, typeInfo, hi, hz0]
/-- the cells of ranges -/
def rcells : List Rg → List Value
  | [] => []
  | r :: l => .int .i64 (r.1 : Int) :: .int .i64 (r.2 : Int) :: rcells l
theorem rcells_length : ∀ l, (rcells l).length = l.length * 2
  | [] => rfl
  | r :: l => by
    show (rcells l).length + 1 + 1 = (l.length + 1) * 2
    rw [rcells_length l]
    omega
theorem rcells_append : ∀ l m, rcells (l ++ m) = rcells l ++ rcells m
  | [], m => rfl
  | r :: l, m => by
    show _ :: _ :: rcells (l ++ m) = _ :: _ :: (rcells l ++ rcells m)
    rw [rcells_append l m]
theorem rcells_take : ∀ (l : List Rg) (i : Nat), rcells (l.take i) = (rcells l).take (i * 2)
  | [], i => by simp [rcells]
  | r :: l, 0 => rfl
  | r :: l, i + 1 => by
    rw [show (i + 1) * 2 = i * 2 + 1 + 1 by omega]
    show _ :: _ :: rcells (l.take i) = _ :: _ :: (rcells l).take (i * 2)
    rw [rcells_take l i]
theorem rcells_drop : ∀ (l : List Rg) (i : Nat), rcells (l.drop i) = (rcells l).drop (i * 2)
  | [], i => by simp [rcells]
  | r :: l, 0 => rfl
  | r :: l, i + 1 => by
    rw [show (i + 1) * 2 = i * 2 + 1 + 1 by omega]
    show rcells (l.drop i) = (rcells l).drop (i * 2)
    exact rcells_drop l i
theorem rcells_get : ∀ {l : List Rg} {i : Nat} {r : Rg}, l[i]? = some r → (rcells l)[i * 2]? = some (.int .i64 (r.1 : Int)) ∧ (rcells l)[i * 2 + 1]? = some (.int .i64 (r.2 : Int))
  | q :: l, 0, r, h => by
    injection h with h
    subst h
    exact ⟨rfl, rfl⟩
  | q :: l, i + 1, r, h => by
    obtain ⟨h1, h2⟩ := rcells_get (l := l) (i := i) h
    rw [show (i + 1) * 2 = i * 2 + 1 + 1 by omega]
    exact ⟨h1, h2⟩
theorem rcells_one : ∀ (l : List Rg), ∀ v ∈ rcells l, v.oneCell' = true
  | [], v, h => by cases h
  | r :: l, v, h => by
    rcases List.mem_cons.1 h with rfl | h
    · rfl
    · rcases List.mem_cons.1 h with rfl | h
      · rfl
      · exact rcells_one l v h
/-- cells set one by one -/
def setAll (cs : Array Value) : Nat → List Value → Array Value
  | _, [] => cs
  | o, v :: r => setAll (cs.setIfInBounds o v) (o + 1) r
theorem setAll_size : ∀ (vs : List Value) (cs : Array Value) (o : Nat), (setAll cs o vs).size = cs.size
  | [], _, _ => rfl
  | v :: r, cs, o => by
    unfold setAll
    rw [setAll_size r, Array.size_setIfInBounds]
theorem setAll_get : ∀ (vs : List Value) (cs : Array Value) (o p : Nat), p < cs.size → (setAll cs o vs)[p]? = if o ≤ p ∧ p < o + vs.length then vs[p - o]? else cs[p]?
  | [], cs, o, p, h => by
    rw [if_neg (fun x => by have h1 := x.1; have h2 : p < o + 0 := x.2; omega)]
    rfl
  | v :: r, cs, o, p, h => by
    unfold setAll
    rw [setAll_get r _ _ _ (by rw [Array.size_setIfInBounds]; exact h)]
    by_cases h1 : o + 1 ≤ p ∧ p < o + 1 + r.length
    · rw [if_pos h1, if_pos (by simp; omega), show p - o = (p - (o + 1)) + 1 by omega, List.getElem?_cons_succ]
    · rw [if_neg h1]
      by_cases h2 : p = o
      · subst h2
        rw [if_pos ⟨Nat.le_refl _, by simp⟩, Nat.sub_self, Array.getElem?_setIfInBounds_self_of_lt h]
        rfl
      · rw [if_neg (by simp; omega), Array.getElem?_setIfInBounds_ne (by omega)]
theorem Blk_setCells {g : Nat} {t : TypeId} : ∀ (vs : List Value) (o : Nat) {w : World} {cs : Array Value}, Blk w g t cs → Blk (w.setCells g o vs) g t (setAll cs o vs)
  | [], _, _, _, h => h
  | v :: r, o, _, _, h => Blk_setCells r (o + 1) (h.set_ o v)
theorem grown_set (w : World) (g i : Nat) (u : Value) : w.grownBy (w.setCell ⟨g, i, none⟩ u) (some g) :=
  ⟨rfl, rfl, rfl, by simp [World.setCell], fun k hk hne => Below.heap_setCell w ⟨g, i, none⟩ u k (fun e => hne (by rw [e]))⟩
theorem grown_setCells (g : Nat) : ∀ (vs : List Value) (o : Nat) (w : World), w.grownBy (w.setCells g o vs) (some g)
  | [], _, w => World.grownBy.refl w _
  | v :: r, o, w => by
    have h1 := grown_set w g o v
    have h2 := grown_setCells g r (o + 1) (w.setCell ⟨g, o, none⟩ v)
    exact ⟨h2.os.trans h1.os, h2.tape.trans h1.tape, h2.output.trans h1.output, Nat.le_trans h1.size h2.size, fun i hi hne => (h2.block i (Nat.lt_of_lt_of_le hi h1.size) hne).trans (h1.block i hi hne)⟩
theorem grown_tr {a b c : World} {g : Nat} (h : a.grownBy b (some g)) (k : b.grownBy c (some g)) : a.grownBy c (some g) :=
  ⟨k.os.trans h.os, k.tape.trans h.tape, k.output.trans h.output, Nat.le_trans h.size k.size, fun i hi hne => (k.block i (Nat.lt_of_lt_of_le hi h.size) hne).trans (h.block i hi hne)⟩
/-! ### what the builtins do -/
theorem run_copy2 (w : World) (ty : TypeId) (b o dLen dCap : Nat) (a : Addr) (sLen sCap : Nat) (cs : List Value) (hn : cs.length = Nat.min sLen dLen * 2)
    (hsrc : ∀ j v, cs[j]? = some v → w.cell? (a.add j) = some v) (hc : ∀ j, j < cs.length → (w.cell? ⟨b, o + j, none⟩).isSome = true) (hf : ∀ j, j < cs.length → w.frozen? ⟨b, o + j, none⟩ = false) (h1 : ∀ v ∈ cs, v.oneCell' = true) :
    (Builtin.copy_ #[31, 31] ty #[.slice (some ⟨b, o, none⟩) dLen dCap, .slice (some a) sLen sCap]).run Try.prog w = .ok (goInt (Nat.min sLen dLen)) (w.setCells b o cs) := by
  have hl := run_loadCells_list (P := Try.prog) w a cs hsrc
  have hst := run_storeCells_cells (P := Try.prog) b o cs 0 w (by simpa using hc) (by simpa using hf) h1
  have hz := sizeR w
  rw [hn] at hl
  simp only [Nat.add_zero] at hst
  simp [Builtin.copy_, run_underlying Try.underlying31, Builtin.lenOf, Builtin.firstCells, hz, hl, hst]
theorem run_copy2_none (w : World) (ty : TypeId) (d : Option Addr) (dLen dCap : Nat) : (Builtin.copy_ #[31, 31] ty #[.slice d dLen dCap, .slice none 0 0]).run Try.prog w = .ok (goInt 0) w := by
  have hz := sizeR w
  cases d <;> simp [Builtin.copy_, run_underlying Try.underlying31, Builtin.lenOf, Builtin.firstCells, hz, storeCells]
theorem zcells (n : Nat) : (Builtin.zeroCells (Value.agg #[.int .i64 0, .int .i64 0]).cells n).toList = List.replicate (n * 2) (.int .i64 0) := by
  simp only [Value.cells, Builtin.zeroCells]
  apply List.ext_getElem
  · simp
  · intro i h1 h2
    simp at h1
    simp only [Array.getElem_toList, Array.getElem_ofFn, List.getElem_replicate]
    have : i % 2 = 0 ∨ i % 2 = 1 := by omega
    rcases this with e | e <;> simp [e]
theorem run_clear2 (w : World) (ty : TypeId) (b o n c : Nat) (hc : ∀ j, j < n * 2 → (w.cell? ⟨b, o + j, none⟩).isSome = true) (hf : ∀ j, j < n * 2 → w.frozen? ⟨b, o + j, none⟩ = false) :
    (Builtin.clear_ #[31] ty #[.slice (some ⟨b, o, none⟩) n c]).run Try.prog w = .ok (.tuple #[]) (w.setCells b o (List.replicate (n * 2) (.int .i64 0))) := by
  have hst := run_storeCells_cells (P := Try.prog) b o (List.replicate (n * 2) (Value.int .i64 0)) 0 w (by simpa using hc) (by simpa using hf) (by intro v hv'; rw [List.eq_of_mem_replicate hv']; rfl)
  have hz := zeroR w
  have hzc := zcells n
  simp only [Nat.add_zero] at hst
  cases n with
  | zero => simp [Builtin.clear_, run_underlying Try.underlying31, World.setCells]
  | succ m => simp [Builtin.clear_, run_underlying Try.underlying31, hz, hzc, hst]
/-! ### rows -/
/-- the call's own row of these ranges -/
def Own (w : World) (base : Nat) (v : Value) (l : List Rg) : Prop :=
  (v = .slice none 0 0 ∧ l = []) ∨ ∃ g cap cur, v = .slice (some ⟨g, 0, none⟩) l.length cap ∧ base ≤ g ∧ Blk w g 34 cur ∧ l.length ≤ cap ∧ cap ≤ maxLen ∧ cur.size = cap * 2 ∧ ∀ j, j < l.length * 2 → cur[j]? = (rcells l)[j]?
/-- these ranges can be read there -/
def Rd (w : World) (A : Option Addr) (l : List Rg) : Prop := l = [] ∨ ∃ b o, A = some ⟨b, o, none⟩ ∧ b < w.heap.size ∧ ∀ j v, (rcells l)[j]? = some v → w.cell? ⟨b, o + j, none⟩ = some v
section
variable {w w' : World} {base : Nat} {v : Value} {l : List Rg}
theorem Own.nil (w : World) (base : Nat) : Own w base (.slice none 0 0) [] := .inl ⟨rfl, rfl⟩
theorem Own.keep (h : Own w base v l) (hk : ∀ g, v.ownBlock = some g → w'.heap[g]? = w.heap[g]?) : Own w' base v l := by
  rcases h with h | ⟨g, cap, cur, rfl, hg, hb, h3⟩
  · exact .inl h
  · exact .inr ⟨g, cap, cur, rfl, hg, (hk g rfl).trans hb, h3⟩
theorem Own.lt (h : Own w base v l) {g : Nat} (hg : v.ownBlock = some g) : g < w.heap.size ∧ base ≤ g := by
  rcases h with ⟨rfl, _⟩ | ⟨g', cap, cur, rfl, hb, hblk, _⟩
  · simp [Value.ownBlock] at hg
  · simp [Value.ownBlock] at hg
    subst hg
    exact ⟨hblk.lt, hb⟩
theorem Own.below {B : Nat} (h : Own w base v l) (hk : Below B w w') (hB : w.heap.size ≤ B) : Own w' base v l := h.keep fun g hg => hk.block g (by have := (h.lt hg).1; omega)
theorem Own.grown {row : Option Nat} (h : Own w base v l) (hk : w.grownBy w' row) (hne : ∀ g, v.ownBlock = some g → some g ≠ row) : Own w' base v l := h.keep fun g hg => hk.block g (h.lt hg).1 (hne g hg)
theorem Own.base_ {base' : Nat} (h : Own w base v l) (hb : base' ≤ base) : Own w base' v l := by
  rcases h with h | ⟨g, cap, cur, rfl, hg, h3⟩
  · exact .inl h
  · exact .inr ⟨g, cap, cur, rfl, Nat.le_trans hb hg, h3⟩
theorem Own.shape (h : Own w base v l) : ∃ A c, v = .slice A l.length c ∧ Rd w A l ∧ l.length ≤ c ∧ c ≤ maxLen ∧ (A = none → c = 0) := by
  rcases h with ⟨rfl, rfl⟩ | ⟨g, cap, cur, rfl, hg, hb, h1, h2, h3, h4⟩
  · exact ⟨none, 0, rfl, .inl rfl, Nat.le_refl _, by unfold maxLen; omega, fun _ => rfl⟩
  · exact ⟨_, _, rfl, .inr ⟨g, 0, rfl, hb.lt, fun j u hj => by
      have hlt : j < l.length * 2 := by have := (List.getElem?_eq_some_iff.1 hj).1; rw [rcells_length] at this; exact this
      rw [Nat.zero_add, hb.cell, h4 j hlt]
      exact hj⟩, h1, h2, fun e => by cases e⟩
theorem Own.take {g n c : Nat} (h : Own w base (.slice (some ⟨g, 0, none⟩) n c) l) {i : Nat} (hi : i ≤ l.length) : Own w base (.slice (some ⟨g, 0, none⟩) i c) (l.take i) := by
  rcases h with ⟨e, _⟩ | ⟨g', cap, cur, e, hg, hb, h1, h2, h3, h4⟩
  · cases e
  · injection e with e1 e2 e3
    injection e1 with e1
    injection e1 with e1 _ _
    subst e1 e2 e3
    have hl : (l.take i).length = i := by rw [List.length_take]; omega
    refine .inr ⟨g, c, cur, by rw [hl], hg, hb, by omega, h2, h3, fun j hj => ?_⟩
    rw [hl] at hj
    rw [h4 j (by omega), rcells_take, List.getElem?_take_of_lt hj]
/-- cells of the row set -/
theorem Own.set {g n c : Nat} {m : List Rg} {vs : List Value} {o k : Nat} (h : Own w base (.slice (some ⟨g, 0, none⟩) n c) l) (hk : k = m.length) (hm : m.length ≤ c)
    (he : ∀ cur : Array Value, cur.size = c * 2 → (∀ j, j < l.length * 2 → cur[j]? = (rcells l)[j]?) → ∀ j, j < m.length * 2 → (if o ≤ j ∧ j < o + vs.length then vs[j - o]? else cur[j]?) = (rcells m)[j]?) :
    Own (w.setCells g o vs) base (.slice (some ⟨g, 0, none⟩) k c) m := by
  rcases h with ⟨e, _⟩ | ⟨g', cap, cur, e, hg, hb, h1, h2, h3, h4⟩
  · cases e
  · injection e with e1 e2 e3
    injection e1 with e1
    injection e1 with e1 _ _
    subst e1 e2 e3 hk
    refine .inr ⟨g, c, setAll cur o vs, rfl, hg, Blk_setCells vs o hb, hm, h2, by rw [setAll_size]; exact h3, fun j hj => ?_⟩
    rw [setAll_get vs cur o j (by omega)]
    exact he cur h3 h4 j hj
theorem Own.room {g n c : Nat} (h : Own w base (.slice (some ⟨g, 0, none⟩) n c) l) : (∀ j, j < c * 2 → (w.cell? ⟨g, j, none⟩).isSome = true) ∧ (∀ j, w.frozen? ⟨g, j, none⟩ = false) ∧ g < w.heap.size ∧ base ≤ g ∧ n = l.length ∧ n ≤ c ∧ c ≤ maxLen ∧ (∀ j v, (rcells l)[j]? = some v → w.cell? ⟨g, j, none⟩ = some v) ∧ ∃ k, w.shape? g = some (34, k) ∧ k = c * 2 := by
  rcases h with ⟨e, _⟩ | ⟨g', cap, cur, e, hg, hb, h1, h2, h3, h4⟩
  · cases e
  · injection e with e1 e2 e3
    injection e1 with e1
    injection e1 with e1 _ _
    subst e1 e2 e3
    refine ⟨fun j hj => by rw [hb.cell, Array.getElem?_eq_getElem (by omega)]; rfl, fun j => hb.frozen j, hb.lt, hg, rfl, h1, h2, fun j u hj => ?_, ?_⟩
    · have hlt : j < l.length * 2 := by have := (List.getElem?_eq_some_iff.1 hj).1; rw [rcells_length] at this; exact this
      rw [hb.cell, h4 j hlt]
      exact hj
    · refine ⟨cur.size, ?_, h3⟩
      unfold Blk at hb
      simp [World.shape?, hb]
end
end Sp
end Go.Proofs.Ytpbojhjbjnoihaa
