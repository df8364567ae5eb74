/-
  Words for memory, with no program in sight: a block that is known whole, what turns one block alone, and the cells of a field before, while and after its tables are worked out. No conditions beyond those that each theorem types.
-/
import Derived.Below
import Derived.Laws.OwnMore
import Derived.Deep.Draws
import Derived.Laws.Rows
import Derived.Laws.AppendOwn
import Derived.Deep.OwnRows
import Derived.OwnWalk
import Derived.Test.YtmiedappfmlofaaFieldMath
namespace Go.Proofs.Ytmiedappfmlofaa
open Go.RowKit

def Blk (w : World) (g : Nat) (t : TypeId) (cs : Array Value) : Prop := w.heap[g]? = some (.cells cs t (0, 0))

section
variable {w w' : World} {g : Nat} {t : TypeId} {cs : Array Value}
theorem Blk.lt (h : Blk w g t cs) : g < w.heap.size := by
  rcases Nat.lt_or_ge g w.heap.size with hlt | hge
  · exact hlt
  · unfold Blk at h; rw [Array.getElem?_eq_none hge] at h; cases h
theorem Blk.cell (h : Blk w g t cs) (i : Nat) : w.cell? ⟨g, i, none⟩ = cs[i]? := cell_of_row w g i cs t (0, 0) h
theorem Blk.frozen (h : Blk w g t cs) (i : Nat) : w.frozen? ⟨g, i, none⟩ = false := by
  unfold Blk at h
  simp [World.frozen?, h]
theorem Blk.new (w : World) (t : TypeId) (cs : Array Value) : Blk (w.alloc (.cells cs t)) w.heap.size t cs := heap_alloc_new w _
theorem Blk.drew (h : Blk w g t cs) : Blk w.drew g t cs := h
theorem Blk.drewN (h : Blk w g t cs) (n : Nat) : Blk (w.drewN n) g t cs := h
theorem Blk.alloc (h : Blk w g t cs) (o : Obj) : Blk (w.alloc o) g t cs := (Below.heap_alloc w o g h.lt).trans h
theorem Blk.set_ (h : Blk w g t cs) (i : Nat) (u : Value) : Blk (w.setCell ⟨g, i, none⟩ u) g t (cs.setIfInBounds i u) := by
  unfold Blk at h ⊢
  simp [World.setCell, Array.getElem?_modify, h]
theorem Blk.far (h : Blk w g t cs) {p : Addr} (hp : g ≠ p.block) (u : Value) : Blk (w.setCell p u) g t cs := (Below.heap_setCell w p u g hp).trans h
theorem Blk.below {B : Nat} (h : Blk w g t cs) (hb : Below B w w') (hg : g < B) : Blk w' g t cs := (hb.block g hg).trans h
theorem Blk.grown {row : Option Nat} (h : Blk w g t cs) (hb : w.grownBy w' row) (hg : some g ≠ row) : Blk w' g t cs := (hb.block g h.lt hg).trans h
end

/-- Only block g, and what is new, has turned. -/
def Only (g : Nat) (a w : World) : Prop := a.grownBy w (some g)

section
variable {a b c w w' : World} {g : Nat}
theorem Only.refl (g : Nat) (w : World) : Only g w w := World.grownBy.refl w _
theorem Only.trans (h : Only g a b) (k : Only g b c) : Only g a c :=
  ⟨k.os.trans h.os, k.tape.trans h.tape, k.output.trans h.output, Nat.le_trans h.size k.size, fun i hi hne => (k.block i (Nat.lt_of_lt_of_le hi h.size) hne).trans (h.block i hi hne)⟩
theorem Only.drew (h : Only g a w) : Only g a w.drew := ⟨h.os, h.tape, h.output, h.size, h.block⟩
theorem Only.drewN (h : Only g a w) (n : Nat) : Only g a (w.drewN n) := ⟨h.os, h.tape, h.output, h.size, h.block⟩
theorem Only.alloc (h : Only g a w) (o : Obj) : Only g a (w.alloc o) :=
  ⟨h.os, h.tape, h.output, Nat.le_trans h.size (by simp), fun i hi hne => (Below.heap_alloc w o i (Nat.lt_of_lt_of_le hi h.size)).trans (h.block i hi hne)⟩
theorem Only.setCell (h : Only g a w) (i : Nat) (u : Value) : Only g a (w.setCell ⟨g, i, none⟩ u) :=
  ⟨h.os, h.tape, h.output, by simpa [World.setCell] using h.size, fun j hj hne => (Below.heap_setCell w ⟨g, i, none⟩ u j (by
    rintro rfl
    exact hne rfl)).trans (h.block j hj hne)⟩
theorem Only.setNew (h : Only g a w) {p : Addr} (hp : a.heap.size ≤ p.block) (u : Value) : Only g a (w.setCell p u) :=
  ⟨h.os, h.tape, h.output, by simpa [World.setCell] using h.size, fun j hj hne => (Below.heap_setCell w p u j (by
    rintro rfl
    omega)).trans (h.block j hj hne)⟩
theorem Only.below (h : Only g a w) {B : Nat} (hB : B ≤ g) (hs : B ≤ a.heap.size) : Below B a w :=
  ⟨h.os, h.tape, h.output, h.size, fun k hk => h.block k (by omega) (fun e => by injection e; omega)⟩
theorem Only.blk (h : Only g a w) {g' : Nat} {t : TypeId} {cs : Array Value} (hb : Blk a g' t cs) (hne : g' ≠ g) : Blk w g' t cs :=
  (h.block g' hb.lt (fun e => hne (by injection e))).trans hb
theorem Only.of_below (h : Below a.heap.size a w) (g : Nat) : Only g a w := ⟨h.os, h.tape, h.output, h.size, fun i hi _ => h.block i hi⟩
end

/-! ### the field's cells -/
def fcell (d s : Int) (k i : Nat) : Value :=
  if i = 0 then .int .u32 d else if i = 1 then .int .i32 s else if i = 2 then .int .u32 0
  else if i < 258 then .int .u8 (((if i - 3 < k then M.pw (i - 3) else 0 : Nat)) : Int) else .int .u8 ((M.lgTo k (i - 258) : Nat) : Int)
/-- The cells of a field behind k rounds of 'fill': d the once's word, s the lock's. -/
def fcells (d s : Int) (k : Nat) : Array Value := Array.ofFn (n := 514) fun i => fcell d s k i.val

theorem fcells_size (d s : Int) (k : Nat) : (fcells d s k).size = 514 := by simp [fcells]
theorem fcells_get (d s : Int) (k i : Nat) (h : i < 514) : (fcells d s k)[i]? = some (fcell d s k i) := by
  simp [fcells, h]
theorem fcells_done (d s : Int) (k : Nat) : (fcells d s k)[0]? = some (.int .u32 d) := by rw [fcells_get _ _ _ _ (by omega)]; rfl
theorem fcells_state (d s : Int) (k : Nat) : (fcells d s k)[1]? = some (.int .i32 s) := by rw [fcells_get _ _ _ _ (by omega)]; rfl
theorem fcells_pw (d s : Int) (k n : Nat) (h : n < 255) : (fcells d s k)[3 + n]? = some (.int .u8 (((if n < k then M.pw n else 0 : Nat)) : Int)) := by
  rw [fcells_get _ _ _ _ (by omega)]
  unfold fcell
  rw [if_neg (by omega), if_neg (by omega), if_neg (by omega), if_pos (by omega)]
  have e : 3 + n - 3 = n := by omega
  rw [e]
theorem fcells_lg (d s : Int) (k v : Nat) (h : v < 256) : (fcells d s k)[258 + v]? = some (.int .u8 ((M.lgTo k v : Nat) : Int)) := by
  rw [fcells_get _ _ _ _ (by omega)]
  unfold fcell
  rw [if_neg (by omega), if_neg (by omega), if_neg (by omega), if_neg (by omega)]
  have e : 258 + v - 258 = v := by omega
  rw [e]
theorem fcells_out (d s : Int) (k i : Nat) (h : ¬ i < 514) : (fcells d s k)[i]? = none := by
  rw [Array.getElem?_eq_none]; rw [fcells_size]; omega
theorem fcells_set (d s d' s' : Int) (k k' i : Nat) (u : Value) (hi : i < 514) (h : fcell d' s' k' i = u) (ho : ∀ j, j < 514 → j ≠ i → fcell d' s' k' j = fcell d s k j) :
    (fcells d s k).setIfInBounds i u = fcells d' s' k' := by
  apply Array.ext_getElem?
  intro j
  rw [Array.getElem?_setIfInBounds, fcells_size]
  by_cases hj : j < 514
  · rw [fcells_get _ _ _ _ hj, fcells_get _ _ _ _ hj]
    by_cases e : i = j
    · subst e; rw [if_pos rfl, if_pos hi, h]
    · rw [if_neg e, ho j hj (fun e' => e e'.symm)]
  · rw [fcells_out _ _ _ _ hj, fcells_out _ _ _ _ hj, if_neg (by omega)]
theorem fcells_set_done (d d' s : Int) (k : Nat) : (fcells d s k).setIfInBounds 0 (.int .u32 d') = fcells d' s k :=
  fcells_set d s d' s k k 0 _ (by omega) rfl fun j _ h => by unfold fcell; rw [if_neg h, if_neg h]
theorem fcells_set_state (d s s' : Int) (k : Nat) : (fcells d s k).setIfInBounds 1 (.int .i32 s') = fcells d s' k :=
  fcells_set d s d s' k k 1 _ (by omega) rfl fun j _ h => by unfold fcell; rw [if_neg h, if_neg h]
theorem fcells_round (d s : Int) (k : Nat) (hk : k < 255) :
    ((fcells d s k).setIfInBounds (3 + k) (.int .u8 ((M.pw k : Nat) : Int))).setIfInBounds (258 + M.pw k) (.int .u8 ((k : Nat) : Int)) = fcells d s (k + 1) := by
  have hlt := M.pw_lt hk
  apply Array.ext_getElem?
  intro i
  rw [Array.getElem?_setIfInBounds, Array.getElem?_setIfInBounds, Array.size_setIfInBounds, fcells_size]
  by_cases hi : i < 514
  · rw [fcells_get _ _ _ _ hi, fcells_get _ _ _ _ hi]
    unfold fcell
    by_cases ha : 258 + M.pw k = i
    · rw [if_pos ha, if_pos (by omega), if_neg (by omega), if_neg (by omega), if_neg (by omega), if_neg (by omega), M.lgTo_succ, if_pos (by omega)]
    · rw [if_neg ha]
      by_cases hb : 3 + k = i
      · rw [if_pos hb, if_pos (by omega), if_neg (by omega), if_neg (by omega), if_neg (by omega), if_pos (by omega), if_pos (by omega)]
        have e : i - 3 = k := by omega
        rw [e]
      · rw [if_neg hb]
        by_cases h0 : i = 0
        · subst h0; rfl
        by_cases h1' : i = 1
        · subst h1'; rfl
        by_cases h2' : i = 2
        · subst h2'; rfl
        rw [if_neg h0, if_neg h1', if_neg h2', if_neg h0, if_neg h1', if_neg h2']
        by_cases hc : i < 258
        · rw [if_pos hc, if_pos hc]
          by_cases hd : i - 3 < k
          · rw [if_pos hd, if_pos (by omega)]
          · rw [if_neg hd, if_neg (by omega)]
        · rw [if_neg hc, if_neg hc, M.lgTo_succ, if_neg (by omega)]
  · rw [fcells_out _ _ _ _ hi, fcells_out _ _ _ _ hi, if_neg (by omega), if_neg (by omega)]
end Go.Proofs.Ytmiedappfmlofaa
