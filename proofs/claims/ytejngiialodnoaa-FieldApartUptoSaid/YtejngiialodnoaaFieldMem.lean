/-
  Words for memory, with no program in sight: a block that is known whole, what turns one block alone, and the cells of a field before, while and after its tables are worked out. No conditions beyond those that each theorem types.
-/
import Derived.Below
import Derived.Laws.OwnMore
import Derived.Deep.Draws
import Derived.Laws.Rows
import Derived.Laws.AppendOwn
import Derived.Deep.OwnRows
import Derived.OwnWalk
import Derived.Test.YtejngiialodnoaaFieldMath
import Derived.Test.YtejngiialodnoaaRackMem
namespace Go.Proofs.Ytejngiialodnoaa
open Go.RowKit

section
variable {w w' : World} {g : Nat} {t : TypeId} {cs : Array Value}
end

section
variable {a b c w w' : World} {g : Nat}
end

/-! ### the field's cells -/
def fcell (d s : Int) (k i : Nat) : Value :=
  if i = 0 then .int .u32 d else if i = 1 then .int .i32 s else if i = 2 then .int .u32 0
  else if i < 258 then .int .u8 (((if i - 3 < k then M.pw (i - 3) else 0 : Nat)) : Int) else .int .u8 ((M.lgTo k (i - 258) : Nat) : Int)
/-- The cells of a field behind k rounds of 'fill': d the once's word, s the lock's. -/
def fcells (d s : Int) (k : Nat) : Array Value := Array.ofFn (n := 514) fun i => fcell d s k i.val

theorem fcells_size (d s : Int) (k : Nat) : (fcells d s k).size = 514 := by simp [fcells]
theorem fcells_get (d s : Int) (k i : Nat) (h : i < 514) : (fcells d s k)[i]? = some (fcell d s k i) := by
  simp [fcells, h]
theorem fcells_done (d s : Int) (k : Nat) : (fcells d s k)[0]? = some (.int .u32 d) := by rw [fcells_get _ _ _ _ (by omega)]; rfl
theorem fcells_state (d s : Int) (k : Nat) : (fcells d s k)[1]? = some (.int .i32 s) := by rw [fcells_get _ _ _ _ (by omega)]; rfl
theorem fcells_pw (d s : Int) (k n : Nat) (h : n < 255) : (fcells d s k)[3 + n]? = some (.int .u8 (((if n < k then M.pw n else 0 : Nat)) : Int)) := by
  rw [fcells_get _ _ _ _ (by omega)]
  unfold fcell
  rw [if_neg (by omega), if_neg (by omega), if_neg (by omega), if_pos (by omega)]
  have e : 3 + n - 3 = n := by omega
  rw [e]
theorem fcells_lg (d s : Int) (k v : Nat) (h : v < 256) : (fcells d s k)[258 + v]? = some (.int .u8 ((M.lgTo k v : Nat) : Int)) := by
  rw [fcells_get _ _ _ _ (by omega)]
  unfold fcell
  rw [if_neg (by omega), if_neg (by omega), if_neg (by omega), if_neg (by omega)]
  have e : 258 + v - 258 = v := by omega
  rw [e]
theorem fcells_out (d s : Int) (k i : Nat) (h : ¬ i < 514) : (fcells d s k)[i]? = none := by
  rw [Array.getElem?_eq_none]; rw [fcells_size]; omega
theorem fcells_set (d s d' s' : Int) (k k' i : Nat) (u : Value) (hi : i < 514) (h : fcell d' s' k' i = u) (ho : ∀ j, j < 514 → j ≠ i → fcell d' s' k' j = fcell d s k j) :
    (fcells d s k).setIfInBounds i u = fcells d' s' k' := by
  apply Array.ext_getElem?
  intro j
  rw [Array.getElem?_setIfInBounds, fcells_size]
  by_cases hj : j < 514
  · rw [fcells_get _ _ _ _ hj, fcells_get _ _ _ _ hj]
    by_cases e : i = j
    · subst e; rw [if_pos rfl, if_pos hi, h]
    · rw [if_neg e, ho j hj (fun e' => e e'.symm)]
  · rw [fcells_out _ _ _ _ hj, fcells_out _ _ _ _ hj, if_neg (by omega)]
theorem fcells_set_done (d d' s : Int) (k : Nat) : (fcells d s k).setIfInBounds 0 (.int .u32 d') = fcells d' s k :=
  fcells_set d s d' s k k 0 _ (by omega) rfl fun j _ h => by unfold fcell; rw [if_neg h, if_neg h]
theorem fcells_set_state (d s s' : Int) (k : Nat) : (fcells d s k).setIfInBounds 1 (.int .i32 s') = fcells d s' k :=
  fcells_set d s d s' k k 1 _ (by omega) rfl fun j _ h => by unfold fcell; rw [if_neg h, if_neg h]
theorem fcells_round (d s : Int) (k : Nat) (hk : k < 255) :
    ((fcells d s k).setIfInBounds (3 + k) (.int .u8 ((M.pw k : Nat) : Int))).setIfInBounds (258 + M.pw k) (.int .u8 ((k : Nat) : Int)) = fcells d s (k + 1) := by
  have hlt := M.pw_lt hk
  apply Array.ext_getElem?
  intro i
  rw [Array.getElem?_setIfInBounds, Array.getElem?_setIfInBounds, Array.size_setIfInBounds, fcells_size]
  by_cases hi : i < 514
  · rw [fcells_get _ _ _ _ hi, fcells_get _ _ _ _ hi]
    unfold fcell
    by_cases ha : 258 + M.pw k = i
    · rw [if_pos ha, if_pos (by omega), if_neg (by omega), if_neg (by omega), if_neg (by omega), if_neg (by omega), M.lgTo_succ, if_pos (by omega)]
    · rw [if_neg ha]
      by_cases hb : 3 + k = i
      · rw [if_pos hb, if_pos (by omega), if_neg (by omega), if_neg (by omega), if_neg (by omega), if_pos (by omega), if_pos (by omega)]
        have e : i - 3 = k := by omega
        rw [e]
      · rw [if_neg hb]
        by_cases h0 : i = 0
        · subst h0; rfl
        by_cases h1' : i = 1
        · subst h1'; rfl
        by_cases h2' : i = 2
        · subst h2'; rfl
        rw [if_neg h0, if_neg h1', if_neg h2', if_neg h0, if_neg h1', if_neg h2']
        by_cases hc : i < 258
        · rw [if_pos hc, if_pos hc]
          by_cases hd : i - 3 < k
          · rw [if_pos hd, if_pos (by omega)]
          · rw [if_neg hd, if_neg (by omega)]
        · rw [if_neg hc, if_neg hc, M.lgTo_succ, if_neg (by omega)]
  · rw [fcells_out _ _ _ _ hi, fcells_out _ _ _ _ hi, if_neg (by omega), if_neg (by omega)]
end Go.Proofs.Ytejngiialodnoaa
