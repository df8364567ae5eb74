/-
  One cell of a call's own row of structs changed. No conditions beyond those that each theorem types.
-/
import Derived.Test.YtpoacgofbbfhcaaGenRowB
namespace Go.Proofs.Ytpoacgofbbfhcaa
open Go Go.RowKit
set_option maxRecDepth 100000
set_option linter.unusedVariables false
namespace Gr
section
variable {α : Type} {E : TypeId} {k : Nat} {cs : α → List Value}
theorem flat_set (hk : ∀ x, (cs x).length = k) {j : Nat} {u : Value} (hj : j < k) : ∀ {l : List α} {i : Nat} {x y : α}, l[i]? = some x → cs y = (cs x).set j u → (l.set i y).flatMap cs = (l.flatMap cs).set (i * k + j) u
  | [], i, x, y, h, _ => by simp at h
  | z :: l, 0, x, y, h, hy => by
    simp at h
    subst h
    rw [List.set_cons_zero, List.flatMap_cons, List.flatMap_cons, Nat.zero_mul, Nat.zero_add, hy, List.set_append_left _ _ (by rw [hk]; exact hj)]
  | z :: l, i + 1, x, y, h, hy => by
    rw [List.getElem?_cons_succ] at h
    rw [List.set_cons_succ, List.flatMap_cons, List.flatMap_cons, flat_set hk hj h hy, List.set_append_right _ _ (by rw [hk, Nat.succ_mul]; omega), hk, show (i + 1) * k + j - k = i * k + j by rw [Nat.succ_mul]; omega]
theorem OwnG.setAt {w : World} {base g n c i j : Nat} {l : List α} {x y : α} {u : Value} (h : OwnG E k cs w base (.slice (some ⟨g, 0, none⟩) n c) l) (hk : ∀ x, (cs x).length = k) (hx : l[i]? = some x) (hj : j < k) (hy : cs y = (cs x).set j u) :
    OwnG E k cs (w.setCell ⟨g, i * k + j, none⟩ u) base (.slice (some ⟨g, 0, none⟩) n c) (l.set i y) := by
  refine ⟨by rw [List.length_set]; rw [flat_length hk, List.length_set], ?_⟩
  rcases h.2 with ⟨h1, _⟩ | ⟨g', cap, cur, h1, h2, h3, h4, h5, h6, h7⟩
  · cases h1
  · injection h1 with h1 h8 h9
    injection h1 with h1
    injection h1 with h1
    subst h1 h9
    have hi := (List.getElem?_eq_some_iff.1 hx).1
    have hb : i * k + j < l.length * k := by
      have : (i + 1) * k ≤ l.length * k := Nat.mul_le_mul_right k hi
      rw [Nat.succ_mul] at this
      omega
    refine .inr ⟨g, c, cur.setIfInBounds (i * k + j) u, by rw [List.length_set, h8], h2, ?_, by rw [List.length_set]; exact h4, h5, by simp [h6], ?_⟩
    · have : Blk w g E cur := h3
      exact this.set_ _ _
    · rw [List.length_set, flat_set hk hj hx hy, ← h7, Array.toList_setIfInBounds, List.take_set]
end
end Gr
end Go.Proofs.Ytpoacgofbbfhcaa
