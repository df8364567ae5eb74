/-
  'append' onto a call's own row of structs, bounded by its bytes alone. No conditions beyond those that each theorem types.
-/
import Derived.Test.YtpbojhjbjnoihaaGenRow
import Derived.Test.YtpbojhjbjnoihaaIntRowM
import Derived.Test.YtpbojhjbjnoihaaSpcPartM
namespace Go.Proofs.Ytpbojhjbjnoihaa
open Go Go.RowKit
set_option maxRecDepth 100000
set_option linter.unusedVariables false
namespace Gr
theorem run_append_b {α : Type} {E : TypeId} {k : Nat} {cs : α → List Value} {w : World} {base : Nat} {v : Value} {l m : List α} {T : TypeId} {z : Value} {bytes : Nat} (hk : ∀ x, (cs x).length = k) (hone : ∀ x, ∀ u ∈ cs x, u.oneCell' = true) (hu : Try.prog.underlying T = some (.slice E)) (hi : (Try.prog.info? E).map (fun i => (i.zero, i.size, i.bytes)) = some (some z, k, bytes)) (hzs : z.cells.size = k) (hk0 : 0 < k)
    (ty : TypeId) (h : OwnG E k cs w base v l) {ad : Addr} {c : Nat} (hr : ∀ j u, (m.flatMap cs)[j]? = some u → w.cell? (ad.add j) = some u) (hl : l.length + m.length ≤ 4611686018427387904) (hby : (l.length + m.length) * bytes ≤ 140737488355328) (hb : base ≤ w.heap.size) :
    ∃ v' w', (Builtin.append_ #[T, T] ty #[v, .slice (some ad) m.length c]).run Try.prog w = .ok v' w' ∧ OwnG E k cs w' base v' (l ++ m) ∧ w.grownBy w' v.ownBlock ∧ (v'.ownBlock = v.ownBlock ∨ v'.ownBlock = some w.heap.size) := by
  obtain ⟨i0, hi', hz0, hz1, hz2⟩ : ∃ i0, Try.prog.info? E = some i0 ∧ i0.zero = some z ∧ i0.size = k ∧ i0.bytes = bytes := by
    cases hE : Try.prog.info? E with
    | none => rw [hE] at hi; simp at hi
    | some i => rw [hE] at hi; simp at hi; exact ⟨i, rfl, hi.1, hi.2.1, hi.2.2⟩
  obtain ⟨v', w', e1, e2, e3, e4, e5⟩ := run_append_own_at (P := Try.prog) w base T ty E i0 z k bytes hu hi' hz0 hz1 hz2 hzs hk0 v l.length (l.flatMap cs) h ad m.length c (m.flatMap cs) (flat_length hk m) hr
    (fun u hu => by obtain ⟨x, _, hx⟩ := List.mem_flatMap.1 hu; exact hone x u hx) (by unfold maxLen; omega) hby hb
  refine ⟨v', w', e1, ?_, e3, e5⟩
  unfold OwnG
  rw [List.length_append, List.flatMap_append]
  exact e2
end Gr
end Go.Proofs.Ytpbojhjbjnoihaa
namespace Go.Proofs.Ytpbojhjbjnoihaa
open Go Go.RowKit
set_option maxRecDepth 100000
set_option linter.unusedVariables false
namespace Gr
section
variable {α : Type} {E : TypeId} {k : Nat} {cs : α → List Value}
theorem flat_set (hk : ∀ x, (cs x).length = k) {j : Nat} {u : Value} (hj : j < k) : ∀ {l : List α} {i : Nat} {x y : α}, l[i]? = some x → cs y = (cs x).set j u → (l.set i y).flatMap cs = (l.flatMap cs).set (i * k + j) u
  | [], i, x, y, h, _ => by simp at h
  | z :: l, 0, x, y, h, hy => by
    simp at h
    subst h
    rw [List.set_cons_zero, List.flatMap_cons, List.flatMap_cons, Nat.zero_mul, Nat.zero_add, hy, List.set_append_left _ _ (by rw [hk]; exact hj)]
  | z :: l, i + 1, x, y, h, hy => by
    rw [List.getElem?_cons_succ] at h
    rw [List.set_cons_succ, List.flatMap_cons, List.flatMap_cons, flat_set hk hj h hy, List.set_append_right _ _ (by rw [hk, Nat.succ_mul]; omega), hk, show (i + 1) * k + j - k = i * k + j by rw [Nat.succ_mul]; omega]
theorem OwnG.setAt {w : World} {base g n c i j : Nat} {l : List α} {x y : α} {u : Value} (h : OwnG E k cs w base (.slice (some ⟨g, 0, none⟩) n c) l) (hk : ∀ x, (cs x).length = k) (hx : l[i]? = some x) (hj : j < k) (hy : cs y = (cs x).set j u) :
    OwnG E k cs (w.setCell ⟨g, i * k + j, none⟩ u) base (.slice (some ⟨g, 0, none⟩) n c) (l.set i y) := by
  refine ⟨by rw [List.length_set]; rw [flat_length hk, List.length_set], ?_⟩
  rcases h.2 with ⟨h1, _⟩ | ⟨g', cap, cur, h1, h2, h3, h4, h5, h6, h7⟩
  · cases h1
  · injection h1 with h1 h8 h9
    injection h1 with h1
    injection h1 with h1
    subst h1 h9
    have hi := (List.getElem?_eq_some_iff.1 hx).1
    have hb : i * k + j < l.length * k := by
      have : (i + 1) * k ≤ l.length * k := Nat.mul_le_mul_right k hi
      rw [Nat.succ_mul] at this
      omega
    refine .inr ⟨g, c, cur.setIfInBounds (i * k + j) u, by rw [List.length_set, h8], h2, ?_, by rw [List.length_set]; exact h4, h5, by simp [h6], ?_⟩
    · have : Blk w g E cur := h3
      exact this.set_ _ _
    · rw [List.length_set, flat_set hk hj hx hy, ← h7, Array.toList_setIfInBounds, List.take_set]
end
end Gr
end Go.Proofs.Ytpbojhjbjnoihaa
namespace Go.Proofs.Ytpbojhjbjnoihaa
open Go Go.RowKit
set_option maxRecDepth 100000
set_option linter.unusedVariables false
namespace Nr
def csN (x : Nat) : List Value := [.int .i64 (x : Int)]
abbrev OwnN (w : World) (base : Nat) (v : Value) (l : List Nat) : Prop := Gr.OwnG 3 1 csN w base v l
theorem sizeOf_int (w : World) : (sizeOf 3).run Try.prog w = .ok 1 w := by
  obtain ⟨i0, hi, hz0, hz1, hz2⟩ : ∃ i0, Try.prog.info? 3 = some i0 ∧ i0.zero = some (.int .i64 0) ∧ i0.size = 1 ∧ i0.bytes = 8 := info_parts Ir.info_int
  simp [sizeOf, typeInfo, hi, hz1]
theorem slice_to (b n c hi : Nat) (h : hi ≤ c) (w : World) :
    (Instr.sliceAt 71 (.slice (some ⟨b, 0, none⟩) n c) none (some (.int .i64 (hi : Int))) none).run Try.prog w = .ok (.slice (some ⟨b, 0, none⟩) hi c) w := by
  have hu : Try.prog.underlying 71 = some (.slice (Try.prog.elem 71)) := by kernel_rfl
  have he : Try.prog.elem 71 = 3 := by kernel_rfl
  rw [run_sliceAt_slice (P := Try.prog) (w := w) (h := hu), run_slice_h (P := Try.prog) (w := w) 71 _ n c hu .i64 (hi : Int) (by omega) (by omega), he, sizeOf_int]
  by_cases e : c = 0
  · simp [sliced, e, Addr.add]
  · simp [sliced, e, Addr.add]
/-- where 'x[lo:]' begins -/
def offL (c lo : Nat) : Nat := if c = lo then 0 else lo
theorem slice_from (b n c lo : Nat) (h : lo ≤ n) (w : World) :
    (Instr.sliceAt 71 (.slice (some ⟨b, 0, none⟩) n c) (some (.int .i64 (lo : Int))) none none).run Try.prog w = .ok (.slice (some ⟨b, offL c lo, none⟩) (n - lo) (c - lo)) w := by
  have hu : Try.prog.underlying 71 = some (.slice (Try.prog.elem 71)) := by kernel_rfl
  have he : Try.prog.elem 71 = 3 := by kernel_rfl
  rw [run_sliceAt_slice (P := Try.prog) (w := w) (h := hu), run_slice_l (P := Try.prog) (w := w) 71 _ n c hu .i64 (lo : Int) (by omega) (by omega), he, sizeOf_int]
  unfold offL
  by_cases e : c = lo
  · subst e; simp [sliced]
  · simp [sliced, e, add_plain]
theorem bs_int (x : Int) (w : World) : (Instr.buildSlice 71 1 #[(0, .int .i64 x)]).run Try.prog w = .ok (.slice (some ⟨w.heap.size, 0, none⟩) 1 1) (w.alloc (.cells #[.int .i64 x] 3)) := by kernel_rfl
theorem bs_none (w : World) : (Instr.buildSlice 71 0 #[]).run Try.prog w = .ok (.slice (some ⟨w.heap.size, 0, none⟩) 0 0) (w.alloc (.cells #[] 3)) := by kernel_rfl
theorem index_int (b n c i : Nat) (h : i < n) (w : World) : (Instr.indexAt 71 (.slice (some ⟨b, 0, none⟩) n c) (.int .i64 (i : Int))).run Try.prog w = .ok (.pointer (some ⟨b, i, none⟩)) w := by
  have h1 := Gr.index_gen (k := 1) Try.underlying71 (by kernel_rfl) b 0 n c i h w
  rw [Nat.mul_one, Nat.zero_add] at h1
  exact h1
section
variable {w w' : World} {base : Nat} {v : Value} {l m : List Nat}
/-- an own row that holds something lies in a block -/
theorem own_shape (h : OwnN w base v l) : (v = .slice none 0 0 ∧ l = []) ∨ ∃ g c, v = .slice (some ⟨g, 0, none⟩) l.length c ∧ base ≤ g ∧ g < w.heap.size ∧ l.length ≤ c ∧ c ≤ maxLen ∧ ∀ (i x : Nat), l[i]? = some x → w.cell? ⟨g, i, none⟩ = some (.int .i64 (x : Int)) := by
  have hs := h.shape (fun _ => rfl)
  rcases h.2 with ⟨h1, h2⟩ | ⟨g, cap, cur, h1, h2, h3, h4, h5, _⟩
  · exact .inl ⟨h1, List.eq_nil_of_length_eq_zero h2⟩
  · obtain ⟨A, c, e1, e2, e3, e4, e5, e6⟩ := hs
    rw [h1] at e1
    injection e1 with e1 e7 e8
    subst e1 e8
    refine .inr ⟨g, cap, h1, h2, (e6 g 0 none rfl).2, h4, h5, fun i x hx => ?_⟩
    obtain ⟨b, o, f1, f2, f3⟩ := e2 i x hx
    injection f1 with f1
    injection f1 with f1 f4
    subst f1 f4
    have := f3 0 _ rfl
    rw [Nat.mul_one, Nat.zero_add, Nat.add_zero] at this
    exact this
theorem flat_csN : ∀ m : List Nat, m.flatMap csN = m.map fun x : Nat => Value.int .i64 (x : Int)
  | [] => rfl
  | x :: m => by rw [List.flatMap_cons, List.map_cons, flat_csN m]; rfl
theorem run_app (ty : TypeId) (h : OwnN w base v l) {b o n c : Nat} (hn : n = m.length) (hr : ∀ (j x : Nat), m[j]? = some x → w.cell? ⟨b, o + j, none⟩ = some (.int .i64 (x : Int))) (hl : l.length + m.length ≤ 1000000) (hb : base ≤ w.heap.size) :
    ∃ v' w', (Builtin.append_ #[71, 71] ty #[v, .slice (some ⟨b, o, none⟩) n c]).run Try.prog w = .ok v' w' ∧ OwnN w' base v' (l ++ m) ∧ w.grownBy w' v.ownBlock ∧ (v'.ownBlock = v.ownBlock ∨ v'.ownBlock = some w.heap.size) := by
  subst hn
  refine Gr.run_append (E := 3) (k := 1) (cs := csN) (z := .int .i64 0) (bytes := 8) (fun _ => rfl) (fun x u hu => by simp [csN] at hu; subst hu; rfl) Try.underlying71 Ir.info_int rfl (by omega) (by omega) ty h (ad := ⟨b, o, none⟩) (fun j u hu => ?_) (by omega) hb
  have hfm := flat_csN m
  rw [hfm, List.getElem?_map] at hu
  rw [add_plain]
  cases hx : m[j]? with
  | none => rw [hx] at hu; cases hu
  | some x => rw [hx] at hu; injection hu with hu; rw [← hu]; exact hr j x hx
end
end Nr
end Go.Proofs.Ytpbojhjbjnoihaa
