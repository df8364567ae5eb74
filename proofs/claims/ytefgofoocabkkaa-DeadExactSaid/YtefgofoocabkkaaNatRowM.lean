/-
  A block of numbers of 64 bits, told by a function. No conditions beyond those that each theorem types.
-/
import Derived.Test.YtefgofoocabkkaaRackMem
import Derived.Laws.MakeOwn
import Derived.Test.YtefgofoocabkkaaGenRow
import Derived.Test.YtefgofoocabkkaaDeadReadM
namespace Go.Proofs.Ytefgofoocabkkaa
open Go Go.RowKit
set_option maxRecDepth 100000
set_option linter.unusedVariables false
namespace Ir
theorem info_int : (Try.prog.info? 3).map (fun i => (i.zero, i.size, i.bytes)) = some (some (.int .i64 0), 1, 8) := by kernel_rfl
def intA (n : Nat) (f : Nat → Int) : Array Value := Array.ofFn (n := n) fun c => .int .i64 (f c.val)
theorem intA_get {n : Nat} {f : Nat → Int} {c : Nat} (h : c < n) : (intA n f)[c]? = some (.int .i64 (f c)) := by simp [intA, h]
theorem intA_set {n : Nat} {f : Nat → Int} {c : Nat} {v : Int} (h : c < n) : (intA n f).setIfInBounds c (.int .i64 v) = intA n (fun j => if j = c then v else f j) := by
  apply Array.ext_getElem?
  intro j
  rw [Array.getElem?_setIfInBounds]
  have hs : (intA n f).size = n := by simp [intA]
  rw [hs]
  by_cases hj : j < n
  · rw [intA_get hj, intA_get hj]
    by_cases e : c = j
    · rw [if_pos e, if_pos h, if_pos e.symm]
    · rw [if_neg e, if_neg (fun x => e x.symm)]
  · rw [if_neg (by omega), Array.getElem?_eq_none (by rw [hs]; omega), Array.getElem?_eq_none (by simp [intA]; omega)]
theorem replicate_ints (n : Nat) : Array.replicate n (Value.int .i64 0) = intA n (fun _ => 0) := by
  apply Array.ext_getElem?
  intro i
  by_cases h : i < n
  · rw [intA_get h]; simp [h]
  · rw [Array.getElem?_eq_none (by simp; omega), Array.getElem?_eq_none (by simp [intA]; omega)]
theorem make_ints (n : Nat) (hn : n ≤ 70000) (w : World) (l : Int) (hl : l = (n : Int)) :
    (Instr.makeSlice 29 (.int .i64 l) (.int .i64 l)).run Try.prog w = .ok (.slice (some ⟨w.heap.size, 0, none⟩) n n) (w.alloc (.cells (intA n (fun _ => 0)) 3)) := by
  subst hl
  obtain ⟨i0, hi, hz0, hz1, hz2⟩ := info_parts info_int
  have h := run_make (P := Try.prog) (w := w) 29 3 i0 (.int .i64 0) Try.underlying29 hi hz0 .i64 .i64 (n : Int) (n : Int) (by omega) (by omega) (by rw [hz2]; omega) (by omega)
  rw [h, hz1, Int.toNat_natCast, Nat.mul_one]
  show _ = _
  rw [show (Value.int .i64 0).cells = #[.int .i64 0] from rfl, madeCells_one, replicate_ints]

end Ir
end Go.Proofs.Ytefgofoocabkkaa
namespace Go.Proofs.Ytefgofoocabkkaa
open Go Go.RowKit
set_option maxRecDepth 100000
set_option linter.unusedVariables false
namespace Nr
def csN (x : Nat) : List Value := [.int .i64 (x : Int)]
abbrev OwnN (w : World) (base : Nat) (v : Value) (l : List Nat) : Prop := Gr.OwnG 3 1 csN w base v l
theorem sizeOf_int (w : World) : (sizeOf 3).run Try.prog w = .ok 1 w := by
  obtain ⟨i0, hi, hz0, hz1, hz2⟩ : ∃ i0, Try.prog.info? 3 = some i0 ∧ i0.zero = some (.int .i64 0) ∧ i0.size = 1 ∧ i0.bytes = 8 := info_parts Ir.info_int
  simp [sizeOf, typeInfo, hi, hz1]
theorem slice_to (b n c hi : Nat) (h : hi ≤ c) (w : World) :
    (Instr.sliceAt 29 (.slice (some ⟨b, 0, none⟩) n c) none (some (.int .i64 (hi : Int))) none).run Try.prog w = .ok (.slice (some ⟨b, 0, none⟩) hi c) w := by
  have hu : Try.prog.underlying 29 = some (.slice (Try.prog.elem 29)) := by kernel_rfl
  have he : Try.prog.elem 29 = 3 := by kernel_rfl
  rw [run_sliceAt_slice (P := Try.prog) (w := w) (h := hu), run_slice_h (P := Try.prog) (w := w) 29 _ n c hu .i64 (hi : Int) (by omega) (by omega), he, sizeOf_int]
  by_cases e : c = 0
  · simp [sliced, e, Addr.add]
  · simp [sliced, e, Addr.add]
/-- where 'x[lo:]' begins -/
def offL (c lo : Nat) : Nat := if c = lo then 0 else lo
theorem slice_from (b n c lo : Nat) (h : lo ≤ n) (w : World) :
    (Instr.sliceAt 29 (.slice (some ⟨b, 0, none⟩) n c) (some (.int .i64 (lo : Int))) none none).run Try.prog w = .ok (.slice (some ⟨b, offL c lo, none⟩) (n - lo) (c - lo)) w := by
  have hu : Try.prog.underlying 29 = some (.slice (Try.prog.elem 29)) := by kernel_rfl
  have he : Try.prog.elem 29 = 3 := by kernel_rfl
  rw [run_sliceAt_slice (P := Try.prog) (w := w) (h := hu), run_slice_l (P := Try.prog) (w := w) 29 _ n c hu .i64 (lo : Int) (by omega) (by omega), he, sizeOf_int]
  unfold offL
  by_cases e : c = lo
  · subst e; simp [sliced]
  · simp [sliced, e, add_plain]
theorem bs_int (x : Int) (w : World) : (Instr.buildSlice 29 1 #[(0, .int .i64 x)]).run Try.prog w = .ok (.slice (some ⟨w.heap.size, 0, none⟩) 1 1) (w.alloc (.cells #[.int .i64 x] 3)) := by kernel_rfl
theorem bs_none (w : World) : (Instr.buildSlice 29 0 #[]).run Try.prog w = .ok (.slice (some ⟨w.heap.size, 0, none⟩) 0 0) (w.alloc (.cells #[] 3)) := by kernel_rfl
theorem index_int (b n c i : Nat) (h : i < n) (w : World) : (Instr.indexAt 29 (.slice (some ⟨b, 0, none⟩) n c) (.int .i64 (i : Int))).run Try.prog w = .ok (.pointer (some ⟨b, i, none⟩)) w := by
  have h1 := Gr.index_gen (k := 1) Try.underlying29 (by kernel_rfl) b 0 n c i h w
  rw [Nat.mul_one, Nat.zero_add] at h1
  exact h1
section
variable {w w' : World} {base : Nat} {v : Value} {l m : List Nat}
/-- an own row that holds something lies in a block -/
theorem own_shape (h : OwnN w base v l) : (v = .slice none 0 0 ∧ l = []) ∨ ∃ g c, v = .slice (some ⟨g, 0, none⟩) l.length c ∧ base ≤ g ∧ g < w.heap.size ∧ l.length ≤ c ∧ c ≤ maxLen ∧ ∀ (i x : Nat), l[i]? = some x → w.cell? ⟨g, i, none⟩ = some (.int .i64 (x : Int)) := by
  have hs := h.shape (fun _ => rfl)
  rcases h.2 with ⟨h1, h2⟩ | ⟨g, cap, cur, h1, h2, h3, h4, h5, _⟩
  · exact .inl ⟨h1, List.eq_nil_of_length_eq_zero h2⟩
  · obtain ⟨A, c, e1, e2, e3, e4, e5, e6⟩ := hs
    rw [h1] at e1
    injection e1 with e1 e7 e8
    subst e1 e8
    refine .inr ⟨g, cap, h1, h2, (e6 g 0 none rfl).2, h4, h5, fun i x hx => ?_⟩
    obtain ⟨b, o, f1, f2, f3⟩ := e2 i x hx
    injection f1 with f1
    injection f1 with f1 f4
    subst f1 f4
    have := f3 0 _ rfl
    rw [Nat.mul_one, Nat.zero_add, Nat.add_zero] at this
    exact this
theorem flat_csN : ∀ m : List Nat, m.flatMap csN = m.map fun x : Nat => Value.int .i64 (x : Int)
  | [] => rfl
  | x :: m => by rw [List.flatMap_cons, List.map_cons, flat_csN m]; rfl
theorem run_app (ty : TypeId) (h : OwnN w base v l) {b o n c : Nat} (hn : n = m.length) (hr : ∀ (j x : Nat), m[j]? = some x → w.cell? ⟨b, o + j, none⟩ = some (.int .i64 (x : Int))) (hl : l.length + m.length ≤ 1000000) (hb : base ≤ w.heap.size) :
    ∃ v' w', (Builtin.append_ #[29, 29] ty #[v, .slice (some ⟨b, o, none⟩) n c]).run Try.prog w = .ok v' w' ∧ OwnN w' base v' (l ++ m) ∧ w.grownBy w' v.ownBlock ∧ (v'.ownBlock = v.ownBlock ∨ v'.ownBlock = some w.heap.size) := by
  subst hn
  refine Gr.run_append (E := 3) (k := 1) (cs := csN) (z := .int .i64 0) (bytes := 8) (fun _ => rfl) (fun x u hu => by simp [csN] at hu; subst hu; rfl) Try.underlying29 Ir.info_int rfl (by omega) (by omega) ty h (ad := ⟨b, o, none⟩) (fun j u hu => ?_) (by omega) hb
  have hfm := flat_csN m
  rw [hfm, List.getElem?_map] at hu
  rw [add_plain]
  cases hx : m[j]? with
  | none => rw [hx] at hu; cases hu
  | some x => rw [hx] at hu; injection hu with hu; rw [← hu]; exact hr j x hx
end
end Nr
end Go.Proofs.Ytefgofoocabkkaa
