/-
  A block of numbers of 64 bits, told by a function. No conditions beyond those that each theorem types.
-/
import Derived.Test.YtffbclendkojlaaRackMem
import Derived.Laws.MakeOwn
namespace Go.Proofs.Ytffbclendkojlaa
open Go Go.RowKit
set_option maxRecDepth 100000
set_option linter.unusedVariables false
namespace Ir
theorem info_int : (Try.prog.info? 3).map (fun i => (i.zero, i.size, i.bytes)) = some (some (.int .i64 0), 1, 8) := by kernel_rfl
def intA (n : Nat) (f : Nat → Int) : Array Value := Array.ofFn (n := n) fun c => .int .i64 (f c.val)
theorem intA_get {n : Nat} {f : Nat → Int} {c : Nat} (h : c < n) : (intA n f)[c]? = some (.int .i64 (f c)) := by simp [intA, h]
theorem intA_set {n : Nat} {f : Nat → Int} {c : Nat} {v : Int} (h : c < n) : (intA n f).setIfInBounds c (.int .i64 v) = intA n (fun j => if j = c then v else f j) := by
  apply Array.ext_getElem?
  intro j
  rw [Array.getElem?_setIfInBounds]
  have hs : (intA n f).size = n := by simp [intA]
  rw [hs]
  by_cases hj : j < n
  · rw [intA_get hj, intA_get hj]
    by_cases e : c = j
    · rw [if_pos e, if_pos h, if_pos e.symm]
    · rw [if_neg e, if_neg (fun x => e x.symm)]
  · rw [if_neg (by omega), Array.getElem?_eq_none (by rw [hs]; omega), Array.getElem?_eq_none (by simp [intA]; omega)]
theorem replicate_ints (n : Nat) : Array.replicate n (Value.int .i64 0) = intA n (fun _ => 0) := by
  apply Array.ext_getElem?
  intro i
  by_cases h : i < n
  · rw [intA_get h]; simp [h]
  · rw [Array.getElem?_eq_none (by simp; omega), Array.getElem?_eq_none (by simp [intA]; omega)]
theorem make_ints (n : Nat) (hn : n ≤ 70000) (w : World) (l : Int) (hl : l = (n : Int)) :
    (Instr.makeSlice 60 (.int .i64 l) (.int .i64 l)).run Try.prog w = .ok (.slice (some ⟨w.heap.size, 0, none⟩) n n) (w.alloc (.cells (intA n (fun _ => 0)) 3)) := by
  subst hl
  obtain ⟨i0, hi, hz0, hz1, hz2⟩ := info_parts info_int
  have h := run_make (P := Try.prog) (w := w) 60 3 i0 (.int .i64 0) Try.underlying60 hi hz0 .i64 .i64 (n : Int) (n : Int) (by omega) (by omega) (by rw [hz2]; omega) (by omega)
  rw [h, hz1, Int.toNat_natCast, Nat.mul_one]
  show _ = _
  rw [show (Value.int .i64 0).cells = #[.int .i64 0] from rfl, madeCells_one, replicate_ints]

end Ir
end Go.Proofs.Ytffbclendkojlaa
