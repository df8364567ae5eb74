/-
  Rows of bytes as texts: conversions and comparisons. No conditions beyond those that each theorem types.
-/
import Derived.Test.YtllglgkphlkopaaDoorBlkOps
import Derived.Laws.BytesArg
import Derived.Laws.StructEq
namespace Go.Proofs.YtllglgkphlkopaaDoor
open Go Go.RowKit
set_option linter.unusedVariables false

def strB (n : Nat) (X : Nat → Nat) : ByteArray := strOfNums ((List.range n).map fun j => ((X j : Nat) : Int))
theorem strB_congr {n : Nat} {X Y : Nat → Nat} (h : ∀ j, j < n → X j = Y j) : strB n X = strB n Y := by
  unfold strB
  congr 1
  apply List.map_congr_left
  intro j hj
  rw [h j (by simpa using hj)]
theorem strB_list (n : Nat) (X : Nat → Nat) : (strB n X).toList = (List.range n).map fun j => UInt8.ofNat (X j) := by
  rw [ByteArray.toList_eq]
  show ((List.map (fun j => ((X j : Nat) : Int)) (List.range n)).map fun n => UInt8.ofNat n.toNat) = _
  rw [List.map_map]
  rfl
theorem strB_inj {n m : Nat} {X Y : Nat → Nat} (hx : ∀ j, j < n → X j < 256) (hy : ∀ j, j < m → Y j < 256) (h : (strB n X).toList = (strB m Y).toList) : n = m ∧ ∀ j, j < n → X j = Y j := by
  rw [strB_list, strB_list] at h
  have hn : n = m := by have := congrArg List.length h; simpa using this
  subst hn
  refine ⟨rfl, fun j hj => ?_⟩
  have h1 := congrArg (fun l => l[j]?) h
  simp [hj] at h1
  have h2 := congrArg UInt8.toNat h1
  simp [UInt8.toNat_ofNat'] at h2
  have := hx j hj
  have := hy j hj
  omega
/-- 'string(b)' -/
theorem conv_bytes {w : World} {g o n c : Nat} {X : Nat → Nat} {t : TypeId} {cs : Array Value} (h : Blk w g t cs) (hX : ∀ j, j < n → cs[o + j]? = some (.int .u8 ((X j : Nat) : Int))) :
    (convert 22 9 (.slice (some ⟨g, o, none⟩) n c)).run Tryd.prog w = .ok (.string (strB n X)) w :=
  run_convert_bytes_arg w 22 5 Tryd.underlying22 Tryd.underlying5 g o n c _ (by simp) (fun i hi => by
    rw [h.cell, hX i hi]
    simp [List.getD_eq_getElem?_getD, hi]) 9 Tryd.underlying9
theorem eq_str (w : World) (a b : ByteArray) : (binOp .eql 9 (.string a) (.string b)).run Tryd.prog w = .ok (.bool (a.toList == b.toList)) w := by
  simp [binOp, Op.stringOp, bne]
theorem ne_str (w : World) (a b : ByteArray) : (binOp .neq 9 (.string a) (.string b)).run Tryd.prog w = .ok (.bool (!(a.toList == b.toList))) w := by
  simp [binOp, Op.stringOp, bne]
end Go.Proofs.YtllglgkphlkopaaDoor
