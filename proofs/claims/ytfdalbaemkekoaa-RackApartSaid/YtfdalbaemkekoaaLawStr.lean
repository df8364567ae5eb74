/-
  Rows of bytes as texts: conversions and comparisons. No conditions beyond those that each theorem types.
-/
import Derived.Test.YtfdalbaemkekoaaLawBytes
import Derived.Test.YtfdalbaemkekoaaDrawMore
import Derived.Laws.StructEq
namespace Go.Proofs.Ytfdalbaemkekoaa
open Go Go.RowKit
set_option linter.unusedVariables false

def strB (n : Nat) (X : Nat → Nat) : ByteArray := strOfNums ((List.range n).map fun j => ((X j : Nat) : Int))
theorem strB_congr {n : Nat} {X Y : Nat → Nat} (h : ∀ j, j < n → X j = Y j) : strB n X = strB n Y := by
  unfold strB
  congr 1
  apply List.map_congr_left
  intro j hj
  rw [h j (by simpa using hj)]
theorem strB_list (n : Nat) (X : Nat → Nat) : (strB n X).toList = (List.range n).map fun j => UInt8.ofNat (X j) := by
  rw [ByteArray.toList_eq]
  show ((List.map (fun j => ((X j : Nat) : Int)) (List.range n)).map fun n => UInt8.ofNat n.toNat) = _
  rw [List.map_map]
  rfl
theorem strB_inj {n m : Nat} {X Y : Nat → Nat} (hx : ∀ j, j < n → X j < 256) (hy : ∀ j, j < m → Y j < 256) (h : (strB n X).toList = (strB m Y).toList) : n = m ∧ ∀ j, j < n → X j = Y j := by
  rw [strB_list, strB_list] at h
  have hn : n = m := by have := congrArg List.length h; simpa using this
  subst hn
  refine ⟨rfl, fun j hj => ?_⟩
  have h1 := congrArg (fun l => l[j]?) h
  simp [hj] at h1
  have h2 := congrArg UInt8.toNat h1
  simp [UInt8.toNat_ofNat'] at h2
  have := hx j hj
  have := hy j hj
  omega
/-- 'string(b)' -/
theorem conv_bytes {w : World} {g o n c : Nat} {X : Nat → Nat} {t : TypeId} {cs : Array Value} (h : Blk w g t cs) (hX : ∀ j, j < n → cs[o + j]? = some (.int .u8 ((X j : Nat) : Int))) :
    (convert 44 9 (.slice (some ⟨g, o, none⟩) n c)).run Try.prog w = .ok (.string (strB n X)) w :=
  run_convert_bytes_arg w 44 5 Try.underlying44 Try.underlying5 g o n c _ (by simp) (fun i hi => by
    rw [h.cell, hX i hi]
    simp [List.getD_eq_getElem?_getD, hi]) 9 Try.underlying9
theorem eq_str (w : World) (a b : ByteArray) : (binOp .eql 9 (.string a) (.string b)).run Try.prog w = .ok (.bool (a.toList == b.toList)) w := by
  simp [binOp, Op.stringOp, bne]
theorem ne_str (w : World) (a b : ByteArray) : (binOp .neq 9 (.string a) (.string b)).run Try.prog w = .ok (.bool (!(a.toList == b.toList))) w := by
  simp [binOp, Op.stringOp, bne]
/-- a row of bytes that a call has answered -/
def Row8 (w : World) (v : Value) (n : Nat) (X : Nat → Nat) : Prop := ∃ g c cs, v = .slice (some ⟨g, 0, none⟩) n c ∧ Blk w g 5 cs ∧ ∀ j, j < n → cs[0 + j]? = some (.int .u8 ((X j : Nat) : Int))
theorem Row8.of_own {w : World} {B n : Nat} {v : Value} {X : Nat → Nat} (h : w.ownsRow B 5 1 v n (rowL n X)) (hn : 0 < n) : Row8 w v n X := by
  rcases h.2 with ⟨_, e⟩ | ⟨g, cap, cur, e, _, hb, _, _, hs, ht⟩
  · omega
  · refine ⟨g, cap, cur, e, hb, fun j hj => ?_⟩
    have h1 := rowL_get X hj
    rw [← ht, List.getElem?_take_of_lt (by omega), Array.getElem?_toList] at h1
    rw [Nat.zero_add]
    exact h1
theorem Row8.of_blk {w : World} {g n c : Nat} {X : Nat → Nat} (h : Blk w g 5 (rowArr n X)) : Row8 w (.slice (some ⟨g, 0, none⟩) n c) n X :=
  ⟨g, c, _, rfl, h, fun j hj => by rw [Nat.zero_add]; exact rowArr_get hj⟩
theorem Row8.conv {w : World} {v : Value} {n : Nat} {X : Nat → Nat} (h : Row8 w v n X) : (convert 44 9 v).run Try.prog w = .ok (.string (strB n X)) w := by
  obtain ⟨g, c, cs, rfl, hb, hx⟩ := h
  exact conv_bytes hb hx
theorem Row8.keep {B : Nat} {w w' : World} {v : Value} {n : Nat} {X : Nat → Nat} (h : Row8 w v n X) (hk : Keep B w w') : Row8 w' v n X := by
  obtain ⟨g, c, cs, rfl, hb, hx⟩ := h
  exact ⟨g, c, cs, rfl, hk.block hb rfl, hx⟩
theorem Row8.new_ {w w' : World} {v : Value} {n : Nat} {X : Nat → Nat} (h : Row8 w v n X) (hk : Below w.heap.size w w') : Row8 w' v n X := by
  obtain ⟨g, c, cs, rfl, hb, hx⟩ := h
  exact ⟨g, c, cs, rfl, hb.new_ hk, hx⟩
theorem Row8.drew {w : World} {v : Value} {n : Nat} {X : Nat → Nat} (h : Row8 w v n X) : Row8 w.drew v n X := h
end Go.Proofs.Ytfdalbaemkekoaa
