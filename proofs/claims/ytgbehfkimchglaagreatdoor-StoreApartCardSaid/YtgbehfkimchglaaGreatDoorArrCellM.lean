/-
 What the walks of parity's laws want of single operations. No conditions beyond those that each theorem types.
-/
import Derived.Test.YtgbehfkimchglaaGreatDoorParWholeM
import Derived.Test.YtgbehfkimchglaaGreatDoorSpcPartM
import Derived.Test.YtgbehfkimchglaaGreatDoorParAddM
import Derived.Test.YtgbehfkimchglaaGreatDoorTakeTailM
import Derived.Laws.OwnMore
import Derived.Test.YtgbehfkimchglaaGreatDoorArrMathM
import Derived.Test.YtgbehfkimchglaaGreatDoorParKnownM
import Derived.ProofKit
import Derived.Deep.Matrix
import Derived.Laws.BytesArg
import Derived.BigRegion
import Derived.Deep.Cut
import Derived.WalkKit
import Derived.Lib.Hide
import Derived.Test.YtgbehfkimchglaaGreatDoorFieldMulM
import Derived.Outline
import Derived.Test.YtgbehfkimchglaaGreatDoorArrListsM
namespace Go.Proofs.YtgbehfkimchglaaGreatDoor
open Go Go.RowKit
set_option maxRecDepth 100000
set_option linter.unusedVariables false
end Go.Proofs.YtgbehfkimchglaaGreatDoor
namespace Go.Proofs.YtgbehfkimchglaaGreatDoor
open Go Go.RowKit
set_option maxRecDepth 100000
set_option linter.unusedVariables false
theorem infoZ : (Tryz.prog.info? 3).map (fun i => (i.zero, i.size, i.bytes)) = some (some (.int .i64 0), 1, 8) := by kernel_rfl
theorem sizeOf_int (w : World) : (sizeOf 3).run Tryz.prog w = .ok 1 w := by
 obtain ⟨i0, hi, hz0, hz1, hz2⟩ := info_parts infoZ
 simp [sizeOf, typeInfo, hi, hz1]
end Go.Proofs.YtgbehfkimchglaaGreatDoor
namespace Go.Proofs.YtgbehfkimchglaaGreatDoor
open Go Go.RowKit
set_option maxRecDepth 100000
set_option linter.unusedVariables false
def natL (l : List Nat) : List Value := l.map fun (j : Nat) => Value.int .i64 ((j : Nat) : Int)
end Go.Proofs.YtgbehfkimchglaaGreatDoor
set_option linter.unusedVariables false
namespace Go.Proofs.YtgbehfkimchglaaGreatDoor.M
set_option maxRecDepth 100000
theorem xsum_swap (n m : Nat) (f : Nat → Nat → Nat) : xsum n (fun i => xsum m (fun j => f i j)) = xsum m (fun j => xsum n (fun i => f i j)) := by
 induction n with
 | zero => exact (xsum_zero m _ (fun _ _ => rfl)).symm
 | succ n ih =>
  show xsum n _ ^^^ xsum m (fun j => f n j) = _
  rw [ih, ← xsum_xor]
  rfl
def Undo (n : Nat) (G F : Nat → Nat → Nat) : Prop := (∀ x, x < n → ∀ y, y < n → G x y < 256) ∧ ∀ x, x < n → ∀ x', x' < n → xsum n (fun y => gmul (G x y) (F y x')) = if x = x' then 1 else 0
theorem undo_zero {n : Nat} {G F : Nat → Nat → Nat} (hF : ∀ y x, F y x < 256) (h : Undo n G F) {z : Nat → Nat} (hz : ∀ x, x < n → z x < 256) (h0 : ∀ y, y < n → xsum n (fun x => gmul (F y x) (z x)) = 0) : ∀ x, x < n → z x = 0 := by
 intro x hx
 have e1 : z x = xsum n (fun x' => gmul (xsum n (fun y => gmul (G x y) (F y x'))) (z x')) := by
  rw [xsum_one n _ x hx (fun j hj hne => by rw [h.2 x hx j hj, if_neg (fun e => hne e.symm), gmul_zero_left]), h.2 x hx x hx, if_pos rfl, gmul_comm, gmul_one (hz x hx)]
 have e2 : xsum n (fun x' => gmul (xsum n (fun y => gmul (G x y) (F y x'))) (z x')) = xsum n (fun x' => xsum n (fun y => gmul (G x y) (gmul (F y x') (z x')))) := by
  refine xsum_congr fun x' hx' => ?_
  rw [gmul_comm, ← xsum_mul (hz x' hx') (fun j _ => gmul_lt _ _)]
  refine xsum_congr fun y hy => ?_
  rw [gmul_comm (z x'), gmul_assoc]
 rw [e1, e2, xsum_swap]
 refine xsum_zero n _ fun y hy => ?_
 rw [xsum_mul (h.1 x hx y hy) (fun _ _ => gmul_lt _ _), h0 y hy, gmul_zero_right]
end Go.Proofs.YtgbehfkimchglaaGreatDoor.M
namespace Go.Proofs.YtgbehfkimchglaaGreatDoor
open Go.RowKit Go.ChangeShapes Go.WideShapes Go.ChangeAt
set_option maxRecDepth 100000
set_option linter.unusedVariables false
section
variable {H : Type} {enc : TypeId × Value → H} {P : Program} {W : World} {base : Nat} {held : Bool}
end
end Go.Proofs.YtgbehfkimchglaaGreatDoor
namespace Go.Proofs.YtgbehfkimchglaaGreatDoor
open Go.RowKit
set_option maxRecDepth 100000
set_option linter.unusedVariables false
structure At (w0 w : World) (B b bo n k : Nat) (R : Nat → Nat) (m m0 : Nat → Nat → Nat) : Prop where
 mat : Mat w bo n R m
 fld : Blk w b 284 (fcells 1 0 255)
 below : Below B w0 w
 hB : B ≤ bo ∧ ∀ i, i < n → B ≤ R i
 small : M.Small n m
 units : M.Units n m k
 sol : ∀ z, M.SmallV n z → (M.Sol n m z ↔ M.Sol n m0 z)
inductive Solved (w0 w : World) (B n : Nat) (m0 : Nat → Nat → Nat) : Ending → Prop where
 | one (g : Nat) (X : Nat → Nat) (hg : B ≤ g) (hb : Blk w g 5 (rowArr n X)) (hX : ∀ i, i < n → X i < 256) (hs : ∀ z, M.SmallV n z → (M.Sol n m0 z ↔ ∀ i, i < n → z i = M.gmul (X i) (z n))) :
   Solved w0 w B n m0 (.returned (.tuple #[.slice (some ⟨g, 0, none⟩) n n, .int .i64 0]))
 | none (z : Nat → Nat) (hz : M.SmallV n z) (hn : z n = 0) (hne : ∃ j, j < n ∧ z j ≠ 0) (hs : M.Sol n m0 z) :
   Solved w0 w B n m0 (.returned (.tuple #[.slice none 0 0, .int .i64 7]))
end Go.Proofs.YtgbehfkimchglaaGreatDoor
namespace Go.Proofs.YtgbehfkimchglaaGreatDoor
open Go.RowKit
set_option maxRecDepth 100000
set_option linter.unusedVariables false
def vec (n : Nat) (v : Nat → Nat) (t j : Nat) : Nat := if j < n then v j else t
theorem vec_small {n t : Nat} {v : Nat → Nat} (hv : ∀ j, j < n → v j < 256) (ht : t < 256) : M.SmallV n (vec n v t) := by
 intro j hj
 unfold vec
 split
 ·rename_i h; exact hv j h
 ·exact ht
theorem vec_last (n t : Nat) (v : Nat → Nat) : vec n v t n = t := if_neg (by omega)
theorem dot_vec (n i t : Nat) (x : Nat → Nat → Nat) (y v : Nat → Nat) : M.dot (n + 1) (joinM n x y i) (vec n v t) = M.xsum n (fun k => M.gmul (x i k) (v k)) ^^^ M.gmul (y i) t := by
 show M.xsum n _ ^^^ M.gmul (joinM n x y i n) (vec n v t n) = _
 rw [vec_last]
 have e1 : joinM n x y i n = y i := if_neg (by omega)
 rw [e1, M.xsum_congr (fun j hj => ?_)]
 show M.gmul (joinM n x y i j) (vec n v t j) = M.gmul (x i j) (v j)
 unfold joinM vec
 rw [if_pos hj, if_pos hj]
end Go.Proofs.YtgbehfkimchglaaGreatDoor
namespace Go.Proofs.YtgbehfkimchglaaGreatDoor
open Go Go.RowKit
set_option maxRecDepth 100000
set_option linter.unusedVariables false
def hdX (n r : Nat) (V : Nat → Value) (v : Value) : Array Value := Array.ofFn (n := n) fun i => if i.val < r then V i.val else if i.val = r then v else .slice none 0 0
structure ShAt (w0 w : World) (z b n r x zr : Nat) (F : Nat → Nat → Nat) (V : Nat → Value) (vh v : Value) : Prop where
 head : Blk w z 76 (hdX n r V vh)
 row : ∀ i, i < r → Own8 w (z + 1) (V i) n (F i) ∧ ∀ g, (V i).ownBlock = some g → g < zr
 cur : Own8 w zr v x (F r)
 fld : Fld w b
 only : Only b w0 w
 base : w0.heap.size ≤ z ∧ z + 1 ≤ zr ∧ zr ≤ w.heap.size
section
variable {w0 w w' : World} {z b n r x zr : Nat} {F : Nat → Nat → Nat} {V : Nat → Value} {vh v : Value}
end
end Go.Proofs.YtgbehfkimchglaaGreatDoor
namespace Go.Proofs.YtgbehfkimchglaaGreatDoor
open Go.RowKit
set_option maxRecDepth 100000
set_option linter.unusedVariables false
end Go.Proofs.YtgbehfkimchglaaGreatDoor
namespace Go.Proofs.YtgbehfkimchglaaGreatDoor
open Go Go.RowKit
set_option maxRecDepth 100000
set_option linter.unusedVariables false
end Go.Proofs.YtgbehfkimchglaaGreatDoor
namespace Go.Proofs.YtgbehfkimchglaaGreatDoor
open Go Go.RowKit
set_option maxRecDepth 100000
set_option linter.unusedVariables false
theorem slice_headR (b o n c N : Nat) (h1 : N ≤ c) (W : World) : (Instr.sliceAt 189 (.slice (some ⟨b, o, none⟩) n c) none (some (.int .i64 (N : Int))) none).run Tryz.prog W = .ok (.slice (some ⟨b, o, none⟩) N c) W := by
 have hu : Tryz.prog.underlying 189 = some (.slice (Tryz.prog.elem 189)) := by kernel_rfl
 have he : Tryz.prog.elem 189 = 76 := by kernel_rfl
 have hs : (sizeOf 76).run Tryz.prog W = .ok 1 W := by kernel_rfl
 rw [run_sliceAt_slice (P := Tryz.prog) (w := W) (h := hu), run_slice_h (P := Tryz.prog) (w := W) 189 (some ⟨b, o, none⟩) n c hu .i64 (N : Int) (by omega) (by omega), he, hs]
 simp [sliced, Addr.add, Result.andThen]
end Go.Proofs.YtgbehfkimchglaaGreatDoor
namespace Go.Proofs.YtgbehfkimchglaaGreatDoor
open Go Go.RowKit
set_option maxRecDepth 100000
set_option linter.unusedVariables false
theorem RdR.heads {w : World} {B n : Nat} {A : Option Addr} {ra : Nat → Option Addr} {rl rc : Nat → Nat} {x : Nat → Nat → Nat} (h : RdR w B A n ra rl rc x) : RdH w B A n (fun i => (ra i, rl i, rc i)) := fun i hi => by
 obtain ⟨b, o, h1, h2, h3, _⟩ := h i hi
 exact ⟨b, o, h1, h2, h3⟩
namespace parityBounds
end parityBounds
end Go.Proofs.YtgbehfkimchglaaGreatDoor
namespace Go.Proofs.YtgbehfkimchglaaGreatDoor
open Go.RowKit
set_option maxRecDepth 100000
set_option linter.unusedVariables false
end Go.Proofs.YtgbehfkimchglaaGreatDoor
namespace Go.Proofs.YtgbehfkimchglaaGreatDoor
open Go Go.RowKit
set_option maxRecDepth 100000
set_option linter.unusedVariables false
structure OnlyL (b K : Nat) (R : Nat → Nat) (a w : World) : Prop where
 os : w.os = a.os
 tape : w.tape = a.tape
 output : w.output = a.output
 size : a.heap.size ≤ w.heap.size
 block : ∀ i, i < a.heap.size → i ≠ b → (∀ j, j < K → i ≠ R j) → w.heap[i]? = a.heap[i]?
section
variable {b K : Nat} {R : Nat → Nat} {a c w : World}
end
section
variable {w w' : World} {base K n b : Nat} {v : Value} {H : Nat → Hd} {R : Nat → Nat} {X : Nat → Nat → Nat}
end
end Go.Proofs.YtgbehfkimchglaaGreatDoor
set_option linter.unusedVariables false
namespace Go.Proofs.YtgbehfkimchglaaGreatDoor.M
end Go.Proofs.YtgbehfkimchglaaGreatDoor.M
namespace Go.Proofs.YtgbehfkimchglaaGreatDoor
open Go Go.RowKit
set_option maxRecDepth 100000
set_option linter.unusedVariables false
def cut (n : Nat) (x : Nat → Nat) (v : Nat) : Nat := if v < n then x v else 0
theorem cut_lt {n : Nat} {x : Nat → Nat} (h : ∀ v, v < n → x v < 256) (v : Nat) : cut n x v < 256 := by
 unfold cut
 split
 ·rename_i e; exact h v e
 ·omega
structure LeftAt (w0 w : World) (zl b q n r : Nat) (G Cc : Nat → Nat) (T : Nat → Nat → Nat) : Prop where
 head : Blk w zl 76 (hdX q r (fun i => .slice (some ⟨G i, 0, none⟩) n (Cc i)) (.slice none 0 0))
 row : ∀ i, i < r → zl < G i ∧ RowG w (G i) n (T i)
 fld : Fld w b
 only : Only b w0 w
 base : w0.heap.size ≤ zl ∧ b < w0.heap.size
section
variable {w0 w w' : World} {zl b q n r : Nat} {G Cc : Nat → Nat} {T : Nat → Nat → Nat}
structure LeftMid (w0 w : World) (zl b q n r g cg : Nat) (G Cc : Nat → Nat) (T : Nat → Nat → Nat) (Y : Nat → Nat) : Prop where
 head : Blk w zl 76 (hdX q r (fun i => .slice (some ⟨G i, 0, none⟩) n (Cc i)) (.slice (some ⟨g, 0, none⟩) n cg))
 row : ∀ i, i < r → (zl < G i ∧ G i ≠ g) ∧ RowG w (G i) n (T i)
 cur : zl < g ∧ RowG w g n Y
 fld : Fld w b
 only : Only b w0 w
 base : w0.heap.size ≤ zl ∧ b < w0.heap.size
end
structure MendAt (wl w : World) (base h0 c k q n b y x : Nat) (H : Nat → Hd) (R l j : Nat → Nat) (X T C XX : Nat → Nat → Nat) : Prop where
 cols : Cols w base (.slice (some ⟨h0, 0, none⟩) (k + 3) c) (k + 3) n H R XX
 lost : ∀ x', x' < q → XX (l x') = fun v => M.xsum (if x' < x then y + 1 else y) (fun r => M.gmul (C r x') (T r v))
 other : ∀ i, i < k + 3 → (∀ x', x' < q → l x' ≠ i) → XX i = X i
 fld : Fld w b
 only : OnlyL b (k + 3) R wl w
section
variable {wl w w' : World} {base h0 c k q n b y x : Nat} {H : Nat → Hd} {R l j : Nat → Nat} {X T C XX : Nat → Nat → Nat}
end
structure MendIn (w : World) (base h0 c k q n b : Nat) (H : Nat → Hd) (R l j : Nat → Nat) (X D : Nat → Nat → Nat) : Prop where
 cols : Cols w base (.slice (some ⟨h0, 0, none⟩) (k + 3) c) (k + 3) n H R X
 cap : k + 3 ≤ c ∧ c ≤ maxLen
 xlt : ∀ i, i < k + 3 → ∀ v, v < n → X i v < 256
 dlt : ∀ i, i < k → ∀ v, v < n → D i v < 256
 good : ∀ i, i < k → (∀ x, x < q → l x ≠ i) → ∀ v, v < n → X i v = D i v
 lost : ∀ x, x < q → ∀ v, v < n → X (l x) v = 0
 pars : ∀ x, x < q → ∀ v, v < n → X (k + j x) v = M.par k (j x) D v
 linc : ∀ x y, x < y → y < q → l x < l y
 llt : ∀ x, x < q → l x < k
 jinc : ∀ x y, x < y → y < q → j x < j y
 jlt : ∀ x, x < q → j x < 3
end Go.Proofs.YtgbehfkimchglaaGreatDoor
namespace Go.Proofs.YtgbehfkimchglaaGreatDoor
open Go Go.RowKit
set_option maxRecDepth 100000
set_option linter.unusedVariables false
theorem own_ints {w : World} {B n : Nat} {v : Value} {l : List Nat} (h : w.ownsRow B 3 1 v n (natL l)) (hn : 0 < n) : ∃ g c, v = .slice (some ⟨g, 0, none⟩) n c ∧ B ≤ g ∧ n ≤ c ∧ ∀ i, i < n → w.cell? ⟨g, i, none⟩ = some (.int .i64 ((l.getD i 0 : Nat) : Int)) := by
 rcases h.2 with ⟨_, e⟩ | ⟨g, cap, cur, e, h1, hb, h2, h3, hs, ht⟩
 ·have h0 := h.1
  rw [e] at h0
  simp at h0
  omega
 ·refine ⟨g, cap, e, h1, h2, fun i hi => ?_⟩
  rw [cell_of_row _ _ _ _ _ _ hb]
  have hl : (natL l).length = n := by have := h.1; simpa using this
  have hl2 : i < l.length := by simp [natL] at hl; omega
  have e1 : (natL l)[i]? = some (.int .i64 ((l.getD i 0 : Nat) : Int)) := by simp [natL, hl2, List.getD_eq_getElem?_getD]
  rw [← ht, List.getElem?_take_of_lt (by omega), Array.getElem?_toList] at e1
  exact e1
end Go.Proofs.YtgbehfkimchglaaGreatDoor
namespace Go.Proofs.YtgbehfkimchglaaGreatDoor
open Go Go.RowKit
set_option maxRecDepth 100000
set_option linter.unusedVariables false
structure ParsAt (w3 w : World) (base h0 c k n b m q i : Nat) (H : Nat → Hd) (R : Nat → Nat) (bz : Nat → Int) (D X : Nat → Nat → Nat) : Prop where
 cols : Cols w base (.slice (some ⟨h0, 0, none⟩) (k + 3) c) (k + 3) n H R X
 data : ∀ a, a < k → ∀ v, v < n → X a v = D a v
 pars : ∀ a, a < 3 → (isB m bz (k + a) = false ∨ ∃ x, x < i ∧ bz (q + x) = ((k + a : Nat) : Int)) → ∀ v, v < n → X (k + a) v = D (k + a) v
 rest : ∀ x, i ≤ x → q + x < m → ∀ v, v < n → X (bz (q + x)).toNat v = 0
 fld : Fld w b
 only : OnlyL b (k + 3) R w3 w
section
variable {w3 w w' : World} {base h0 c k n b m q i : Nat} {H : Nat → Hd} {R : Nat → Nat} {bz : Nat → Int} {D X : Nat → Nat → Nat} {N : Int}
end
end Go.Proofs.YtgbehfkimchglaaGreatDoor
namespace Go.Proofs.YtgbehfkimchglaaGreatDoor
open Go Go.RowKit
set_option maxRecDepth 100000
set_option linter.unusedVariables false
end Go.Proofs.YtgbehfkimchglaaGreatDoor
namespace Go.Proofs.YtgbehfkimchglaaGreatDoor
open Go Go.RowKit
set_option maxRecDepth 100000
set_option linter.unusedVariables false
def trueL (f : Nat → Bool) (t : Nat) : List Nat := (List.range t).filter f
end Go.Proofs.YtgbehfkimchglaaGreatDoor
namespace Go.Proofs.YtgbehfkimchglaaGreatDoor
open Go Go.RowKit
set_option maxRecDepth 100000
set_option linter.unusedVariables false
end Go.Proofs.YtgbehfkimchglaaGreatDoor
namespace Go.Proofs.YtgbehfkimchglaaGreatDoor
open Go Go.RowKit
set_option maxRecDepth 100000
set_option linter.unusedVariables false
end Go.Proofs.YtgbehfkimchglaaGreatDoor
namespace Go.Proofs.YtgbehfkimchglaaGreatDoor
open Go Go.RowKit refRack
set_option maxRecDepth 100000
set_option linter.unusedVariables false
namespace Arr
theorem exec_ext {P : Program} {a : Act} {o : Oper} {x : Operand} {k : Nat} {vs : Array Value} {v : Value} (w : World) (e : o.op = .extract x k) (hx : a.eval x = .tuple vs) (hv : vs[k]? = some v) : (execOp a.eval o).run P w = .ok (.value v) w := by
 unfold execOp; simp only [e, hx, Instr.extract, hv, Sem.run_bind, Sem.run_pure, Result.andThen_ok]
section
variable {B a r f : Nat} {w w' : World} {s s' : RS}
theorem cell_in (h : At B w a r f s) {c : Nat} (hc : c < cells s f) : c % s.nd < s.nd ∧ f + c / s.nd < s.ns := by
 have h5 := h.five
 have hf := h.first
 refine ⟨Nat.mod_lt _ (by omega), ?_⟩
 have : c / s.nd < s.ns - f := by
  rw [Nat.div_lt_iff_lt_mul (by omega), Nat.mul_comm]
  exact hc
 omega
def holdsC (s : RS) (f c : Nat) : Nat → Nat := s.holds (c % s.nd) (f + c / s.nd)
def goneC (s : RS) (c : Nat) : Bool := s.gone (c % s.nd)
def lenC (s : RS) (c : Nat) : Nat := if goneC s c = true then 0 else 128
end
end Arr
end Go.Proofs.YtgbehfkimchglaaGreatDoor
