/-
  What the walks of parity's laws want of single operations. No conditions beyond those that each theorem types.
-/
import Derived.Test.YtkbndlnmbbbohaaGreatDoorParWholeM
import Derived.Test.YtkbndlnmbbbohaaGreatDoorSpcPartM
import Derived.Test.YtkbndlnmbbbohaaGreatDoorFieldU8M
import Derived.Test.YtkbndlnmbbbohaaGreatDoorTakeTailM
import Derived.Laws.OwnMore
import Derived.Test.YtkbndlnmbbbohaaGreatDoorArrMathM
import Derived.Test.YtkbndlnmbbbohaaGreatDoorFieldJoinM
import Derived.ProofKit
import Derived.Deep.Matrix
import Derived.Laws.BytesArg
import Derived.BigRegion
import Derived.Deep.Cut
import Derived.WalkKit
import Derived.Lib.Hide
import Derived.Test.YtkbndlnmbbbohaaGreatDoorOwnSM
namespace Go.Proofs.YtkbndlnmbbbohaaGreatDoor
open Go Go.RowKit
set_option maxRecDepth 100000
set_option linter.unusedVariables false
theorem RdR.head {w : World} {B n i b o : Nat} {ra : Nat → Option Addr} {rl rc : Nat → Nat} {x : Nat → Nat → Nat} (h : RdR w B (some ⟨b, o, none⟩) n ra rl rc x) (hi : i < n) : b < B ∧ w.cell? ⟨b, o + i, none⟩ = some (.slice (ra i) (rl i) (rc i)) ∧ RdB w B (ra i) (rl i) (x i) := by
  obtain ⟨b', o', q, h1, h2, h3⟩ := h i hi
  injection q with q
  injection q with q1 q2
  subst q1; subst q2
  exact ⟨h1, h2, h3⟩
theorem RdB.at_ {w : World} {B n j b o : Nat} {x : Nat → Nat} (h : RdB w B (some ⟨b, o, none⟩) n x) (hj : j < n) : b < B ∧ w.cell? ⟨b, o + j, none⟩ = some (.int .u8 ((x j : Nat) : Int)) ∧ x j < 256 := by
  obtain ⟨b', o', q, h1, h2, h3⟩ := h j hj
  injection q with q
  injection q with q1 q2
  subst q1; subst q2
  exact ⟨h1, h2, h3⟩
end Go.Proofs.YtkbndlnmbbbohaaGreatDoor
namespace Go.Proofs.YtkbndlnmbbbohaaGreatDoor
open Go Go.RowKit
set_option maxRecDepth 100000
set_option linter.unusedVariables false
theorem infoZ : (Tryz.prog.info? 3).map (fun i => (i.zero, i.size, i.bytes)) = some (some (.int .i64 0), 1, 8) := by kernel_rfl
theorem sizeOf_int (w : World) : (sizeOf 3).run Tryz.prog w = .ok 1 w := by
  obtain ⟨i0, hi, hz0, hz1, hz2⟩ := info_parts infoZ
  simp [sizeOf, typeInfo, hi, hz1]
end Go.Proofs.YtkbndlnmbbbohaaGreatDoor
namespace Go.Proofs.YtkbndlnmbbbohaaGreatDoor
open Go Go.RowKit
set_option maxRecDepth 100000
set_option linter.unusedVariables false

/-- the parities below i that aren't among the bad columns -/
def sndL (m : Nat) (b : Nat → Int) (k i : Nat) : List Nat := (List.range i).filter fun j => !isB m b (k + j)
/-- the numbers as cells -/
def natL (l : List Nat) : List Value := l.map fun (j : Nat) => Value.int .i64 ((j : Nat) : Int)
end Go.Proofs.YtkbndlnmbbbohaaGreatDoor
set_option linter.unusedVariables false
namespace Go.Proofs.YtkbndlnmbbbohaaGreatDoor.M
set_option maxRecDepth 100000

theorem xsum_swap (n m : Nat) (f : Nat → Nat → Nat) : xsum n (fun i => xsum m (fun j => f i j)) = xsum m (fun j => xsum n (fun i => f i j)) := by
  induction n with
  | zero => exact (xsum_zero m _ (fun _ _ => rfl)).symm
  | succ n ih =>
    show xsum n _ ^^^ xsum m (fun j => f n j) = _
    rw [ih, ← xsum_xor]
    rfl
/-- G undoes F on n -/
def Undo (n : Nat) (G F : Nat → Nat → Nat) : Prop := (∀ x, x < n → ∀ y, y < n → G x y < 256) ∧ ∀ x, x < n → ∀ x', x' < n → xsum n (fun y => gmul (G x y) (F y x')) = if x = x' then 1 else 0
theorem undo_zero {n : Nat} {G F : Nat → Nat → Nat} (hF : ∀ y x, F y x < 256) (h : Undo n G F) {z : Nat → Nat} (hz : ∀ x, x < n → z x < 256) (h0 : ∀ y, y < n → xsum n (fun x => gmul (F y x) (z x)) = 0) : ∀ x, x < n → z x = 0 := by
  intro x hx
  have e1 : z x = xsum n (fun x' => gmul (xsum n (fun y => gmul (G x y) (F y x'))) (z x')) := by
    rw [xsum_one n _ x hx (fun j hj hne => by rw [h.2 x hx j hj, if_neg (fun e => hne e.symm), gmul_zero_left]), h.2 x hx x hx, if_pos rfl, gmul_comm, gmul_one (hz x hx)]
  have e2 : xsum n (fun x' => gmul (xsum n (fun y => gmul (G x y) (F y x'))) (z x')) = xsum n (fun x' => xsum n (fun y => gmul (G x y) (gmul (F y x') (z x')))) := by
    refine xsum_congr fun x' hx' => ?_
    rw [gmul_comm, ← xsum_mul (hz x' hx') (fun j _ => gmul_lt _ _)]
    refine xsum_congr fun y hy => ?_
    rw [gmul_comm (z x'), gmul_assoc]
  rw [e1, e2, xsum_swap]
  refine xsum_zero n _ fun y hy => ?_
  rw [xsum_mul (h.1 x hx y hy) (fun _ _ => gmul_lt _ _), h0 y hy, gmul_zero_right]
end Go.Proofs.YtkbndlnmbbbohaaGreatDoor.M
namespace Go.Proofs.YtkbndlnmbbbohaaGreatDoor
open Go.RowKit Go.ChangeShapes Go.WideShapes Go.ChangeAt
set_option maxRecDepth 100000
set_option linter.unusedVariables false

section
variable {H : Type} {enc : TypeId × Value → H} {P : Program} {W : World} {base : Nat} {held : Bool}
end

end Go.Proofs.YtkbndlnmbbbohaaGreatDoor
namespace Go.Proofs.YtkbndlnmbbbohaaGreatDoor
open Go.RowKit
set_option maxRecDepth 100000
set_option linter.unusedVariables false

/-- behind k rounds of the elimination -/
structure At (w0 w : World) (B b bo n k : Nat) (R : Nat → Nat) (m m0 : Nat → Nat → Nat) : Prop where
  mat : Mat w bo n R m
  fld : Blk w b 236 (fcells 1 0 255)
  below : Below B w0 w
  hB : B ≤ bo ∧ ∀ i, i < n → B ≤ R i
  small : M.Small n m
  units : M.Units n m k
  sol : ∀ z, M.SmallV n z → (M.Sol n m z ↔ M.Sol n m0 z)
theorem At.elim {w0 w w' : World} {B b bo n k : Nat} {R : Nat → Nat} {m m0 : Nat → Nat → Nat} (h : At w0 w B b bo n k R m m0) (hk : k < n) (hp : m k k ≠ 0) (hm : Mat w' bo n R (M.elim m k)) (ho : OnlyR n R w w') :
    At w0 w' B b bo n (k + 1) R (M.elim m k) m0 :=
  ⟨hm, ho.blk h.fld (fun i hi => h.fld.ne_ (h.mat.row i hi) (by decide)), h.below.trans (ho.below h.hB.2), h.hB, M.elim_small hk h.small, M.units_elim hk h.small h.units hp, fun z hz => (M.sol_elim hk h.small hz).trans (h.sol z hz)⟩

/-- What Solve answers to a system of n equations. -/
inductive Solved (w0 w : World) (B n : Nat) (m0 : Nat → Nat → Nat) : Ending → Prop where
  | one (g : Nat) (X : Nat → Nat) (hg : B ≤ g) (hb : Blk w g 5 (rowArr n X)) (hX : ∀ i, i < n → X i < 256) (hs : ∀ z, M.SmallV n z → (M.Sol n m0 z ↔ ∀ i, i < n → z i = M.gmul (X i) (z n))) :
      Solved w0 w B n m0 (.returned (.tuple #[.slice (some ⟨g, 0, none⟩) n n, .int .i64 0]))
  | none (z : Nat → Nat) (hz : M.SmallV n z) (hn : z n = 0) (hne : ∃ j, j < n ∧ z j ≠ 0) (hs : M.Sol n m0 z) :
      Solved w0 w B n m0 (.returned (.tuple #[.slice none 0 0, .int .i64 7]))

end Go.Proofs.YtkbndlnmbbbohaaGreatDoor
namespace Go.Proofs.YtkbndlnmbbbohaaGreatDoor
open Go.RowKit
set_option maxRecDepth 100000
set_option linter.unusedVariables false

def vec (n : Nat) (v : Nat → Nat) (t j : Nat) : Nat := if j < n then v j else t
theorem vec_small {n t : Nat} {v : Nat → Nat} (hv : ∀ j, j < n → v j < 256) (ht : t < 256) : M.SmallV n (vec n v t) := by
  intro j hj
  unfold vec
  split
  · rename_i h; exact hv j h
  · exact ht
theorem vec_last (n t : Nat) (v : Nat → Nat) : vec n v t n = t := if_neg (by omega)
theorem dot_vec (n i t : Nat) (x : Nat → Nat → Nat) (y v : Nat → Nat) : M.dot (n + 1) (joinM n x y i) (vec n v t) = M.xsum n (fun k => M.gmul (x i k) (v k)) ^^^ M.gmul (y i) t := by
  show M.xsum n _ ^^^ M.gmul (joinM n x y i n) (vec n v t n) = _
  rw [vec_last]
  have e1 : joinM n x y i n = y i := if_neg (by omega)
  rw [e1, M.xsum_congr (fun j hj => ?_)]
  show M.gmul (joinM n x y i j) (vec n v t j) = M.gmul (x i j) (v j)
  unfold joinM vec
  rw [if_pos hj, if_pos hj]
theorem ownBlock_ne {w : World} {base g : Nat} {e t : TypeId} {size n : Nat} {v : Value} {xs : List Value} {cs : Array Value} (h : w.ownsRow base e size v n xs) (hg : Blk w g t cs) (hne : e ≠ t) : v.ownBlock ≠ some g := by
  rcases h.2 with ⟨rfl, _⟩ | ⟨g', cap, cur, rfl, _, hh, _⟩
  · simp [Value.ownBlock]
  · intro he
    have e1 : g' = g := by simpa [Value.ownBlock] using he
    subst e1
    exact Blk.ne_ (t := e) hh hg hne rfl
theorem Fld.own_ne {w : World} {base g : Nat} {e : TypeId} {size n : Nat} {v : Value} {xs : List Value} (hf : Fld w g) (h : w.ownsRow base e size v n xs) (hne : e ≠ 236) : v.ownBlock ≠ some g := by
  rcases hf with hf | hf
  · exact ownBlock_ne h hf hne
  · exact ownBlock_ne h hf hne
theorem Fld.grown {w w' : World} {g : Nat} {row : Option Nat} (h : Fld w g) (hb : w.grownBy w' row) (hg : some g ≠ row) : Fld w' g := by
  rcases h with h | h
  · exact .inl (h.grown hb hg)
  · exact .inr (h.grown hb hg)
end Go.Proofs.YtkbndlnmbbbohaaGreatDoor
namespace Go.Proofs.YtkbndlnmbbbohaaGreatDoor
open Go Go.RowKit
set_option maxRecDepth 100000
set_option linter.unusedVariables false

/-- r heads that are told, one more, none behind -/
def hdX (n r : Nat) (V : Nat → Value) (v : Value) : Array Value := Array.ofFn (n := n) fun i => if i.val < r then V i.val else if i.val = r then v else .slice none 0 0
theorem hdX_get {n r i : Nat} {V : Nat → Value} {v : Value} (h : i < n) : (hdX n r V v)[i]? = some (if i < r then V i else if i = r then v else .slice none 0 0) := by simp [hdX, h]
theorem hdX_set {n r : Nat} {V : Nat → Value} {v u : Value} (h : r < n) : (hdX n r V v).setIfInBounds r u = hdX n r V u := by
  apply Array.ext_getElem?
  intro i
  rw [Array.getElem?_setIfInBounds]
  by_cases e : r = i
  · subst e
    rw [if_pos rfl, if_pos (by simp [hdX, h]), hdX_get h, if_neg (by omega), if_pos rfl]
  · rw [if_neg e]
    by_cases hi : i < n
    · rw [hdX_get hi, hdX_get hi]
      by_cases e2 : i < r
      · rw [if_pos e2, if_pos e2]
      · rw [if_neg e2, if_neg e2, if_neg (fun x => e x.symm), if_neg (fun x => e x.symm)]
    · rw [Array.getElem?_eq_none (by simp [hdX]; omega), Array.getElem?_eq_none (by simp [hdX]; omega)]
theorem hdX_next {n r : Nat} {V : Nat → Value} {v : Value} : hdX n r V v = hdX n (r + 1) (fun i => if i = r then v else V i) (.slice none 0 0) := by
  unfold hdX
  congr 1
  funext i
  by_cases e : i.val < r
  · rw [if_pos e, if_pos (by omega)]
    show V i.val = if i.val = r then v else V i.val
    rw [if_neg (by omega)]
  · by_cases e2 : i.val = r
    · rw [if_neg e, if_pos e2, if_pos (by omega)]
      show v = if i.val = r then v else V i.val
      rw [if_pos e2]
    · rw [if_neg e, if_neg e2, if_neg (by omega)]
      split <;> rfl
theorem own8_ne {w : World} {base n g : Nat} {v : Value} {X : Nat → Nat} {cs : Array Value} (h : Own8 w base v n X) (hb : Blk w g 41 cs) : some g ≠ v.ownBlock := fun e => by
  rcases h with ⟨rfl, _⟩ | ⟨g', cap, cur, fr, rfl, _, hg, _⟩
  · cases e
  · simp [Value.ownBlock] at e
    subst e
    unfold Blk at hb
    rw [hb] at hg
    injection hg with hg
    injection hg with _ hg _
    exact absurd hg (by decide)
theorem fld_heap {w w' : World} {b : Nat} (h : Fld w b) (e : w'.heap[b]? = w.heap[b]?) : Fld w' b := by
  rcases h with h | h
  · exact .inl (e.trans h)
  · exact .inr (e.trans h)
theorem cell_of_heap {w w' : World} {g i : Nat} (e : w'.heap[g]? = w.heap[g]?) : w'.cell? ⟨g, i, none⟩ = w.cell? ⟨g, i, none⟩ := by
  simp only [World.cell?, e]
/-- x bytes of row r of the factors -/
structure ShAt (w0 w : World) (z b n r x zr : Nat) (F : Nat → Nat → Nat) (V : Nat → Value) (vh v : Value) : Prop where
  head : Blk w z 41 (hdX n r V vh)
  row : ∀ i, i < r → Own8 w (z + 1) (V i) n (F i) ∧ ∀ g, (V i).ownBlock = some g → g < zr
  cur : Own8 w zr v x (F r)
  fld : Fld w b
  only : Only b w0 w
  base : w0.heap.size ≤ z ∧ z + 1 ≤ zr ∧ zr ≤ w.heap.size
section
variable {w0 w w' : World} {z b n r x zr : Nat} {F : Nat → Nat → Nat} {V : Nat → Value} {vh v : Value}
theorem ShAt.room (h : ShAt w0 w z b n r x zr F V vh v) : zr ≤ w.heap.size := h.base.2.2
theorem ShAt.cell (h : ShAt w0 w z b n r x zr F V vh v) (hr : r < n) : w.cell? ⟨z, r, none⟩ = some vh := by
  rw [h.head.cell, hdX_get hr, if_neg (by omega), if_pos rfl]
theorem ShAt.alloc (h : ShAt w0 w z b n r x zr F V vh v) (o : Obj) : ShAt w0 (w.alloc o) z b n r x zr F V vh v :=
  ⟨h.head.alloc o, fun i hi => ⟨(h.row i hi).1.keep fun g hg => Below.heap_alloc _ _ g ((h.row i hi).1.lt hg).1, (h.row i hi).2⟩, h.cur.keep fun g hg => Below.heap_alloc _ _ g (h.cur.lt hg).1, h.fld.alloc o, h.only.alloc o, ⟨h.base.1, h.base.2.1, by have := h.base.2.2; simp; omega⟩⟩
theorem ShAt.drew (h : ShAt w0 w z b n r x zr F V vh v) : ShAt w0 w.drew z b n r x zr F V vh v := ⟨h.head, h.row, h.cur, h.fld, ⟨h.only.os, h.only.tape, h.only.output, h.only.size, h.only.block⟩, h.base⟩
/-- the field alone has turned -/
theorem ShAt.field (h : ShAt w0 w z b n r x zr F V vh v) (hf : Fld w' b) (ho : Only b w w') (hzb : b < w0.heap.size) : ShAt w0 w' z b n r x zr F V vh v := by
  have hb1 := h.base.1
  have hb2 := h.base.2.1
  have hb3 := h.base.2.2
  have hs := ho.size
  refine ⟨ho.blk h.head (by omega), fun i hi => ⟨(h.row i hi).1.keep fun g hg => ho.block g ((h.row i hi).1.lt hg).1 (fun e => ?_), (h.row i hi).2⟩, h.cur.keep fun g hg => ho.block g (h.cur.lt hg).1 (fun e => ?_), hf, ?_, ⟨hb1, hb2, by omega⟩⟩
  · have := ((h.row i hi).1.lt hg).2
    injection e with e
    omega
  · have := (h.cur.lt hg).2
    injection e with e
    omega
  · exact ⟨ho.os.trans h.only.os, ho.tape.trans h.only.tape, ho.output.trans h.only.output, Nat.le_trans h.only.size ho.size, fun i hi hne => (ho.block i (Nat.lt_of_lt_of_le hi h.only.size) hne).trans (h.only.block i hi hne)⟩
theorem ShAt.append (h : ShAt w0 w z b n r x zr F V vh v) {v5 : Value} {u : Nat} (ho : Own8 w' zr v5 (x + 1) (cat x (F r) (fun _ => u))) (hg : w.grownBy w' v.ownBlock) (hu : u = F r x) (hzb : b < w0.heap.size) : ShAt w0 w' z b n r (x + 1) zr F V vh v5 := by
  have hb1 := h.base.1
  have hb2 := h.base.2.1
  have hb3 := h.base.2.2
  have hs := hg.size
  have hne : ∀ g, v.ownBlock = some g → zr ≤ g := fun g hg => (h.cur.lt hg).2
  have bl : ∀ g, g < zr → w'.heap[g]? = w.heap[g]? := fun g hg2 => hg.block g (by omega) (fun e => by have := hne g e.symm; omega)
  refine ⟨(bl z (by omega)).trans h.head, fun i hi => ⟨(h.row i hi).1.keep fun g hg2 => bl g ((h.row i hi).2 g hg2), (h.row i hi).2⟩, ho.congr fun k hk => ?_, ?_, ?_, ⟨hb1, hb2, by omega⟩⟩
  · unfold cat
    by_cases e : k < x
    · rw [if_pos e]
    · rw [if_neg e, hu, show x = k by omega]
  · exact fld_heap h.fld (bl b (by omega))
  · exact ⟨hg.os.trans h.only.os, hg.tape.trans h.only.tape, hg.output.trans h.only.output, Nat.le_trans h.only.size hg.size, fun i hi hne2 => (bl i (by omega)).trans (h.only.block i hi hne2)⟩
theorem ShAt.store (h : ShAt w0 w z b n r x zr F V vh v) (hr : r < n) (hzb : b < w0.heap.size) : ShAt w0 (w.setCell ⟨z, r, none⟩ v) z b n r x zr F V v v := by
  have hb1 := h.base.1
  have hb2 := h.base.2.1
  have hb3 := h.base.2.2
  have h1 := h.head.set_ r v
  rw [hdX_set hr] at h1
  refine ⟨h1, fun i hi => ⟨(h.row i hi).1.keep fun g hg => Below.heap_setCell w _ _ g (fun e => own8_ne (h.row i hi).1 h.head (by rw [hg, e])), (h.row i hi).2⟩, h.cur.keep fun g hg => Below.heap_setCell w _ _ g (fun e => own8_ne h.cur h.head (by rw [hg, e])), h.fld.far (p := ⟨z, r, none⟩) (show b ≠ z by omega) _, h.only.setNew (p := ⟨z, r, none⟩) hb1 _, ⟨hb1, hb2, by simp [World.setCell]; exact hb3⟩⟩
theorem ShAt.next (h : ShAt w0 w z b n r n zr F V v v) : ShAt w0 w z b n (r + 1) 0 w.heap.size F (fun i => if i = r then v else V i) (.slice none 0 0) (.slice none 0 0) := by
  have hb1 := h.base.1
  have hb2 := h.base.2.1
  have hb3 := h.base.2.2
  have q1 : ∀ i, i < r → (if i = r then v else V i) = V i := fun i hi => if_neg (by omega)
  refine ⟨hdX_next ▸ h.head, fun i hi => ?_, Own8.nil _ _ _, h.fld, h.only, ⟨hb1, by omega, Nat.le_refl _⟩⟩
  show Own8 w (z + 1) (if i = r then v else V i) n (F i) ∧ ∀ g, (if i = r then v else V i).ownBlock = some g → g < w.heap.size
  by_cases e : i < r
  · rw [q1 i e]
    exact ⟨(h.row i e).1, fun g hg => ((h.row i e).1.lt hg).1⟩
  · obtain rfl : i = r := by omega
    rw [if_pos rfl]
    exact ⟨h.cur.base hb2, fun g hg => (h.cur.lt hg).1⟩
theorem RdZ.only {A : Option Addr} {m : Nat} {q : Nat → Int} (h : RdZ w0 w0.heap.size A m q) (hne : ∀ bb o, A = some ⟨bb, o, none⟩ → bb ≠ b) (ho : Only b w0 w) : RdZ w w0.heap.size A m q := fun i hi => by
  obtain ⟨bb, o, h1, h2, h3⟩ := h i hi
  refine ⟨bb, o, h1, h2, ?_⟩
  have e := ho.block bb h2 (fun e => by injection e with e; exact hne bb o h1 e)
  rw [← h3]
  exact cell_of_heap e
end

end Go.Proofs.YtkbndlnmbbbohaaGreatDoor
namespace Go.Proofs.YtkbndlnmbbbohaaGreatDoor
open Go.RowKit
set_option maxRecDepth 100000
set_option linter.unusedVariables false

end Go.Proofs.YtkbndlnmbbbohaaGreatDoor
namespace Go.Proofs.YtkbndlnmbbbohaaGreatDoor
open Go Go.RowKit
set_option maxRecDepth 100000
set_option linter.unusedVariables false

end Go.Proofs.YtkbndlnmbbbohaaGreatDoor
namespace Go.Proofs.YtkbndlnmbbbohaaGreatDoor
open Go Go.RowKit
set_option maxRecDepth 100000
set_option linter.unusedVariables false

theorem slice_headR (b o n c N : Nat) (h1 : N ≤ c) (W : World) : (Instr.sliceAt 139 (.slice (some ⟨b, o, none⟩) n c) none (some (.int .i64 (N : Int))) none).run Tryz.prog W = .ok (.slice (some ⟨b, o, none⟩) N c) W := by
  have hu : Tryz.prog.underlying 139 = some (.slice (Tryz.prog.elem 139)) := by kernel_rfl
  have he : Tryz.prog.elem 139 = 41 := by kernel_rfl
  have hs : (sizeOf 41).run Tryz.prog W = .ok 1 W := by kernel_rfl
  rw [run_sliceAt_slice (P := Tryz.prog) (w := W) (h := hu), run_slice_h (P := Tryz.prog) (w := W) 139 (some ⟨b, o, none⟩) n c hu .i64 (N : Int) (by omega) (by omega), he, hs]
  simp [sliced, Addr.add, Result.andThen]
end Go.Proofs.YtkbndlnmbbbohaaGreatDoor
namespace Go.Proofs.YtkbndlnmbbbohaaGreatDoor
open Go Go.RowKit
set_option maxRecDepth 100000
set_option linter.unusedVariables false
theorem RdR.heads {w : World} {B n : Nat} {A : Option Addr} {ra : Nat → Option Addr} {rl rc : Nat → Nat} {x : Nat → Nat → Nat} (h : RdR w B A n ra rl rc x) : RdH w B A n (fun i => (ra i, rl i, rc i)) := fun i hi => by
  obtain ⟨b, o, h1, h2, h3, _⟩ := h i hi
  exact ⟨b, o, h1, h2, h3⟩
theorem RdH.below {w w' : World} {B B' n : Nat} {A : Option Addr} {X : Nat → Hd} (h : RdH w B A n X) (hb : Below B' w w') (hB : B ≤ B') : RdH w' B A n X := fun i hi => by
  obtain ⟨b, o, h1, h2, h3⟩ := h i hi
  exact ⟨b, o, h1, h2, (hb.cell (p := ⟨b, o + i, none⟩) (by show b < B'; omega)).trans h3⟩
theorem Cols.heads {w : World} {base i n : Nat} {v : Value} {H : Nat → Hd} {R : Nat → Nat} {x : Nat → Nat → Nat} (h : Cols w base v i n H R x) : ∃ A c, v = .slice A i c ∧ i ≤ c ∧ c ≤ maxLen ∧ (A = none → c = 0) ∧ RdH w w.heap.size A i H := by
  obtain ⟨A, c, rfl, h1, h2, h3, _, h4⟩ := h.own.shape
  exact ⟨A, c, rfl, h2, h3, h4, h1⟩
namespace parityBounds

end parityBounds
end Go.Proofs.YtkbndlnmbbbohaaGreatDoor
