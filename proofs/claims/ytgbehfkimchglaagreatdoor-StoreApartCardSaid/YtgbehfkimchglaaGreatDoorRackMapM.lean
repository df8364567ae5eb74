/-
 Words for memory, with no program in sight: a block that is known whole, what turns one block alone, rows of bytes. No conditions beyond those that each theorem types.
-/
import Derived.Below
import Derived.Laws.OwnMore
import Derived.Deep.Draws
import Derived.Laws.Rows
import Derived.Laws.AppendOwn
import Derived.Deep.OwnRows
import Derived.OwnWalk
import Derived.Test.YtgbehfkimchglaaGreatDoorProg
import Derived.WalkKit
import Derived.Maps.OwnOps
import Derived.Deep.Slices
import Derived.Laws.BitsLemmas
import Derived.OpenShut
import Derived.Deep.WholeRow
import Derived.Deep.MidRow
import Derived.StillTailTactics
import Derived.Deep.QuietTactic
import Derived.Maps.AppendAt
import Derived.Laws.AppendOwnNone
import Derived.Maps.OwnSet
import Derived.Maps.RangeWalk
import Derived.DeepKeys4
import Derived.WalkArith
namespace Go.Proofs.YtgbehfkimchglaaGreatDoor
set_option maxRecDepth 100000
open Go.RowKit
def Blk (w : World) (g : Nat) (t : TypeId) (cs : Array Value) : Prop := w.heap[g]? = some (.cells cs t (0, 0))
section
variable {w w' : World} {g : Nat} {t : TypeId} {cs : Array Value}
theorem Blk.lt (h : Blk w g t cs) : g < w.heap.size := by
 rcases Nat.lt_or_ge g w.heap.size with hlt | hge
 ·exact hlt
 ·unfold Blk at h; rw [Array.getElem?_eq_none hge] at h; cases h
theorem Blk.cell (h : Blk w g t cs) (i : Nat) : w.cell? ⟨g, i, none⟩ = cs[i]? := cell_of_row w g i cs t (0, 0) h
theorem Blk.frozen (h : Blk w g t cs) (i : Nat) : w.frozen? ⟨g, i, none⟩ = false := by
 unfold Blk at h
 simp [World.frozen?, h]
theorem Blk.new (w : World) (t : TypeId) (cs : Array Value) : Blk (w.alloc (.cells cs t)) w.heap.size t cs := heap_alloc_new w _
theorem Blk.drew (h : Blk w g t cs) : Blk w.drew g t cs := h
theorem Blk.drewN (h : Blk w g t cs) (n : Nat) : Blk (w.drewN n) g t cs := h
theorem Blk.alloc (h : Blk w g t cs) (o : Obj) : Blk (w.alloc o) g t cs := (Below.heap_alloc w o g h.lt).trans h
theorem Blk.set_ (h : Blk w g t cs) (i : Nat) (u : Value) : Blk (w.setCell ⟨g, i, none⟩ u) g t (cs.setIfInBounds i u) := by
 unfold Blk at h ⊢
 simp [World.setCell, Array.getElem?_modify, h]
theorem Blk.far (h : Blk w g t cs) {p : Addr} (hp : g ≠ p.block) (u : Value) : Blk (w.setCell p u) g t cs := (Below.heap_setCell w p u g hp).trans h
theorem Blk.below {B : Nat} (h : Blk w g t cs) (hb : Below B w w') (hg : g < B) : Blk w' g t cs := (hb.block g hg).trans h
theorem Blk.grown {row : Option Nat} (h : Blk w g t cs) (hb : w.grownBy w' row) (hg : some g ≠ row) : Blk w' g t cs := (hb.block g h.lt hg).trans h
end
def Only (g : Nat) (a w : World) : Prop := a.grownBy w (some g)
section
variable {a b c w w' : World} {g : Nat}
theorem Only.refl (g : Nat) (w : World) : Only g w w := World.grownBy.refl w _
theorem Only.trans (h : Only g a b) (k : Only g b c) : Only g a c :=
 ⟨k.os.trans h.os, k.tape.trans h.tape, k.output.trans h.output, Nat.le_trans h.size k.size, fun i hi hne => (k.block i (Nat.lt_of_lt_of_le hi h.size) hne).trans (h.block i hi hne)⟩
theorem Only.drew (h : Only g a w) : Only g a w.drew := ⟨h.os, h.tape, h.output, h.size, h.block⟩
theorem Only.drewN (h : Only g a w) (n : Nat) : Only g a (w.drewN n) := ⟨h.os, h.tape, h.output, h.size, h.block⟩
theorem Only.alloc (h : Only g a w) (o : Obj) : Only g a (w.alloc o) :=
 ⟨h.os, h.tape, h.output, Nat.le_trans h.size (by simp), fun i hi hne => (Below.heap_alloc w o i (Nat.lt_of_lt_of_le hi h.size)).trans (h.block i hi hne)⟩
theorem Only.setCell (h : Only g a w) (i : Nat) (u : Value) : Only g a (w.setCell ⟨g, i, none⟩ u) :=
 ⟨h.os, h.tape, h.output, by simpa [World.setCell] using h.size, fun j hj hne => (Below.heap_setCell w ⟨g, i, none⟩ u j (by
  rintro rfl
  exact hne rfl)).trans (h.block j hj hne)⟩
theorem Only.setNew (h : Only g a w) {p : Addr} (hp : a.heap.size ≤ p.block) (u : Value) : Only g a (w.setCell p u) :=
 ⟨h.os, h.tape, h.output, by simpa [World.setCell] using h.size, fun j hj hne => (Below.heap_setCell w p u j (by
  rintro rfl
  omega)).trans (h.block j hj hne)⟩
theorem Only.below (h : Only g a w) {B : Nat} (hB : B ≤ g) (hs : B ≤ a.heap.size) : Below B a w :=
 ⟨h.os, h.tape, h.output, h.size, fun k hk => h.block k (by omega) (fun e => by injection e; omega)⟩
theorem Only.blk (h : Only g a w) {g' : Nat} {t : TypeId} {cs : Array Value} (hb : Blk a g' t cs) (hne : g' ≠ g) : Blk w g' t cs :=
 (h.block g' hb.lt (fun e => hne (by injection e))).trans hb
theorem Only.of_below (h : Below a.heap.size a w) (g : Nat) : Only g a w := ⟨h.os, h.tape, h.output, h.size, fun i hi _ => h.block i hi⟩
end
theorem Blk.ne_ {w : World} {g g' : Nat} {t t' : TypeId} {cs cs' : Array Value} (h : Blk w g t cs) (h' : Blk w g' t' cs') (hne : t ≠ t') : g ≠ g' := by
 rintro rfl
 unfold Blk at h h'
 rw [h] at h'
 injection h' with h'
 injection h' with _ ht
 exact hne ht
def rowArr (n : Nat) (f : Nat → Nat) : Array Value := Array.ofFn (n := n) fun c => .int .u8 ((f c.val : Nat) : Int)
theorem rowArr_get {n : Nat} {f : Nat → Nat} {c : Nat} (h : c < n) : (rowArr n f)[c]? = some (.int .u8 ((f c : Nat) : Int)) := by simp [rowArr, h]
theorem rowArr_congr {n : Nat} {f g : Nat → Nat} (h : ∀ c, c < n → f c = g c) : rowArr n f = rowArr n g := by
 unfold rowArr
 congr 1
 funext c
 rw [h c.val c.isLt]
theorem rowArr_set {n : Nat} {f : Nat → Nat} {c v : Nat} (h : c < n) : (rowArr n f).setIfInBounds c (.int .u8 ((v : Nat) : Int)) = rowArr n (fun j => if j = c then v else f j) := by
 apply Array.ext_getElem?
 intro j
 rw [Array.getElem?_setIfInBounds]
 have hs : (rowArr n f).size = n := by simp [rowArr]
 rw [hs]
 by_cases hj : j < n
 ·rw [rowArr_get hj, rowArr_get hj]
  by_cases e : c = j
  ·rw [if_pos e, if_pos h, if_pos e.symm]
  ·rw [if_neg e, if_neg (fun x => e x.symm)]
 ·rw [if_neg (by omega), Array.getElem?_eq_none (by rw [hs]; omega), Array.getElem?_eq_none (by simp [rowArr]; omega)]
theorem replicate_row (n : Nat) : Array.replicate n (Value.int .u8 0) = rowArr n (fun _ => 0) := by
 apply Array.ext_getElem?
 intro i
 by_cases h : i < n
 ·rw [rowArr_get h]; simp [h]
 ·rw [Array.getElem?_eq_none (by simp; omega), Array.getElem?_eq_none (by simp [rowArr]; omega)]
theorem rowArr_size (n : Nat) (f : Nat → Nat) : (rowArr n f).size = n := by simp [rowArr]
theorem rowArr_one (n : Nat) (f : Nat → Nat) : (rowArr n f).all (·.oneCell') = true := by
 rw [Array.all_eq_true]
 intro i hi
 simp [rowArr, Value.oneCell']
theorem add_plain (b o j : Nat) : (⟨b, o, none⟩ : Addr).add j = ⟨b, o + j, none⟩ := by unfold Addr.add; split <;> simp_all
theorem block_lt_of_cell {w : World} {a : Addr} {v : Value} (h : w.cell? a = some v) : a.block < w.heap.size := by
 rcases Nat.lt_or_ge a.block w.heap.size with hlt | hge
 ·exact hlt
 ·unfold World.cell? at h; rw [Array.getElem?_eq_none hge] at h; cases h
theorem getD_mem {zs : List Int} {j : Nat} (h : j < zs.length) : zs.getD j 0 ∈ zs := by
 rw [List.getD_eq_getElem?_getD, List.getElem?_eq_getElem h]
 exact List.getElem_mem h
theorem madeCells_one (z : Value) (n : Nat) : madeCells #[z] n = Array.replicate n z := by
 apply Array.ext_getElem?
 intro i
 unfold madeCells
 by_cases h : i < n
 ·simp [h, Nat.mod_one]
 ·rw [Array.getElem?_eq_none (by simp; omega), Array.getElem?_eq_none (by simp; omega)]
theorem info_u8 : (Tryz.prog.info? 5).map (fun i => (i.zero, i.size, i.bytes)) = some (some (.int .u8 0), 1, 1) := by kernel_rfl
theorem make_bytes (n : Nat) (hn : n ≤ 70000) (w : World) (l : Int) (hl : l = (n : Int)) :
  (Instr.makeSlice 76 (.int .i64 l) (.int .i64 l)).run Tryz.prog w = .ok (.slice (some ⟨w.heap.size, 0, none⟩) n n) (w.alloc (.cells (rowArr n (fun _ => 0)) 5)) := by
 subst hl
 obtain ⟨i0, hi, hz0, hz1, hz2⟩ := info_parts info_u8
 have h := run_make (P := Tryz.prog) (w := w) 76 5 i0 (.int .u8 0) Tryz.underlying76 hi hz0 .i64 .i64 (n : Int) (n : Int) (by omega) (by omega) (by rw [hz2]; omega) (by omega)
 rw [h, hz1, Int.toNat_natCast, Nat.mul_one]
 show _ = _
 rw [show (Value.int .u8 0).cells = #[.int .u8 0] from rfl, madeCells_one, replicate_row]
theorem below_drewN {B : Nat} {a w : World} (h : Below B a w) (n : Nat) : Below B a (w.drewN n) := ⟨h.os, h.tape, h.output, h.size, h.block⟩
end Go.Proofs.YtgbehfkimchglaaGreatDoor
namespace Go.Proofs.YtgbehfkimchglaaGreatDoor
open Go Go.RowKit
set_option maxRecDepth 100000
set_option linter.unusedVariables false
namespace Gr
section
variable {α : Type} {E : TypeId} {k : Nat} {cs : α → List Value}
theorem flat_length (hk : ∀ x, (cs x).length = k) : ∀ l : List α, (l.flatMap cs).length = l.length * k
 | [] => by simp
 | x :: l => by rw [List.flatMap_cons, List.length_append, hk, flat_length hk l, List.length_cons, Nat.succ_mul]; omega
theorem flat_get (hk : ∀ x, (cs x).length = k) : ∀ {l : List α} {i : Nat} {x : α}, l[i]? = some x → ∀ j, j < k → (l.flatMap cs)[i * k + j]? = (cs x)[j]?
 | [], i, x, h, _, _ => by simp at h
 | y :: l, 0, x, h, j, hj => by
  simp at h
  subst h
  rw [List.flatMap_cons, Nat.zero_mul, Nat.zero_add, List.getElem?_append_left (by rw [hk]; exact hj)]
 | y :: l, i + 1, x, h, j, hj => by
  rw [List.getElem?_cons_succ] at h
  rw [List.flatMap_cons, List.getElem?_append_right (by rw [hk, Nat.succ_mul]; omega), hk, show (i + 1) * k + j - k = i * k + j by rw [Nat.succ_mul]; omega]
  exact flat_get hk h j hj
def OwnG (E : TypeId) (k : Nat) (cs : α → List Value) (w : World) (base : Nat) (v : Value) (l : List α) : Prop := w.ownsRow base E k v l.length (l.flatMap cs)
def RdG (k : Nat) (cs : α → List Value) (w : World) (A : Option Addr) (l : List α) : Prop := ∀ i x, l[i]? = some x → ∃ b o, A = some ⟨b, o, none⟩ ∧ b < w.heap.size ∧ ∀ j u, (cs x)[j]? = some u → w.cell? ⟨b, o + i * k + j, none⟩ = some u
variable {w w' : World} {base : Nat} {v : Value} {l m : List α} {A : Option Addr}
theorem OwnG.nil (w : World) (base : Nat) : OwnG E k cs w base (.slice none 0 0) ([] : List α) := World.ownsRow_nil w base _ k
theorem RdG.below (h : RdG k cs w A l) (hb : Below w.heap.size w w') : RdG k cs w' A l := fun i x hx => by
 obtain ⟨b, o, h1, h2, h3⟩ := h i x hx
 exact ⟨b, o, h1, Nat.lt_of_lt_of_le h2 hb.size, fun j u hu => (hb.cell (p := ⟨b, o + i * k + j, none⟩) h2).trans (h3 j u hu)⟩
theorem OwnG.shape (h : OwnG E k cs w base v l) (hk : ∀ x, (cs x).length = k) : ∃ A c, v = .slice A l.length c ∧ RdG k cs w A l ∧ l.length ≤ c ∧ c ≤ maxLen ∧ (A = none → c = 0) ∧ (∀ b o s, A = some ⟨b, o, s⟩ → base ≤ b ∧ b < w.heap.size) := by
 rcases h.2 with ⟨h1, h2⟩ | ⟨g, cap, cur, h1, h2, h3, h4, h5, h6, h7⟩
 ·refine ⟨none, 0, by rw [h1, h2], fun i x hx => ?_, by omega, by unfold maxLen; omega, (fun _ => rfl), (fun b o s e => by cases e)⟩
  have := (List.getElem?_eq_some_iff.1 hx).1; omega
 ·have hlt := (Array.getElem?_eq_some_iff.1 h3).1
  refine ⟨_, cap, h1, fun i x hx => ?_, h4, h5, (fun e => by cases e), (fun b o s e => by injection e with e; injection e with e; subst e; exact ⟨h2, hlt⟩)⟩
  have hi := (List.getElem?_eq_some_iff.1 hx).1
  refine ⟨g, 0, rfl, hlt, fun j u hu => ?_⟩
  have hj : j < k := by have := (List.getElem?_eq_some_iff.1 hu).1; rw [hk] at this; exact this
  have hb : i * k + j < l.length * k := by
   have : (i + 1) * k ≤ l.length * k := Nat.mul_le_mul_right k hi
   rw [Nat.succ_mul] at this
   omega
  rw [Nat.zero_add, cell_of_row w g _ cur E (0, 0) h3]
  have h8 := flat_get hk hx j hj
  rw [hu, ← h7, List.getElem?_take_of_lt hb] at h8
  rw [← h8]
  simp
theorem OwnG.lt (h : OwnG E k cs w base v l) {g : Nat} (hg : v.ownBlock = some g) : g < w.heap.size ∧ base ≤ g := by
 rcases h.2 with ⟨h1, h2⟩ | ⟨g', cap, cur, h1, h2, h3, _⟩
 ·rw [h1] at hg; cases hg
 ·rw [h1] at hg; injection hg with hg; subst hg; exact ⟨(Array.getElem?_eq_some_iff.1 h3).1, h2⟩
theorem OwnG.keep (h : OwnG E k cs w base v l) (hf : ∀ g, v.ownBlock = some g → w'.heap[g]? = w.heap[g]?) : OwnG E k cs w' base v l := by
 refine ⟨h.1, ?_⟩
 rcases h.2 with h1 | ⟨g', cap, cur, h1, h2, h3, h4⟩
 ·exact .inl h1
 ·exact .inr ⟨g', cap, cur, h1, h2, (hf g' (by rw [h1]; rfl)).trans h3, h4⟩
theorem OwnG.below {B : Nat} (h : OwnG E k cs w base v l) (hb : Below B w w') (hB : w.heap.size ≤ B) : OwnG E k cs w' base v l := h.keep fun g hg => hb.block g (by have := (h.lt hg).1; omega)
theorem OwnG.blk_of (h : OwnG E k cs w base v l) {g : Nat} (hg : v.ownBlock = some g) : ∃ cur, Blk w g E cur := by
 rcases h.2 with ⟨h1, h2⟩ | ⟨g', cap, cur, h1, h2, h3, _⟩
 ·rw [h1] at hg; cases hg
 ·rw [h1] at hg; injection hg with hg; subst hg; exact ⟨cur, h3⟩
theorem one_cells (x : α) (W : World) (t : TypeId) : ∀ j u, (([x] : List α).flatMap cs)[j]? = some u → (W.alloc (.cells (cs x).toArray t)).cell? ((⟨W.heap.size, 0, none⟩ : Addr).add j) = some u := by
 intro j u hj
 rw [add_plain, Nat.zero_add, (Blk.new W t _).cell]
 simpa using hj
end
theorem index_gen {P : Program} {t e : TypeId} {k : Nat} (ht : P.underlying t = some (.slice e)) (hi : (P.info? e).map (·.size) = some k) (b o n c i : Nat) (hlt : i < n) (w : World) :
  (Instr.indexAt t (.slice (some ⟨b, o, none⟩) n c) (.int .i64 (i : Int))).run P w = .ok (.pointer (some ⟨b, o + i * k, none⟩)) w := by
 cases hq : P.info? e with
 | none => simp [hq] at hi
 | some inf =>
  have hs : inf.size = k := by simpa [hq] using hi
  have h2 : (i : Int) < (n : Int) := by omega
  unfold Instr.indexAt asIntOf
  simp [run_underlying ht, Sem.run_bind, sizeOf, typeInfo, hq, hs, hlt, add_plain]
theorem wp_append {w : World} {o : Oper} {a : Act} {K : Act → World → Prop} {Q : Exit → Act → World → Prop} (T : TypeId) (s x : Operand) (ho : o.op = .call { callee := .builtin .append, args := #[s, x], argTypes := #[T, T] })
  {v y v' : Value} {w' : World} (hs : a.eval s = v) (hx : a.eval x = y) (hrun : (Builtin.append_ #[T, T] o.type #[v, y]).run Tryz.prog w = .ok v' w') (h : K (a.put o.dst v') w') : o.wp Tryz.prog a w K Q := by
 unfold Oper.wp execOp
 simp only [ho, resolve, invoke, builtin, Sem.run_bind, Sem.run_pure, Result.andThen_ok, List.map_toArray, List.map_cons, List.map_nil, hs, hx, hrun]
 exact h
end Gr
end Go.Proofs.YtgbehfkimchglaaGreatDoor
namespace Go.Proofs.YtgbehfkimchglaaGreatDoor
set_option maxRecDepth 100000
open Go.RowKit
set_option linter.unusedVariables false
theorem laidOut_ : laidOutB Tryz.prog = true := by kernel_rfl
theorem row_place : (167 : TypeId) < Tryz.prog.types.size := of_decide_eq_true (by kernel_rfl)
theorem wide_place : (match Tryz.prog.underlying 167 with | some (.array _ _) | some (.struct _) => true | _ => false) = true := by rw [Tryz.underlying167]
theorem law_place : WideMaps.KeyLaw Tryz.prog 167 := deep_law_laid laidOut_ (m := 2) (by omega) row_place (by kernel_rfl) wide_place
theorem keyed : Maps.Keyed Tryz.prog 167 := Maps.Keyed.of_law law_place
def pkey (d a : Nat) : Value := .agg #[.int .i64 (d : Int), .int .i64 (a : Int)]
theorem pkey_inj {d a d' a' : Nat} (h : pkey d a = pkey d' a') : d = d' ∧ a = a' := by
 unfold pkey at h
 simp at h
 omega
def RVp (p : Value → Bool) (v : Value) : Option (DataW Value × List MemPlace) := if p v then some (.held v, []) else none
theorem RVp_of {p : Value → Bool} {v : Value} (h : p v = true) : RVp p v = some (.held v, []) := if_pos h
def anyV (_ : Value) : Bool := true
theorem wf_nat {n : Nat} (h : n < 4611686018427387904) : (Lit.int .i64 (n : Int)).wf = true := WalkArith.wf_i64 (by omega)
noncomputable def klit (d a : Nat) : Lit := (keyOf Tryz.prog 167 (pkey d a)).getD (.bool false)
theorem key_ok {d a : Nat} (hd : d < 4611686018427387904) (ha : a < 4611686018427387904) : keyOf Tryz.prog 167 (pkey d a) = some (klit d a) := by
 have h : (keyOf Tryz.prog 167 (pkey d a)).isSome = true := by
  have hkt : Tryz.prog.keyType 167 = true := by kernel_rfl
  have hc : Tryz.prog.cellsOf 167 = 2 := by kernel_rfl
  have hc3 : Tryz.prog.cellsOf 3 = 1 := by kernel_rfl
  have w1 : (Lit.int .i64 (d : Int)).wf = true := wf_nat hd
  have w2 : (Lit.int .i64 (a : Int)).wf = true := wf_nat ha
  obtain ⟨m, hm⟩ : ∃ m, Tryz.prog.types.size = m + 1 := ⟨Tryz.prog.types.size.pred, (Nat.succ_pred_eq_of_pos (Nat.lt_of_le_of_lt (Nat.zero_le _) row_place)).symm⟩
  have hf : Value.formed Tryz.prog 167 (pkey d a) = true := by simp [pkey, Value.formed, Tryz.underlying167, hc]
  have hl : (Tryz.prog.keyLits (Tryz.prog.types.size + 1) 167 (pkey d a).cells.toList).isSome = true := by
   rw [hm]
   simp [pkey, Value.cells, Program.keyLits, Tryz.underlying167, Tryz.underlying3, hc, hc3, w1, w2]
  unfold keyOf
  rw [Tryz.underlying167]
  rw [if_pos (by rw [hkt, hf]; rfl)]
  rw [Option.isSome_map]
  exact hl
 unfold klit
 cases e : keyOf Tryz.prog 167 (pkey d a)
 ·rw [e] at h; cases h
 ·rfl
theorem key_inv {key : Value} {kl : Lit} (h : keyOf Tryz.prog 167 key = some kl) : ∃ i j : Int, key = .agg #[.int .i64 i, .int .i64 j] := by
 have hc : Tryz.prog.cellsOf 167 = 2 := by kernel_rfl
 have hc3 : Tryz.prog.cellsOf 3 = 1 := by kernel_rfl
 obtain ⟨m, hm⟩ : ∃ m, Tryz.prog.types.size = m + 1 := ⟨Tryz.prog.types.size.pred, (Nat.succ_pred_eq_of_pos (Nat.lt_of_le_of_lt (Nat.zero_le _) row_place)).symm⟩
 unfold keyOf at h
 rw [Tryz.underlying167] at h
 simp only at h
 split at h
 rotate_left
 ·cases h
 rename_i hf
 simp only [Bool.and_eq_true] at hf
 cases key <;> simp [Value.formed, Tryz.underlying167, hc] at hf
 rename_i cs
 obtain ⟨l, hl⟩ : ∃ l, cs.toList = l := ⟨_, rfl⟩
 have hsz : l.length = 2 := by rw [← hl, Array.length_toList]; exact hf.2
 obtain ⟨x, y, rfl⟩ : ∃ x y, l = [x, y] := by
  match l, hsz with
  | [x, y], _ => exact ⟨x, y, rfl⟩
 have hcs : cs = #[x, y] := by apply Array.toList_inj.1; rw [hl]
 subst hcs
 rw [hm] at h
 simp [Value.cells, Program.keyLits, Tryz.underlying167, Tryz.underlying3, hc, hc3] at h
 cases x <;> try (simp at h; done)
 rename_i q i
 dsimp only at h
 by_cases hq : q = IntKind.i64 ∧ (Lit.int .i64 i).wf = true
 rotate_left
 ·rw [if_neg hq] at h
  cases h
 rw [if_pos hq] at h
 obtain ⟨rfl, _⟩ := hq
 cases y <;> try (simp at h; done)
 rename_i q j
 by_cases hq : q = IntKind.i64 ∧ (Lit.int .i64 j).wf = true
 rotate_left
 ·simp [hq] at h
 obtain ⟨rfl, _⟩ := hq
 exact ⟨i, j, rfl⟩
theorem klit_inj {d a d' a' : Nat} (hd : d < 4611686018427387904) (ha : a < 4611686018427387904) (hd' : d' < 4611686018427387904) (ha' : a' < 4611686018427387904) (h : klit d a = klit d' a') : d = d' ∧ a = a' := by
 have h1 := key_ok hd ha
 have h2 := key_ok hd' ha'
 rw [h] at h1
 exact pkey_inj (keyed.inj h1 h2)
def MapFp (p : Value → Bool) (w : World) (b n : Nat) (F : Nat → Nat → Option Value) : Prop :=
 ∃ D : DataW Value, w.ownsMap Tryz.prog 167 (RVp p) b n D ∧ Maps.IsMap D ∧ ∀ d a, d < 4611686018427387904 → a < 4611686018427387904 → ∀ zd, D.atKey (klit d a) zd = (F d a).elim zd .held
abbrev MapF := MapFp anyV
section
variable {okv : Value → Bool} {w w' : World} {b n : Nat} {F : Nat → Nat → Option Value}
theorem MapFp.lt (h : MapFp okv w b n F) : b < w.heap.size := by obtain ⟨D, h1, _⟩ := h; exact h1.lt
theorem MapFp.isMap (h : MapFp okv w b n F) : ∃ es c, w.heap[b]? = some (.map es c) := by obtain ⟨D, ⟨es, c, h1, _⟩, _⟩ := h; exact ⟨es, c, h1⟩
def aggKey : Value → Bool
 | .agg _ => true
 | _ => false
theorem MapFp.isMapK (h : MapFp okv w b n F) : ∃ es c, w.heap[b]? = some (.map es c) ∧ (es.all fun e => aggKey e.key) = true := by
 obtain ⟨D, ⟨es, c, h1, h2, _⟩, _⟩ := h
 refine ⟨es, c, h1, ?_⟩
 rw [Array.all_eq_true']
 intro e he
 obtain ⟨l, hl⟩ := h2.keys e (Array.mem_toList_iff.2 he)
 obtain ⟨i, j, hk⟩ := key_inv hl
 rw [hk]
 rfl
theorem MapFp.block (h : MapFp okv w b n F) (hb : w'.heap[b]? = w.heap[b]?) : MapFp okv w' b n F := by
 obtain ⟨D, ⟨es, c, h1, h2⟩, h3⟩ := h
 exact ⟨D, ⟨es, c, hb.trans h1, h2⟩, h3⟩
theorem MapFp.drewN (h : MapFp okv w b n F) (k : Nat) : MapFp okv (w.drewN k) b n F := h
theorem MapFp.alloc (h : MapFp okv w b n F) (o : Obj) : MapFp okv (w.alloc o) b n F := h.block (Below.heap_alloc w o b h.lt)
theorem MapFp.setCell (h : MapFp okv w b n F) {p : Addr} (hp : b ≠ p.block) (u : Value) : MapFp okv (w.setCell p u) b n F := h.block (Below.heap_setCell w p u b hp)
theorem MapFp.grown {row : Option Nat} (h : MapFp okv w b n F) (hg : w.grownBy w' row) (hne : some b ≠ row) : MapFp okv w' b n F := h.block (hg.block b h.lt hne)
theorem MapFp.ne_blk (h : MapFp okv w b n F) {g : Nat} {t : TypeId} {cs : Array Value} (hg : Blk w g t cs) : b ≠ g := by
 obtain ⟨es, c, h1⟩ := h.isMap
 rintro rfl
 unfold Blk at hg
 rw [h1] at hg
 cases hg
theorem MapFp.congr (h : MapFp okv w b n F) {G : Nat → Nat → Option Value} (he : ∀ d a, d < 4611686018427387904 → a < 4611686018427387904 → F d a = G d a) : MapFp okv w b n G := by
 obtain ⟨D, h1, h2, h3⟩ := h
 exact ⟨D, h1, h2, fun d a hd ha zd => by rw [← he d a hd ha]; exact h3 d a hd ha zd⟩
theorem MapFp.made (w : World) : MapFp okv (w.alloc (.map #[] 0)) w.heap.size 0 (fun _ _ => none) :=
 ⟨_, World.ownsMap_made w Tryz.prog 167 (RVp okv), Maps.isMap_empty, fun d a _ _ zd => rfl⟩
def putF (F : Nat → Nat → Option Value) (d a : Nat) (v : Value) (d' a' : Nat) : Option Value := if d' = d ∧ a' = a then some v else F d' a'
theorem MapFp.put {t e : TypeId} (h : MapFp okv w b n F) (ht : Tryz.prog.underlying t = some (.map 167 e)) (hn : n < maxLen) {d a : Nat} (hd : d < 4611686018427387904) (ha : a < 4611686018427387904) (v : Value) (hv : okv v = true) :
  ∃ w', (Instr.mapUpdate t (.map (some b)) (pkey d a) v).run Tryz.prog w = .ok () w' ∧ MapFp okv w' b (n + 1) (putF F d a v) ∧ w.grownBy w' (some b) ∧ w'.heap.size = w.heap.size := by
 obtain ⟨D, h1, h2, h3⟩ := h
 obtain ⟨es, cl, hb, F0, hs, hD⟩ := h1
 obtain ⟨es', clock', hrun, F', hput, _⟩ := Maps.fit_store (R' := RVp okv) keyed ht hb F0 (Nat.lt_of_le_of_lt hs hn) (fun _ _ _ _ hz => hz) (key_ok hd ha) (RVp_of hv)
 obtain ⟨w2, hrun2, r1, r2⟩ := World.ownsMap.update ⟨es, cl, hb, F0, hs, hD⟩ keyed ht hn (key_ok hd ha) (RVp_of hv)
 have hw : w2 = ChangeMaps.setBlock w b (.map es' clock') := by
  rw [hrun] at hrun2
  injection hrun2 with _ e
  exact e.symm
 refine ⟨w2, hrun2, ⟨_, r1, h2.put _ _, ?_⟩, r2, by rw [hw]; simp [ChangeMaps.setBlock]⟩
 intro d' a' hd' ha' zd
 unfold putF
 by_cases e : d' = d ∧ a' = a
 ·obtain ⟨rfl, rfl⟩ := e
  rw [if_pos ⟨rfl, rfl⟩, Maps.atKey_put_same h2 (keyed.key (key_ok hd ha))]
  rfl
 ·rw [if_neg e, Maps.atKey_put_other (fun x => e (klit_inj hd' ha' hd ha x))]
  exact h3 d' a' hd' ha' zd
theorem wpList_mapPut {ops : Array Oper} {rest : List Oper} {o : Oper} {ac : Act} {Q : Exit → Act → World → Prop}
  (hg : o.guard = none) (m x v : Operand) (t e : TypeId) (hop : o.op = Op.mapUpdate t m x v) (ht : Tryz.prog.underlying t = some (.map 167 e)) (b n : Nat) (F : Nat → Nat → Option Value)
  (hm : ac.eval m = .map (some b)) (h : MapFp okv w b n F) (hn : n < maxLen) (d a : Nat) (hd : d < 4611686018427387904) (ha : a < 4611686018427387904) (val : Value) (hx : ac.eval x = pkey d a) (hv : ac.eval v = val) (hpv : okv val = true)
  (hK : ∀ w', MapFp okv w' b (n + 1) (putF F d a val) → w.grownBy w' (some b) → w'.heap.size = w.heap.size → wpList Tryz.prog ops Q rest (ac.put o.dst undef) w') :
  wpList Tryz.prog ops Q (o :: rest) ac w := by
 refine wpList_plain hg fun K' hK' => ?_
 obtain ⟨w', hrun, r1, r2, r3⟩ := h.put ht hn hd ha val hpv
 unfold Oper.wp
 simp [execOp, hop, hm, hx, hv, hrun, Result.andThen]
 exact hK' _ _ (hK w' r1 r2 r3)
end
end Go.Proofs.YtgbehfkimchglaaGreatDoor
