/-
 Bytes that come in, as contracts read them. Conditions: what the reading of an argument gives.
-/
import Derived.Test.YtgbehfkimchglaaGreatDoorStrBM
import Derived.ProofKit
import Derived.Deep.Matrix
import Derived.Laws.CopyOwn
import Derived.Test.YtgbehfkimchglaaGreatDoorRackMapM
namespace Go.Proofs.YtgbehfkimchglaaGreatDoor
set_option maxRecDepth 100000
open Go Go.RowKit Go.ChangeShapes Go.WideShapes Go.ChangeAt
set_option linter.unusedVariables false
def RdB (w : World) (B : Nat) (A : Option Addr) (n : Nat) (x : Nat → Nat) : Prop :=
 ∀ j, j < n → ∃ b o, A = some ⟨b, o, none⟩ ∧ b < B ∧ w.cell? ⟨b, o + j, none⟩ = some (.int .u8 (x j : Nat)) ∧ x j < 256
theorem RdB.below {w w' : World} {B B' : Nat} {A : Option Addr} {n : Nat} {x : Nat → Nat} (h : RdB w B A n x) (hb : Below B' w w') (hB : B ≤ B') : RdB w' B A n x := by
 intro j hj
 obtain ⟨b, o, h1, h2, h3, h4⟩ := h j hj
 exact ⟨b, o, h1, h2, (hb.cell (p := ⟨b, o + j, none⟩) (by show b < B'; omega)).trans h3, h4⟩
section
variable {H : Type} {enc : TypeId × Value → H} {P : Program} {W : World} {base : Nat} {held : Bool}
end
theorem rdb_of_blk {w : World} {g n : Nat} {X : Nat → Nat} (h : Blk w g 5 (rowArr n X)) (hX : ∀ i, i < n → X i < 256) : RdB w (g + 1) (some ⟨g, 0, none⟩) n X := by
 intro j hj
 refine ⟨g, 0, rfl, by omega, ?_, hX j hj⟩
 rw [Nat.zero_add, h.cell, rowArr_get hj]
theorem Only.cell {g : Nat} {a w : World} (h : Only g a w) {p : Addr} {v : Value} (hc : a.cell? p = some v) (hne : p.block ≠ g) : w.cell? p = some v := by
 rw [← hc]
 exact World.cell?_of_block (h.block p.block (block_lt_of_cell hc) (fun e => hne (by injection e)))
theorem size_u8 : (Tryz.prog.info? 5).map (·.size) = some 1 := by kernel_rfl
theorem wpList_copyB {w : World} {ops : Array Oper} {rest : List Oper} {o : Oper} {a : Act} {Q : Exit → Act → World → Prop} (hgd : o.guard = none) (d s : Operand) (dT sT : TypeId)
  (ho : o.op = .call { callee := .builtin .copy, args := #[d, s], argTypes := #[dT, sT] }) (hu : Tryz.prog.underlying dT = some (.slice 5))
  (g n b off sLen sCap : Nat) (hd : a.eval d = .slice (some ⟨g, 0, none⟩) n n) (hs : a.eval s = .slice (some ⟨b, off, none⟩) sLen sCap)
  (f x : Nat → Nat) (hg : Blk w g 5 (rowArr n f)) (hx : ∀ j, j < sLen → w.cell? ⟨b, off + j, none⟩ = some (.int .u8 (x j : Nat))) (hle : sLen ≤ n)
  (h : ∀ w', Blk w' g 5 (rowArr n (fun j => if j < sLen then x j else f j)) → Only g w w' → w'.heap.size = w.heap.size → wpList Tryz.prog ops Q rest (a.put o.dst (goInt sLen)) w') :
  wpList Tryz.prog ops Q (o :: rest) a w := by
 have hrs : (rowArr n f).size = n := by simp [rowArr]
 refine wpList_copy_own hgd d s dT sT ho 5 hu size_u8 g 0 n n ⟨b, off, none⟩ sLen sCap hd hs (rowArr n f) 5 hg ((List.range sLen).map fun j => .int .u8 ((x j : Nat) : Int)) (by simp; exact (Nat.min_eq_left hle).symm) ?_ (by simp [hrs]; exact hle) ?_ ?_
 ·intro j v hj
  simp only [List.getElem?_map] at hj
  by_cases hjl : j < sLen
  ·simp [hjl] at hj
   subst hj
   have e : (⟨b, off, none⟩ : Addr).add j = ⟨b, off + j, none⟩ := by unfold Addr.add; split <;> simp_all
   rw [e]
   exact hx j hjl
  ·simp [hjl] at hj
 ·intro v hv
  simp at hv
  obtain ⟨j, _, rfl⟩ := hv
  rfl
 ·have e1 : ((rowArr n f).toList.take 0 ++ (((List.range sLen).map fun j => Value.int .u8 ((x j : Nat) : Int)) ++ (rowArr n f).toList.drop (0 + ((List.range sLen).map fun j => Value.int .u8 ((x j : Nat) : Int)).length))).toArray = rowArr n (fun j => if j < sLen then x j else f j) := by
   apply Array.ext_getElem?
   intro j
   by_cases hj : j < n
   ·rw [rowArr_get hj]
    by_cases hjl : j < sLen
    ·simp only [List.take_zero, List.nil_append, List.getElem?_toArray]
     rw [List.getElem?_append_left (by simp; exact hjl), if_pos hjl]
     simp [hjl]
    ·have hgt := rowArr_get (f := f) hj
     have e2 : sLen + (j - sLen) = j := by omega
     simp [hjl, List.getElem?_append, e2, hgt]
   ·rw [Array.getElem?_eq_none (by simp [hrs]; omega), Array.getElem?_eq_none (by simp [rowArr]; omega)]
  rw [e1]
  have e3 : ((List.range sLen).map fun j => Value.int .u8 ((x j : Nat) : Int)).length = sLen := by simp
  rw [e3]
  exact h _ (setRow_heap w g _ _ _ _ hg) ⟨rfl, rfl, rfl, by simp, fun k hk hne => setRow_other w g k _ (fun e => hne (by rw [e]))⟩ (by simp)
theorem wpList_copy0 {w : World} {ops : Array Oper} {rest : List Oper} {o : Oper} {a : Act} {Q : Exit → Act → World → Prop} (hgd : o.guard = none) (d s : Operand) (dT sT : TypeId)
  (ho : o.op = .call { callee := .builtin .copy, args := #[d, s], argTypes := #[dT, sT] }) (hu : Tryz.prog.underlying dT = some (.slice 5))
  (g n m sCap c : Nat) (A : Option Addr) (hd : a.eval d = .slice (some ⟨g, 0, none⟩) n c) (hs : a.eval s = .slice A m sCap) (e0 : Nat.min m n = 0)
  (h : wpList Tryz.prog ops Q rest (a.put o.dst (goInt 0)) w) : wpList Tryz.prog ops Q (o :: rest) a w := by
 refine wpList_plain hgd fun K hK => ?_
 have hrun : (Builtin.copy_ #[dT, sT] o.type #[.slice (some ⟨g, 0, none⟩) n c, .slice A m sCap]).run Tryz.prog w = .ok (goInt 0) w := by
  have h0 : ∀ ad : Addr, (loadCells ad 0).run Tryz.prog w = .ok #[] w := fun ad => run_loadCells_list (P := Tryz.prog) w ad [] (fun j v hv => by simp at hv)
  have h1 : (sizeOf 5).run Tryz.prog w = .ok 1 w := by
   unfold sizeOf typeInfo
   cases hq : Tryz.prog.info? 5 with
   | none => have := size_u8; rw [hq] at this; cases this
   | some i => have := size_u8; rw [hq] at this; simp at this; simp [Sem.run_bind, hq, this]
  cases A <;> simp [Builtin.copy_, run_underlying hu, Sem.run_bind, Builtin.lenOf, h1, Builtin.firstCells, storeCells, e0, h0]
 unfold Oper.wp
 simp [execOp, ho, resolve, invoke, builtin, hd, hs, hrun, Result.andThen]
 exact hK _ _ h
set_option maxRecDepth 100000 in
theorem wpList_copyRd {w : World} {ops : Array Oper} {rest : List Oper} {o : Oper} {a : Act} {Q : Exit → Act → World → Prop} (hgd : o.guard = none) (d s : Operand) (dT sT : TypeId)
  (ho : o.op = .call { callee := .builtin .copy, args := #[d, s], argTypes := #[dT, sT] }) (hu : Tryz.prog.underlying dT = some (.slice 5))
  (g n m sCap B : Nat) (A : Option Addr) (hd : a.eval d = .slice (some ⟨g, 0, none⟩) n n) (hs : a.eval s = .slice A m sCap)
  (f x : Nat → Nat) (hg : Blk w g 5 (rowArr n f)) (hx : RdB w B A m x) (hle : m ≤ n)
  (h : ∀ w', Blk w' g 5 (rowArr n (fun j => if j < m then x j else f j)) → Only g w w' → w'.heap.size = w.heap.size → wpList Tryz.prog ops Q rest (a.put o.dst (goInt m)) w') :
  wpList Tryz.prog ops Q (o :: rest) a w := by
 by_cases h0 : m = 0
 ·subst h0
  refine wpList_copy0 hgd d s dT sT ho hu g n 0 sCap n A hd hs (Nat.zero_min n) ?_
  exact h w (by rw [show (rowArr n fun j => if j < 0 then x j else f j) = rowArr n f from rowArr_congr fun c _ => if_neg (by omega)]; exact hg) (Only.refl _ _) rfl
 ·obtain ⟨b, off, rfl, _⟩ := hx 0 (by omega)
  exact wpList_copyB hgd d s dT sT ho hu g n b off m sCap hd hs f x hg (fun j hj => by
   obtain ⟨b', o', e, _, h3, _⟩ := hx j hj
   injection e with e
   injection e with e1 e2
   subst e1; subst e2
   exact h3) hle h
set_option maxRecDepth 100000 in
theorem wpList_copyFull {w : World} {ops : Array Oper} {rest : List Oper} {o : Oper} {a : Act} {Q : Exit → Act → World → Prop} (hgd : o.guard = none) (d s : Operand) (dT sT : TypeId)
  (ho : o.op = .call { callee := .builtin .copy, args := #[d, s], argTypes := #[dT, sT] }) (hu : Tryz.prog.underlying dT = some (.slice 5))
  (g n m sCap B : Nat) (A : Option Addr) (hd : a.eval d = .slice (some ⟨g, 0, none⟩) n n) (hs : a.eval s = .slice A m sCap)
  (f x : Nat → Nat) (hg : Blk w g 5 (rowArr n f)) (hx : RdB w B A m x) (hle : n ≤ m)
  (h : ∀ w', Blk w' g 5 (rowArr n x) → Only g w w' → w'.heap.size = w.heap.size → wpList Tryz.prog ops Q rest (a.put o.dst (goInt n)) w') :
  wpList Tryz.prog ops Q (o :: rest) a w := by
 by_cases h0 : n = 0
 ·subst h0
  refine wpList_copy0 hgd d s dT sT ho hu g 0 m sCap 0 A hd hs (Nat.min_zero m) ?_
  exact h w (by rw [show (rowArr 0 x) = rowArr 0 f from rowArr_congr fun c hc => absurd hc (by omega)]; exact hg) (Only.refl _ _) rfl
 ·obtain ⟨b, off, rfl, _⟩ := hx 0 (by omega)
  have hrs : (rowArr n f).size = n := by simp [rowArr]
  have hmin : Nat.min m n = n := Nat.min_eq_right hle
  refine wpList_copy_own hgd d s dT sT ho 5 hu size_u8 g 0 n n ⟨b, off, none⟩ m sCap hd hs (rowArr n f) 5 hg ((List.range n).map fun j => .int .u8 ((x j : Nat) : Int)) (by simp only [List.length_map, List.length_range]; exact hmin.symm) ?_ (by simp [hrs]) ?_ ?_
  ·intro j v hj
   simp only [List.getElem?_map] at hj
   by_cases hjl : j < n
   ·simp [hjl] at hj
    subst hj
    obtain ⟨b', o', e, _, h3, _⟩ := hx j (by omega)
    injection e with e
    injection e with e1 e2
    subst e1; subst e2
    rw [add_plain]
    exact h3
   ·simp [hjl] at hj
  ·intro v hv
   simp at hv
   obtain ⟨j, _, rfl⟩ := hv
   rfl
  ·have e1 : ((rowArr n f).toList.take 0 ++ (((List.range n).map fun j => Value.int .u8 ((x j : Nat) : Int)) ++ (rowArr n f).toList.drop (0 + ((List.range n).map fun j => Value.int .u8 ((x j : Nat) : Int)).length))).toArray = rowArr n x := by
    apply Array.ext_getElem?
    intro j
    by_cases hj : j < n
    ·rw [rowArr_get hj]
     simp only [List.take_zero, List.nil_append, List.getElem?_toArray]
     rw [List.getElem?_append_left (by simp; exact hj)]
     simp [hj]
    ·rw [Array.getElem?_eq_none (by simp [hrs]; omega), Array.getElem?_eq_none (by simp [rowArr]; omega)]
   rw [e1]
   have e3 : ((List.range n).map fun j => Value.int .u8 ((x j : Nat) : Int)).length = n := by simp
   rw [e3]
   exact h _ (setRow_heap w g _ _ _ _ hg) ⟨rfl, rfl, rfl, by simp, fun k hk hne => setRow_other w g k _ (fun e => hne (by rw [e]))⟩ (by simp)
def subA (A : Option Addr) (c lo : Nat) : Option Addr := if c = lo then A else A.map (·.add lo)
theorem RdB.sub {w : World} {B n c lo : Nat} {A : Option Addr} {x : Nat → Nat} (h : RdB w B A n x) (hc : n ≤ c) : RdB w B (subA A c lo) (n - lo) (fun j => x (lo + j)) := fun j hj => by
 obtain ⟨b, o, rfl, h2, h3, h4⟩ := h (lo + j) (by omega)
 refine ⟨b, o + lo, ?_, h2, by rw [Nat.add_assoc]; exact h3, h4⟩
 unfold subA
 rw [if_neg (by omega)]
 simp [add_plain]
theorem sizeOf_u8 (w : World) : (sizeOf 5).run Tryz.prog w = .ok 1 w := by
 unfold sizeOf typeInfo
 cases hq : Tryz.prog.info? 5 with
 | none => have := size_u8; rw [hq] at this; cases this
 | some i => have := size_u8; rw [hq] at this; simp at this; simp [Sem.run_bind, hq, this]
theorem slice_from (A : Option Addr) (n c lo : Nat) (L : Int) (hL : L = (lo : Int)) (h : lo ≤ n) (w : World) :
  (Instr.sliceAt 76 (.slice A n c) (some (.int .i64 L)) none none).run Tryz.prog w = .ok (.slice (subA A c lo) (n - lo) (c - lo)) w := by
 subst hL
 have hu : Tryz.prog.underlying 76 = some (.slice (Tryz.prog.elem 76)) := by kernel_rfl
 have he : Tryz.prog.elem 76 = 5 := by kernel_rfl
 rw [run_sliceAt_slice (P := Tryz.prog) (w := w) (h := hu), run_slice_l (P := Tryz.prog) (w := w) 76 A n c hu .i64 (lo : Int) (by omega) (by omega), he, sizeOf_u8]
 simp [sliced, subA]
end Go.Proofs.YtgbehfkimchglaaGreatDoor
namespace Go.Proofs.YtgbehfkimchglaaGreatDoor
open Go Go.RowKit
set_option maxRecDepth 100000
set_option linter.unusedVariables false
namespace Sto
structure Kx where
 addr : Int
 sum : ByteArray
 dat : List Nat
 hA : Option Addr
 hn : Nat
 hc : Nat
def csK (x : Kx) : List Value := [.int .i64 x.addr, .string x.sum, .slice x.hA x.hn x.hc]
theorem csK_one (x : Kx) : ∀ u ∈ csK x, u.oneCell' = true := fun u hu => by
 simp [csK] at hu
 rcases hu with rfl | rfl | rfl <;> rfl
theorem info_kb : (Tryz.prog.info? 202).map (fun i => (i.zero, i.size, i.bytes)) = some (some (.agg #[.int .i64 0, .string ⟨#[]⟩, .slice none 0 0]), 3, 48) := by kernel_rfl
def Byt (w : World) (A : Option Addr) (l : List Nat) : Prop := (∀ x ∈ l, x < 256) ∧ (l = [] ∨ ∃ g o cur fr, A = some ⟨g, o, none⟩ ∧ w.heap[g]? = some (.cells cur 5 fr) ∧ ∀ (j x : Nat), l[j]? = some x → cur[o + j]? = some (.int .u8 (x : Int)))
structure Kx.ok (w : World) (x : Kx) : Prop where
 len : x.hn = x.dat.length
 cap : x.hn ≤ x.hc ∧ x.hc ≤ maxLen
 few : x.dat.length ≤ 1024
 byt : Byt w x.hA x.dat
theorem Byt.keep {w w' : World} {A : Option Addr} {l : List Nat} (h : Byt w A l) (hk : ∀ (g : Nat) (cur : Array Value) (fr : Nat × Nat), w.heap[g]? = some (.cells cur 5 fr) → w'.heap[g]? = some (.cells cur 5 fr)) : Byt w' A l := by
 refine ⟨h.1, ?_⟩
 rcases h.2 with e | ⟨g, o, cur, fr, e1, e2, e3⟩
 ·exact .inl e
 ·exact .inr ⟨g, o, cur, fr, e1, hk _ _ _ e2, e3⟩
theorem Kx.ok.keep {w w' : World} {x : Kx} (h : x.ok w) (hk : ∀ (g : Nat) (cur : Array Value) (fr : Nat × Nat), w.heap[g]? = some (.cells cur 5 fr) → w'.heap[g]? = some (.cells cur 5 fr)) : x.ok w' := ⟨h.len, h.cap, h.few, h.byt.keep hk⟩
theorem Byt.rdb {w : World} {A : Option Addr} {l : List Nat} (h : Byt w A l) : RdB w w.heap.size A l.length (fun j => l.getD j 0) := fun j hj => by
 rcases h.2 with e | ⟨g, o, cur, fr, e1, e2, e3⟩
 ·rw [e] at hj; exact absurd hj (by simp)
 ·have hx : l[j]? = some l[j] := List.getElem?_eq_getElem hj
  have hd : l.getD j 0 = l[j] := by rw [List.getD_eq_getElem?_getD, hx]; rfl
  refine ⟨g, o, e1, (Array.getElem?_eq_some_iff.1 e2).1, ?_, by show l.getD j 0 < 256; rw [hd]; exact h.1 _ (List.getElem_mem hj)⟩
  show w.cell? _ = some (.int .u8 ((l.getD j 0 : Nat) : Int))
  rw [cell_of_row w g (o + j) cur _ fr e2, hd]
  exact e3 j _ hx
structure Row (w : World) (base : Nat) (v : Value) (l : List Kx) : Prop where
 own : Gr.OwnG 202 3 csK w base v l
 ok : ∀ x ∈ l, x.ok w
def idx (a : Int) (l : List Kx) : Nat := l.findIdx fun x => x.addr == a
theorem idx_le (a : Int) (l : List Kx) : idx a l ≤ l.length := List.findIdx_le_length
def plc (a : Int) (l : List Kx) : Int := if idx a l < l.length then (idx a l : Int) else -1
def cut (a : Int) (l : List Kx) : List Kx := l.take (idx a l) ++ l.drop (idx a l + 1)
theorem cut_none {a : Int} {l : List Kx} (h : ¬ idx a l < l.length) : cut a l = l := by
 unfold cut
 rw [List.take_of_length_le (by omega), List.drop_of_length_le (by have := idx_le a l; omega), List.append_nil]
theorem cut_mem {a : Int} {l : List Kx} {x : Kx} (h : x ∈ cut a l) : x ∈ l := by
 unfold cut at h
 rcases List.mem_append.1 h with h | h
 ·exact List.mem_of_mem_take h
 ·exact List.mem_of_mem_drop h
theorem cut_len (a : Int) (l : List Kx) : (cut a l).length ≤ l.length := by
 unfold cut
 rw [List.length_append, List.length_take, List.length_drop]
 omega
def old (l : List Kx) : List Kx := if l.length = 64 then l.drop 1 else l
theorem old_len {l : List Kx} (h : l.length ≤ 64) : (old l).length ≤ 63 := by
 unfold old
 split
 ·rw [List.length_drop]; omega
 ·omega
end Sto
end Go.Proofs.YtgbehfkimchglaaGreatDoor
