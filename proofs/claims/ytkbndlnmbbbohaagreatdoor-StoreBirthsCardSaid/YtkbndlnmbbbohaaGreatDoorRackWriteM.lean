/-
  The map of a space has three entries at most. No conditions beyond those that each theorem types.
-/
import Derived.Test.YtkbndlnmbbbohaaGreatDoorSpcDupRelM
import Derived.IntWalk
import Derived.Test.YtkbndlnmbbbohaaGreatDoorStrBM
import Derived.Test.YtkbndlnmbbbohaaGreatDoorSpcPartM
import Derived.Laws.CopyOwn
import Derived.Deep.RegionHeld3
import Derived.Deep.AppendLies
namespace Go.Proofs.YtkbndlnmbbbohaaGreatDoor
open Go Go.RowKit
set_option maxRecDepth 100000
set_option linter.unusedVariables false
namespace Sp
open Go.WideElems (Fit rd rg rd_key rg_of) in
theorem MapI.three {w : World} {b n : Nat} {F : Nat → Option Value} (h : MapI w b n F) : MapI w b 3 F := by
  obtain ⟨D, ⟨es, clock, hb, FT, hs, hD⟩, h2, h3, h4⟩ := h
  refine ⟨D, ⟨es, clock, hb, FT, ?_, hD⟩, h2, h3, h4⟩
  have hkey : ∀ x ∈ es.toList, ∃ k, k < 3 ∧ x.key = ikey k := fun x hx => by
    obtain ⟨y, hy⟩ := FT.reads x hx
    have hk := rd_key hy
    have hm : (rg Tryz.prog 127 RVi x) ∈ (es.toList.map (rg Tryz.prog 127 RVi)).foldr DataW.insert [] := mem_sorted.2 (List.mem_map_of_mem hx)
    rw [rg_of hy] at hm
    have hh : Maps.has D y.1 = true := by
      rw [hD, Maps.has_eq, List.any_eq_true]
      exact ⟨y, hm, WideAt.sameKey_self (keyedI.key hk)⟩
    obtain ⟨k, hk3, e⟩ := h4 _ hh
    rw [e] at hk
    obtain ⟨z, e1, e2, _⟩ := Maps.keyOf_int_inv Tryz.underlying127 hk
    refine ⟨k, hk3, ?_⟩
    rw [e1]
    unfold ilit at e2
    injection e2 with _ e2
    rw [← e2]
    rfl
  have hnd : (es.toList.map (·.key)).Nodup := FT.stamped.2.2
  rw [← Array.length_toList]
  generalize es.toList = l at hkey hnd
  match l, hkey, hnd with
  | [], _, _ => simp
  | [_], _, _ => simp
  | [_, _], _, _ => simp
  | [_, _, _], _, _ => simp
  | x1 :: x2 :: x3 :: x4 :: r, hkey, hnd =>
    obtain ⟨k1, a1, e1⟩ := hkey x1 (by simp)
    obtain ⟨k2, a2, e2⟩ := hkey x2 (by simp)
    obtain ⟨k3, a3, e3⟩ := hkey x3 (by simp)
    obtain ⟨k4, a4, e4⟩ := hkey x4 (by simp)
    simp only [List.map_cons, List.nodup_cons, List.mem_cons, not_or, e1, e2, e3, e4] at hnd
    have n12 : k1 ≠ k2 := fun e => hnd.1.1 (by rw [e])
    have n13 : k1 ≠ k3 := fun e => hnd.1.2.1 (by rw [e])
    have n14 : k1 ≠ k4 := fun e => hnd.1.2.2.1 (by rw [e])
    have n23 : k2 ≠ k3 := fun e => hnd.2.1.1 (by rw [e])
    have n24 : k2 ≠ k4 := fun e => hnd.2.1.2.1 (by rw [e])
    have n34 : k3 ≠ k4 := fun e => hnd.2.2.1.1 (by rw [e])
    omega
theorem Spc.three {w : World} {base b m n : Nat} {F : Nat → Option Value} {V : Nat → Value} {s : SS} (h : Spc w base b m n F V s) : Spc w base b m 3 F V s :=
  ⟨⟨h.mem.blk, h.mem.map.three, h.mem.val, h.mem.own, h.mem.apart, h.mem.lo⟩, h.good⟩
end Sp
end Go.Proofs.YtkbndlnmbbbohaaGreatDoor
namespace Go.Proofs.YtkbndlnmbbbohaaGreatDoor
open Go Go.RowKit
set_option maxRecDepth 100000
set_option linter.unusedVariables false
namespace Sp
end Sp
end Go.Proofs.YtkbndlnmbbbohaaGreatDoor
namespace Go.Proofs.YtkbndlnmbbbohaaGreatDoor
open Go Go.RowKit
set_option maxRecDepth 100000
set_option linter.unusedVariables false
namespace Sp
def addL (l0 m : List Rg) : List Rg := m.foldl (fun acc r => withL r.1 r.2 acc) l0
end Sp
end Go.Proofs.YtkbndlnmbbbohaaGreatDoor
namespace Go.Proofs.YtkbndlnmbbbohaaGreatDoor
open Go Go.RowKit
set_option maxRecDepth 100000
set_option linter.unusedVariables false
namespace Sp
section
variable {w w2 : World} {base b m n : Nat} {F : Nat → Option Value} {V : Nat → Value} {s : SS}
theorem Mem.three (h : Mem w base b m n F V s) : Mem w base b m 3 F V s := ⟨h.blk, h.map.three, h.val, h.own, h.apart, h.lo⟩
theorem Mem.drop {k : Nat} (h : Mem w base b m n F V s) (hk : k < 3) (hm : MapI w2 m n (delI F k)) (hg : w.grownBy w2 (some m)) :
    Mem w2 base b m n (delI F k) (updV V k (.slice none 0 0)) (s.upd k []) ∧ Chg w w2 b m V (updV V k (.slice none 0 0)) := by
  have hbm : b ≠ m := fun e => h.map.ne_blk h.blk e.symm
  have hv : ∀ j, j < 3 → ∀ g, (V j).ownBlock = some g → g ≠ m := fun j hj g hg e => (h.own_ne hj).2 (by rw [hg, e])
  refine ⟨⟨Blk_grown h.blk hg (fun e => by injection e with e; exact hbm e), hm, fun j hj => ?_, fun j hj => ?_, fun i j hi hj hij g hgi hgj => ?_, h.lo⟩, ⟨hg.os, hg.tape, hg.output, hg.size, fun g hlt hgb hgm _ => hg.block g hlt (fun e => by injection e with e; exact hgm e), fun j hj g hgj => ?_⟩⟩
  · unfold delI updV SS.upd
    by_cases e : j = k
    · simp only [if_pos e]; rfl
    · simp only [if_neg e]; exact h.val j hj
  · unfold updV SS.upd
    by_cases e : j = k
    · simp only [if_pos e]; exact Own.nil _ _
    · simp only [if_neg e]; exact (h.own j hj).grown hg (fun g hg' e' => by injection e' with e'; exact hv j hj g hg' e')
  · unfold updV at hgi hgj
    by_cases e1 : i = k
    · rw [if_pos e1] at hgi; cases hgi
    · by_cases e2 : j = k
      · rw [if_pos e2] at hgj; cases hgj
      · rw [if_neg e1] at hgi
        rw [if_neg e2] at hgj
        exact h.apart i j hi hj hij g hgi hgj
  · unfold updV at hgj
    by_cases e : j = k
    · rw [if_pos e] at hgj; cases hgj
    · rw [if_neg e] at hgj
      exact .inr ⟨j, hj, hgj⟩
end
/-- some of what is on its way is free already -/
def SS.half (s : SS) (i : Nat) : SS := (s.upd 2 []).upd 0 (addL (s.S 0) ((s.S 2).take i))
end Sp
end Go.Proofs.YtkbndlnmbbbohaaGreatDoor
namespace Go.Proofs.YtkbndlnmbbbohaaGreatDoor
open Go Go.RowKit
set_option maxRecDepth 100000
set_option linter.unusedVariables false
namespace Sp
/-- ranges that are handed in: any numbers -/
def RdZ2 (w : World) (A : Option Addr) (l : List (Int × Int)) : Prop := ∀ i r, l[i]? = some r → ∃ b o, A = some ⟨b, o, none⟩ ∧ b < w.heap.size ∧ w.cell? ⟨b, o + i * 2, none⟩ = some (.int .i64 r.1) ∧ w.cell? ⟨b, o + i * 2 + 1, none⟩ = some (.int .i64 r.2)
theorem RdZ2.below {w w' : World} {A : Option Addr} {l : List (Int × Int)} (h : RdZ2 w A l) (hb : Below w.heap.size w w') : RdZ2 w' A l := fun i r hr => by
  obtain ⟨b, o, h1, h2, h3, h4⟩ := h i r hr
  exact ⟨b, o, h1, Nat.lt_of_lt_of_le h2 hb.size, (hb.cell (p := ⟨b, o + i * 2, none⟩) h2).trans h3, (hb.cell (p := ⟨b, o + i * 2 + 1, none⟩) h2).trans h4⟩
def putAll : SS → List (Int × Int) → Option SS
  | s, [] => some s
  | s, r :: l => if hasL r.1.toNat r.2.toNat (s.S 0) then putAll (s.mv 0 1 r.1.toNat r.2.toNat) l else none
theorem Chg.below {w w' : World} {base b m n : Nat} {F : Nat → Option Value} {V V' : Nat → Value} {s : SS} (c : Chg w w' b m V V') (h : Mem w base b m n F V s) (hb : base ≤ w.heap.size) : Below base w w' :=
  ⟨c.os, c.tape, c.output, c.size, fun g hg => c.block g (by omega) (fun e => by have := h.lo.1; omega) (fun e => by have := h.lo.2; omega) fun k hk e => by have := ((h.own k hk).lt e).2; omega⟩
/-- half way: so many have been put in -/
def PutRel (s0 : SS) (l : List (Int × Int)) (i : Nat) (s : SS) : Prop := putAll s0 l = putAll s (l.drop i)
theorem PutRel.yes {s0 s : SS} {l : List (Int × Int)} {i : Nat} {r : Int × Int} (h : PutRel s0 l i s) (hr : l[i]? = some r) (hh : hasL r.1.toNat r.2.toNat (s.S 0) = true) : PutRel s0 l (i + 1) (s.mv 0 1 r.1.toNat r.2.toNat) := by
  obtain ⟨hi, he⟩ := List.getElem?_eq_some_iff.1 hr
  unfold PutRel at h ⊢
  rw [h, List.drop_eq_getElem_cons hi, he]
  show (if hasL r.1.toNat r.2.toNat (s.S 0) then _ else _) = _
  rw [if_pos hh]
theorem PutRel.no {s0 s : SS} {l : List (Int × Int)} {i : Nat} {r : Int × Int} (h : PutRel s0 l i s) (hr : l[i]? = some r) (hh : hasL r.1.toNat r.2.toNat (s.S 0) = false) : putAll s0 l = none := by
  obtain ⟨hi, he⟩ := List.getElem?_eq_some_iff.1 hr
  unfold PutRel at h
  rw [h, List.drop_eq_getElem_cons hi, he]
  show (if hasL r.1.toNat r.2.toNat (s.S 0) then _ else _) = _
  rw [if_neg (by simp [hh])]
end Sp
end Go.Proofs.YtkbndlnmbbbohaaGreatDoor
namespace Go.Proofs.YtkbndlnmbbbohaaGreatDoor
open Go Go.RowKit
set_option maxRecDepth 100000
set_option linter.unusedVariables false
namespace Sp
def k1 : SS := (allFree 10).mv 0 1 2 4
def k2 : SS := k1.mv 0 1 4 7
def k3 : SS := k2.mv 1 2 2 4
end Sp
end Go.Proofs.YtkbndlnmbbbohaaGreatDoor
namespace Go.Proofs.YtkbndlnmbbbohaaGreatDoor
open Go Go.RowKit
set_option maxRecDepth 100000
set_option linter.unusedVariables false
namespace Sp
/-- the space at block b keeps s; all that it has lies from block B on -/
def SpA (B : Nat) (w : World) (b m : Nat) (s : SS) : Prop := B ≤ w.heap.size ∧ ∃ F V, Spc w B b m 3 F V s
section
variable {B : Nat} {w w' : World} {b m : Nat} {s : SS}
theorem SpA.good (h : SpA B w b m s) : Good s := by obtain ⟨_, F, V, h⟩ := h; exact h.good
theorem SpA.keep (h : SpA B w b m s) (hb : Below w.heap.size w w') : SpA B w' b m s := by
  obtain ⟨h0, F, V, h⟩ := h
  exact ⟨Nat.le_trans h0 hb.size, F, V, h.mem.below hb (Nat.le_refl _), h.good⟩
theorem SpA.blk (h : SpA B w b m s) : B ≤ b ∧ b < w.heap.size := by obtain ⟨_, F, V, h⟩ := h; exact ⟨h.mem.lo.1, h.mem.blk.lt⟩
theorem SpA.of (h0 : B ≤ w.heap.size) {n : Nat} {F : Nat → Option Value} {V : Nat → Value} (h : Spc w B b m n F V s) : SpA B w b m s := ⟨h0, F, V, h.three⟩
end
/-- what a take answers, and leaves -/
def takeS (s : SS) (j : Int) : (Int × Int) × SS :=
  if j < 1 then ((0, 1), s) else match rowL j.toNat (s.S 0) with
    | none => ((0, 5), s)
    | some x => if j.toNat + s.kept ≤ cnt (s.S 0) then (((x : Int), 0), s.mv 0 1 x (x + j.toNat)) else ((0, 5), s)
section
variable {B : Nat} {w : World} {b m : Nat} {s : SS}
end
end Sp
end Go.Proofs.YtkbndlnmbbbohaaGreatDoor
namespace Go.Proofs.YtkbndlnmbbbohaaGreatDoor
open Go Go.RowKit
set_option maxRecDepth 100000
set_option linter.unusedVariables false
namespace Sp
/-- only blocks of O, and what is new, may have changed -/
structure Frm (O : Nat → Prop) (w w' : World) : Prop where
  os : w'.os = w.os
  tape : w'.tape = w.tape
  output : w'.output = w.output
  size : w.heap.size ≤ w'.heap.size
  block : ∀ g, g < w.heap.size → ¬ O g → w'.heap[g]? = w.heap[g]?
/-- the space lies in blocks of O -/
def SpO (O : Nat → Prop) (w : World) (b m : Nat) (s : SS) : Prop := (∀ g, O g → g < w.heap.size) ∧ O b ∧ O m ∧ ∃ F V, Spc w 0 b m 3 F V s ∧ ∀ k, k < 3 → ∀ g, (V k).ownBlock = some g → O g
section
variable {O O2 : Nat → Prop} {B : Nat} {w w' : World} {b m b2 m2 : Nat} {s s2 : SS}
theorem Spc.zero {n : Nat} {F : Nat → Option Value} {V : Nat → Value} (h : Spc w B b m n F V s) : Spc w 0 b m n F V s :=
  ⟨⟨h.mem.blk, h.mem.map, h.mem.val, fun k hk => (h.mem.own k hk).base_ (Nat.zero_le _), h.mem.apart, ⟨Nat.zero_le _, Nat.zero_le _⟩⟩, h.good⟩
theorem SpA.o (h : SpA B w b m s) : SpO (fun g => B ≤ g ∧ g < w.heap.size) w b m s := by
  obtain ⟨h0, F, V, hs⟩ := h
  exact ⟨fun g hg => hg.2, ⟨hs.mem.lo.1, hs.mem.blk.lt⟩, ⟨hs.mem.lo.2, hs.mem.map.lt⟩, F, V, hs.zero, fun k hk g hg => ⟨((hs.mem.own k hk).lt hg).2, ((hs.mem.own k hk).lt hg).1⟩⟩
theorem SpO.keep (h : SpO O w b m s) (hz : w.heap.size ≤ w'.heap.size) (hf : ∀ g, O g → w'.heap[g]? = w.heap[g]?) : SpO O w' b m s := by
  obtain ⟨h0, h1, h2, F, V, hs, hv⟩ := h
  exact ⟨fun g hg => Nat.lt_of_lt_of_le (h0 g hg) hz, h1, h2, F, V, ⟨hs.mem.keep (hf b h1) (hf m h2) (fun k hk g hg => hf g (hv k hk g hg)), hs.good⟩, hv⟩
/-- what stands in other blocks stays -/
theorem SpO.beside (h : SpO O w b m s) (hf : Frm O2 w w') (hd : ∀ g, O g → ¬ O2 g) : SpO O w' b m s :=
  h.keep hf.size fun g hg => hf.block g (h.1 g hg) (hd g hg)
theorem SpO.a (h : SpO O w b m s) (hB : ∀ g, O g → B ≤ g) (hs : B ≤ w.heap.size) : SpA B w b m s := by
  obtain ⟨h0, h1, h2, F, V, hs', hv⟩ := h
  refine ⟨hs, F, V, ⟨⟨hs'.mem.blk, hs'.mem.map, hs'.mem.val, fun k hk => ?_, hs'.mem.apart, ⟨hB b h1, hB m h2⟩⟩, hs'.good⟩⟩
  rcases hs'.mem.own k hk with ⟨e1, e2⟩ | ⟨q, c, cur, e1, e2, e3, e4⟩
  · exact .inl ⟨e1, e2⟩
  · exact .inr ⟨q, c, cur, e1, hB q (hv k hk q (by rw [e1]; rfl)), e3, e4⟩
def More (O : Nat → Prop) (w w' : World) (g : Nat) : Prop := O g ∨ (w.heap.size ≤ g ∧ g < w'.heap.size)
theorem Frm.refl (O : Nat → Prop) (w : World) : Frm O w w := ⟨rfl, rfl, rfl, Nat.le_refl _, fun _ _ _ => rfl⟩
theorem Frm.of (h : Below w.heap.size w w') (O : Nat → Prop) : Frm O w w' := ⟨h.os, h.tape, h.output, h.size, fun g hg _ => h.block g hg⟩
theorem SpO.more (h : SpO O w b m s) (hz : w.heap.size ≤ w'.heap.size) (hf : ∀ g, O g → w'.heap[g]? = w.heap[g]?) : SpO (More O w w') w' b m s := by
  obtain ⟨h0, h1, h2, F, V, hs, hv⟩ := h.keep hz hf
  refine ⟨fun g hg => ?_, .inl h1, .inl h2, F, V, hs, fun k hk g hg => .inl (hv k hk g hg)⟩
  rcases hg with hg | hg
  · exact h0 g hg
  · exact hg.2
theorem takeS_nat (s : SS) (k : Nat) (hk : 1 ≤ k) : takeS s (k : Int) = match rowL k (s.S 0) with | none => ((0, 5), s) | some x => if k + s.kept ≤ cnt (s.S 0) then (((x : Int), 0), s.mv 0 1 x (x + k)) else ((0, 5), s) := by
  unfold takeS
  rw [if_neg (by omega), Int.toNat_natCast]
  try rfl
theorem Frm.below (h : Frm O w w') (hB : ∀ g, O g → B ≤ g) (hs : B ≤ w.heap.size) : Below B w w' :=
  ⟨h.os, h.tape, h.output, h.size, fun g hg => h.block g (by omega) (fun ho => by have := hB g ho; omega)⟩
end
end Sp
end Go.Proofs.YtkbndlnmbbbohaaGreatDoor
namespace Go.Proofs.YtkbndlnmbbbohaaGreatDoor
set_option maxRecDepth 100000
open Go.RowKit
set_option linter.unusedVariables false

def waitI (D A : Int) (x : Nat → Nat) : Array Value := #[.int .i64 D, .int .i64 A] ++ secA x
theorem waitI_size (D A : Int) (x : Nat → Nat) : (waitI D A x).size = 130 := by simp [waitI, secA, rowArr_size]
theorem waitI_one (D A : Int) (x : Nat → Nat) : (waitI D A x).all (·.oneCell') = true := by
  unfold waitI
  rw [Array.all_append, secA_one]
  simp [Value.oneCell']
theorem waitI_0 (D A : Int) (x : Nat → Nat) : (waitI D A x)[0]? = some (.int .i64 D) := by
  unfold waitI
  rw [Array.getElem?_append_left (by simp)]
  rfl
theorem waitI_1 (D A : Int) (x : Nat → Nat) : (waitI D A x)[1]? = some (.int .i64 A) := by
  unfold waitI
  rw [Array.getElem?_append_left (by simp)]
  rfl
theorem zset (D A : Int) : ((waitA ⟨0, 0, zeros⟩).toList.set 0 (.int .i64 D)).set 1 (.int .i64 A) = (waitI D A zeros).toList := by
  unfold waitA waitI
  rw [Array.toList_append, Array.toList_append]
  rfl
/-- what the walk asks of a new waiting write: its zero value, a letter; and how it is laid -/
theorem new_waiting (w : World) (D A : Int) : ∃ Z : Array Value, Z.size = 130 ∧ (∀ w, (Sem.run Tryz.prog (zeroValue 124) w) = .ok (.agg Z) w) ∧
    (storeCells ⟨w.heap.size, 0, none⟩ ((Z.toList.set 0 (.int .i64 D)).set 1 (.int .i64 A)) 0).run Tryz.prog (w.alloc (.cells Z 124)) = .ok () (w.alloc (.cells (waitI D A zeros) 124)) := by
  refine ⟨waitA ⟨0, 0, zeros⟩, waitA_size _, zero_waiting, ?_⟩
  rw [zset]
  exact run_storeCells_new w _ _ _ (by rw [waitI_size]; exact isize_waiting) (by rw [waitA_size, waitI_size]) (waitI_one D A zeros)

/-- behind a write that is carried out -/
def RS.wrote (s : RS) (d a : Nat) (X : Nat → Nat) : RS := { s with nw := s.nw + 1, W := fun i => if i = s.nw then ⟨d, a, X⟩ else s.W i, cost := s.cost + 1 }
theorem copyW (D A : Int) (X : Nat → Nat) : ((waitI D A zeros).toList.take 2 ++ (rowL 128 X ++ (waitI D A zeros).toList.drop (2 + (rowL 128 X).length))).toArray = waitI D A X := by
  have e1 : (waitI D A zeros).toList.take 2 = [.int .i64 D, .int .i64 A] := by
    unfold waitI
    rw [Array.toList_append, List.take_append_of_le_length (by simp)]
    rfl
  have e2 : (waitI D A zeros).toList.drop (2 + (rowL 128 X).length) = [] := by
    rw [List.drop_eq_nil_iff, Array.length_toList, waitI_size, rowL_length]
    omega
  have e3 : (secA X).toList = rowL 128 X := by
    apply List.ext_getElem?
    intro j
    rw [Array.getElem?_toList]
    by_cases hj : j < 128
    · rw [rowL_get X hj]
      exact rowArr_get hj
    · rw [Array.getElem?_eq_none (by rw [secA_size]; omega), List.getElem?_eq_none (by rw [rowL_length]; omega)]
  rw [e1, e2, List.append_nil, ← e3]
  unfold waitI
  apply Array.toList_inj.1
  simp
theorem spent_same (s : RS) : s.spent.nd = s.nd ∧ s.spent.ns = s.ns ∧ s.spent.nw = s.nw ∧ s.spent.W = s.W ∧ s.spent.cost = s.cost ∧ s.spent.last = s.last ∧ s.spent.gone = s.gone := by
  unfold RS.spent
  split
  · exact ⟨rfl, rfl, rfl, rfl, rfl, rfl, rfl⟩
  · split
    · exact ⟨rfl, rfl, rfl, rfl, rfl, rfl, rfl⟩
    · split <;> exact ⟨rfl, rfl, rfl, rfl, rfl, rfl, rfl⟩

section
variable {B : Nat} {a w w' w4 w5 w6 w7 : World} {r m1 m2 : Nat} {v v' : Value} {s : RS}
theorem Keep.grownRow (h : Keep B a w) {n c : Nat} {xs : List Value} (hr : w.ownsRow B 124 c v n xs) (hB : B ≤ w.heap.size) (hg : w.grownBy w' v.ownBlock) : Keep B a w' := by
  cases hv : v.ownBlock with
  | none =>
    rw [hv] at hg
    exact h.new ⟨hg.os, hg.tape, hg.output, hg.size, fun k hk => hg.block k hk (fun e => by cases e)⟩ hB
  | some g =>
    rw [hv] at hg
    obtain ⟨h1, cs, h2⟩ := own_blk hr hv
    exact h.of_grown hg h1 hB (fun o ho => by
      unfold Blk at h2
      rw [h2] at ho
      injection ho with ho
      subst ho
      rfl)
/-- a rack behind the append and the store of a write -/
theorem RackK.wrote (h : RackK B w4 r m1 m2 v s s.nw) {d a : Nat} {X : Nat → Nat} (hg5 : w4.grownBy w5 (some m2)) (hm5 : MapF w5 m2 (s.nw + 1) (putF (fun d a => (newIn s.W d a s.nw).map iv) d a (.int .i64 (s.nw : Int)))) (n6 : Below w5.heap.size w5 w6)
    (hg7 : w6.grownBy w7 v.ownBlock) (hr7 : w7.ownsRow B 124 130 v' (s.nw + 1) (flat s.W s.nw ++ (waitI d a X).toList)) : RackW B (w7.setCell ⟨r, 3, none⟩ v') r m1 m2 v' (s.wrote d a X) := by
  obtain ⟨n, F, f1, f2, f3⟩ := h.last
  have b5 := h.blk.grown hg5 (fun e => h.ne2 (by injection e with e; exact e.symm))
  have b7 := (b5.new_ n6).grown hg7 (fun e => h.row_ne e.symm)
  have l5 := f2.grown hg5 (fun e => h.ne (by injection e))
  have l7 := (l5.block (n6.block m1 l5.lt)).grown hg7 (fun e => h.row_ne1 e.symm)
  have k7 := (hm5.block (n6.block m2 hm5.lt)).grown hg7 (fun e => h.row_ne2 e.symm)
  have hne : v'.ownBlock ≠ some r := fun e => by
    obtain ⟨_, cs, hb⟩ := own_blk hr7 e
    exact Blk.ne_ hb b7 (by decide) rfl
  have eW : (s.wrote d a X).W s.nw = ⟨d, a, X⟩ := if_pos rfl
  have eV : ∀ i, i < s.nw → (s.wrote d a X).W i = s.W i := fun i hi => if_neg (Nat.ne_of_lt hi)
  refine ⟨?_, h.hr, h.h1, h.h2, h.ne, ⟨n, F, ?_, l7.setCell (p := ⟨r, 3, none⟩) h.ne1 _, f3⟩, ?_, ?_⟩
  · have := b7.set_ 3 v'
    rw [rackA_set (s' := s.wrote d a X) (m1' := m1) (m2' := m2) (v' := v') (u := v') (by omega) rfl (fun j hj hn => by
      unfold rackCell
      simp only [RS.wrote, if_neg hn])] at this
    exact this
  · show n + (s.nw + 1) ≤ s.cost + 1
    omega
  · refine (k7.setCell (p := ⟨r, 3, none⟩) h.ne2 _).congr fun d' a' _ _ => ?_
    have h1 := newIn_put (s.wrote d a X).W s.nw d' a'
    rw [eW] at h1
    refine Eq.trans ?_ h1
    unfold putF
    dsimp only
    rw [newIn_congr (W := (s.wrote d a X).W) (V := s.W) (fun i hi => by rw [eV i hi]; exact ⟨rfl, rfl⟩)]
  · have e : flat (s.wrote d a X).W (s.wrote d a X).nw = flat s.W s.nw ++ (waitI d a X).toList := by
      show flat (s.wrote d a X).W s.nw ++ (waitA ((s.wrote d a X).W s.nw)).toList = _
      rw [eW, flat_congr eV]
      rfl
    rw [e]
    refine ⟨hr7.1, ?_⟩
    rcases hr7.2 with e | ⟨g, cap, cur, rfl, g1, g2, g3⟩
    · exact .inl e
    · exact .inr ⟨g, cap, cur, rfl, g1, (Below.heap_setCell w7 ⟨r, 3, none⟩ _ g (fun e => hne (by rw [e]; rfl))).trans g2, g3⟩
theorem RS.ok.wrote (h : s.ok) {d a : Nat} {X : Nat → Nat} (hd : d < s.nd) (ha : a < s.ns) (hX : ∀ j, j < 128 → X j < 256) (hc : s.cost + 1 ≤ 1000000) : (s.wrote d a X).ok := by
  refine ⟨h.nd1, h.nd2, h.ns1, h.ns2, h.left, hc, fun i hi => ?_, h.lp⟩
  by_cases e : i = s.nw
  · have : (s.wrote d a X).W i = ⟨d, a, X⟩ := if_pos e
    rw [this]
    exact ⟨hd, ha, hX⟩
  · have : (s.wrote d a X).W i = s.W i := if_neg e
    rw [this]
    exact h.wp i (by have : i < s.nw + 1 := hi; omega)
end

theorem info_waiting : (Tryz.prog.info? 124).map (fun i => (i.zero, i.size, i.bytes)) = some (some (.agg (waitI 0 0 zeros)), 130, 144) := by kernel_rfl
theorem isize_waits : (Tryz.prog.info? 64).map (·.size) = some 1 := by kernel_rfl
theorem bs_waiting (D A : Int) (X : Nat → Nat) (w : World) : (Instr.buildSlice 64 1 #[(0, .agg (waitI D A X))]).run Tryz.prog w = .ok (.slice (some ⟨w.heap.size, 0, none⟩) 1 1) (w.alloc (.cells (waitI D A X) 124)) := by kernel_rfl
theorem waitI_cells1 (D A : Int) (X : Nat → Nat) : (waitI D A X).toList.length = 1 * 130 := by rw [Array.length_toList, waitI_size]
theorem wp_append_wait {w : World} {o : Oper} {a : Act} {K : Act → World → Prop} {Q : Exit → Act → World → Prop} (s x : Operand) (ho : o.op = .call { callee := .builtin .append, args := #[s, x], argTypes := #[64, 64] })
    (B : Nat) (v : Value) (n : Nat) (xs : List Value) (hs : a.eval s = v) (hown : w.ownsRow B 124 130 v n xs) (g : Nat) (D A : Int) (X : Nat → Nat) (hx : a.eval x = .slice (some ⟨g, 0, none⟩) 1 1) (hb : Blk w g 124 (waitI D A X))
    (hn : n ≤ 1000000) (hB : B ≤ w.heap.size)
    (h : ∀ g' cap w', w'.ownsRow B 124 130 (.slice (some ⟨g', 0, none⟩) (n + 1) cap) (n + 1) (xs ++ (waitI D A X).toList) → w.grownBy w' v.ownBlock → (v.ownBlock = some g' ∨ g' = w.heap.size) → g' < w'.heap.size → K (a.put o.dst (.slice (some ⟨g', 0, none⟩) (n + 1) cap)) w') : o.wp Tryz.prog a w K Q := by
  obtain ⟨i0, hi, hz0, hz1, hz2⟩ := info_parts info_waiting
  have hl : (Value.agg (waitI 0 0 zeros)).cells.size = 130 := waitI_size 0 0 zeros
  exact wp_append_lies w s x 64 ho B 124 i0 (.agg (waitI 0 0 zeros)) 130 144 Tryz.underlying64 hi hz0 hz1 hz2 hl (by omega) v n xs hs hown ⟨g, 0, none⟩ 1 1 (waitI D A X).toList hx (waitI_cells1 D A X) (World.news_of_block hb) (fun u hu => (Array.all_eq_true_iff_forall_mem.1 (waitI_one D A X)) u (by simpa using hu)) (by omega) (by simp only [maxLen]; omega) (by omega) hB _ rfl h
def AppS (r wx : Nat) (v : Value) (cs : Array Value) (w : World) : Prop := w.cell? ⟨r, 3, none⟩ = some v ∧ Blk w wx 124 cs

end Go.Proofs.YtkbndlnmbbbohaaGreatDoor
