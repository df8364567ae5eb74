/-
 'New' of a space with used ranges, by one contract. Conditions: what is handed in can be read, and its numbers are of 64 bits.
-/
import Derived.Test.YtgbehfkimchglaaGreatDoorSpcSettleM
import Derived.IntWalk
import Derived.Test.YtgbehfkimchglaaGreatDoorStrBM
import Derived.Test.YtgbehfkimchglaaGreatDoorSpcPartM
import Derived.Laws.CopyOwn
import Derived.Deep.RegionHeld3
import Derived.Deep.AppendLies
import Derived.Maps.RangeWalk
namespace Go.Proofs.YtgbehfkimchglaaGreatDoor
open Go Go.RowKit
set_option maxRecDepth 100000
set_option linter.unusedVariables false
namespace Sp
end Sp
end Go.Proofs.YtgbehfkimchglaaGreatDoor
namespace Go.Proofs.YtgbehfkimchglaaGreatDoor
open Go Go.RowKit
set_option maxRecDepth 100000
set_option linter.unusedVariables false
namespace Sp
def k1 : SS := (allFree 10).mv 0 1 2 4
def k2 : SS := k1.mv 0 1 4 7
def k3 : SS := k2.mv 1 2 2 4
end Sp
end Go.Proofs.YtgbehfkimchglaaGreatDoor
namespace Go.Proofs.YtgbehfkimchglaaGreatDoor
open Go Go.RowKit
set_option maxRecDepth 100000
set_option linter.unusedVariables false
namespace Sp
def SpA (B : Nat) (w : World) (b m : Nat) (s : SS) : Prop := B ≤ w.heap.size ∧ ∃ F V, Spc w B b m 3 F V s
section
variable {B : Nat} {w w' : World} {b m : Nat} {s : SS}
theorem SpA.keep (h : SpA B w b m s) (hb : Below w.heap.size w w') : SpA B w' b m s := by
 obtain ⟨h0, F, V, h⟩ := h
 exact ⟨Nat.le_trans h0 hb.size, F, V, h.mem.below hb (Nat.le_refl _), h.good⟩
end
def takeS (s : SS) (j : Int) : (Int × Int) × SS :=
 if j < 1 then ((0, 1), s) else match rowL j.toNat (s.S 0) with
  | none => ((0, 5), s)
  | some x => if j.toNat + s.kept ≤ cnt (s.S 0) then (((x : Int), 0), s.mv 0 1 x (x + j.toNat)) else ((0, 5), s)
def giveS (s : SS) (a j : Int) : Int × SS :=
 if j < 1 ∨ a < 0 ∨ (s.cells : Int) - j < a then (1, s) else if hasL a.toNat (a.toNat + j.toNat) (s.S 1) then (0, s.mv 1 2 a.toNat (a.toNat + j.toNat)) else (7, s)
section
variable {B : Nat} {w : World} {b m : Nat} {s : SS}
theorem free_at (h : SpA B w b m s) : Calls Tryz.prog 28 #[.pointer (some ⟨b, 0, none⟩)] w fun e w' => e = .returned (.int .i64 ((cnt (s.S 0) : Int) - (s.kept : Int))) ∧ SpA B w' b m s ∧ Below w.heap.size w w' := by
 obtain ⟨h0, F, V, hs⟩ := h
 exact (free_rg hs).mono fun e w' ⟨h1, h2⟩ => ⟨h1, SpA.keep ⟨h0, F, V, hs⟩ h2, h2⟩
theorem used_at (h : SpA B w b m s) : Calls Tryz.prog 54 #[.pointer (some ⟨b, 0, none⟩)] w fun e w' => ∃ v', e = .returned v' ∧ Own w' w.heap.size v' (s.S 1) ∧ SpA B w' b m s ∧ Below w.heap.size w w' := by
 obtain ⟨h0, F, V, hs⟩ := h
 exact (used_rg hs h0).mono fun e w' ⟨v', h1, h2, h3⟩ => ⟨v', h1, h2, SpA.keep ⟨h0, F, V, hs⟩ h3, h3⟩
end
end Sp
end Go.Proofs.YtgbehfkimchglaaGreatDoor
namespace Go.Proofs.YtgbehfkimchglaaGreatDoor
open Go Go.RowKit
set_option maxRecDepth 100000
set_option linter.unusedVariables false
namespace Sp
structure Frm (O : Nat → Prop) (w w' : World) : Prop where
 os : w'.os = w.os
 tape : w'.tape = w.tape
 output : w'.output = w.output
 size : w.heap.size ≤ w'.heap.size
 block : ∀ g, g < w.heap.size → ¬ O g → w'.heap[g]? = w.heap[g]?
section
variable {O O2 : Nat → Prop} {B : Nat} {w w' : World} {b m b2 m2 : Nat} {s s2 : SS}
def More (O : Nat → Prop) (w w' : World) (g : Nat) : Prop := O g ∨ (w.heap.size ≤ g ∧ g < w'.heap.size)
theorem Frm.of (h : Below w.heap.size w w') (O : Nat → Prop) : Frm O w w' := ⟨h.os, h.tape, h.output, h.size, fun g hg _ => h.block g hg⟩
theorem takeS_nat (s : SS) (k : Nat) (hk : 1 ≤ k) : takeS s (k : Int) = match rowL k (s.S 0) with | none => ((0, 5), s) | some x => if k + s.kept ≤ cnt (s.S 0) then (((x : Int), 0), s.mv 0 1 x (x + k)) else ((0, 5), s) := by
 unfold takeS
 rw [if_neg (by omega), Int.toNat_natCast]
 try rfl
end
end Sp
end Go.Proofs.YtgbehfkimchglaaGreatDoor
namespace Go.Proofs.YtgbehfkimchglaaGreatDoor
set_option maxRecDepth 100000
open Go.RowKit
set_option linter.unusedVariables false
def waitI (D A : Int) (x : Nat → Nat) : Array Value := #[.int .i64 D, .int .i64 A] ++ secA x
theorem waitI_size (D A : Int) (x : Nat → Nat) : (waitI D A x).size = 130 := by simp [waitI, secA, rowArr_size]
theorem waitI_one (D A : Int) (x : Nat → Nat) : (waitI D A x).all (·.oneCell') = true := by
 unfold waitI
 rw [Array.all_append, secA_one]
 simp [Value.oneCell']
theorem waitI_0 (D A : Int) (x : Nat → Nat) : (waitI D A x)[0]? = some (.int .i64 D) := by
 unfold waitI
 rw [Array.getElem?_append_left (by simp)]
 rfl
theorem waitI_1 (D A : Int) (x : Nat → Nat) : (waitI D A x)[1]? = some (.int .i64 A) := by
 unfold waitI
 rw [Array.getElem?_append_left (by simp)]
 rfl
theorem zset (D A : Int) : ((waitA ⟨0, 0, zeros⟩).toList.set 0 (.int .i64 D)).set 1 (.int .i64 A) = (waitI D A zeros).toList := by
 unfold waitA waitI
 rw [Array.toList_append, Array.toList_append]
 rfl
theorem new_waiting (w : World) (D A : Int) : ∃ Z : Array Value, Z.size = 130 ∧ (∀ w, (Sem.run Tryz.prog (zeroValue 176) w) = .ok (.agg Z) w) ∧
  (storeCells ⟨w.heap.size, 0, none⟩ ((Z.toList.set 0 (.int .i64 D)).set 1 (.int .i64 A)) 0).run Tryz.prog (w.alloc (.cells Z 176)) = .ok () (w.alloc (.cells (waitI D A zeros) 176)) := by
 refine ⟨waitA ⟨0, 0, zeros⟩, waitA_size _, zero_waiting, ?_⟩
 rw [zset]
 exact run_storeCells_new w _ _ _ (by rw [waitI_size]; exact isize_waiting) (by rw [waitA_size, waitI_size]) (waitI_one D A zeros)
def RS.wrote (s : RS) (d a : Nat) (X : Nat → Nat) : RS := { s with nw := s.nw + 1, W := fun i => if i = s.nw then ⟨d, a, X⟩ else s.W i, cost := s.cost + 1 }
theorem copyW (D A : Int) (X : Nat → Nat) : ((waitI D A zeros).toList.take 2 ++ (rowL 128 X ++ (waitI D A zeros).toList.drop (2 + (rowL 128 X).length))).toArray = waitI D A X := by
 have e1 : (waitI D A zeros).toList.take 2 = [.int .i64 D, .int .i64 A] := by
  unfold waitI
  rw [Array.toList_append, List.take_append_of_le_length (by simp)]
  rfl
 have e2 : (waitI D A zeros).toList.drop (2 + (rowL 128 X).length) = [] := by
  rw [List.drop_eq_nil_iff, Array.length_toList, waitI_size, rowL_length]
  omega
 have e3 : (secA X).toList = rowL 128 X := by
  apply List.ext_getElem?
  intro j
  rw [Array.getElem?_toList]
  by_cases hj : j < 128
  ·rw [rowL_get X hj]
   exact rowArr_get hj
  ·rw [Array.getElem?_eq_none (by rw [secA_size]; omega), List.getElem?_eq_none (by rw [rowL_length]; omega)]
 rw [e1, e2, List.append_nil, ← e3]
 unfold waitI
 apply Array.toList_inj.1
 simp
theorem spent_same (s : RS) : s.spent.nd = s.nd ∧ s.spent.ns = s.ns ∧ s.spent.nw = s.nw ∧ s.spent.W = s.W ∧ s.spent.cost = s.cost ∧ s.spent.last = s.last ∧ s.spent.gone = s.gone := by
 unfold RS.spent
 split
 ·exact ⟨rfl, rfl, rfl, rfl, rfl, rfl, rfl⟩
 ·split
  ·exact ⟨rfl, rfl, rfl, rfl, rfl, rfl, rfl⟩
  ·split <;> exact ⟨rfl, rfl, rfl, rfl, rfl, rfl, rfl⟩
section
variable {B : Nat} {a w w' w4 w5 w6 w7 : World} {r m1 m2 : Nat} {v v' : Value} {s : RS}
theorem Keep.grownRow (h : Keep B a w) {n c : Nat} {xs : List Value} (hr : w.ownsRow B 176 c v n xs) (hB : B ≤ w.heap.size) (hg : w.grownBy w' v.ownBlock) : Keep B a w' := by
 cases hv : v.ownBlock with
 | none =>
  rw [hv] at hg
  exact h.new ⟨hg.os, hg.tape, hg.output, hg.size, fun k hk => hg.block k hk (fun e => by cases e)⟩ hB
 | some g =>
  rw [hv] at hg
  obtain ⟨h1, cs, h2⟩ := own_blk hr hv
  exact h.of_grown hg h1 hB (fun o ho => by
   unfold Blk at h2
   rw [h2] at ho
   injection ho with ho
   subst ho
   rfl)
theorem RackK.wrote (h : RackK B w4 r m1 m2 v s s.nw) {d a : Nat} {X : Nat → Nat} (hg5 : w4.grownBy w5 (some m2)) (hm5 : MapF w5 m2 (s.nw + 1) (putF (fun d a => (newIn s.W d a s.nw).map iv) d a (.int .i64 (s.nw : Int)))) (n6 : Below w5.heap.size w5 w6)
  (hg7 : w6.grownBy w7 v.ownBlock) (hr7 : w7.ownsRow B 176 130 v' (s.nw + 1) (flat s.W s.nw ++ (waitI d a X).toList)) : RackW B (w7.setCell ⟨r, 3, none⟩ v') r m1 m2 v' (s.wrote d a X) := by
 obtain ⟨n, F, f1, f2, f3⟩ := h.last
 have b5 := h.blk.grown hg5 (fun e => h.ne2 (by injection e with e; exact e.symm))
 have b7 := (b5.new_ n6).grown hg7 (fun e => h.row_ne e.symm)
 have l5 := f2.grown hg5 (fun e => h.ne (by injection e))
 have l7 := (l5.block (n6.block m1 l5.lt)).grown hg7 (fun e => h.row_ne1 e.symm)
 have k7 := (hm5.block (n6.block m2 hm5.lt)).grown hg7 (fun e => h.row_ne2 e.symm)
 have hne : v'.ownBlock ≠ some r := fun e => by
  obtain ⟨_, cs, hb⟩ := own_blk hr7 e
  exact Blk.ne_ hb b7 (by decide) rfl
 have eW : (s.wrote d a X).W s.nw = ⟨d, a, X⟩ := if_pos rfl
 have eV : ∀ i, i < s.nw → (s.wrote d a X).W i = s.W i := fun i hi => if_neg (Nat.ne_of_lt hi)
 refine ⟨?_, h.hr, h.h1, h.h2, h.ne, ⟨n, F, ?_, l7.setCell (p := ⟨r, 3, none⟩) h.ne1 _, f3⟩, ?_, ?_⟩
 ·have := b7.set_ 3 v'
  rw [rackA_set (s' := s.wrote d a X) (m1' := m1) (m2' := m2) (v' := v') (u := v') (by omega) rfl (fun j hj hn => by
   unfold rackCell
   simp only [RS.wrote, if_neg hn])] at this
  exact this
 ·show n + (s.nw + 1) ≤ s.cost + 1
  omega
 ·refine (k7.setCell (p := ⟨r, 3, none⟩) h.ne2 _).congr fun d' a' _ _ => ?_
  have h1 := newIn_put (s.wrote d a X).W s.nw d' a'
  rw [eW] at h1
  refine Eq.trans ?_ h1
  unfold putF
  dsimp only
  rw [newIn_congr (W := (s.wrote d a X).W) (V := s.W) (fun i hi => by rw [eV i hi]; exact ⟨rfl, rfl⟩)]
 ·have e : flat (s.wrote d a X).W (s.wrote d a X).nw = flat s.W s.nw ++ (waitI d a X).toList := by
   show flat (s.wrote d a X).W s.nw ++ (waitA ((s.wrote d a X).W s.nw)).toList = _
   rw [eW, flat_congr eV]
   rfl
  rw [e]
  refine ⟨hr7.1, ?_⟩
  rcases hr7.2 with e | ⟨g, cap, cur, rfl, g1, g2, g3⟩
  ·exact .inl e
  ·exact .inr ⟨g, cap, cur, rfl, g1, (Below.heap_setCell w7 ⟨r, 3, none⟩ _ g (fun e => hne (by rw [e]; rfl))).trans g2, g3⟩
theorem RS.ok.wrote (h : s.ok) {d a : Nat} {X : Nat → Nat} (hd : d < s.nd) (ha : a < s.ns) (hX : ∀ j, j < 128 → X j < 256) (hc : s.cost + 1 ≤ 1000000) : (s.wrote d a X).ok := by
 refine ⟨h.nd1, h.nd2, h.ns1, h.ns2, h.left, hc, fun i hi => ?_, h.lp⟩
 by_cases e : i = s.nw
 ·have : (s.wrote d a X).W i = ⟨d, a, X⟩ := if_pos e
  rw [this]
  exact ⟨hd, ha, hX⟩
 ·have : (s.wrote d a X).W i = s.W i := if_neg e
  rw [this]
  exact h.wp i (by have : i < s.nw + 1 := hi; omega)
end
theorem info_waiting : (Tryz.prog.info? 176).map (fun i => (i.zero, i.size, i.bytes)) = some (some (.agg (waitI 0 0 zeros)), 130, 144) := by kernel_rfl
theorem isize_waits : (Tryz.prog.info? 124).map (·.size) = some 1 := by kernel_rfl
theorem bs_waiting (D A : Int) (X : Nat → Nat) (w : World) : (Instr.buildSlice 124 1 #[(0, .agg (waitI D A X))]).run Tryz.prog w = .ok (.slice (some ⟨w.heap.size, 0, none⟩) 1 1) (w.alloc (.cells (waitI D A X) 176)) := by kernel_rfl
theorem waitI_cells1 (D A : Int) (X : Nat → Nat) : (waitI D A X).toList.length = 1 * 130 := by rw [Array.length_toList, waitI_size]
theorem wp_append_wait {w : World} {o : Oper} {a : Act} {K : Act → World → Prop} {Q : Exit → Act → World → Prop} (s x : Operand) (ho : o.op = .call { callee := .builtin .append, args := #[s, x], argTypes := #[124, 124] })
  (B : Nat) (v : Value) (n : Nat) (xs : List Value) (hs : a.eval s = v) (hown : w.ownsRow B 176 130 v n xs) (g : Nat) (D A : Int) (X : Nat → Nat) (hx : a.eval x = .slice (some ⟨g, 0, none⟩) 1 1) (hb : Blk w g 176 (waitI D A X))
  (hn : n ≤ 1000000) (hB : B ≤ w.heap.size)
  (h : ∀ g' cap w', w'.ownsRow B 176 130 (.slice (some ⟨g', 0, none⟩) (n + 1) cap) (n + 1) (xs ++ (waitI D A X).toList) → w.grownBy w' v.ownBlock → (v.ownBlock = some g' ∨ g' = w.heap.size) → g' < w'.heap.size → K (a.put o.dst (.slice (some ⟨g', 0, none⟩) (n + 1) cap)) w') : o.wp Tryz.prog a w K Q := by
 obtain ⟨i0, hi, hz0, hz1, hz2⟩ := info_parts info_waiting
 have hl : (Value.agg (waitI 0 0 zeros)).cells.size = 130 := waitI_size 0 0 zeros
 exact wp_append_lies w s x 124 ho B 176 i0 (.agg (waitI 0 0 zeros)) 130 144 Tryz.underlying124 hi hz0 hz1 hz2 hl (by omega) v n xs hs hown ⟨g, 0, none⟩ 1 1 (waitI D A X).toList hx (waitI_cells1 D A X) (World.news_of_block hb) (fun u hu => (Array.all_eq_true_iff_forall_mem.1 (waitI_one D A X)) u (by simpa using hu)) (by omega) (by simp only [maxLen]; omega) (by omega) hB _ rfl h
def AppS (r wx : Nat) (v : Value) (cs : Array Value) (w : World) : Prop := w.cell? ⟨r, 3, none⟩ = some v ∧ Blk w wx 176 cs
end Go.Proofs.YtgbehfkimchglaaGreatDoor
namespace Go.Proofs.YtgbehfkimchglaaGreatDoor
set_option maxRecDepth 100000
open Go.RowKit
set_option linter.unusedVariables false
def RS.lay (s : RS) (P : Nat → Bool) : Nat → Nat → Nat → Nat → Nat
 | 0 => s.last
 | k + 1 => fun d a => if P k = true ∧ (s.W k).d = d ∧ (s.W k).a = a then (s.W k).x else s.lay P k d a
def RS.laid (s : RS) (P : Nat → Bool) : RS := { s with nw := 0, last := s.lay P s.nw }
section
variable {B : Nat} {w w' : World} {r m1 m2 : Nat} {v : Value} {s : RS} {k : Nat} {P : Nat → Bool}
end
end Go.Proofs.YtgbehfkimchglaaGreatDoor
namespace Go.Proofs.YtgbehfkimchglaaGreatDoor
set_option maxRecDepth 100000
open Go.RowKit
set_option linter.unusedVariables false
end Go.Proofs.YtgbehfkimchglaaGreatDoor
namespace Go.Proofs.YtgbehfkimchglaaGreatDoor
set_option maxRecDepth 100000
open Go.RowKit
set_option linter.unusedVariables false
def Ints (w : World) (A : Option Addr) (n : Nat) (p : Nat → Int) : Prop :=
 (∀ i, i < n → -9223372036854775808 ≤ p i ∧ p i ≤ 9223372036854775807) ∧ n ≤ maxLen ∧ (n = 0 ∨ ∃ g o t cs, A = some ⟨g, o, none⟩ ∧ Blk w g t cs ∧ (t == 128 || t == 176) = false ∧ ∀ i, i < n → cs[o + i]? = some (.int .i64 (p i)))
end Go.Proofs.YtgbehfkimchglaaGreatDoor
namespace Go.Proofs.YtgbehfkimchglaaGreatDoor
set_option maxRecDepth 100000
open Go.RowKit
set_option linter.unusedVariables false
end Go.Proofs.YtgbehfkimchglaaGreatDoor
namespace Go.Proofs.YtgbehfkimchglaaGreatDoor
set_option maxRecDepth 100000
open Go.RowKit
set_option linter.unusedVariables false
def keptL (W : Nat → Wt) (d : Nat) : Nat → List Wt
 | 0 => []
 | k + 1 => if (W k).d = d then keptL W d k else keptL W d k ++ [W k]
def RS.wiped (s : RS) (d : Nat) : RS :=
 { s with nw := (keptL s.W d s.nw).length, W := fun i => (keptL s.W d s.nw).getD i ⟨0, 0, zeros⟩, last := fun d' a' => if d' = d then zeros else s.last d' a' }
def RS.cleared (s : RS) (d : Nat) : RS := { s with last := fun d' a' => if d' = d then zeros else s.last d' a' }
theorem own_new {w w' : World} {B n c : Nat} {v : Value} {xs : List Value} (h : w.ownsRow B 176 c v n xs) (hb : Below w.heap.size w w') : w'.ownsRow B 176 c v n xs := by
 refine ⟨h.1, ?_⟩
 rcases h.2 with e | ⟨g, cap, cur, e, k1, k2, k3⟩
 ·exact .inl e
 ·exact .inr ⟨g, cap, cur, e, k1, (hb.block g (Array.getElem?_eq_some_iff.1 k2).1).trans k2, k3⟩
def RS.setGone (s : RS) (d : Nat) (b : Bool) : RS := { s with gone := fun i => if i = d then b else s.gone i }
def RS.lost (s : RS) (d : Nat) : RS := (s.wiped d).setGone d true
def RS.anew (s : RS) (d : Nat) : RS := (s.wiped d).setGone d false
end Go.Proofs.YtgbehfkimchglaaGreatDoor
namespace Go.Proofs.YtgbehfkimchglaaGreatDoor
set_option maxRecDepth 100000
open Go Go.RowKit
section
variable {P : Program} {md : Region.Mode} {ops : Array Oper} {Q : Exit → Act → World → Prop} {S : World → Prop} {z : Nat}
inductive Deep (md : Region.Mode) (ops : Array Oper) : Nat → Nat → Prop
 | one {z i : Nat} : Region.waitsFor md ops z i = true → Deep md ops z i
 | step {z k i : Nat} : Region.waitsFor md ops z k = true → Deep md ops k i → Deep md ops z i
def deepB (md : Region.Mode) (ops : Array Oper) : Nat → Nat → Nat → Bool
 | 0, _, _ => false
 | f + 1, z, i => Region.waitsFor md ops z i || (List.range ops.size).any fun k => Region.waitsFor md ops z k && deepB md ops f k i
theorem deepB_spec : ∀ {f z i : Nat}, deepB md ops f z i = true → Deep md ops z i
 | 0, _, _, h => by cases h
 | f + 1, z, i, h => by
  unfold deepB at h
  rw [Bool.or_eq_true] at h
  rcases h with h | h
  ·exact .one h
  ·obtain ⟨k, _, hk⟩ := List.any_eq_true.1 h
   rw [Bool.and_eq_true] at hk
   exact .step hk.1 (deepB_spec hk.2)
def Closed (md : Region.Mode) (ops : Array Oper) (listed : Array Bool) : Prop :=
 ∀ j oj, ops[j]? = some oj → listed.getD j false = true → ∀ e ∈ oj.after, Region.binds md e = true → listed.getD e.on false = true
def closedB (md : Region.Mode) (ops : Array Oper) (listed : Array Bool) : Bool :=
 (List.range ops.size).all fun j => !listed.getD j false || match ops[j]? with
  | some oj => oj.after.all fun e => !Region.binds md e || listed.getD e.on false
  | none => true
theorem closedB_spec {listed : Array Bool} (h : closedB md ops listed = true) : Closed md ops listed := by
 intro j oj hj hl e he hb
 have h1 := List.all_eq_true.1 h j (List.mem_range.2 (Array.getElem?_eq_some_iff.1 hj).1)
 simp only [hl, hj, Bool.not_true, Bool.false_or] at h1
 have h2 := Array.all_eq_true_iff_forall_mem.1 h1 e he
 simpa [hb] using h2
theorem Closed.set {listed : Array Bool} {i : Nat} (h : Closed md ops listed) (hi : i ∈ Region.ready md ops listed) : Closed md ops (listed.setIfInBounds i true) := by
 obtain ⟨_, oi, hoi, hall⟩ := mem_ready.1 hi
 intro j oj hj hl e he hb
 by_cases hij : i = j
 ·subst hij
  have : oj = oi := Option.some.inj (hj.symm.trans hoi)
  subst this
  exact getD_set_true (hall e he hb)
 ·rw [getD_set_ne false hij] at hl
  exact getD_set_true (h j oj hj hl e he hb)
theorem Deep.unlisted {listed : Array Bool} (hc : Closed md ops listed) {z i : Nat} (h : Deep md ops z i) (hi : listed.getD i false = false) : listed.getD z false = false := by
 induction h with
 | one h =>
  obtain ⟨o, ho, e, he, hb, hon⟩ := Region.waitsFor_spec h
  cases hz : listed.getD _ false with
  | false => rfl
  | true =>
   have := hc _ o ho hz e he hb
   rw [hon, hi] at this
   cases this
 | step h _ ih =>
  obtain ⟨o, ho, e, he, hb, hon⟩ := Region.waitsFor_spec h
  have hk := ih hi
  cases hz : listed.getD _ false with
  | false => rfl
  | true =>
   have := hc _ o ho hz e he hb
   rw [hon, hk] at this
   cases this
theorem Deep.not_ready {listed : Array Bool} (hc : Closed md ops listed) {z i : Nat} (h : Deep md ops z i) (hi : listed.getD i false = false) : z ∉ Region.ready md ops listed := by
 intro hr
 obtain ⟨_, o, ho, hall⟩ := mem_ready.1 hr
 cases h with
 | one h =>
  obtain ⟨o', ho', e, he, hb, hon⟩ := Region.waitsFor_spec h
  rw [ho] at ho'
  injection ho' with ho'
  subst ho'
  have := hall e he hb
  rw [hon, hi] at this
  cases this
 | step h h2 =>
  obtain ⟨o', ho', e, he, hb, hon⟩ := Region.waitsFor_spec h
  rw [ho] at ho'
  injection ho' with ho'
  subst ho'
  have := hall e he hb
  rw [hon, h2.unlisted hc hi] at this
  cases this
theorem AnyZ.firstC {i : Nat} {oi : Oper} {v : Value} (hi : ops[i]? = some oi) (hsel : ∀ (j : Nat) (o : Oper) cs b, ops[j]? = some o → o.op ≠ .select cs b)
  (hQ : ∀ c a w, Q (.panic c) (a.put oi.dst v) w → Q (.panic c) a w) (hz : Deep md ops z i) :
  ∀ (n : Nat) (listed : Array Bool) (a : Act) (w : World), Closed md ops listed →
   (∀ j oj, ops[j]? = some oj → j ≠ i → listed.getD j true = false → (∀ e ∈ oj.after, Region.binds md e = true → e.on ≠ i) → oi.apart ops oj = true) →
   i ∈ Region.ready md ops listed → YieldsIf P ops S oi v a → S w →
   AnyZ P md ops Q S z n (listed.setIfInBounds i true) (a.put oi.dst v) w → AnyZ P md ops Q S z (n + 1) listed a w := by
 intro n
 induction n with
 | zero =>
  intro listed a w _ _ hr hy hS H
  refine ⟨fun h => (by rw [h] at hr; cases hr), fun j hj => ?_⟩
  by_cases hji : j = i
  ·subst hji
   exact hy.wpOp hi hS ⟨fun _ => hS, H⟩
  ·have h0 := ready_mono hj hji
   rw [H.1] at h0
   cases h0
 | succ n ih =>
  intro listed a w hcl hfree hr hy hS H
  refine ⟨fun h => (by rw [h] at hr; cases hr), fun j hj => ?_⟩
  by_cases hji : j = i
  ·subst hji
   exact hy.wpOp hi hS ⟨fun _ => hS, H⟩
  ·have h1 := H.2 j (ready_mono hj hji)
   have hun := (mem_ready.1 hr).1
   obtain ⟨hjun, oj, hoj, hall⟩ := mem_ready.1 hj
   have hnot : ∀ e ∈ oj.after, Region.binds md e = true → e.on ≠ i := fun e he hb heq => by
    have h4 := hall e he hb
    rw [heq, getD_both hun] at h4
    cases h4
   have hjz : j ≠ z := by
    rintro rfl
    exact hz.not_ready hcl (getD_both hun) hj
   have h2 := wpOp_putIf hoj (hfree j oj hoj hji hjun hnot) (fun cs b => hsel i oi cs b hi) (fun cs b => hsel j oj cs b hoj) hQ hy h1
   refine wpOp_mono (fun a' w' h3 => ⟨fun _ => h3.2.1 hjz, ih (listed.setIfInBounds j true) a' w' (hcl.set hj) (fun k ok hk hki hunk hno => ?_) (ready_mono hr (Ne.symm hji)) h3.1 (h3.2.1 hjz) ?_⟩) h2
   ·refine hfree k ok hk hki ?_ hno
    by_cases hjk : j = k
    ·subst hjk
     exact hjun
    ·rw [getD_set_ne true hjk] at hunk
     exact hunk
   ·rw [Array.setIfInBounds_comm _ _ hji]
    exact h3.2.2
def takeDB (md : Region.Mode) (ops : Array Oper) (z : Nat) (listed : Array Bool) (i : Nat) : Bool :=
 Region.noSelect ops && Region.free md ops listed i && (Region.ready md ops listed).contains i && closedB md ops listed && deepB md ops 3 z i
theorem takeD {n : Nat} {listed : Array Bool} {a : Act} {w : World} (i : Nat) (op : Op) (d : Option Tmp) (g : Option (Nat × Bool)) (v : Value) (ho : isOp ops i = some (op, d, g)) (hw : wantG g (yielded ops a.tmps) = true) (hB : takeDB md ops z listed i = true)
  (hQ : ∀ c a w, Q (.panic c) (a.put d v) w → Q (.panic c) a w) (hy : ∀ (o : Oper) w, o.op = op → S w → (execOp a.eval o).run P w = .ok (.value v) w) (hS : S w)
  (h : AnyZ P md ops Q S z n (listed.setIfInBounds i true) (a.put d v) w) : AnyZ P md ops Q S z (n + 1) listed a w := by
 obtain ⟨o, h1, h2, rfl, h4⟩ := isOpG_spec ho
 simp only [takeDB, Bool.and_eq_true] at hB
 exact AnyZ.firstC h1 (Region.noSelect_spec hB.1.1.1.1) hQ (deepB_spec hB.2) n listed a w (closedB_spec hB.1.2) (Region.free_spec h1 hB.1.1.1.2) (by simpa using hB.1.1.2) (.inl ⟨want_of h4 hw, fun w hw => hy o w h2 hw⟩) hS h
end
end Go.Proofs.YtgbehfkimchglaaGreatDoor
