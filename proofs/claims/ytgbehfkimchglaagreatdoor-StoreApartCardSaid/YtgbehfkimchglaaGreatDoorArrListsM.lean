/-
 'slices.Sorted(slices.Values(x))' at numbers: a new row, sorted; and 'slices.Sort', 'slices.Contains' of the call's own rows. Conditions: lengths below 2^40.
-/
import Derived.RangeFuncBox
import Derived.RangeFuncLeaves
import Derived.Shelf.Abstract
import Derived.WalkKit
import Derived.OwnWalkIn
import Derived.TacticsInMore
import Derived.LoopNIn
import Derived.LoopIn
import Derived.Maps.AppendAt
import Derived.Sort.OwnSortedInts
import Derived.Test.YtgbehfkimchglaaGreatDoorArrShelfM
import Derived.Lib.Hide
import Derived.Test.YtgbehfkimchglaaGreatDoorRackMapM
import Derived.Lib.SliceRun
namespace Go.Proofs.YtgbehfkimchglaaGreatDoor
open Go Go.Proofs Go.RowKit Go.Shelf Go.Sort
set_option maxRecDepth 100000
set_option linter.unusedVariables false
namespace Sq
attribute [local go_sem] Oper.semAt_some
def Ints (n₀ : Nat) (W : World) (sv : Value) (zs : List Int) : Prop :=
 (sv = .slice none 0 0 ∧ zs = []) ∨ ∃ b off cap, sv = .slice (some ⟨b, off, none⟩) zs.length cap ∧ b < n₀ ∧ ∀ j, j < zs.length → W.cell? ⟨b, off + j, none⟩ = some (.int .i64 (zs[j]?.getD 0))
end Sq
end Go.Proofs.YtgbehfkimchglaaGreatDoor
namespace Go.Proofs.YtgbehfkimchglaaGreatDoor
open Go Go.Proofs Go.RowKit Go.Shelf Go.Sort
set_option maxRecDepth 100000
set_option linter.unusedVariables false
namespace Sq
def ints (l : List Nat) : List Int := l.map fun x : Nat => (x : Int)
theorem ints_length (l : List Nat) : (ints l).length = l.length := by simp [ints]
def srt (l : List Nat) : List Nat := l.mergeSort fun x y => decide (x ≤ y)
theorem srt_ints (l : List Nat) : (ints l).mergeSort (fun x y => decide (x ≤ y)) = ints (srt l) := by
 unfold ints srt
 refine (List.map_mergeSort (f := fun x : Nat => (x : Int)) (s := fun x y => decide (x ≤ y)) (r := fun x y => decide (x ≤ y)) fun a _ b _ => ?_).symm
 simp
theorem srt_perm (l : List Nat) : (srt l).Perm l := List.mergeSort_perm _ _
theorem srt_length (l : List Nat) : (srt l).length = l.length := (srt_perm l).length_eq
theorem mem_srt {l : List Nat} {x : Nat} : x ∈ srt l ↔ x ∈ l := (srt_perm l).mem_iff
theorem own_iff {w : World} {base : Nat} {v : Value} {l : List Nat} : Nr.OwnN w base v l ↔ w.ownsRow base 3 1 v (ints l).length ((ints l).map (Value.int .i64)) := by
 unfold Nr.OwnN Gr.OwnG
 rw [Nr.flat_csN, ints_length]
 unfold ints
 rw [List.map_map]
 rfl
theorem own_ints {w : World} {base : Nat} {v : Value} {l : List Nat} (h : Nr.OwnN w base v l) : Ints w.heap.size w v (ints l) := by
 rcases Nr.own_shape h with ⟨rfl, rfl⟩ | ⟨g, c, rfl, h1, h2, h3, h4, h5⟩
 ·exact .inl ⟨rfl, rfl⟩
 ·refine .inr ⟨g, 0, c, by rw [ints_length], h2, fun j hj => ?_⟩
  rw [ints_length] at hj
  rw [Nat.zero_add, h5 j l[j] (List.getElem?_eq_getElem hj)]
  simp [ints, hj]
theorem sort_own (w : World) (base : Nat) (v : Value) (l : List Nat) (h : Nr.OwnN w base v l) (hl : l.length ≤ 1000000) :
  Calls Tryz.prog 132 #[v] w fun e w' => e = .returned (.tuple #[]) ∧ Nr.OwnN w' base v (srt l) ∧ w.grownBy w' v.ownBlock := by
 have h0 := own_iff.1 h
 rcases h0.2 with ⟨rfl, hz⟩ | ⟨g, cap, cur, rfl, hbase, hg, r1, r2, r3, r4⟩
 ·have hl0 : l = [] := by rw [ints_length] at hz; exact List.eq_nil_of_length_eq_zero hz
  subst hl0
  have hc : Calls Tryz.prog 132 #[.slice none 0 0] w fun e w' => e = .returned (.tuple #[]) ∧ w' = w := Any.slices_Sort_int_none laySort none 0 w
  refine hc.mono ?_
  rintro e w' ⟨rfl, rfl⟩
  exact ⟨rfl, by rw [show srt [] = [] by simp [srt]]; exact h, World.grownBy.refl _ _⟩
 ·rw [Nat.mul_one] at r4
  have hH : Holds (Value.int .i64) w g 0 (ints l).toArray := holds_of_blockI hg r4
  have hgl : g < w.heap.size := (Array.getElem?_eq_some_iff.1 hg).1
  have hc := Any.slices_Sort_int laySort g 0 cap (ints l) w hH hgl (by rw [ints_length]; omega)
  have hc2 : Calls Tryz.prog 132 #[.slice (some ⟨g, 0, none⟩) (ints l).length cap] w _ := hc
  refine hc2.mono ?_
  rintro e w' ⟨rfl, k, os, rfl⟩
  rw [srt_ints]
  refine ⟨rfl, ?_, grownBy_sortedI _⟩
  rw [own_iff]
  have hs := ownsRow_sortedI (w := w) (n := k) (os := os) (ss := ints l) (ts := ints (srt l)) (by rw [ints_length, ints_length, srt_length]) hbase hg r1 r2 r3
  rw [show (ints (srt l)).length = (ints l).length by rw [ints_length, ints_length, srt_length]]
  exact hs
end Sq
end Go.Proofs.YtgbehfkimchglaaGreatDoor
namespace Go.Proofs.YtgbehfkimchglaaGreatDoor
open Go Go.RowKit
set_option maxRecDepth 100000
set_option linter.unusedVariables false
namespace Gr
theorem run_append_b {α : Type} {E : TypeId} {k : Nat} {cs : α → List Value} {w : World} {base : Nat} {v : Value} {l m : List α} {T : TypeId} {z : Value} {bytes : Nat} (hk : ∀ x, (cs x).length = k) (hone : ∀ x, ∀ u ∈ cs x, u.oneCell' = true) (hu : Tryz.prog.underlying T = some (.slice E)) (hi : (Tryz.prog.info? E).map (fun i => (i.zero, i.size, i.bytes)) = some (some z, k, bytes)) (hzs : z.cells.size = k) (hk0 : 0 < k)
  (ty : TypeId) (h : OwnG E k cs w base v l) {ad : Addr} {c : Nat} (hr : ∀ j u, (m.flatMap cs)[j]? = some u → w.cell? (ad.add j) = some u) (hl : l.length + m.length ≤ 4611686018427387904) (hby : (l.length + m.length) * bytes ≤ 140737488355328) (hb : base ≤ w.heap.size) :
  ∃ v' w', (Builtin.append_ #[T, T] ty #[v, .slice (some ad) m.length c]).run Tryz.prog w = .ok v' w' ∧ OwnG E k cs w' base v' (l ++ m) ∧ w.grownBy w' v.ownBlock ∧ (v'.ownBlock = v.ownBlock ∨ v'.ownBlock = some w.heap.size) := by
 obtain ⟨i0, hi', hz0, hz1, hz2⟩ : ∃ i0, Tryz.prog.info? E = some i0 ∧ i0.zero = some z ∧ i0.size = k ∧ i0.bytes = bytes := by
  cases hE : Tryz.prog.info? E with
  | none => rw [hE] at hi; simp at hi
  | some i => rw [hE] at hi; simp at hi; exact ⟨i, rfl, hi.1, hi.2.1, hi.2.2⟩
 obtain ⟨v', w', e1, e2, e3, e4, e5⟩ := run_append_own_at (P := Tryz.prog) w base T ty E i0 z k bytes hu hi' hz0 hz1 hz2 hzs hk0 v l.length (l.flatMap cs) h ad m.length c (m.flatMap cs) (flat_length hk m) hr
  (fun u hu => by obtain ⟨x, _, hx⟩ := List.mem_flatMap.1 hu; exact hone x u hx) (by unfold maxLen; omega) hby hb
 refine ⟨v', w', e1, ?_, e3, e5⟩
 unfold OwnG
 rw [List.length_append, List.flatMap_append]
 exact e2
end Gr
end Go.Proofs.YtgbehfkimchglaaGreatDoor
namespace Go.Proofs.YtgbehfkimchglaaGreatDoor
open Go Go.RowKit refRack
set_option maxRecDepth 100000
set_option linter.unusedVariables false
namespace Arr
def GrowB (v v' : Value) (w w' : World) : Prop := w.heap.size ≤ w'.heap.size ∧ (∀ g, g < w.heap.size → v.ownBlock ≠ some g → w'.heap[g]? = w.heap[g]?) ∧ (v'.ownBlock = v.ownBlock ∨ v'.ownBlock = some w.heap.size ∨ v'.ownBlock = some (w.heap.size + 1))
section
variable {w : World} {base : Nat} {v : Value}
theorem app1 {α : Type} {E T : TypeId} {k : Nat} {cs : α → List Value} {z : Value} {bytes : Nat} {l : List α} (hk : ∀ x, (cs x).length = k) (hone : ∀ x, ∀ u ∈ cs x, u.oneCell' = true) (hu : Tryz.prog.underlying T = some (.slice E)) (hi : (Tryz.prog.info? E).map (fun i => (i.zero, i.size, i.bytes)) = some (some z, k, bytes)) (hzs : z.cells.size = k) (hk0 : 0 < k) (hb64 : bytes ≤ 64)
  (h : Gr.OwnG E k cs w base v l) (x : α) (hl : l.length ≤ 1000000) (hb : base ≤ w.heap.size) (ty : TypeId) :
  ∃ v' w', (Builtin.append_ #[T, T] ty #[v, .slice (some ⟨w.heap.size, 0, none⟩) 1 1]).run Tryz.prog (w.alloc (.cells (cs x).toArray E)) = .ok v' w' ∧ Gr.OwnG E k cs w' base v' (l ++ [x]) ∧ Below base w w' ∧ GrowB v v' w w' := by
 have hB : Below base w (w.alloc (.cells (cs x).toArray E)) := (Below.refl _ _).alloc hb _
 have hB2 : Below w.heap.size w (w.alloc (.cells (cs x).toArray E)) := (Below.refl _ _).alloc (Nat.le_refl _) _
 have hs : (w.alloc (.cells (cs x).toArray E)).heap.size = w.heap.size + 1 := by simp
 obtain ⟨v', w', e1, e2, e3, e4⟩ := Gr.run_append_b (m := [x]) (c := 1) hk hone hu hi hzs hk0 ty (h.below hB2 (Nat.le_refl _)) (ad := ⟨w.heap.size, 0, none⟩) (Gr.one_cells x w E) (by simp; omega) (by
   have := Nat.mul_le_mul_left (l.length + 1) hb64
   have h1 : ([x] : List α).length = 1 := rfl
   rw [h1]
   omega) (by rw [hs]; omega)
 refine ⟨v', w', e1, e2, hB.trans ⟨e3.os, e3.tape, e3.output, e3.size, fun g hg => e3.block g (by omega) (fun e => by have := (h.lt e.symm).2; omega)⟩, by have := e3.size; omega, fun g hg hne => (e3.block g (by omega) (fun e => hne e.symm)).trans (hB2.block g hg), ?_⟩
 rw [hs] at e4
 rcases e4 with e | e
 ·exact .inl e
 ·exact .inr (.inr e)
theorem appN {l : List Nat} (h : Nr.OwnN w base v l) (x : Nat) (hl : l.length ≤ 1000000) (hb : base ≤ w.heap.size) (ty : TypeId) :
  ∃ v' w', (Builtin.append_ #[64, 64] ty #[v, .slice (some ⟨w.heap.size, 0, none⟩) 1 1]).run Tryz.prog (w.alloc (.cells #[.int .i64 (x : Int)] 3)) = .ok v' w' ∧ Nr.OwnN w' base v' (l ++ [x]) ∧ Below base w w' ∧ GrowB v v' w w' :=
 app1 (k := 1) (cs := Nr.csN) (fun _ => rfl) (fun x u hu => by simp [Nr.csN] at hu; subst hu; rfl) Tryz.underlying64 Ir.info_int rfl (by omega) (by omega) h x hl hb ty
theorem own_keepN {w' : World} {l : List Nat} (h : Nr.OwnN w base v l) (hk : ∀ g, v.ownBlock = some g → w'.heap[g]? = w.heap[g]?) : Nr.OwnN w' base v l := by
 refine ⟨h.1, ?_⟩
 rcases h.2 with e | ⟨g, cap, cur, rfl, h1, h2, h3⟩
 ·exact .inl e
 ·exact .inr ⟨g, cap, cur, rfl, h1, (hk g rfl).trans h2, h3⟩
theorem own_ltN {l : List Nat} (h : Nr.OwnN w base v l) {g : Nat} (hg : v.ownBlock = some g) : g < w.heap.size ∧ base ≤ g := by
 rcases h.2 with ⟨rfl, _⟩ | ⟨g', cap, cur, rfl, h1, h2, h3⟩
 ·cases hg
 ·cases hg; exact ⟨(Array.getElem?_eq_some_iff.1 h2).1, h1⟩
end
theorem wp_app_g {w : World} {o : Oper} {a : Act} {K : Act → World → Prop} {Q : Exit → Act → World → Prop} (T : TypeId) (s x : Operand) (ho : o.op = .call { callee := .builtin .append, args := #[s, x], argTypes := #[T, T] })
  {v y : Value} {R : Value → World → Prop} (hs : a.eval s = v) (hx : a.eval x = y) (hrun : ∀ ty, ∃ v' w', (Builtin.append_ #[T, T] ty #[v, y]).run Tryz.prog w = .ok v' w' ∧ R v' w') (h : ∀ v' w', R v' w' → K (a.put o.dst v') w') : o.wp Tryz.prog a w K Q := by
 obtain ⟨v', w', h1, h2⟩ := hrun o.type
 exact Gr.wp_append T s x ho hs hx h1 (h v' w' h2)
theorem wpList_app_g {w : World} {ops : Array Oper} {rest : List Oper} {o : Oper} {a : Act} {Q : Exit → Act → World → Prop} (hgd : o.guard = none) (T : TypeId) (s x : Operand) (ho : o.op = .call { callee := .builtin .append, args := #[s, x], argTypes := #[T, T] })
  {v y : Value} {R : Value → World → Prop} (hs : a.eval s = v) (hx : a.eval x = y) (hrun : ∀ ty, ∃ v' w', (Builtin.append_ #[T, T] ty #[v, y]).run Tryz.prog w = .ok v' w' ∧ R v' w') (h : ∀ v' w', R v' w' → wpList Tryz.prog ops Q rest (a.put o.dst v') w') : wpList Tryz.prog ops Q (o :: rest) a w :=
 wpList_plain hgd fun K hK' => wp_app_g T s x ho hs hx hrun fun v' w' h' => hK' _ _ (h v' w' h')
def drvL (N ad m : Nat) : List Nat := (List.range m).map fun i => (ad + i) % N
theorem drvL_length (N ad m : Nat) : (drvL N ad m).length = m := by simp [drvL]
theorem intA_congr {n : Nat} {f g : Nat → Int} (h : ∀ j, j < n → f j = g j) : Ir.intA n f = Ir.intA n g := by
 unfold Ir.intA
 congr 1
 funext j
 rw [h j.val j.isLt]
theorem own_intA {w : World} {base g m : Nat} {f : Nat → Nat} (h : Blk w g 3 (Ir.intA m (fun j => ((f j : Nat) : Int)))) (hb : base ≤ g) (hm : m ≤ 100000) : Nr.OwnN w base (.slice (some ⟨g, 0, none⟩) m m) ((List.range m).map f) := by
 rw [Sq.own_iff, Sq.ints_length, List.length_map, List.length_range]
 refine ⟨by simp [Sq.ints], .inr ⟨g, m, _, rfl, hb, h, Nat.le_refl _, by simp only [maxLen]; omega, by simp [Ir.intA], ?_⟩⟩
 apply List.ext_getElem?
 intro i
 rw [Nat.mul_one]
 by_cases hi : i < m
 ·rw [List.getElem?_take_of_lt hi, Array.getElem?_toList, Ir.intA_get hi]
  simp [Sq.ints, hi]
 ·rw [List.getElem?_eq_none (by simp; omega), List.getElem?_eq_none (by simp [Sq.ints]; omega)]
section
variable {B a r f : Nat} {w w' : World} {s s' : RS}
set_option maxHeartbeats 1600000 in
theorem drives_ok (w : World) (h : At B w a r f s) (ad n : Nat) (h1 : 1 ≤ n) (hn : n ≤ 1024) (hc : ad + cost s.nd n ≤ cells s f) :
  Calls Tryz.prog 106 #[.pointer (some ⟨a, 0, none⟩), .int .i64 (ad : Int), .int .i64 (n : Int)] w fun e w' => ∃ v, e = .returned (.tuple #[v, .int .i64 0]) ∧ Nr.OwnN w' w.heap.size v (Sq.srt (drvL s.nd ad (min (cost s.nd n) s.nd))) ∧ Below w.heap.size w w' := by
 have c0 := h.c0
 have HS := Lib.hid (span_ok w h ad n h1 hn hc)
 have HA := Lib.hid h
 have HD := Lib.hid (fun n => drives_any (w.drewN n) r s (h.rack.drewN n))
 have h5 := h.five
 obtain ⟨h16, h2k⟩ := h.bounds
 have hle := cells_le h
 obtain ⟨m, hm⟩ : ∃ m, m = min (cost s.nd n) s.nd := ⟨_, rfl⟩
 rw [← hm]
 have hm16 : m ≤ 16 := by omega
 have t1 : min (cost s.nd n : Int) (s.nd : Int) = (m : Int) := by omega
 have HT := Lib.hid t1
 have hmk := Ir.make_ints m (by omega)
 have had : ad ≤ 32000 := by omega
 generalize cost s.nd n = C at *
 clear h hm hc hle
 go_enter Tryz.func106, Tryz.ntmps106
 go_wp2_with fail
 refine HS.out.mono ?_
 rintro e w1 ⟨rfl, d, rfl⟩
 go_wp2_with fail
 refine (HD.out d).mono ?_
 rintro e w2 ⟨rfl, rfl⟩
 have hmk2 := hmk (w.drewN d) (m : Int) rfl
 go_wp2_with fail
 go_loopw [32] (fun y wr => ∃ i : Nat, i ≤ m ∧ y = .int .i64 (i : Int) ∧ Hid (Blk wr w.heap.size 3 (Ir.intA m (fun j => ((if j < i then (ad + j) % s.nd else 0 : Nat) : Int))) ∧ Below w.heap.size w wr)) (fun y _ => m - (intOf y).toNat)
 case atStart =>
  refine ⟨0, Nat.zero_le _, rfl, Lib.hid ⟨?_, ?_⟩⟩
  ·exact (Blk.new w _ _).drewN _
  ·exact below_drewN ((Below.refl _ _).alloc (Nat.le_refl _) _) _
 case round =>
  obtain ⟨i, hi, rfl, HR⟩ := hrel
  by_cases hlt : i < m
  ·have t2 : (i : Int) < (m : Int) := by omega
   have HV := Lib.hid (drive_any wr (HA.out.grown_ HR.out.2) (ad + i) (by omega))
   have p1 : wr.cell? ⟨w.heap.size, i, none⟩ = some (.int .i64 0) := by
    rw [HR.out.1.cell, Ir.intA_get hlt, if_neg (Nat.lt_irrefl i)]
    rfl
   have p2 : wr.frozen? ⟨w.heap.size, i, none⟩ = false := HR.out.1.frozen i
   go_wp2_with fail
   refine HV.out.mono ?_
   rintro e w3 ⟨rfl, rfl⟩
   go_wp2_with fail
   go_roundw
   case rel =>
    refine ⟨i + 1, by omega, by simp, Lib.hid ⟨?_, HR.out.2.setCell (p := ⟨w.heap.size, i, none⟩) (Nat.le_refl _) _⟩⟩
    have h := HR.out.1.set_ i (.int .i64 (((ad + i) % s.nd : Nat) : Int))
    rw [Ir.intA_set hlt, intA_congr (g := fun j => ((if j < i + 1 then (ad + j) % s.nd else 0 : Nat) : Int)) fun j hj => ?_] at h
    ·exact h
    ·by_cases e : j = i
     ·rw [if_pos e, if_pos (by omega), e]
     ·rw [if_neg e]
      by_cases e2 : j < i
      ·rw [if_pos e2, if_pos (by omega)]
      ·rw [if_neg e2, if_neg (by omega)]
   case measure => simp [intOf]; omega
  ·obtain rfl : i = m := by omega
   have t2 : ¬ ((i : Int) < (i : Int)) := by omega
   have HO : Hid (Nr.OwnN wr w.heap.size (.slice (some ⟨w.heap.size, 0, none⟩) i i) (drvL s.nd ad i)) := Lib.hid (by
    have h := own_intA (f := fun j => if j < i then (ad + j) % s.nd else 0) HR.out.1 (Nat.le_refl _) (by omega)
    have e : (List.range i).map (fun j => if j < i then (ad + j) % s.nd else 0) = drvL s.nd ad i := by
     unfold drvL
     exact List.map_congr_left fun j hj => if_pos (by simpa using hj)
    rw [e] at h
    exact h)
   have HQ := Lib.hid (Sq.sort_own wr w.heap.size _ (drvL s.nd ad i) HO.out (by rw [drvL_length]; omega))
   go_wp2_with fail
   refine HQ.out.mono ?_
   rintro e w4 ⟨rfl, h4, g4⟩
   have H4 := Lib.hid h4
   have B4 : Hid (Below w.heap.size w w4) := Lib.hid (HR.out.2.grown g4 HR.out.2.size (fun k hk => by cases hk; exact Nat.le_refl _))
   clear h4 g4
   go_wp2_with fail
   go_ret2
   exact ⟨_, rfl, H4.out, B4.out⟩
end
end Arr
end Go.Proofs.YtgbehfkimchglaaGreatDoor
