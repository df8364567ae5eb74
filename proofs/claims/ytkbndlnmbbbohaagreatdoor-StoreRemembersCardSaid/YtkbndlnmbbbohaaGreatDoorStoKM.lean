/-
 'slices.Sort', 'slices.Sorted(slices.Values(x))', 'slices.Contains' of the call's own rows of numbers, by contracts. Conditions: no more than a million of them.
-/
import Derived.Test.YtkbndlnmbbbohaaGreatDoorArrSeqM
import Derived.Lib.Hide
import Derived.Test.YtkbndlnmbbbohaaGreatDoorArrCallsM
import Derived.Lib.SliceRun
import Derived.Test.YtkbndlnmbbbohaaGreatDoorLawStrM
import Derived.ProofKit
import Derived.Deep.Matrix
import Derived.Laws.CopyOwn
import Derived.Test.YtkbndlnmbbbohaaGreatDoorRackWriteM
namespace Go.Proofs.YtkbndlnmbbbohaaGreatDoor
open Go Go.Proofs Go.RowKit Go.Shelf Go.Sort
set_option maxRecDepth 100000
set_option linter.unusedVariables false
namespace Sq
def ints (l : List Nat) : List Int := l.map fun x : Nat => (x : Int)
theorem ints_length (l : List Nat) : (ints l).length = l.length := by simp [ints]
def srt (l : List Nat) : List Nat := l.mergeSort fun x y => decide (x ≤ y)
theorem srt_ints (l : List Nat) : (ints l).mergeSort (fun x y => decide (x ≤ y)) = ints (srt l) := by
 unfold ints srt
 refine (List.map_mergeSort (f := fun x : Nat => (x : Int)) (s := fun x y => decide (x ≤ y)) (r := fun x y => decide (x ≤ y)) fun a _ b _ => ?_).symm
 simp
theorem srt_perm (l : List Nat) : (srt l).Perm l := List.mergeSort_perm _ _
theorem srt_length (l : List Nat) : (srt l).length = l.length := (srt_perm l).length_eq
theorem mem_srt {l : List Nat} {x : Nat} : x ∈ srt l ↔ x ∈ l := (srt_perm l).mem_iff
theorem own_iff {w : World} {base : Nat} {v : Value} {l : List Nat} : Nr.OwnN w base v l ↔ w.ownsRow base 3 1 v (ints l).length ((ints l).map (Value.int .i64)) := by
 unfold Nr.OwnN Gr.OwnG
 rw [Nr.flat_csN, ints_length]
 unfold ints
 rw [List.map_map]
 rfl
theorem own_ints {w : World} {base : Nat} {v : Value} {l : List Nat} (h : Nr.OwnN w base v l) : Ints w.heap.size w v (ints l) := by
 rcases Nr.own_shape h with ⟨rfl, rfl⟩ | ⟨g, c, rfl, h1, h2, h3, h4, h5⟩
 ·exact .inl ⟨rfl, rfl⟩
 ·refine .inr ⟨g, 0, c, by rw [ints_length], h2, fun j hj => ?_⟩
  rw [ints_length] at hj
  rw [Nat.zero_add, h5 j l[j] (List.getElem?_eq_getElem hj)]
  simp [ints, hj]
theorem sort_own (w : World) (base : Nat) (v : Value) (l : List Nat) (h : Nr.OwnN w base v l) (hl : l.length ≤ 1000000) :
  Calls Tryz.prog 84 #[v] w fun e w' => e = .returned (.tuple #[]) ∧ Nr.OwnN w' base v (srt l) ∧ w.grownBy w' v.ownBlock := by
 have h0 := own_iff.1 h
 rcases h0.2 with ⟨rfl, hz⟩ | ⟨g, cap, cur, rfl, hbase, hg, r1, r2, r3, r4⟩
 ·have hl0 : l = [] := by rw [ints_length] at hz; exact List.eq_nil_of_length_eq_zero hz
  subst hl0
  have hc : Calls Tryz.prog 84 #[.slice none 0 0] w fun e w' => e = .returned (.tuple #[]) ∧ w' = w := Any.slices_Sort_int_none laySort none 0 w
  refine hc.mono ?_
  rintro e w' ⟨rfl, rfl⟩
  exact ⟨rfl, by rw [show srt [] = [] by simp [srt]]; exact h, World.grownBy.refl _ _⟩
 ·rw [Nat.mul_one] at r4
  have hH : Holds (Value.int .i64) w g 0 (ints l).toArray := holds_of_blockI hg r4
  have hgl : g < w.heap.size := (Array.getElem?_eq_some_iff.1 hg).1
  have hc := Any.slices_Sort_int laySort g 0 cap (ints l) w hH hgl (by rw [ints_length]; omega)
  have hc2 : Calls Tryz.prog 84 #[.slice (some ⟨g, 0, none⟩) (ints l).length cap] w _ := hc
  refine hc2.mono ?_
  rintro e w' ⟨rfl, k, os, rfl⟩
  rw [srt_ints]
  refine ⟨rfl, ?_, grownBy_sortedI _⟩
  rw [own_iff]
  have hs := ownsRow_sortedI (w := w) (n := k) (os := os) (ss := ints l) (ts := ints (srt l)) (by rw [ints_length, ints_length, srt_length]) hbase hg r1 r2 r3
  rw [show (ints (srt l)).length = (ints l).length by rw [ints_length, ints_length, srt_length]]
  exact hs
set_option maxHeartbeats 1000000 in
theorem collect_in (F : Fence) (n : Nat) (h2 : F.fn 114) (h3 : F.fn 141) (h7 : F.fn 115) (hro : F.round = none) (hn : 4 ≤ n) (Bs : Nat) (sv : Value) (zs : List Int) (hlen : zs.length ≤ 1000000) (w : World) (hBs : Bs < w.heap.size)
  (hc : w.cell? ⟨Bs, 0, none⟩ = some sv) (hI : Ints w.heap.size w sv zs) :
  CallsIn F n Tryz.prog 114 #[.func (.func 115) #[] #[.pointer (some ⟨Bs, 0, none⟩)]] w fun e W' => ∃ v, e = .returned v ∧ W'.ownsRow w.heap.size 3 1 v zs.length (zs.map (Value.int .i64)) ∧ Below w.heap.size w W' := by
 have h1 : 1 ≤ n := by omega
 have cA := appendSeq_in F (n - 1) h3 h7 hro (by omega) Bs sv zs hlen w hBs hc hI
 refine callsIn_of_wp Tryz.func114 rfl h2 ?_ hro
 simp only [Tryz.ntmps114, List.size_toArray, List.length_cons, List.length_nil, Nat.reduceAdd, Nat.reduceSub, Array.replicate_succ, Array.replicate_zero, List.push_toArray, List.append_toArray, List.nil_append, List.cons_append]
 gi_wp2_with (gi_at_call 141; refine cA.mono ?_; rintro e w' ⟨v, rfl, hrow, hb⟩)
 go_ret
 exact ⟨v, rfl, hrow, hb⟩
theorem sorted_any (w : World) (Bs : Nat) (sv : Value) (l : List Nat) (hl : l.length ≤ 1000000) (hBs : Bs < w.heap.size) (hc : w.cell? ⟨Bs, 0, none⟩ = some sv) (hI : Ints w.heap.size w sv (ints l)) :
  Calls Tryz.prog 77 #[.func (.func 115) #[] #[.pointer (some ⟨Bs, 0, none⟩)]] w fun e W' => ∃ v, e = .returned v ∧ Nr.OwnN W' w.heap.size v (srt l) ∧ Below w.heap.size w W' := by
 have cC : Calls Tryz.prog 114 #[.func (.func 115) #[] #[.pointer (some ⟨Bs, 0, none⟩)]] w _ := (callsIn_wide (n := 6)).1 (collect_in Fence.wide 6 trivial trivial trivial rfl (by omega) Bs sv (ints l) (by rw [ints_length]; exact hl) w hBs hc hI)
 have HC := Lib.hid cC
 clear cC hc hI
 go_enter Tryz.func77, Tryz.ntmps77
 go_wp2_with fail
 refine HC.out.mono ?_
 rintro e w2 ⟨v, rfl, hrow, hb⟩
 have HO := Lib.hid (own_iff.2 hrow)
 have HB := Lib.hid hb
 clear hrow hb
 go_wp2_with fail
 refine (sort_own w2 w.heap.size v l HO.out hl).mono ?_
 rintro e w3 ⟨rfl, h3, g3⟩
 have H3 := Lib.hid h3
 have B3 : Hid (Below w.heap.size w w3) := HB.out.grown g3 HB.out.size (fun k hk => by
  rcases (own_iff.1 HO.out).2 with ⟨rfl, _⟩ | ⟨g, cap, cur, rfl, hbase, _⟩
  ·cases hk
  ·cases hk; exact hbase)
 clear h3 g3
 go_wp2_with fail
 go_ret
 exact ⟨v, rfl, H3.out, B3.out⟩
theorem contains_any (w : World) (n₀ : Nat) (sv : Value) (l : List Nat) (x : Nat) (hI : Ints n₀ w sv (ints l)) (hl : l.length ≤ 1000000) :
  Calls Tryz.prog 119 #[sv, .int .i64 (x : Int)] w fun e w' => e = .returned (.bool (decide (x ∈ l))) ∧ w' = w := by
 rcases hI with ⟨rfl, h0⟩ | ⟨b, o, c, rfl, hb, hc⟩
 ·have hl0 : l = [] := by simpa [ints] using h0
  subst hl0
  have hc : Calls Tryz.prog 119 #[.slice none 0 0, .int .i64 (x : Int)] w fun e w' => e = .returned (.bool false) ∧ w' = w := Any.slices_Contains_int_empty layContains none 0 x w
  simpa using hc
 ·have h1 := Any.slices_Contains_int layContains b o (ints l).length c (ints l) x w (Nat.le_refl _) (by rw [ints_length]; omega) (fun j hj => by rw [hc j hj]; simp [List.getD_eq_getElem?_getD])
  have h2 : Calls Tryz.prog 119 #[.slice (some ⟨b, o, none⟩) (ints l).length c, .int .i64 (x : Int)] w _ := h1
  refine h2.mono ?_
  rintro e w' ⟨rfl, rfl⟩
  refine ⟨?_, rfl⟩
  rw [List.take_length]
  have : (ints l).contains (x : Int) = decide (x ∈ l) := by
   rw [Bool.eq_iff_iff, List.contains_iff_mem, decide_eq_true_eq]
   unfold ints
   rw [List.mem_map]
   constructor
   ·rintro ⟨y, hy, e⟩
    have : y = x := by omega
    rw [← this]; exact hy
   ·intro h; exact ⟨x, h, rfl⟩
  rw [this]
end Sq
end Go.Proofs.YtkbndlnmbbbohaaGreatDoor
namespace Go.Proofs.YtkbndlnmbbbohaaGreatDoor
open Go Go.RowKit
set_option maxRecDepth 100000
set_option linter.unusedVariables false
namespace Gr
theorem run_append_b {α : Type} {E : TypeId} {k : Nat} {cs : α → List Value} {w : World} {base : Nat} {v : Value} {l m : List α} {T : TypeId} {z : Value} {bytes : Nat} (hk : ∀ x, (cs x).length = k) (hone : ∀ x, ∀ u ∈ cs x, u.oneCell' = true) (hu : Tryz.prog.underlying T = some (.slice E)) (hi : (Tryz.prog.info? E).map (fun i => (i.zero, i.size, i.bytes)) = some (some z, k, bytes)) (hzs : z.cells.size = k) (hk0 : 0 < k)
  (ty : TypeId) (h : OwnG E k cs w base v l) {ad : Addr} {c : Nat} (hr : ∀ j u, (m.flatMap cs)[j]? = some u → w.cell? (ad.add j) = some u) (hl : l.length + m.length ≤ 4611686018427387904) (hby : (l.length + m.length) * bytes ≤ 140737488355328) (hb : base ≤ w.heap.size) :
  ∃ v' w', (Builtin.append_ #[T, T] ty #[v, .slice (some ad) m.length c]).run Tryz.prog w = .ok v' w' ∧ OwnG E k cs w' base v' (l ++ m) ∧ w.grownBy w' v.ownBlock ∧ (v'.ownBlock = v.ownBlock ∨ v'.ownBlock = some w.heap.size) := by
 obtain ⟨i0, hi', hz0, hz1, hz2⟩ : ∃ i0, Tryz.prog.info? E = some i0 ∧ i0.zero = some z ∧ i0.size = k ∧ i0.bytes = bytes := by
  cases hE : Tryz.prog.info? E with
  | none => rw [hE] at hi; simp at hi
  | some i => rw [hE] at hi; simp at hi; exact ⟨i, rfl, hi.1, hi.2.1, hi.2.2⟩
 obtain ⟨v', w', e1, e2, e3, e4, e5⟩ := run_append_own_at (P := Tryz.prog) w base T ty E i0 z k bytes hu hi' hz0 hz1 hz2 hzs hk0 v l.length (l.flatMap cs) h ad m.length c (m.flatMap cs) (flat_length hk m) hr
  (fun u hu => by obtain ⟨x, _, hx⟩ := List.mem_flatMap.1 hu; exact hone x u hx) (by unfold maxLen; omega) hby hb
 refine ⟨v', w', e1, ?_, e3, e5⟩
 unfold OwnG
 rw [List.length_append, List.flatMap_append]
 exact e2
end Gr
end Go.Proofs.YtkbndlnmbbbohaaGreatDoor
namespace Go.Proofs.YtkbndlnmbbbohaaGreatDoor
open Go Go.RowKit refRack
set_option maxRecDepth 100000
set_option linter.unusedVariables false
namespace Arr
def GrowB (v v' : Value) (w w' : World) : Prop := w.heap.size ≤ w'.heap.size ∧ (∀ g, g < w.heap.size → v.ownBlock ≠ some g → w'.heap[g]? = w.heap[g]?) ∧ (v'.ownBlock = v.ownBlock ∨ v'.ownBlock = some w.heap.size ∨ v'.ownBlock = some (w.heap.size + 1))
section
variable {w : World} {base : Nat} {v : Value}
theorem app1 {α : Type} {E T : TypeId} {k : Nat} {cs : α → List Value} {z : Value} {bytes : Nat} {l : List α} (hk : ∀ x, (cs x).length = k) (hone : ∀ x, ∀ u ∈ cs x, u.oneCell' = true) (hu : Tryz.prog.underlying T = some (.slice E)) (hi : (Tryz.prog.info? E).map (fun i => (i.zero, i.size, i.bytes)) = some (some z, k, bytes)) (hzs : z.cells.size = k) (hk0 : 0 < k) (hb64 : bytes ≤ 64)
  (h : Gr.OwnG E k cs w base v l) (x : α) (hl : l.length ≤ 1000000) (hb : base ≤ w.heap.size) (ty : TypeId) :
  ∃ v' w', (Builtin.append_ #[T, T] ty #[v, .slice (some ⟨w.heap.size, 0, none⟩) 1 1]).run Tryz.prog (w.alloc (.cells (cs x).toArray E)) = .ok v' w' ∧ Gr.OwnG E k cs w' base v' (l ++ [x]) ∧ Below base w w' ∧ GrowB v v' w w' := by
 have hB : Below base w (w.alloc (.cells (cs x).toArray E)) := (Below.refl _ _).alloc hb _
 have hB2 : Below w.heap.size w (w.alloc (.cells (cs x).toArray E)) := (Below.refl _ _).alloc (Nat.le_refl _) _
 have hs : (w.alloc (.cells (cs x).toArray E)).heap.size = w.heap.size + 1 := by simp
 obtain ⟨v', w', e1, e2, e3, e4⟩ := Gr.run_append_b (m := [x]) (c := 1) hk hone hu hi hzs hk0 ty (h.below hB2 (Nat.le_refl _)) (ad := ⟨w.heap.size, 0, none⟩) (Gr.one_cells x w E) (by simp; omega) (by
   have := Nat.mul_le_mul_left (l.length + 1) hb64
   have h1 : ([x] : List α).length = 1 := rfl
   rw [h1]
   omega) (by rw [hs]; omega)
 refine ⟨v', w', e1, e2, hB.trans ⟨e3.os, e3.tape, e3.output, e3.size, fun g hg => e3.block g (by omega) (fun e => by have := (h.lt e.symm).2; omega)⟩, by have := e3.size; omega, fun g hg hne => (e3.block g (by omega) (fun e => hne e.symm)).trans (hB2.block g hg), ?_⟩
 rw [hs] at e4
 rcases e4 with e | e
 ·exact .inl e
 ·exact .inr (.inr e)
theorem appN {l : List Nat} (h : Nr.OwnN w base v l) (x : Nat) (hl : l.length ≤ 1000000) (hb : base ≤ w.heap.size) (ty : TypeId) :
  ∃ v' w', (Builtin.append_ #[22, 22] ty #[v, .slice (some ⟨w.heap.size, 0, none⟩) 1 1]).run Tryz.prog (w.alloc (.cells #[.int .i64 (x : Int)] 3)) = .ok v' w' ∧ Nr.OwnN w' base v' (l ++ [x]) ∧ Below base w w' ∧ GrowB v v' w w' :=
 app1 (k := 1) (cs := Nr.csN) (fun _ => rfl) (fun x u hu => by simp [Nr.csN] at hu; subst hu; rfl) Tryz.underlying22 Ir.info_int rfl (by omega) (by omega) h x hl hb ty
theorem own_keepN {w' : World} {l : List Nat} (h : Nr.OwnN w base v l) (hk : ∀ g, v.ownBlock = some g → w'.heap[g]? = w.heap[g]?) : Nr.OwnN w' base v l := by
 refine ⟨h.1, ?_⟩
 rcases h.2 with e | ⟨g, cap, cur, rfl, h1, h2, h3⟩
 ·exact .inl e
 ·exact .inr ⟨g, cap, cur, rfl, h1, (hk g rfl).trans h2, h3⟩
theorem own_ltN {l : List Nat} (h : Nr.OwnN w base v l) {g : Nat} (hg : v.ownBlock = some g) : g < w.heap.size ∧ base ≤ g := by
 rcases h.2 with ⟨rfl, _⟩ | ⟨g', cap, cur, rfl, h1, h2, h3⟩
 ·cases hg
 ·cases hg; exact ⟨(Array.getElem?_eq_some_iff.1 h2).1, h1⟩
end
theorem wp_app_g {w : World} {o : Oper} {a : Act} {K : Act → World → Prop} {Q : Exit → Act → World → Prop} (T : TypeId) (s x : Operand) (ho : o.op = .call { callee := .builtin .append, args := #[s, x], argTypes := #[T, T] })
  {v y : Value} {R : Value → World → Prop} (hs : a.eval s = v) (hx : a.eval x = y) (hrun : ∀ ty, ∃ v' w', (Builtin.append_ #[T, T] ty #[v, y]).run Tryz.prog w = .ok v' w' ∧ R v' w') (h : ∀ v' w', R v' w' → K (a.put o.dst v') w') : o.wp Tryz.prog a w K Q := by
 obtain ⟨v', w', h1, h2⟩ := hrun o.type
 exact Gr.wp_append T s x ho hs hx h1 (h v' w' h2)
theorem wpList_app_g {w : World} {ops : Array Oper} {rest : List Oper} {o : Oper} {a : Act} {Q : Exit → Act → World → Prop} (hgd : o.guard = none) (T : TypeId) (s x : Operand) (ho : o.op = .call { callee := .builtin .append, args := #[s, x], argTypes := #[T, T] })
  {v y : Value} {R : Value → World → Prop} (hs : a.eval s = v) (hx : a.eval x = y) (hrun : ∀ ty, ∃ v' w', (Builtin.append_ #[T, T] ty #[v, y]).run Tryz.prog w = .ok v' w' ∧ R v' w') (h : ∀ v' w', R v' w' → wpList Tryz.prog ops Q rest (a.put o.dst v') w') : wpList Tryz.prog ops Q (o :: rest) a w :=
 wpList_plain hgd fun K hK' => wp_app_g T s x ho hs hx hrun fun v' w' h' => hK' _ _ (h v' w' h')
def drvL (N ad m : Nat) : List Nat := (List.range m).map fun i => (ad + i) % N
theorem drvL_length (N ad m : Nat) : (drvL N ad m).length = m := by simp [drvL]
theorem intA_congr {n : Nat} {f g : Nat → Int} (h : ∀ j, j < n → f j = g j) : Ir.intA n f = Ir.intA n g := by
 unfold Ir.intA
 congr 1
 funext j
 rw [h j.val j.isLt]
theorem own_intA {w : World} {base g m : Nat} {f : Nat → Nat} (h : Blk w g 3 (Ir.intA m (fun j => ((f j : Nat) : Int)))) (hb : base ≤ g) (hm : m ≤ 100000) : Nr.OwnN w base (.slice (some ⟨g, 0, none⟩) m m) ((List.range m).map f) := by
 rw [Sq.own_iff, Sq.ints_length, List.length_map, List.length_range]
 refine ⟨by simp [Sq.ints], .inr ⟨g, m, _, rfl, hb, h, Nat.le_refl _, by simp only [maxLen]; omega, by simp [Ir.intA], ?_⟩⟩
 apply List.ext_getElem?
 intro i
 rw [Nat.mul_one]
 by_cases hi : i < m
 ·rw [List.getElem?_take_of_lt hi, Array.getElem?_toList, Ir.intA_get hi]
  simp [Sq.ints, hi]
 ·rw [List.getElem?_eq_none (by simp; omega), List.getElem?_eq_none (by simp [Sq.ints]; omega)]
section
variable {B a r f : Nat} {w w' : World} {s s' : RS}
set_option maxHeartbeats 1600000 in
theorem drives_ok (w : World) (h : At B w a r f s) (ad n : Nat) (h1 : 1 ≤ n) (hn : n ≤ 1024) (hc : ad + cost s.nd n ≤ cells s f) :
  Calls Tryz.prog 56 #[.pointer (some ⟨a, 0, none⟩), .int .i64 (ad : Int), .int .i64 (n : Int)] w fun e w' => ∃ v, e = .returned (.tuple #[v, .int .i64 0]) ∧ Nr.OwnN w' w.heap.size v (Sq.srt (drvL s.nd ad (min (cost s.nd n) s.nd))) ∧ Below w.heap.size w w' := by
 have c0 := h.c0
 have HS := Lib.hid (span_ok w h ad n h1 hn hc)
 have HA := Lib.hid h
 have HD := Lib.hid (fun n => drives_any (w.drewN n) r s (h.rack.drewN n))
 have h5 := h.five
 obtain ⟨h16, h2k⟩ := h.bounds
 have hle := cells_le h
 obtain ⟨m, hm⟩ : ∃ m, m = min (cost s.nd n) s.nd := ⟨_, rfl⟩
 rw [← hm]
 have hm16 : m ≤ 16 := by omega
 have t1 : min (cost s.nd n : Int) (s.nd : Int) = (m : Int) := by omega
 have HT := Lib.hid t1
 have hmk := Ir.make_ints m (by omega)
 have had : ad ≤ 32000 := by omega
 generalize cost s.nd n = C at *
 clear h hm hc hle
 go_enter Tryz.func56, Tryz.ntmps56
 go_wp2_with fail
 refine HS.out.mono ?_
 rintro e w1 ⟨rfl, d, rfl⟩
 go_wp2_with fail
 refine (HD.out d).mono ?_
 rintro e w2 ⟨rfl, rfl⟩
 have hmk2 := hmk (w.drewN d) (m : Int) rfl
 go_wp2_with fail
 go_loopw [32] (fun y wr => ∃ i : Nat, i ≤ m ∧ y = .int .i64 (i : Int) ∧ Hid (Blk wr w.heap.size 3 (Ir.intA m (fun j => ((if j < i then (ad + j) % s.nd else 0 : Nat) : Int))) ∧ Below w.heap.size w wr)) (fun y _ => m - (intOf y).toNat)
 case atStart =>
  refine ⟨0, Nat.zero_le _, rfl, Lib.hid ⟨?_, ?_⟩⟩
  ·exact (Blk.new w _ _).drewN _
  ·exact below_drewN ((Below.refl _ _).alloc (Nat.le_refl _) _) _
 case round =>
  obtain ⟨i, hi, rfl, HR⟩ := hrel
  by_cases hlt : i < m
  ·have t2 : (i : Int) < (m : Int) := by omega
   have HV := Lib.hid (drive_any wr (HA.out.grown_ HR.out.2) (ad + i) (by omega))
   have p1 : wr.cell? ⟨w.heap.size, i, none⟩ = some (.int .i64 0) := by
    rw [HR.out.1.cell, Ir.intA_get hlt, if_neg (Nat.lt_irrefl i)]
    rfl
   have p2 : wr.frozen? ⟨w.heap.size, i, none⟩ = false := HR.out.1.frozen i
   go_wp2_with fail
   refine HV.out.mono ?_
   rintro e w3 ⟨rfl, rfl⟩
   go_wp2_with fail
   go_roundw
   case rel =>
    refine ⟨i + 1, by omega, by simp, Lib.hid ⟨?_, HR.out.2.setCell (p := ⟨w.heap.size, i, none⟩) (Nat.le_refl _) _⟩⟩
    have h := HR.out.1.set_ i (.int .i64 (((ad + i) % s.nd : Nat) : Int))
    rw [Ir.intA_set hlt, intA_congr (g := fun j => ((if j < i + 1 then (ad + j) % s.nd else 0 : Nat) : Int)) fun j hj => ?_] at h
    ·exact h
    ·by_cases e : j = i
     ·rw [if_pos e, if_pos (by omega), e]
     ·rw [if_neg e]
      by_cases e2 : j < i
      ·rw [if_pos e2, if_pos (by omega)]
      ·rw [if_neg e2, if_neg (by omega)]
   case measure => simp [intOf]; omega
  ·obtain rfl : i = m := by omega
   have t2 : ¬ ((i : Int) < (i : Int)) := by omega
   have HO : Hid (Nr.OwnN wr w.heap.size (.slice (some ⟨w.heap.size, 0, none⟩) i i) (drvL s.nd ad i)) := Lib.hid (by
    have h := own_intA (f := fun j => if j < i then (ad + j) % s.nd else 0) HR.out.1 (Nat.le_refl _) (by omega)
    have e : (List.range i).map (fun j => if j < i then (ad + j) % s.nd else 0) = drvL s.nd ad i := by
     unfold drvL
     exact List.map_congr_left fun j hj => if_pos (by simpa using hj)
    rw [e] at h
    exact h)
   have HQ := Lib.hid (Sq.sort_own wr w.heap.size _ (drvL s.nd ad i) HO.out (by rw [drvL_length]; omega))
   go_wp2_with fail
   refine HQ.out.mono ?_
   rintro e w4 ⟨rfl, h4, g4⟩
   have H4 := Lib.hid h4
   have B4 : Hid (Below w.heap.size w w4) := Lib.hid (HR.out.2.grown g4 HR.out.2.size (fun k hk => by cases hk; exact Nat.le_refl _))
   clear h4 g4
   go_wp2_with fail
   go_ret2
   exact ⟨_, rfl, H4.out, B4.out⟩
end
end Arr
end Go.Proofs.YtkbndlnmbbbohaaGreatDoor
namespace Go.Proofs.YtkbndlnmbbbohaaGreatDoor
set_option maxRecDepth 100000
open Go Go.RowKit Go.ChangeShapes Go.WideShapes Go.ChangeAt
set_option linter.unusedVariables false
def RdB (w : World) (B : Nat) (A : Option Addr) (n : Nat) (x : Nat → Nat) : Prop :=
 ∀ j, j < n → ∃ b o, A = some ⟨b, o, none⟩ ∧ b < B ∧ w.cell? ⟨b, o + j, none⟩ = some (.int .u8 (x j : Nat)) ∧ x j < 256
theorem RdB.below {w w' : World} {B B' : Nat} {A : Option Addr} {n : Nat} {x : Nat → Nat} (h : RdB w B A n x) (hb : Below B' w w') (hB : B ≤ B') : RdB w' B A n x := by
 intro j hj
 obtain ⟨b, o, h1, h2, h3, h4⟩ := h j hj
 exact ⟨b, o, h1, h2, (hb.cell (p := ⟨b, o + j, none⟩) (by show b < B'; omega)).trans h3, h4⟩
section
variable {H : Type} {enc : TypeId × Value → H} {P : Program} {W : World} {base : Nat} {held : Bool}
end
theorem rdb_of_blk {w : World} {g n : Nat} {X : Nat → Nat} (h : Blk w g 5 (rowArr n X)) (hX : ∀ i, i < n → X i < 256) : RdB w (g + 1) (some ⟨g, 0, none⟩) n X := by
 intro j hj
 refine ⟨g, 0, rfl, by omega, ?_, hX j hj⟩
 rw [Nat.zero_add, h.cell, rowArr_get hj]
theorem Only.cell {g : Nat} {a w : World} (h : Only g a w) {p : Addr} {v : Value} (hc : a.cell? p = some v) (hne : p.block ≠ g) : w.cell? p = some v := by
 rw [← hc]
 exact World.cell?_of_block (h.block p.block (block_lt_of_cell hc) (fun e => hne (by injection e)))
theorem size_u8 : (Tryz.prog.info? 5).map (·.size) = some 1 := by kernel_rfl
theorem wpList_copyB {w : World} {ops : Array Oper} {rest : List Oper} {o : Oper} {a : Act} {Q : Exit → Act → World → Prop} (hgd : o.guard = none) (d s : Operand) (dT sT : TypeId)
  (ho : o.op = .call { callee := .builtin .copy, args := #[d, s], argTypes := #[dT, sT] }) (hu : Tryz.prog.underlying dT = some (.slice 5))
  (g n b off sLen sCap : Nat) (hd : a.eval d = .slice (some ⟨g, 0, none⟩) n n) (hs : a.eval s = .slice (some ⟨b, off, none⟩) sLen sCap)
  (f x : Nat → Nat) (hg : Blk w g 5 (rowArr n f)) (hx : ∀ j, j < sLen → w.cell? ⟨b, off + j, none⟩ = some (.int .u8 (x j : Nat))) (hle : sLen ≤ n)
  (h : ∀ w', Blk w' g 5 (rowArr n (fun j => if j < sLen then x j else f j)) → Only g w w' → w'.heap.size = w.heap.size → wpList Tryz.prog ops Q rest (a.put o.dst (goInt sLen)) w') :
  wpList Tryz.prog ops Q (o :: rest) a w := by
 have hrs : (rowArr n f).size = n := by simp [rowArr]
 refine wpList_copy_own hgd d s dT sT ho 5 hu size_u8 g 0 n n ⟨b, off, none⟩ sLen sCap hd hs (rowArr n f) 5 hg ((List.range sLen).map fun j => .int .u8 ((x j : Nat) : Int)) (by simp; exact (Nat.min_eq_left hle).symm) ?_ (by simp [hrs]; exact hle) ?_ ?_
 ·intro j v hj
  simp only [List.getElem?_map] at hj
  by_cases hjl : j < sLen
  ·simp [hjl] at hj
   subst hj
   have e : (⟨b, off, none⟩ : Addr).add j = ⟨b, off + j, none⟩ := by unfold Addr.add; split <;> simp_all
   rw [e]
   exact hx j hjl
  ·simp [hjl] at hj
 ·intro v hv
  simp at hv
  obtain ⟨j, _, rfl⟩ := hv
  rfl
 ·have e1 : ((rowArr n f).toList.take 0 ++ (((List.range sLen).map fun j => Value.int .u8 ((x j : Nat) : Int)) ++ (rowArr n f).toList.drop (0 + ((List.range sLen).map fun j => Value.int .u8 ((x j : Nat) : Int)).length))).toArray = rowArr n (fun j => if j < sLen then x j else f j) := by
   apply Array.ext_getElem?
   intro j
   by_cases hj : j < n
   ·rw [rowArr_get hj]
    by_cases hjl : j < sLen
    ·simp only [List.take_zero, List.nil_append, List.getElem?_toArray]
     rw [List.getElem?_append_left (by simp; exact hjl), if_pos hjl]
     simp [hjl]
    ·have hgt := rowArr_get (f := f) hj
     have e2 : sLen + (j - sLen) = j := by omega
     simp [hjl, List.getElem?_append, e2, hgt]
   ·rw [Array.getElem?_eq_none (by simp [hrs]; omega), Array.getElem?_eq_none (by simp [rowArr]; omega)]
  rw [e1]
  have e3 : ((List.range sLen).map fun j => Value.int .u8 ((x j : Nat) : Int)).length = sLen := by simp
  rw [e3]
  exact h _ (setRow_heap w g _ _ _ _ hg) ⟨rfl, rfl, rfl, by simp, fun k hk hne => setRow_other w g k _ (fun e => hne (by rw [e]))⟩ (by simp)
theorem wpList_copy0 {w : World} {ops : Array Oper} {rest : List Oper} {o : Oper} {a : Act} {Q : Exit → Act → World → Prop} (hgd : o.guard = none) (d s : Operand) (dT sT : TypeId)
  (ho : o.op = .call { callee := .builtin .copy, args := #[d, s], argTypes := #[dT, sT] }) (hu : Tryz.prog.underlying dT = some (.slice 5))
  (g n m sCap c : Nat) (A : Option Addr) (hd : a.eval d = .slice (some ⟨g, 0, none⟩) n c) (hs : a.eval s = .slice A m sCap) (e0 : Nat.min m n = 0)
  (h : wpList Tryz.prog ops Q rest (a.put o.dst (goInt 0)) w) : wpList Tryz.prog ops Q (o :: rest) a w := by
 refine wpList_plain hgd fun K hK => ?_
 have hrun : (Builtin.copy_ #[dT, sT] o.type #[.slice (some ⟨g, 0, none⟩) n c, .slice A m sCap]).run Tryz.prog w = .ok (goInt 0) w := by
  have h0 : ∀ ad : Addr, (loadCells ad 0).run Tryz.prog w = .ok #[] w := fun ad => run_loadCells_list (P := Tryz.prog) w ad [] (fun j v hv => by simp at hv)
  have h1 : (sizeOf 5).run Tryz.prog w = .ok 1 w := by
   unfold sizeOf typeInfo
   cases hq : Tryz.prog.info? 5 with
   | none => have := size_u8; rw [hq] at this; cases this
   | some i => have := size_u8; rw [hq] at this; simp at this; simp [Sem.run_bind, hq, this]
  cases A <;> simp [Builtin.copy_, run_underlying hu, Sem.run_bind, Builtin.lenOf, h1, Builtin.firstCells, storeCells, e0, h0]
 unfold Oper.wp
 simp [execOp, ho, resolve, invoke, builtin, hd, hs, hrun, Result.andThen]
 exact hK _ _ h
set_option maxRecDepth 100000 in
theorem wpList_copyRd {w : World} {ops : Array Oper} {rest : List Oper} {o : Oper} {a : Act} {Q : Exit → Act → World → Prop} (hgd : o.guard = none) (d s : Operand) (dT sT : TypeId)
  (ho : o.op = .call { callee := .builtin .copy, args := #[d, s], argTypes := #[dT, sT] }) (hu : Tryz.prog.underlying dT = some (.slice 5))
  (g n m sCap B : Nat) (A : Option Addr) (hd : a.eval d = .slice (some ⟨g, 0, none⟩) n n) (hs : a.eval s = .slice A m sCap)
  (f x : Nat → Nat) (hg : Blk w g 5 (rowArr n f)) (hx : RdB w B A m x) (hle : m ≤ n)
  (h : ∀ w', Blk w' g 5 (rowArr n (fun j => if j < m then x j else f j)) → Only g w w' → w'.heap.size = w.heap.size → wpList Tryz.prog ops Q rest (a.put o.dst (goInt m)) w') :
  wpList Tryz.prog ops Q (o :: rest) a w := by
 by_cases h0 : m = 0
 ·subst h0
  refine wpList_copy0 hgd d s dT sT ho hu g n 0 sCap n A hd hs (Nat.zero_min n) ?_
  exact h w (by rw [show (rowArr n fun j => if j < 0 then x j else f j) = rowArr n f from rowArr_congr fun c _ => if_neg (by omega)]; exact hg) (Only.refl _ _) rfl
 ·obtain ⟨b, off, rfl, _⟩ := hx 0 (by omega)
  exact wpList_copyB hgd d s dT sT ho hu g n b off m sCap hd hs f x hg (fun j hj => by
   obtain ⟨b', o', e, _, h3, _⟩ := hx j hj
   injection e with e
   injection e with e1 e2
   subst e1; subst e2
   exact h3) hle h
set_option maxRecDepth 100000 in
theorem wpList_copyFull {w : World} {ops : Array Oper} {rest : List Oper} {o : Oper} {a : Act} {Q : Exit → Act → World → Prop} (hgd : o.guard = none) (d s : Operand) (dT sT : TypeId)
  (ho : o.op = .call { callee := .builtin .copy, args := #[d, s], argTypes := #[dT, sT] }) (hu : Tryz.prog.underlying dT = some (.slice 5))
  (g n m sCap B : Nat) (A : Option Addr) (hd : a.eval d = .slice (some ⟨g, 0, none⟩) n n) (hs : a.eval s = .slice A m sCap)
  (f x : Nat → Nat) (hg : Blk w g 5 (rowArr n f)) (hx : RdB w B A m x) (hle : n ≤ m)
  (h : ∀ w', Blk w' g 5 (rowArr n x) → Only g w w' → w'.heap.size = w.heap.size → wpList Tryz.prog ops Q rest (a.put o.dst (goInt n)) w') :
  wpList Tryz.prog ops Q (o :: rest) a w := by
 by_cases h0 : n = 0
 ·subst h0
  refine wpList_copy0 hgd d s dT sT ho hu g 0 m sCap 0 A hd hs (Nat.min_zero m) ?_
  exact h w (by rw [show (rowArr 0 x) = rowArr 0 f from rowArr_congr fun c hc => absurd hc (by omega)]; exact hg) (Only.refl _ _) rfl
 ·obtain ⟨b, off, rfl, _⟩ := hx 0 (by omega)
  have hrs : (rowArr n f).size = n := by simp [rowArr]
  have hmin : Nat.min m n = n := Nat.min_eq_right hle
  refine wpList_copy_own hgd d s dT sT ho 5 hu size_u8 g 0 n n ⟨b, off, none⟩ m sCap hd hs (rowArr n f) 5 hg ((List.range n).map fun j => .int .u8 ((x j : Nat) : Int)) (by simp only [List.length_map, List.length_range]; exact hmin.symm) ?_ (by simp [hrs]) ?_ ?_
  ·intro j v hj
   simp only [List.getElem?_map] at hj
   by_cases hjl : j < n
   ·simp [hjl] at hj
    subst hj
    obtain ⟨b', o', e, _, h3, _⟩ := hx j (by omega)
    injection e with e
    injection e with e1 e2
    subst e1; subst e2
    rw [add_plain]
    exact h3
   ·simp [hjl] at hj
  ·intro v hv
   simp at hv
   obtain ⟨j, _, rfl⟩ := hv
   rfl
  ·have e1 : ((rowArr n f).toList.take 0 ++ (((List.range n).map fun j => Value.int .u8 ((x j : Nat) : Int)) ++ (rowArr n f).toList.drop (0 + ((List.range n).map fun j => Value.int .u8 ((x j : Nat) : Int)).length))).toArray = rowArr n x := by
    apply Array.ext_getElem?
    intro j
    by_cases hj : j < n
    ·rw [rowArr_get hj]
     simp only [List.take_zero, List.nil_append, List.getElem?_toArray]
     rw [List.getElem?_append_left (by simp; exact hj)]
     simp [hj]
    ·rw [Array.getElem?_eq_none (by simp [hrs]; omega), Array.getElem?_eq_none (by simp [rowArr]; omega)]
   rw [e1]
   have e3 : ((List.range n).map fun j => Value.int .u8 ((x j : Nat) : Int)).length = n := by simp
   rw [e3]
   exact h _ (setRow_heap w g _ _ _ _ hg) ⟨rfl, rfl, rfl, by simp, fun k hk hne => setRow_other w g k _ (fun e => hne (by rw [e]))⟩ (by simp)
def subA (A : Option Addr) (c lo : Nat) : Option Addr := if c = lo then A else A.map (·.add lo)
theorem RdB.sub {w : World} {B n c lo : Nat} {A : Option Addr} {x : Nat → Nat} (h : RdB w B A n x) (hc : n ≤ c) : RdB w B (subA A c lo) (n - lo) (fun j => x (lo + j)) := fun j hj => by
 obtain ⟨b, o, rfl, h2, h3, h4⟩ := h (lo + j) (by omega)
 refine ⟨b, o + lo, ?_, h2, by rw [Nat.add_assoc]; exact h3, h4⟩
 unfold subA
 rw [if_neg (by omega)]
 simp [add_plain]
theorem sizeOf_u8 (w : World) : (sizeOf 5).run Tryz.prog w = .ok 1 w := by
 unfold sizeOf typeInfo
 cases hq : Tryz.prog.info? 5 with
 | none => have := size_u8; rw [hq] at this; cases this
 | some i => have := size_u8; rw [hq] at this; simp at this; simp [Sem.run_bind, hq, this]
theorem slice_from (A : Option Addr) (n c lo : Nat) (L : Int) (hL : L = (lo : Int)) (h : lo ≤ n) (w : World) :
  (Instr.sliceAt 41 (.slice A n c) (some (.int .i64 L)) none none).run Tryz.prog w = .ok (.slice (subA A c lo) (n - lo) (c - lo)) w := by
 subst hL
 have hu : Tryz.prog.underlying 41 = some (.slice (Tryz.prog.elem 41)) := by kernel_rfl
 have he : Tryz.prog.elem 41 = 5 := by kernel_rfl
 rw [run_sliceAt_slice (P := Tryz.prog) (w := w) (h := hu), run_slice_l (P := Tryz.prog) (w := w) 41 A n c hu .i64 (lo : Int) (by omega) (by omega), he, sizeOf_u8]
 simp [sliced, subA]
end Go.Proofs.YtkbndlnmbbbohaaGreatDoor
namespace Go.Proofs.YtkbndlnmbbbohaaGreatDoor
open Go Go.RowKit
set_option maxRecDepth 100000
set_option linter.unusedVariables false
namespace Sto
structure Kx where
 addr : Int
 sum : ByteArray
 dat : List Nat
 hA : Option Addr
 hn : Nat
 hc : Nat
def csK (x : Kx) : List Value := [.int .i64 x.addr, .string x.sum, .slice x.hA x.hn x.hc]
theorem csK_one (x : Kx) : ∀ u ∈ csK x, u.oneCell' = true := fun u hu => by
 simp [csK] at hu
 rcases hu with rfl | rfl | rfl <;> rfl
theorem info_kb : (Tryz.prog.info? 154).map (fun i => (i.zero, i.size, i.bytes)) = some (some (.agg #[.int .i64 0, .string ⟨#[]⟩, .slice none 0 0]), 3, 48) := by kernel_rfl
def Byt (w : World) (A : Option Addr) (l : List Nat) : Prop := (∀ x ∈ l, x < 256) ∧ (l = [] ∨ ∃ g o cur fr, A = some ⟨g, o, none⟩ ∧ w.heap[g]? = some (.cells cur 5 fr) ∧ ∀ (j x : Nat), l[j]? = some x → cur[o + j]? = some (.int .u8 (x : Int)))
structure Kx.ok (w : World) (x : Kx) : Prop where
 len : x.hn = x.dat.length
 cap : x.hn ≤ x.hc ∧ x.hc ≤ maxLen
 few : x.dat.length ≤ 1024
 byt : Byt w x.hA x.dat
theorem Byt.keep {w w' : World} {A : Option Addr} {l : List Nat} (h : Byt w A l) (hk : ∀ (g : Nat) (cur : Array Value) (fr : Nat × Nat), w.heap[g]? = some (.cells cur 5 fr) → w'.heap[g]? = some (.cells cur 5 fr)) : Byt w' A l := by
 refine ⟨h.1, ?_⟩
 rcases h.2 with e | ⟨g, o, cur, fr, e1, e2, e3⟩
 ·exact .inl e
 ·exact .inr ⟨g, o, cur, fr, e1, hk _ _ _ e2, e3⟩
theorem Kx.ok.keep {w w' : World} {x : Kx} (h : x.ok w) (hk : ∀ (g : Nat) (cur : Array Value) (fr : Nat × Nat), w.heap[g]? = some (.cells cur 5 fr) → w'.heap[g]? = some (.cells cur 5 fr)) : x.ok w' := ⟨h.len, h.cap, h.few, h.byt.keep hk⟩
theorem Byt.rdb {w : World} {A : Option Addr} {l : List Nat} (h : Byt w A l) : RdB w w.heap.size A l.length (fun j => l.getD j 0) := fun j hj => by
 rcases h.2 with e | ⟨g, o, cur, fr, e1, e2, e3⟩
 ·rw [e] at hj; exact absurd hj (by simp)
 ·have hx : l[j]? = some l[j] := List.getElem?_eq_getElem hj
  have hd : l.getD j 0 = l[j] := by rw [List.getD_eq_getElem?_getD, hx]; rfl
  refine ⟨g, o, e1, (Array.getElem?_eq_some_iff.1 e2).1, ?_, by show l.getD j 0 < 256; rw [hd]; exact h.1 _ (List.getElem_mem hj)⟩
  show w.cell? _ = some (.int .u8 ((l.getD j 0 : Nat) : Int))
  rw [cell_of_row w g (o + j) cur _ fr e2, hd]
  exact e3 j _ hx
structure Row (w : World) (base : Nat) (v : Value) (l : List Kx) : Prop where
 own : Gr.OwnG 154 3 csK w base v l
 ok : ∀ x ∈ l, x.ok w
def idx (a : Int) (l : List Kx) : Nat := l.findIdx fun x => x.addr == a
theorem idx_le (a : Int) (l : List Kx) : idx a l ≤ l.length := List.findIdx_le_length
def plc (a : Int) (l : List Kx) : Int := if idx a l < l.length then (idx a l : Int) else -1
def cut (a : Int) (l : List Kx) : List Kx := l.take (idx a l) ++ l.drop (idx a l + 1)
theorem cut_none {a : Int} {l : List Kx} (h : ¬ idx a l < l.length) : cut a l = l := by
 unfold cut
 rw [List.take_of_length_le (by omega), List.drop_of_length_le (by have := idx_le a l; omega), List.append_nil]
theorem cut_mem {a : Int} {l : List Kx} {x : Kx} (h : x ∈ cut a l) : x ∈ l := by
 unfold cut at h
 rcases List.mem_append.1 h with h | h
 ·exact List.mem_of_mem_take h
 ·exact List.mem_of_mem_drop h
theorem cut_len (a : Int) (l : List Kx) : (cut a l).length ≤ l.length := by
 unfold cut
 rw [List.length_append, List.length_take, List.length_drop]
 omega
def old (l : List Kx) : List Kx := if l.length = 64 then l.drop 1 else l
theorem old_len {l : List Kx} (h : l.length ≤ 64) : (old l).length ≤ 63 := by
 unfold old
 split
 ·rw [List.length_drop]; omega
 ·omega
end Sto
end Go.Proofs.YtkbndlnmbbbohaaGreatDoor
