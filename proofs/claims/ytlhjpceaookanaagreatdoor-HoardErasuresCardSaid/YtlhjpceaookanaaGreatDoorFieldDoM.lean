/-
  'slices.Sort', 'slices.Sorted(slices.Values(x))', 'slices.Contains' of the call's own rows of numbers, by contracts. Conditions: no more than a million of them.
-/
import Derived.Test.YtlhjpceaookanaaGreatDoorArrSeqM
import Derived.Lib.Hide
import Derived.Test.YtlhjpceaookanaaGreatDoorGenRowM
import Derived.Test.YtlhjpceaookanaaGreatDoorArrCallsM
import Derived.Lib.SliceRun
import Derived.Below
import Derived.Laws.OwnMore
import Derived.Deep.Draws
import Derived.Laws.Rows
import Derived.Laws.AppendOwn
import Derived.Deep.OwnRows
import Derived.OwnWalk
import Derived.Test.YtlhjpceaookanaaGreatDoorFieldGaussM
import Derived.Test.YtlhjpceaookanaaGreatDoorRackMapM
import Derived.Test.YtlhjpceaookanaaGreatDoorRows
import Derived.WalkKit
import Derived.Defers
import Derived.Laws.Pointers
import Derived.Laws.LoneSync
import Derived.RegionTactic
import Derived.RegionCalls
import Derived.ChangeAlike
import Derived.Laws.BitsLemmas
import Derived.Laws.NewBlocks
namespace Go.Proofs.YtlhjpceaookanaaGreatDoor
open Go Go.Proofs Go.RowKit Go.Shelf Go.Sort
set_option maxRecDepth 100000
set_option linter.unusedVariables false
namespace Sq
def ints (l : List Nat) : List Int := l.map fun x : Nat => (x : Int)
theorem ints_length (l : List Nat) : (ints l).length = l.length := by simp [ints]
def srt (l : List Nat) : List Nat := l.mergeSort fun x y => decide (x ≤ y)
theorem srt_ints (l : List Nat) : (ints l).mergeSort (fun x y => decide (x ≤ y)) = ints (srt l) := by
  unfold ints srt
  refine (List.map_mergeSort (f := fun x : Nat => (x : Int)) (s := fun x y => decide (x ≤ y)) (r := fun x y => decide (x ≤ y)) fun a _ b _ => ?_).symm
  simp
theorem srt_perm (l : List Nat) : (srt l).Perm l := List.mergeSort_perm _ _
theorem srt_length (l : List Nat) : (srt l).length = l.length := (srt_perm l).length_eq
theorem mem_srt {l : List Nat} {x : Nat} : x ∈ srt l ↔ x ∈ l := (srt_perm l).mem_iff
theorem own_iff {w : World} {base : Nat} {v : Value} {l : List Nat} : Nr.OwnN w base v l ↔ w.ownsRow base 3 1 v (ints l).length ((ints l).map (Value.int .i64)) := by
  unfold Nr.OwnN Gr.OwnG
  rw [Nr.flat_csN, ints_length]
  unfold ints
  rw [List.map_map]
  rfl
theorem own_ints {w : World} {base : Nat} {v : Value} {l : List Nat} (h : Nr.OwnN w base v l) : Ints w.heap.size w v (ints l) := by
  rcases Nr.own_shape h with ⟨rfl, rfl⟩ | ⟨g, c, rfl, h1, h2, h3, h4, h5⟩
  · exact .inl ⟨rfl, rfl⟩
  · refine .inr ⟨g, 0, c, by rw [ints_length], h2, fun j hj => ?_⟩
    rw [ints_length] at hj
    rw [Nat.zero_add, h5 j l[j] (List.getElem?_eq_getElem hj)]
    simp [ints, hj]
/-- 'slices.Sort' of an own row -/
theorem sort_own (w : World) (base : Nat) (v : Value) (l : List Nat) (h : Nr.OwnN w base v l) (hl : l.length ≤ 1000000) :
    Calls Tryz.prog 44 #[v] w fun e w' => e = .returned (.tuple #[]) ∧ Nr.OwnN w' base v (srt l) ∧ w.grownBy w' v.ownBlock := by
  have h0 := own_iff.1 h
  rcases h0.2 with ⟨rfl, hz⟩ | ⟨g, cap, cur, rfl, hbase, hg, r1, r2, r3, r4⟩
  · have hl0 : l = [] := by rw [ints_length] at hz; exact List.eq_nil_of_length_eq_zero hz
    subst hl0
    have hc : Calls Tryz.prog 44 #[.slice none 0 0] w fun e w' => e = .returned (.tuple #[]) ∧ w' = w := Any.slices_Sort_int_none laySort none 0 w
    refine hc.mono ?_
    rintro e w' ⟨rfl, rfl⟩
    exact ⟨rfl, by rw [show srt [] = [] by simp [srt]]; exact h, World.grownBy.refl _ _⟩
  · rw [Nat.mul_one] at r4
    have hH : Holds (Value.int .i64) w g 0 (ints l).toArray := holds_of_blockI hg r4
    have hgl : g < w.heap.size := (Array.getElem?_eq_some_iff.1 hg).1
    have hc := Any.slices_Sort_int laySort g 0 cap (ints l) w hH hgl (by rw [ints_length]; omega)
    have hc2 : Calls Tryz.prog 44 #[.slice (some ⟨g, 0, none⟩) (ints l).length cap] w _ := hc
    refine hc2.mono ?_
    rintro e w' ⟨rfl, k, os, rfl⟩
    rw [srt_ints]
    refine ⟨rfl, ?_, grownBy_sortedI _⟩
    rw [own_iff]
    have hs := ownsRow_sortedI (w := w) (n := k) (os := os) (ss := ints l) (ts := ints (srt l)) (by rw [ints_length, ints_length, srt_length]) hbase hg r1 r2 r3
    rw [show (ints (srt l)).length = (ints l).length by rw [ints_length, ints_length, srt_length]]
    exact hs
set_option maxHeartbeats 1000000 in
theorem collect_in (F : Fence) (n : Nat) (h2 : F.fn 61) (h3 : F.fn 76) (h7 : F.fn 62) (hro : F.round = none) (hn : 4 ≤ n) (Bs : Nat) (sv : Value) (zs : List Int) (hlen : zs.length ≤ 1000000) (w : World) (hBs : Bs < w.heap.size)
    (hc : w.cell? ⟨Bs, 0, none⟩ = some sv) (hI : Ints w.heap.size w sv zs) :
    CallsIn F n Tryz.prog 61 #[.func (.func 62) #[] #[.pointer (some ⟨Bs, 0, none⟩)]] w fun e W' => ∃ v, e = .returned v ∧ W'.ownsRow w.heap.size 3 1 v zs.length (zs.map (Value.int .i64)) ∧ Below w.heap.size w W' := by
  have h1 : 1 ≤ n := by omega
  have cA := appendSeq_in F (n - 1) h3 h7 hro (by omega) Bs sv zs hlen w hBs hc hI
  refine callsIn_of_wp Tryz.func61 rfl h2 ?_ hro
  simp only [Tryz.ntmps61, List.size_toArray, List.length_cons, List.length_nil, Nat.reduceAdd, Nat.reduceSub, Array.replicate_succ, Array.replicate_zero, List.push_toArray, List.append_toArray, List.nil_append, List.cons_append]
  gi_wp2_with (gi_at_call 76; refine cA.mono ?_; rintro e w' ⟨v, rfl, hrow, hb⟩)
  go_ret
  exact ⟨v, rfl, hrow, hb⟩
/-- 'slices.Sorted(slices.Values(x))': a new row -/
theorem sorted_any (w : World) (Bs : Nat) (sv : Value) (l : List Nat) (hl : l.length ≤ 1000000) (hBs : Bs < w.heap.size) (hc : w.cell? ⟨Bs, 0, none⟩ = some sv) (hI : Ints w.heap.size w sv (ints l)) :
    Calls Tryz.prog 34 #[.func (.func 62) #[] #[.pointer (some ⟨Bs, 0, none⟩)]] w fun e W' => ∃ v, e = .returned v ∧ Nr.OwnN W' w.heap.size v (srt l) ∧ Below w.heap.size w W' := by
  have cC : Calls Tryz.prog 61 #[.func (.func 62) #[] #[.pointer (some ⟨Bs, 0, none⟩)]] w _ := (callsIn_wide (n := 6)).1 (collect_in Fence.wide 6 trivial trivial trivial rfl (by omega) Bs sv (ints l) (by rw [ints_length]; exact hl) w hBs hc hI)
  have HC := Lib.hid cC
  clear cC hc hI
  go_enter Tryz.func34, Tryz.ntmps34
  go_wp2_with fail
  refine HC.out.mono ?_
  rintro e w2 ⟨v, rfl, hrow, hb⟩
  have HO := Lib.hid (own_iff.2 hrow)
  have HB := Lib.hid hb
  clear hrow hb
  go_wp2_with fail
  refine (sort_own w2 w.heap.size v l HO.out hl).mono ?_
  rintro e w3 ⟨rfl, h3, g3⟩
  have H3 := Lib.hid h3
  have B3 : Hid (Below w.heap.size w w3) := HB.out.grown g3 HB.out.size (fun k hk => by
    rcases (own_iff.1 HO.out).2 with ⟨rfl, _⟩ | ⟨g, cap, cur, rfl, hbase, _⟩
    · cases hk
    · cases hk; exact hbase)
  clear h3 g3
  go_wp2_with fail
  go_ret
  exact ⟨v, rfl, H3.out, B3.out⟩
/-- 'slices.Contains' of a row that can be read -/
theorem contains_any (w : World) (n₀ : Nat) (sv : Value) (l : List Nat) (x : Nat) (hI : Ints n₀ w sv (ints l)) (hl : l.length ≤ 1000000) :
    Calls Tryz.prog 66 #[sv, .int .i64 (x : Int)] w fun e w' => e = .returned (.bool (decide (x ∈ l))) ∧ w' = w := by
  rcases hI with ⟨rfl, h0⟩ | ⟨b, o, c, rfl, hb, hc⟩
  · have hl0 : l = [] := by simpa [ints] using h0
    subst hl0
    have hc : Calls Tryz.prog 66 #[.slice none 0 0, .int .i64 (x : Int)] w fun e w' => e = .returned (.bool false) ∧ w' = w := Any.slices_Contains_int_empty layContains none 0 x w
    simpa using hc
  · have h1 := Any.slices_Contains_int layContains b o (ints l).length c (ints l) x w (Nat.le_refl _) (by rw [ints_length]; omega) (fun j hj => by rw [hc j hj]; simp [List.getD_eq_getElem?_getD])
    have h2 : Calls Tryz.prog 66 #[.slice (some ⟨b, o, none⟩) (ints l).length c, .int .i64 (x : Int)] w _ := h1
    refine h2.mono ?_
    rintro e w' ⟨rfl, rfl⟩
    refine ⟨?_, rfl⟩
    rw [List.take_length]
    have : (ints l).contains (x : Int) = decide (x ∈ l) := by
      rw [Bool.eq_iff_iff, List.contains_iff_mem, decide_eq_true_eq]
      unfold ints
      rw [List.mem_map]
      constructor
      · rintro ⟨y, hy, e⟩
        have : y = x := by omega
        rw [← this]; exact hy
      · intro h; exact ⟨x, h, rfl⟩
    rw [this]
end Sq
end Go.Proofs.YtlhjpceaookanaaGreatDoor
namespace Go.Proofs.YtlhjpceaookanaaGreatDoor
open Go Go.RowKit
set_option maxRecDepth 100000
set_option linter.unusedVariables false
namespace Gr
theorem run_append_b {α : Type} {E : TypeId} {k : Nat} {cs : α → List Value} {w : World} {base : Nat} {v : Value} {l m : List α} {T : TypeId} {z : Value} {bytes : Nat} (hk : ∀ x, (cs x).length = k) (hone : ∀ x, ∀ u ∈ cs x, u.oneCell' = true) (hu : Tryz.prog.underlying T = some (.slice E)) (hi : (Tryz.prog.info? E).map (fun i => (i.zero, i.size, i.bytes)) = some (some z, k, bytes)) (hzs : z.cells.size = k) (hk0 : 0 < k)
    (ty : TypeId) (h : OwnG E k cs w base v l) {ad : Addr} {c : Nat} (hr : ∀ j u, (m.flatMap cs)[j]? = some u → w.cell? (ad.add j) = some u) (hl : l.length + m.length ≤ 4611686018427387904) (hby : (l.length + m.length) * bytes ≤ 140737488355328) (hb : base ≤ w.heap.size) :
    ∃ v' w', (Builtin.append_ #[T, T] ty #[v, .slice (some ad) m.length c]).run Tryz.prog w = .ok v' w' ∧ OwnG E k cs w' base v' (l ++ m) ∧ w.grownBy w' v.ownBlock ∧ (v'.ownBlock = v.ownBlock ∨ v'.ownBlock = some w.heap.size) := by
  obtain ⟨i0, hi', hz0, hz1, hz2⟩ : ∃ i0, Tryz.prog.info? E = some i0 ∧ i0.zero = some z ∧ i0.size = k ∧ i0.bytes = bytes := by
    cases hE : Tryz.prog.info? E with
    | none => rw [hE] at hi; simp at hi
    | some i => rw [hE] at hi; simp at hi; exact ⟨i, rfl, hi.1, hi.2.1, hi.2.2⟩
  obtain ⟨v', w', e1, e2, e3, e4, e5⟩ := run_append_own_at (P := Tryz.prog) w base T ty E i0 z k bytes hu hi' hz0 hz1 hz2 hzs hk0 v l.length (l.flatMap cs) h ad m.length c (m.flatMap cs) (flat_length hk m) hr
    (fun u hu => by obtain ⟨x, _, hx⟩ := List.mem_flatMap.1 hu; exact hone x u hx) (by unfold maxLen; omega) hby hb
  refine ⟨v', w', e1, ?_, e3, e5⟩
  unfold OwnG
  rw [List.length_append, List.flatMap_append]
  exact e2
end Gr
end Go.Proofs.YtlhjpceaookanaaGreatDoor
namespace Go.Proofs.YtlhjpceaookanaaGreatDoor
open Go Go.RowKit refRack
set_option maxRecDepth 100000
set_option linter.unusedVariables false
namespace Arr
/-- only the row's own block, and what is new, may have changed -/
def GrowB (v v' : Value) (w w' : World) : Prop := w.heap.size ≤ w'.heap.size ∧ (∀ g, g < w.heap.size → v.ownBlock ≠ some g → w'.heap[g]? = w.heap[g]?) ∧ (v'.ownBlock = v.ownBlock ∨ v'.ownBlock = some w.heap.size ∨ v'.ownBlock = some (w.heap.size + 1))
section
variable {w : World} {base : Nat} {v : Value}
theorem app1 {α : Type} {E T : TypeId} {k : Nat} {cs : α → List Value} {z : Value} {bytes : Nat} {l : List α} (hk : ∀ x, (cs x).length = k) (hone : ∀ x, ∀ u ∈ cs x, u.oneCell' = true) (hu : Tryz.prog.underlying T = some (.slice E)) (hi : (Tryz.prog.info? E).map (fun i => (i.zero, i.size, i.bytes)) = some (some z, k, bytes)) (hzs : z.cells.size = k) (hk0 : 0 < k) (hb64 : bytes ≤ 64)
    (h : Gr.OwnG E k cs w base v l) (x : α) (hl : l.length ≤ 1000000) (hb : base ≤ w.heap.size) (ty : TypeId) :
    ∃ v' w', (Builtin.append_ #[T, T] ty #[v, .slice (some ⟨w.heap.size, 0, none⟩) 1 1]).run Tryz.prog (w.alloc (.cells (cs x).toArray E)) = .ok v' w' ∧ Gr.OwnG E k cs w' base v' (l ++ [x]) ∧ Below base w w' ∧ GrowB v v' w w' := by
  have hB : Below base w (w.alloc (.cells (cs x).toArray E)) := (Below.refl _ _).alloc hb _
  have hB2 : Below w.heap.size w (w.alloc (.cells (cs x).toArray E)) := (Below.refl _ _).alloc (Nat.le_refl _) _
  have hs : (w.alloc (.cells (cs x).toArray E)).heap.size = w.heap.size + 1 := by simp
  obtain ⟨v', w', e1, e2, e3, e4⟩ := Gr.run_append_b (m := [x]) (c := 1) hk hone hu hi hzs hk0 ty (h.below hB2 (Nat.le_refl _)) (ad := ⟨w.heap.size, 0, none⟩) (Gr.one_cells x w E) (by simp; omega) (by
      have := Nat.mul_le_mul_left (l.length + 1) hb64
      have h1 : ([x] : List α).length = 1 := rfl
      rw [h1]
      omega) (by rw [hs]; omega)
  refine ⟨v', w', e1, e2, hB.trans ⟨e3.os, e3.tape, e3.output, e3.size, fun g hg => e3.block g (by omega) (fun e => by have := (h.lt e.symm).2; omega)⟩, by have := e3.size; omega, fun g hg hne => (e3.block g (by omega) (fun e => hne e.symm)).trans (hB2.block g hg), ?_⟩
  rw [hs] at e4
  rcases e4 with e | e
  · exact .inl e
  · exact .inr (.inr e)
theorem appN {l : List Nat} (h : Nr.OwnN w base v l) (x : Nat) (hl : l.length ≤ 1000000) (hb : base ≤ w.heap.size) (ty : TypeId) :
    ∃ v' w', (Builtin.append_ #[22, 22] ty #[v, .slice (some ⟨w.heap.size, 0, none⟩) 1 1]).run Tryz.prog (w.alloc (.cells #[.int .i64 (x : Int)] 3)) = .ok v' w' ∧ Nr.OwnN w' base v' (l ++ [x]) ∧ Below base w w' ∧ GrowB v v' w w' :=
  app1 (k := 1) (cs := Nr.csN) (fun _ => rfl) (fun x u hu => by simp [Nr.csN] at hu; subst hu; rfl) Tryz.underlying22 Ir.info_int rfl (by omega) (by omega) h x hl hb ty
theorem own_keepN {w' : World} {l : List Nat} (h : Nr.OwnN w base v l) (hk : ∀ g, v.ownBlock = some g → w'.heap[g]? = w.heap[g]?) : Nr.OwnN w' base v l := by
  refine ⟨h.1, ?_⟩
  rcases h.2 with e | ⟨g, cap, cur, rfl, h1, h2, h3⟩
  · exact .inl e
  · exact .inr ⟨g, cap, cur, rfl, h1, (hk g rfl).trans h2, h3⟩
theorem own_ltN {l : List Nat} (h : Nr.OwnN w base v l) {g : Nat} (hg : v.ownBlock = some g) : g < w.heap.size ∧ base ≤ g := by
  rcases h.2 with ⟨rfl, _⟩ | ⟨g', cap, cur, rfl, h1, h2, h3⟩
  · cases hg
  · cases hg; exact ⟨(Array.getElem?_eq_some_iff.1 h2).1, h1⟩
end
theorem wp_app_g {w : World} {o : Oper} {a : Act} {K : Act → World → Prop} {Q : Exit → Act → World → Prop} (T : TypeId) (s x : Operand) (ho : o.op = .call { callee := .builtin .append, args := #[s, x], argTypes := #[T, T] })
    {v y : Value} {R : Value → World → Prop} (hs : a.eval s = v) (hx : a.eval x = y) (hrun : ∀ ty, ∃ v' w', (Builtin.append_ #[T, T] ty #[v, y]).run Tryz.prog w = .ok v' w' ∧ R v' w') (h : ∀ v' w', R v' w' → K (a.put o.dst v') w') : o.wp Tryz.prog a w K Q := by
  obtain ⟨v', w', h1, h2⟩ := hrun o.type
  exact Gr.wp_append T s x ho hs hx h1 (h v' w' h2)
theorem wpList_app_g {w : World} {ops : Array Oper} {rest : List Oper} {o : Oper} {a : Act} {Q : Exit → Act → World → Prop} (hgd : o.guard = none) (T : TypeId) (s x : Operand) (ho : o.op = .call { callee := .builtin .append, args := #[s, x], argTypes := #[T, T] })
    {v y : Value} {R : Value → World → Prop} (hs : a.eval s = v) (hx : a.eval x = y) (hrun : ∀ ty, ∃ v' w', (Builtin.append_ #[T, T] ty #[v, y]).run Tryz.prog w = .ok v' w' ∧ R v' w') (h : ∀ v' w', R v' w' → wpList Tryz.prog ops Q rest (a.put o.dst v') w') : wpList Tryz.prog ops Q (o :: rest) a w :=
  wpList_plain hgd fun K hK' => wp_app_g T s x ho hs hx hrun fun v' w' h' => hK' _ _ (h v' w' h')
/-- the drives of m cells from a cell on -/
def drvL (N ad m : Nat) : List Nat := (List.range m).map fun i => (ad + i) % N
theorem drvL_length (N ad m : Nat) : (drvL N ad m).length = m := by simp [drvL]
theorem intA_congr {n : Nat} {f g : Nat → Int} (h : ∀ j, j < n → f j = g j) : Ir.intA n f = Ir.intA n g := by
  unfold Ir.intA
  congr 1
  funext j
  rw [h j.val j.isLt]
theorem own_intA {w : World} {base g m : Nat} {f : Nat → Nat} (h : Blk w g 3 (Ir.intA m (fun j => ((f j : Nat) : Int)))) (hb : base ≤ g) (hm : m ≤ 100000) : Nr.OwnN w base (.slice (some ⟨g, 0, none⟩) m m) ((List.range m).map f) := by
  rw [Sq.own_iff, Sq.ints_length, List.length_map, List.length_range]
  refine ⟨by simp [Sq.ints], .inr ⟨g, m, _, rfl, hb, h, Nat.le_refl _, by simp only [maxLen]; omega, by simp [Ir.intA], ?_⟩⟩
  apply List.ext_getElem?
  intro i
  rw [Nat.mul_one]
  by_cases hi : i < m
  · rw [List.getElem?_take_of_lt hi, Array.getElem?_toList, Ir.intA_get hi]
    simp [Sq.ints, hi]
  · rw [List.getElem?_eq_none (by simp; omega), List.getElem?_eq_none (by simp [Sq.ints]; omega)]
section
variable {B a r f : Nat} {w w' : World} {s s' : RS}
set_option maxHeartbeats 1600000 in
theorem drives_ok (w : World) (h : At B w a r f s) (ad n : Nat) (h1 : 1 ≤ n) (hn : n ≤ 1024) (hc : ad + cost s.nd n ≤ cells s f) :
    Calls Tryz.prog 30 #[.pointer (some ⟨a, 0, none⟩), .int .i64 (ad : Int), .int .i64 (n : Int)] w fun e w' => ∃ v, e = .returned (.tuple #[v, .int .i64 0]) ∧ Nr.OwnN w' w.heap.size v (Sq.srt (drvL s.nd ad (min (cost s.nd n) s.nd))) ∧ Below w.heap.size w w' := by
  have c0 := h.c0
  have HS := Lib.hid (span_ok w h ad n h1 hn hc)
  have HA := Lib.hid h
  have HD := Lib.hid (fun n => drives_any (w.drewN n) r s (h.rack.drewN n))
  have h5 := h.five
  obtain ⟨h16, h2k⟩ := h.bounds
  have hle := cells_le h
  obtain ⟨m, hm⟩ : ∃ m, m = min (cost s.nd n) s.nd := ⟨_, rfl⟩
  rw [← hm]
  have hm16 : m ≤ 16 := by omega
  have t1 : min (cost s.nd n : Int) (s.nd : Int) = (m : Int) := by omega
  have HT := Lib.hid t1
  have hmk := Ir.make_ints m (by omega)
  have had : ad ≤ 32000 := by omega
  generalize cost s.nd n = C at *
  clear h hm hc hle
  go_enter Tryz.func30, Tryz.ntmps30
  go_wp2_with fail
  refine HS.out.mono ?_
  rintro e w1 ⟨rfl, d, rfl⟩
  go_wp2_with fail
  refine (HD.out d).mono ?_
  rintro e w2 ⟨rfl, rfl⟩
  have hmk2 := hmk (w.drewN d) (m : Int) rfl
  go_wp2_with fail
  go_loopw [32] (fun y wr => ∃ i : Nat, i ≤ m ∧ y = .int .i64 (i : Int) ∧ Hid (Blk wr w.heap.size 3 (Ir.intA m (fun j => ((if j < i then (ad + j) % s.nd else 0 : Nat) : Int))) ∧ Below w.heap.size w wr)) (fun y _ => m - (intOf y).toNat)
  case atStart =>
    refine ⟨0, Nat.zero_le _, rfl, Lib.hid ⟨?_, ?_⟩⟩
    · exact (Blk.new w _ _).drewN _
    · exact below_drewN ((Below.refl _ _).alloc (Nat.le_refl _) _) _
  case round =>
    obtain ⟨i, hi, rfl, HR⟩ := hrel
    by_cases hlt : i < m
    · have t2 : (i : Int) < (m : Int) := by omega
      have HV := Lib.hid (drive_any wr (HA.out.grown_ HR.out.2) (ad + i) (by omega))
      have p1 : wr.cell? ⟨w.heap.size, i, none⟩ = some (.int .i64 0) := by
        rw [HR.out.1.cell, Ir.intA_get hlt, if_neg (Nat.lt_irrefl i)]
        rfl
      have p2 : wr.frozen? ⟨w.heap.size, i, none⟩ = false := HR.out.1.frozen i
      go_wp2_with fail
      refine HV.out.mono ?_
      rintro e w3 ⟨rfl, rfl⟩
      go_wp2_with fail
      go_roundw
      case rel =>
        refine ⟨i + 1, by omega, by simp, Lib.hid ⟨?_, HR.out.2.setCell (p := ⟨w.heap.size, i, none⟩) (Nat.le_refl _) _⟩⟩
        have h := HR.out.1.set_ i (.int .i64 (((ad + i) % s.nd : Nat) : Int))
        rw [Ir.intA_set hlt, intA_congr (g := fun j => ((if j < i + 1 then (ad + j) % s.nd else 0 : Nat) : Int)) fun j hj => ?_] at h
        · exact h
        · by_cases e : j = i
          · rw [if_pos e, if_pos (by omega), e]
          · rw [if_neg e]
            by_cases e2 : j < i
            · rw [if_pos e2, if_pos (by omega)]
            · rw [if_neg e2, if_neg (by omega)]
      case measure => simp [intOf]; omega
    · obtain rfl : i = m := by omega
      have t2 : ¬ ((i : Int) < (i : Int)) := by omega
      have HO : Hid (Nr.OwnN wr w.heap.size (.slice (some ⟨w.heap.size, 0, none⟩) i i) (drvL s.nd ad i)) := Lib.hid (by
        have h := own_intA (f := fun j => if j < i then (ad + j) % s.nd else 0) HR.out.1 (Nat.le_refl _) (by omega)
        have e : (List.range i).map (fun j => if j < i then (ad + j) % s.nd else 0) = drvL s.nd ad i := by
          unfold drvL
          exact List.map_congr_left fun j hj => if_pos (by simpa using hj)
        rw [e] at h
        exact h)
      have HQ := Lib.hid (Sq.sort_own wr w.heap.size _ (drvL s.nd ad i) HO.out (by rw [drvL_length]; omega))
      go_wp2_with fail
      refine HQ.out.mono ?_
      rintro e w4 ⟨rfl, h4, g4⟩
      have H4 := Lib.hid h4
      have B4 : Hid (Below w.heap.size w w4) := Lib.hid (HR.out.2.grown g4 HR.out.2.size (fun k hk => by cases hk; exact Nat.le_refl _))
      clear h4 g4
      go_wp2_with fail
      go_ret2
      exact ⟨_, rfl, H4.out, B4.out⟩
end
end Arr
end Go.Proofs.YtlhjpceaookanaaGreatDoor
namespace Go.Proofs.YtlhjpceaookanaaGreatDoor
set_option maxRecDepth 100000
open Go.RowKit

section
variable {w w' : World} {g : Nat} {t : TypeId} {cs : Array Value}
end

section
variable {a b c w w' : World} {g : Nat}
end

/-! ### the field's cells -/
def fcell (d s : Int) (k i : Nat) : Value :=
  if i = 0 then .int .u32 d else if i = 1 then .int .i32 s else if i = 2 then .int .u32 0
  else if i < 258 then .int .u8 (((if i - 3 < k then M.pw (i - 3) else 0 : Nat)) : Int) else .int .u8 ((M.lgTo k (i - 258) : Nat) : Int)
/-- The cells of a field behind k rounds of 'fill': d the once's word, s the lock's. -/
def fcells (d s : Int) (k : Nat) : Array Value := Array.ofFn (n := 514) fun i => fcell d s k i.val

theorem fcells_size (d s : Int) (k : Nat) : (fcells d s k).size = 514 := by simp [fcells]
theorem fcells_get (d s : Int) (k i : Nat) (h : i < 514) : (fcells d s k)[i]? = some (fcell d s k i) := by
  simp [fcells, h]
theorem fcells_done (d s : Int) (k : Nat) : (fcells d s k)[0]? = some (.int .u32 d) := by rw [fcells_get _ _ _ _ (by omega)]; rfl
theorem fcells_state (d s : Int) (k : Nat) : (fcells d s k)[1]? = some (.int .i32 s) := by rw [fcells_get _ _ _ _ (by omega)]; rfl
theorem fcells_pw (d s : Int) (k n : Nat) (h : n < 255) : (fcells d s k)[3 + n]? = some (.int .u8 (((if n < k then M.pw n else 0 : Nat)) : Int)) := by
  rw [fcells_get _ _ _ _ (by omega)]
  unfold fcell
  rw [if_neg (by omega), if_neg (by omega), if_neg (by omega), if_pos (by omega)]
  have e : 3 + n - 3 = n := by omega
  rw [e]
theorem fcells_lg (d s : Int) (k v : Nat) (h : v < 256) : (fcells d s k)[258 + v]? = some (.int .u8 ((M.lgTo k v : Nat) : Int)) := by
  rw [fcells_get _ _ _ _ (by omega)]
  unfold fcell
  rw [if_neg (by omega), if_neg (by omega), if_neg (by omega), if_neg (by omega)]
  have e : 258 + v - 258 = v := by omega
  rw [e]
theorem fcells_out (d s : Int) (k i : Nat) (h : ¬ i < 514) : (fcells d s k)[i]? = none := by
  rw [Array.getElem?_eq_none]; rw [fcells_size]; omega
theorem fcells_set (d s d' s' : Int) (k k' i : Nat) (u : Value) (hi : i < 514) (h : fcell d' s' k' i = u) (ho : ∀ j, j < 514 → j ≠ i → fcell d' s' k' j = fcell d s k j) :
    (fcells d s k).setIfInBounds i u = fcells d' s' k' := by
  apply Array.ext_getElem?
  intro j
  rw [Array.getElem?_setIfInBounds, fcells_size]
  by_cases hj : j < 514
  · rw [fcells_get _ _ _ _ hj, fcells_get _ _ _ _ hj]
    by_cases e : i = j
    · subst e; rw [if_pos rfl, if_pos hi, h]
    · rw [if_neg e, ho j hj (fun e' => e e'.symm)]
  · rw [fcells_out _ _ _ _ hj, fcells_out _ _ _ _ hj, if_neg (by omega)]
theorem fcells_set_done (d d' s : Int) (k : Nat) : (fcells d s k).setIfInBounds 0 (.int .u32 d') = fcells d' s k :=
  fcells_set d s d' s k k 0 _ (by omega) rfl fun j _ h => by unfold fcell; rw [if_neg h, if_neg h]
theorem fcells_set_state (d s s' : Int) (k : Nat) : (fcells d s k).setIfInBounds 1 (.int .i32 s') = fcells d s' k :=
  fcells_set d s d s' k k 1 _ (by omega) rfl fun j _ h => by unfold fcell; rw [if_neg h, if_neg h]
theorem fcells_round (d s : Int) (k : Nat) (hk : k < 255) :
    ((fcells d s k).setIfInBounds (3 + k) (.int .u8 ((M.pw k : Nat) : Int))).setIfInBounds (258 + M.pw k) (.int .u8 ((k : Nat) : Int)) = fcells d s (k + 1) := by
  have hlt := M.pw_lt hk
  apply Array.ext_getElem?
  intro i
  rw [Array.getElem?_setIfInBounds, Array.getElem?_setIfInBounds, Array.size_setIfInBounds, fcells_size]
  by_cases hi : i < 514
  · rw [fcells_get _ _ _ _ hi, fcells_get _ _ _ _ hi]
    unfold fcell
    by_cases ha : 258 + M.pw k = i
    · rw [if_pos ha, if_pos (by omega), if_neg (by omega), if_neg (by omega), if_neg (by omega), if_neg (by omega), M.lgTo_succ, if_pos (by omega)]
    · rw [if_neg ha]
      by_cases hb : 3 + k = i
      · rw [if_pos hb, if_pos (by omega), if_neg (by omega), if_neg (by omega), if_neg (by omega), if_pos (by omega), if_pos (by omega)]
        have e : i - 3 = k := by omega
        rw [e]
      · rw [if_neg hb]
        by_cases h0 : i = 0
        · subst h0; rfl
        by_cases h1' : i = 1
        · subst h1'; rfl
        by_cases h2' : i = 2
        · subst h2'; rfl
        rw [if_neg h0, if_neg h1', if_neg h2', if_neg h0, if_neg h1', if_neg h2']
        by_cases hc : i < 258
        · rw [if_pos hc, if_pos hc]
          by_cases hd : i - 3 < k
          · rw [if_pos hd, if_pos (by omega)]
          · rw [if_neg hd, if_neg (by omega)]
        · rw [if_neg hc, if_neg hc, M.lgTo_succ, if_neg (by omega)]
  · rw [fcells_out _ _ _ _ hi, fcells_out _ _ _ _ hi, if_neg (by omega), if_neg (by omega)]
end Go.Proofs.YtlhjpceaookanaaGreatDoor
namespace Go.Proofs.YtlhjpceaookanaaGreatDoor
set_option maxRecDepth 100000
open Go.RowKit

theorem disable (w : World) : (callFunc 138 #[]).run Tryz.prog w = .ok (.value (.tuple #[])) w := run_call_mark0 Tryz.func138 (by kernel_rfl) (by kernel_rfl) (by kernel_rfl) .disable (by kernel_rfl) w
theorem enable (w : World) : (callFunc 140 #[]).run Tryz.prog w = .ok (.value (.tuple #[])) w := run_call_mark0 Tryz.func140 (by kernel_rfl) (by kernel_rfl) (by kernel_rfl) .enable (by kernel_rfl) w
theorem acquire (a : Addr) (w : World) : (callFunc 141 #[.pointer (some a)]).run Tryz.prog w = .ok (.value (.tuple #[])) w := run_call_marked Tryz.func141 (by kernel_rfl) (by kernel_rfl) (by kernel_rfl) .acquire (by kernel_rfl) a w
theorem releaseMerge (a : Addr) (w : World) : (callFunc 143 #[.pointer (some a)]).run Tryz.prog w = .ok (.value (.tuple #[])) w := run_call_marked Tryz.func143 (by kernel_rfl) (by kernel_rfl) (by kernel_rfl) .releaseMerge (by kernel_rfl) a w

/-- '(*sync/atomic.Bool).Store(true)', entered as a deferred call: the cell holds 1. -/
theorem store_deferred (a : Addr) (x : Value) (u : FrameMode) (w : World) (hc : w.cell? a = some x) (hz : w.frozen? a = false) :
    CallsD Tryz.prog 133 #[.pointer (some a), .bool true] u w fun e u' w' => u' = u ∧ (e = .returned (.tuple #[]) ∧ w' = w.drew.setCell a (.int .u32 1)) := by
  have hc' : w.drew.cell? a = some x := by go_simp
  have hz' : w.drew.frozen? a = false := by go_simp
  have hst := run_call_store (P := Tryz.prog) Tryz.func136 (by kernel_rfl) (by kernel_rfl) (by kernel_rfl) (by kernel_rfl) (k := .u32) (y := 1) hc' hz'
  go_enter_d Tryz.func133, Tryz.ntmps133
  go_wp2
  go_region_calls
  all_goals (go_end0; exact ⟨rfl, rfl⟩)

set_option maxRecDepth 100000 in
/-- '(*sync.Mutex).Unlock', entered as a deferred call, the lock held and nobody waiting (state 1): state 0. -/
theorem unlock_deferred (a : Addr) (u : FrameMode) (w : World) (hc : w.cell? a = some (.int .i32 1)) (hz : w.frozen? a = false) :
    CallsD Tryz.prog 132 #[.pointer (some a)] u w fun e u' w' => u' = u ∧ (e = .returned (.tuple #[]) ∧ w' = w.setCell a (.int .i32 0)) := by
  have hd := disable
  have he := enable
  have hr := releaseMerge
  have hadd := run_call_add (P := Tryz.prog) Tryz.func144 (by kernel_rfl) (by kernel_rfl) (by kernel_rfl) .i32 (by kernel_rfl) (y := -1) (s := 0) hc hz (by simp [go_sem]; rfl)
  have hcv := run_convert_to_unsafe (P := Tryz.prog) (src := 200) (dst := 204) Tryz.underlying200 Tryz.underlying204 (by kernel_rfl) hc
  go_enter_d Tryz.func132, Tryz.ntmps132
  go_wp2
  go_end0
  go_wp2
  go_end0
  exact ⟨rfl, rfl⟩

set_option maxRecDepth 100000 in
/-- '(*sync.Mutex).Lock', the lock free (state 0): state 1. -/
theorem lock_free (a : Addr) (w : World) (hc : w.cell? a = some (.int .i32 0)) (hz : w.frozen? a = false) :
    Calls Tryz.prog 131 #[.pointer (some a)] w fun e w' => e = .returned (.tuple #[]) ∧ w' = w.setCell a (.int .i32 1) := by
  have hd := disable
  have he := enable
  have ha := acquire
  have hcas := run_call_cas_hit (P := Tryz.prog) Tryz.func139 (by kernel_rfl) (by kernel_rfl) (by kernel_rfl) .i32 (by kernel_rfl) (y := 1) hc hz
  have hc' : (w.setCell a (.int .i32 1)).cell? a = some (.int .i32 1) := World.cell?_setCell_same w a _ hc
  have hcv := run_convert_to_unsafe (P := Tryz.prog) (src := 200) (dst := 204) Tryz.underlying200 Tryz.underlying204 (by kernel_rfl) hc'
  go_enter Tryz.func131, Tryz.ntmps131
  go_wp2
  first | go_end0 | (simp only [Exit.inBlock, Exit.then]; refine bodyPost_ret (results_none rfl _ _ _) rfl ?_) | refine bodyPost_ret (results_none rfl _ _ _) rfl ?_
  go_wp2
  go_end0
  exact ⟨rfl, rfl⟩
end Go.Proofs.YtlhjpceaookanaaGreatDoor
namespace Go.Proofs.YtlhjpceaookanaaGreatDoor
open Go.RowKit
set_option maxRecDepth 100000

theorem ofInt_i64 (a : Nat) (ha : a < 9223372036854775808) : (BitVec.ofInt 64 (a : Int)).toNat = a := by
  rw [BitVec.ofInt_natCast, BitVec.toNat_ofNat]; exact Nat.mod_eq_of_lt (by omega)
theorem i64_xor_nat (a b : Nat) (ha : a < 9223372036854775808) (hb : b < 9223372036854775808) : bits .xor .i64 (a : Int) (b : Int) = ((a ^^^ b : Nat) : Int) := by
  have hx : a ^^^ b < 2 ^ 63 := Nat.xor_lt_two_pow (by omega) (by omega)
  show IntKind.i64.wrap ((BitVec.ofInt 64 (a : Int) ^^^ BitVec.ofInt 64 (b : Int)).toNat : Int) = _
  rw [BitVec.toNat_xor, ofInt_i64 a ha, ofInt_i64 b hb, IntKind.wrap_i64]
  omega

set_option maxRecDepth 100000 in
set_option maxHeartbeats 400000 in
theorem fill_any (b : Nat) (d s : Int) (w : World) (hb : Blk w b 147 (fcells d s 0)) :
    Calls Tryz.prog 126 #[.pointer (some ⟨b, 0, none⟩)] w fun e w' => e = .returned (.tuple #[]) ∧ Blk w' b 147 (fcells d s 255) ∧ Only b w w' := by
  go_enter Tryz.func126, Tryz.ntmps126
  go_wp2
  go_loopw [2, 4] (fun x i wr => ∃ k : Nat, k ≤ 255 ∧ i = .int .i64 k ∧ x = .int .i64 (M.pw k : Nat) ∧ Blk wr b 147 (fcells d s k) ∧ Only b w wr) (fun _ i _ => 255 - (intOf i).toNat)
  case atStart => exact ⟨0, by omega, rfl, rfl, hb, Only.refl _ _⟩
  case round =>
    obtain ⟨k, hk, rfl, rfl, hbk, hok⟩ := hrel
    by_cases hlt : k < 255
    · have hx := M.pw_lt hlt
      have hx1 := M.pw_pos hlt
      have c1 : wr.cell? ⟨b, 3 + k, none⟩ = some (.int .u8 0) := by rw [hbk.cell, fcells_pw _ _ _ _ hlt, if_neg (by omega)]; rfl
      have c2 : wr.cell? ⟨b, 258 + M.pw k, none⟩ = some (.int .u8 ((M.lgTo k (M.pw k) : Nat) : Int)) := by rw [hbk.cell, fcells_lg _ _ _ _ hx]
      have z1 : wr.frozen? ⟨b, 3 + k, none⟩ = false := hbk.frozen _
      have z2 : wr.frozen? ⟨b, 258 + M.pw k, none⟩ = false := hbk.frozen _
      have hb2 := (hbk.set_ (3 + k) (.int .u8 ((M.pw k : Nat) : Int))).set_ (258 + M.pw k) (.int .u8 ((k : Nat) : Int))
      rw [fcells_round d s k hlt] at hb2
      have HB := Lib.hid hb2
      have HO := Lib.hid ((hok.setCell (3 + k) (.int .u8 ((M.pw k : Nat) : Int))).setCell (258 + M.pw k) (.int .u8 ((k : Nat) : Int)))
      have HS := Lib.hid (M.pw_succ k)
      clear hbk hb hok hb2
      generalize M.lgTo k (M.pw k) = old at *
      generalize M.pw k = x at *
      have h0 : (0 : Int) ≤ (k : Int) := by omega
      have hxx : (x : Int) * 2 ≤ 1000 := by omega
      by_cases hbig : 127 < x
      · go_wp2
        go_roundw
        case rel =>
          refine ⟨k + 1, by omega, by go_num, ?_, HB.out, HO.out⟩
          rw [HS.out, M.xt, if_pos (by omega), ← i64_xor_nat _ _ (by omega) (by omega)]
          rfl
        case measure => simp [intOf]; omega
      · go_wp2
        go_roundw
        case rel =>
          refine ⟨k + 1, by omega, by go_num, ?_, HB.out, HO.out⟩
          rw [HS.out, M.xt, if_neg (by omega)]
          rfl
        case measure => simp [intOf]; omega
    · obtain rfl : k = 255 := by omega
      clear hb
      go_wp2
      go_end0
      exact ⟨rfl, hbk, hok⟩
end Go.Proofs.YtlhjpceaookanaaGreatDoor
namespace Go.Proofs.YtlhjpceaookanaaGreatDoor
open Go.RowKit
set_option maxRecDepth 100000

set_option maxRecDepth 100000 in
set_option maxHeartbeats 800000 in
theorem slow_any (b : Nat) (w : World) (hb : Blk w b 147 (fcells 0 0 0)) :
    Calls Tryz.prog 129 #[.pointer (some ⟨b, 0, none⟩), .func (.func 126) #[.pointer (some ⟨b, 0, none⟩)] #[]] w fun e w' => e = .returned (.tuple #[]) ∧ Blk w' b 147 (fcells 1 0 255) ∧ Only b w w' := by
  have hb1 : Blk (w.setCell ⟨b, 1, none⟩ (.int .i32 1)) b 147 (fcells 0 1 0) := by
    have h := hb.set_ 1 (.int .i32 1)
    rwa [fcells_set_state] at h
  have ho1 : Only b w (w.setCell ⟨b, 1, none⟩ (.int .i32 1)) := (Only.refl b w).setCell 1 _
  have h1 : w.cell? ⟨b, 1, none⟩ = some (.int .i32 0) := (hb.cell 1).trans (fcells_state _ _ _)
  have f1 : w.frozen? ⟨b, 1, none⟩ = false := hb.frozen 1
  have hl := run_call_load (P := Tryz.prog) Tryz.func130 (by kernel_rfl) (by kernel_rfl) (by kernel_rfl) .u32 (by kernel_rfl) (w := w.setCell ⟨b, 1, none⟩ (.int .i32 1)) (a := ⟨b, 0, none⟩) (x := 0) ((hb1.cell 0).trans (fcells_done _ _ _))
  have hnot : ∀ (x : Bool) (w : World), (Op.unary .not (.bool x)).run Tryz.prog w = .ok (.bool (!x)) w := fun _ _ => rfl
  go_enter_defers Tryz.func129, Tryz.ntmps129
  go_wp2_with (first | (go_at_call 131; refine (lock_free ⟨b, 1, none⟩ _ h1 f1).mono ?_; rintro e w' ⟨rfl, rfl⟩) | (go_at_call 128; go_in))
  refine (fill_any b 0 1 _ hb1).mono ?_
  rintro e w2 ⟨rfl, hb2, ho2⟩
  have ho : Only b w w2 := ho1.trans ho2
  clear hl ho1 ho2 hb1 h1 f1 hb
  go_wp2_with fail
  -- the door: two deferred calls, the last laid first
  refine leaves_cons (f := 133) (args := #[.pointer (some ⟨b, 0, none⟩), .bool true]) (by simp) (by simp [go_sem]) ?_
  refine (store_deferred ⟨b, 0, none⟩ (.int .u32 0) .returning _ ((hb2.cell 0).trans (fcells_done _ _ _)) (hb2.frozen 0)).mono ?_
  rintro e u' w3 ⟨rfl, rfl, rfl⟩
  have hb3 : Blk (w2.drew.setCell ⟨b, 0, none⟩ (.int .u32 1)) b 147 (fcells 1 1 255) := by
    have h := hb2.drew.set_ 0 (.int .u32 1)
    rwa [fcells_set_done] at h
  have ho3 : Only b w (w2.drew.setCell ⟨b, 0, none⟩ (.int .u32 1)) := ho.drew.setCell 0 _
  refine leaves_cons (f := 132) (args := #[.pointer (some ⟨b, 1, none⟩)]) (by simp [settle]) (by simp [go_sem]) ?_
  refine (unlock_deferred ⟨b, 1, none⟩ _ _ ((hb3.cell 1).trans (fcells_state _ _ _)) (hb3.frozen 1)).mono ?_
  rintro e u' w4 ⟨rfl, rfl, rfl⟩
  have hb4 : Blk ((w2.drew.setCell ⟨b, 0, none⟩ (.int .u32 1)).setCell ⟨b, 1, none⟩ (.int .i32 0)) b 147 (fcells 1 0 255) := by
    have h := hb3.set_ 1 (.int .i32 0)
    rwa [fcells_set_state] at h
  simp [Leaves, settle, results, Tryz.results129]
  exact ⟨hb4, ho3.setCell 1 _⟩

/-- 'Do' of a blank field: its tables are worked out. -/
theorem do_first (b : Nat) (w : World) (hb : Blk w b 147 (fcells 0 0 0)) :
    Calls Tryz.prog 125 #[.pointer (some ⟨b, 0, none⟩), .func (.func 126) #[.pointer (some ⟨b, 0, none⟩)] #[]] w fun e w' => e = .returned (.tuple #[]) ∧ Blk w' b 147 (fcells 1 0 255) ∧ Only b w w' := by
  have hl := run_call_load (P := Tryz.prog) Tryz.func130 (by kernel_rfl) (by kernel_rfl) (by kernel_rfl) .u32 (by kernel_rfl) (w := w) (a := ⟨b, 0, none⟩) (x := 0) ((hb.cell 0).trans (fcells_done _ _ _))
  have hnot : ∀ (x : Bool) (w : World), (Op.unary .not (.bool x)).run Tryz.prog w = .ok (.bool (!x)) w := fun _ _ => rfl
  go_enter Tryz.func125, Tryz.ntmps125
  go_wp2_with (go_at_call 128; go_in)
  refine (slow_any b _ hb).mono ?_
  rintro e w2 ⟨rfl, hb2, ho2⟩
  clear hl hb
  go_wp2_with fail
  go_end0
  exact ⟨rfl, hb2, ho2⟩

/-- 'Do' of a full field: nothing is done. -/
theorem do_again (b : Nat) (fv : Value) (w : World) (hb : Blk w b 147 (fcells 1 0 255)) :
    Calls Tryz.prog 125 #[.pointer (some ⟨b, 0, none⟩), fv] w fun e w' => e = .returned (.tuple #[]) ∧ w = w' := by
  have hl := run_call_load (P := Tryz.prog) Tryz.func130 (by kernel_rfl) (by kernel_rfl) (by kernel_rfl) .u32 (by kernel_rfl) (w := w) (a := ⟨b, 0, none⟩) (x := 1) ((hb.cell 0).trans (fcells_done _ _ _))
  have hnot : ∀ (x : Bool) (w : World), (Op.unary .not (.bool x)).run Tryz.prog w = .ok (.bool (!x)) w := fun _ _ => rfl
  go_enter Tryz.func125, Tryz.ntmps125
  go_wp2_with (go_at_call 128; go_in)
  go_end0
  exact ⟨rfl, rfl⟩

/-- A field's zero value, as the program lays it. -/
theorem build_field (w : World) : (Sem.run Tryz.prog (zeroValue 147) w) = .ok (.agg (fcells 0 0 0)) w := by kernel_rfl
end Go.Proofs.YtlhjpceaookanaaGreatDoor
