/-
  Bytes that come in, as contracts read them. Conditions: what the reading of an argument gives.
-/
import Derived.Test.YtikenhcglbfgpaaDoorStrBM
import Derived.ProofKit
import Derived.Deep.Matrix
import Derived.Laws.CopyOwn
namespace Go.Proofs.YtikenhcglbfgpaaDoor
set_option maxRecDepth 100000
open Go Go.RowKit Go.ChangeShapes Go.WideShapes Go.ChangeAt
set_option linter.unusedVariables false

/-- n bytes that lie below block B. -/
def RdB (w : World) (B : Nat) (A : Option Addr) (n : Nat) (x : Nat → Nat) : Prop :=
  ∀ j, j < n → ∃ b o, A = some ⟨b, o, none⟩ ∧ b < B ∧ w.cell? ⟨b, o + j, none⟩ = some (.int .u8 (x j : Nat)) ∧ x j < 256
theorem RdB.below {w w' : World} {B B' : Nat} {A : Option Addr} {n : Nat} {x : Nat → Nat} (h : RdB w B A n x) (hb : Below B' w w') (hB : B ≤ B') : RdB w' B A n x := by
  intro j hj
  obtain ⟨b, o, h1, h2, h3, h4⟩ := h j hj
  exact ⟨b, o, h1, h2, (hb.cell (p := ⟨b, o + j, none⟩) (by show b < B'; omega)).trans h3, h4⟩
theorem add_block (a : Addr) (j : Nat) : (a.add j).block = a.block := by unfold Addr.add; split <;> rfl
theorem byte_of_wf {a : Int} (h : (Lit.int .u8 a).wf = true) : a = ((a.toNat : Nat) : Int) ∧ a.toNat < 256 := by
  have hb := bounds_u8 h
  omega
/-- A row of cells that came in, n bytes of them read. -/
theorem rdb_of_cells {w : World} {a : Addr} {n : Nat} {zs : List Int} (hn : n ≤ zs.length) (hc : ∀ i, i < zs.length → w.cell? (a.add i) = some (.int .u8 (zs.getD i 0))) (hw : ∀ z ∈ zs, (Lit.int .u8 z).wf = true) :
    RdB w w.heap.size (some a) n (fun j => (zs.getD j 0).toNat) := by
  intro j hj
  obtain ⟨b, o, sp⟩ := a
  have h0 := hc j (by omega)
  have hsp : sp = none := by
    have h1 := hc 0 (by omega)
    have h2 := World.cell?_spot h1
    simpa [Addr.add] using h2
  subst hsp
  rw [add_plain] at h0
  have hwf := byte_of_wf (hw _ (getD_mem (show j < zs.length by omega)))
  refine ⟨b, o, rfl, block_lt_of_cell h0, ?_, hwf.2⟩
  rw [h0, ← hwf.1]

section
variable {H : Type} {enc : TypeId × Value → H} {P : Program} {W : World} {base : Nat} {held : Bool}
theorem rdb_of_trod {t e : TypeId} {fuel len cap : Nat} {a : Option Addr} {x : DataW H × List MemPlace} (ht : P.underlying t = some (.slice e)) (he : P.underlying e = some (.int .u8)) (hc : P.cellsOf e = 1)
    (h : DataW.trod enc P W base (fun _ => true) held fuel t (Value.slice a len cap).cells.toList = some x) : ∃ y, RdB W W.heap.size a len y ∧ len ≤ cap ∧ cap ≤ maxLen := by
  rcases open_ints ht he hc h with ⟨hcs, _⟩ | ⟨x, l, c, zs, hcs, _, hl, hm, hz, _, hcell, hwz⟩
  · simp [Value.cells] at hcs
    obtain ⟨rfl, rfl, rfl⟩ := hcs
    exact ⟨fun _ => 0, fun j hj => absurd hj (by omega), by omega, by omega⟩
  · simp [Value.cells] at hcs
    obtain ⟨rfl, rfl, rfl⟩ := hcs
    simp at hz
    exact ⟨_, rdb_of_cells (by omega) hcell hwz, hl, hm⟩
theorem rdb_of_trod0 {t e : TypeId} {fuel len cap : Nat} {a : Option Addr} {x : DataW H × List MemPlace} (ht : P.underlying t = some (.slice e)) (he : P.underlying e = some (.int .u8)) (hc : P.cellsOf e = 1)
    (h : DataW.trod enc P W base (fun _ => true) held fuel t (Value.slice a len cap).cells.toList = some x) : ∃ y, RdB W W.heap.size a len y ∧ len ≤ cap ∧ cap ≤ maxLen ∧ (a = none → cap = 0) := by
  rcases open_ints ht he hc h with ⟨hcs, _⟩ | ⟨x, l, c, zs, hcs, _, hl, hm, hz, _, hcell, hwz⟩
  · simp [Value.cells] at hcs
    obtain ⟨rfl, rfl, rfl⟩ := hcs
    exact ⟨fun _ => 0, fun j hj => absurd hj (by omega), by omega, by omega, fun _ => rfl⟩
  · simp [Value.cells] at hcs
    obtain ⟨rfl, rfl, rfl⟩ := hcs
    simp at hz
    exact ⟨_, rdb_of_cells (by omega) hcell hwz, hl, hm, fun e => by cases e⟩
end
theorem rdb_of_blk {w : World} {g n : Nat} {X : Nat → Nat} (h : Blk w g 5 (rowArr n X)) (hX : ∀ i, i < n → X i < 256) : RdB w (g + 1) (some ⟨g, 0, none⟩) n X := by
  intro j hj
  refine ⟨g, 0, rfl, by omega, ?_, hX j hj⟩
  rw [Nat.zero_add, h.cell, rowArr_get hj]

theorem Only.cell {g : Nat} {a w : World} (h : Only g a w) {p : Addr} {v : Value} (hc : a.cell? p = some v) (hne : p.block ≠ g) : w.cell? p = some v := by
  rw [← hc]
  exact World.cell?_of_block (h.block p.block (block_lt_of_cell hc) (fun e => hne (by injection e)))
theorem RdB.only {g : Nat} {w w' : World} {B : Nat} {A : Option Addr} {n : Nat} {x : Nat → Nat} (h : RdB w B A n x) (ho : Only g w w') (hne : ∀ b o, A = some ⟨b, o, none⟩ → 0 < n → b ≠ g) : RdB w' B A n x := by
  intro j hj
  obtain ⟨b, o, h1, h2, h3, h4⟩ := h j hj
  exact ⟨b, o, h1, h2, ho.cell h3 (hne b o h1 (by omega)), h4⟩
theorem size_u8 : (Tryd.prog.info? 5).map (·.size) = some 1 := by kernel_rfl
/-- 'copy' of a row of bytes onto the head of a row of the call's own. -/
theorem wpList_copyB {w : World} {ops : Array Oper} {rest : List Oper} {o : Oper} {a : Act} {Q : Exit → Act → World → Prop} (hgd : o.guard = none) (d s : Operand) (dT sT : TypeId)
    (ho : o.op = .call { callee := .builtin .copy, args := #[d, s], argTypes := #[dT, sT] }) (hu : Tryd.prog.underlying dT = some (.slice 5))
    (g n b off sLen sCap : Nat) (hd : a.eval d = .slice (some ⟨g, 0, none⟩) n n) (hs : a.eval s = .slice (some ⟨b, off, none⟩) sLen sCap)
    (f x : Nat → Nat) (hg : Blk w g 5 (rowArr n f)) (hx : ∀ j, j < sLen → w.cell? ⟨b, off + j, none⟩ = some (.int .u8 (x j : Nat))) (hle : sLen ≤ n)
    (h : ∀ w', Blk w' g 5 (rowArr n (fun j => if j < sLen then x j else f j)) → Only g w w' → w'.heap.size = w.heap.size → wpList Tryd.prog ops Q rest (a.put o.dst (goInt sLen)) w') :
    wpList Tryd.prog ops Q (o :: rest) a w := by
  have hrs : (rowArr n f).size = n := by simp [rowArr]
  refine wpList_copy_own hgd d s dT sT ho 5 hu size_u8 g 0 n n ⟨b, off, none⟩ sLen sCap hd hs (rowArr n f) 5 hg ((List.range sLen).map fun j => .int .u8 ((x j : Nat) : Int)) (by simp; exact (Nat.min_eq_left hle).symm) ?_ (by simp [hrs]; exact hle) ?_ ?_
  · intro j v hj
    simp only [List.getElem?_map] at hj
    by_cases hjl : j < sLen
    · simp [hjl] at hj
      subst hj
      have e : (⟨b, off, none⟩ : Addr).add j = ⟨b, off + j, none⟩ := by unfold Addr.add; split <;> simp_all
      rw [e]
      exact hx j hjl
    · simp [hjl] at hj
  · intro v hv
    simp at hv
    obtain ⟨j, _, rfl⟩ := hv
    rfl
  · have e1 : ((rowArr n f).toList.take 0 ++ (((List.range sLen).map fun j => Value.int .u8 ((x j : Nat) : Int)) ++ (rowArr n f).toList.drop (0 + ((List.range sLen).map fun j => Value.int .u8 ((x j : Nat) : Int)).length))).toArray = rowArr n (fun j => if j < sLen then x j else f j) := by
      apply Array.ext_getElem?
      intro j
      by_cases hj : j < n
      · rw [rowArr_get hj]
        by_cases hjl : j < sLen
        · simp only [List.take_zero, List.nil_append, List.getElem?_toArray]
          rw [List.getElem?_append_left (by simp; exact hjl), if_pos hjl]
          simp [hjl]
        · have hgt := rowArr_get (f := f) hj
          have e2 : sLen + (j - sLen) = j := by omega
          simp [hjl, List.getElem?_append, e2, hgt]
      · rw [Array.getElem?_eq_none (by simp [hrs]; omega), Array.getElem?_eq_none (by simp [rowArr]; omega)]
    rw [e1]
    have e3 : ((List.range sLen).map fun j => Value.int .u8 ((x j : Nat) : Int)).length = sLen := by simp
    rw [e3]
    exact h _ (setRow_heap w g _ _ _ _ hg) ⟨rfl, rfl, rfl, by simp, fun k hk hne => setRow_other w g k _ (fun e => hne (by rw [e]))⟩ (by simp)

theorem wpList_copy0 {w : World} {ops : Array Oper} {rest : List Oper} {o : Oper} {a : Act} {Q : Exit → Act → World → Prop} (hgd : o.guard = none) (d s : Operand) (dT sT : TypeId)
    (ho : o.op = .call { callee := .builtin .copy, args := #[d, s], argTypes := #[dT, sT] }) (hu : Tryd.prog.underlying dT = some (.slice 5))
    (g n m sCap c : Nat) (A : Option Addr) (hd : a.eval d = .slice (some ⟨g, 0, none⟩) n c) (hs : a.eval s = .slice A m sCap) (e0 : Nat.min m n = 0)
    (h : wpList Tryd.prog ops Q rest (a.put o.dst (goInt 0)) w) : wpList Tryd.prog ops Q (o :: rest) a w := by
  refine wpList_plain hgd fun K hK => ?_
  have hrun : (Builtin.copy_ #[dT, sT] o.type #[.slice (some ⟨g, 0, none⟩) n c, .slice A m sCap]).run Tryd.prog w = .ok (goInt 0) w := by
    have h0 : ∀ ad : Addr, (loadCells ad 0).run Tryd.prog w = .ok #[] w := fun ad => run_loadCells_list (P := Tryd.prog) w ad [] (fun j v hv => by simp at hv)
    have h1 : (sizeOf 5).run Tryd.prog w = .ok 1 w := by
      unfold sizeOf typeInfo
      cases hq : Tryd.prog.info? 5 with
      | none => have := size_u8; rw [hq] at this; cases this
      | some i => have := size_u8; rw [hq] at this; simp at this; simp [Sem.run_bind, hq, this]
    cases A <;> simp [Builtin.copy_, run_underlying hu, Sem.run_bind, Builtin.lenOf, h1, Builtin.firstCells, storeCells, e0, h0]
  unfold Oper.wp
  simp [execOp, ho, resolve, invoke, builtin, hd, hs, hrun, Result.andThen]
  exact hK _ _ h
set_option maxRecDepth 100000 in
/-- 'copy' of bytes that came in onto the head of a row of the call's own -/
theorem wpList_copyRd {w : World} {ops : Array Oper} {rest : List Oper} {o : Oper} {a : Act} {Q : Exit → Act → World → Prop} (hgd : o.guard = none) (d s : Operand) (dT sT : TypeId)
    (ho : o.op = .call { callee := .builtin .copy, args := #[d, s], argTypes := #[dT, sT] }) (hu : Tryd.prog.underlying dT = some (.slice 5))
    (g n m sCap B : Nat) (A : Option Addr) (hd : a.eval d = .slice (some ⟨g, 0, none⟩) n n) (hs : a.eval s = .slice A m sCap)
    (f x : Nat → Nat) (hg : Blk w g 5 (rowArr n f)) (hx : RdB w B A m x) (hle : m ≤ n)
    (h : ∀ w', Blk w' g 5 (rowArr n (fun j => if j < m then x j else f j)) → Only g w w' → w'.heap.size = w.heap.size → wpList Tryd.prog ops Q rest (a.put o.dst (goInt m)) w') :
    wpList Tryd.prog ops Q (o :: rest) a w := by
  by_cases h0 : m = 0
  · subst h0
    refine wpList_copy0 hgd d s dT sT ho hu g n 0 sCap n A hd hs (Nat.zero_min n) ?_
    exact h w (by rw [show (rowArr n fun j => if j < 0 then x j else f j) = rowArr n f from rowArr_congr fun c _ => if_neg (by omega)]; exact hg) (Only.refl _ _) rfl
  · obtain ⟨b, off, rfl, _⟩ := hx 0 (by omega)
    exact wpList_copyB hgd d s dT sT ho hu g n b off m sCap hd hs f x hg (fun j hj => by
      obtain ⟨b', o', e, _, h3, _⟩ := hx j hj
      injection e with e
      injection e with e1 e2
      subst e1; subst e2
      exact h3) hle h
set_option maxRecDepth 100000 in
/-- 'copy' of the head of bytes that came in onto a whole row of the call's own -/
theorem wpList_copyFull {w : World} {ops : Array Oper} {rest : List Oper} {o : Oper} {a : Act} {Q : Exit → Act → World → Prop} (hgd : o.guard = none) (d s : Operand) (dT sT : TypeId)
    (ho : o.op = .call { callee := .builtin .copy, args := #[d, s], argTypes := #[dT, sT] }) (hu : Tryd.prog.underlying dT = some (.slice 5))
    (g n m sCap B : Nat) (A : Option Addr) (hd : a.eval d = .slice (some ⟨g, 0, none⟩) n n) (hs : a.eval s = .slice A m sCap)
    (f x : Nat → Nat) (hg : Blk w g 5 (rowArr n f)) (hx : RdB w B A m x) (hle : n ≤ m)
    (h : ∀ w', Blk w' g 5 (rowArr n x) → Only g w w' → w'.heap.size = w.heap.size → wpList Tryd.prog ops Q rest (a.put o.dst (goInt n)) w') :
    wpList Tryd.prog ops Q (o :: rest) a w := by
  by_cases h0 : n = 0
  · subst h0
    refine wpList_copy0 hgd d s dT sT ho hu g 0 m sCap 0 A hd hs (Nat.min_zero m) ?_
    exact h w (by rw [show (rowArr 0 x) = rowArr 0 f from rowArr_congr fun c hc => absurd hc (by omega)]; exact hg) (Only.refl _ _) rfl
  · obtain ⟨b, off, rfl, _⟩ := hx 0 (by omega)
    have hrs : (rowArr n f).size = n := by simp [rowArr]
    have hmin : Nat.min m n = n := Nat.min_eq_right hle
    refine wpList_copy_own hgd d s dT sT ho 5 hu size_u8 g 0 n n ⟨b, off, none⟩ m sCap hd hs (rowArr n f) 5 hg ((List.range n).map fun j => .int .u8 ((x j : Nat) : Int)) (by simp only [List.length_map, List.length_range]; exact hmin.symm) ?_ (by simp [hrs]) ?_ ?_
    · intro j v hj
      simp only [List.getElem?_map] at hj
      by_cases hjl : j < n
      · simp [hjl] at hj
        subst hj
        obtain ⟨b', o', e, _, h3, _⟩ := hx j (by omega)
        injection e with e
        injection e with e1 e2
        subst e1; subst e2
        rw [add_plain]
        exact h3
      · simp [hjl] at hj
    · intro v hv
      simp at hv
      obtain ⟨j, _, rfl⟩ := hv
      rfl
    · have e1 : ((rowArr n f).toList.take 0 ++ (((List.range n).map fun j => Value.int .u8 ((x j : Nat) : Int)) ++ (rowArr n f).toList.drop (0 + ((List.range n).map fun j => Value.int .u8 ((x j : Nat) : Int)).length))).toArray = rowArr n x := by
        apply Array.ext_getElem?
        intro j
        by_cases hj : j < n
        · rw [rowArr_get hj]
          simp only [List.take_zero, List.nil_append, List.getElem?_toArray]
          rw [List.getElem?_append_left (by simp; exact hj)]
          simp [hj]
        · rw [Array.getElem?_eq_none (by simp [hrs]; omega), Array.getElem?_eq_none (by simp [rowArr]; omega)]
      rw [e1]
      have e3 : ((List.range n).map fun j => Value.int .u8 ((x j : Nat) : Int)).length = n := by simp
      rw [e3]
      exact h _ (setRow_heap w g _ _ _ _ hg) ⟨rfl, rfl, rfl, by simp, fun k hk hne => setRow_other w g k _ (fun e => hne (by rw [e]))⟩ (by simp)
/-- where 's[lo:]' begins -/
def subA (A : Option Addr) (c lo : Nat) : Option Addr := if c = lo then A else A.map (·.add lo)
theorem RdB.sub {w : World} {B n c lo : Nat} {A : Option Addr} {x : Nat → Nat} (h : RdB w B A n x) (hc : n ≤ c) : RdB w B (subA A c lo) (n - lo) (fun j => x (lo + j)) := fun j hj => by
  obtain ⟨b, o, rfl, h2, h3, h4⟩ := h (lo + j) (by omega)
  refine ⟨b, o + lo, ?_, h2, by rw [Nat.add_assoc]; exact h3, h4⟩
  unfold subA
  rw [if_neg (by omega)]
  simp [add_plain]
theorem sizeOf_u8 (w : World) : (sizeOf 5).run Tryd.prog w = .ok 1 w := by
  unfold sizeOf typeInfo
  cases hq : Tryd.prog.info? 5 with
  | none => have := size_u8; rw [hq] at this; cases this
  | some i => have := size_u8; rw [hq] at this; simp at this; simp [Sem.run_bind, hq, this]
/-- 's[lo:]' -/
theorem slice_from (A : Option Addr) (n c lo : Nat) (L : Int) (hL : L = (lo : Int)) (h : lo ≤ n) (w : World) :
    (Instr.sliceAt 38 (.slice A n c) (some (.int .i64 L)) none none).run Tryd.prog w = .ok (.slice (subA A c lo) (n - lo) (c - lo)) w := by
  subst hL
  have hu : Tryd.prog.underlying 38 = some (.slice (Tryd.prog.elem 38)) := by kernel_rfl
  have he : Tryd.prog.elem 38 = 5 := by kernel_rfl
  rw [run_sliceAt_slice (P := Tryd.prog) (w := w) (h := hu), run_slice_l (P := Tryd.prog) (w := w) 38 A n c hu .i64 (lo : Int) (by omega) (by omega), he, sizeOf_u8]
  simp [sliced, subA]
theorem strB_zero (x : Nat → Nat) : strB 0 x = ByteArray.empty := rfl
theorem conv_zero (w : World) (A : Option Addr) (cap : Nat) : (convert 38 9 (.slice A 0 cap)).run Tryd.prog w = .ok (.string ByteArray.empty) w := by
  cases A with
  | none => exact run_convert_bytes_nil w _ _ Tryd.underlying38 Tryd.underlying5 _ _ _ Tryd.underlying9
  | some a =>
    rw [run_convert_bytes_string w _ _ _ _ _ _ Tryd.underlying38 Tryd.underlying5 Tryd.underlying9]
    have h0 : (loadCells a 0).run Tryd.prog w = .ok #[] w := run_loadCells_list (P := Tryd.prog) w a [] (fun j v hv => by simp at hv)
    simp [Conv.bytesToString, h0]
/-- 'string(b)' of bytes that came in -/
theorem conv_rd {w : World} {B : Nat} {A : Option Addr} {n cap : Nat} {x : Nat → Nat} (h : RdB w B A n x) :
    (convert 38 9 (.slice A n cap)).run Tryd.prog w = .ok (.string (strB n x)) w := by
  by_cases h1 : n = 0
  · subst h1; exact conv_zero w A cap
  obtain ⟨b, o, rfl, _⟩ := h 0 (by omega)
  refine run_convert_bytes_arg w 38 5 Tryd.underlying38 Tryd.underlying5 b o n cap _ (by simp) (fun i hi => ?_) _ Tryd.underlying9
  obtain ⟨b', o', e, _, h3, _⟩ := h i hi
  injection e with e
  injection e with e1 e2
  subst e1; subst e2
  rw [h3]
  simp [List.getD, hi]
theorem RdB.cut {w : World} {B : Nat} {A : Option Addr} {n : Nat} {x : Nat → Nat} (h : RdB w B A n x) : ∃ y, RdB w B A n y ∧ ∀ j, y j < 256 :=
  ⟨fun j => if j < n then x j else 0, fun j hj => by
    obtain ⟨b, o, h1, h2, h3, h4⟩ := h j hj
    simp only [if_pos hj]
    exact ⟨b, o, h1, h2, h3, h4⟩, fun j => by
    by_cases hj : j < n
    · simp only [if_pos hj]
      obtain ⟨_, _, _, _, _, h4⟩ := h j hj
      exact h4
    · simp only [if_neg hj]; omega⟩
end Go.Proofs.YtikenhcglbfgpaaDoor
