/-
  The lists of the law's history in memory: own rows of numbers, of bools, of rows. No conditions beyond those that each theorem types.
-/
import Derived.Test.YtefgofoocabkkaaDeadExS
import Derived.Test.YtefgofoocabkkaaDeadPlay
import Derived.Test.YtefgofoocabkkaaNatRowM
namespace Go.Proofs.Ytefgofoocabkkaa
open Go Go.RowKit
set_option maxRecDepth 100000
set_option linter.unusedVariables false
namespace Dd
open Nr (OwnN csN)
/-- only the row's own block, and what is new, may have changed -/
def RowC (v v' : Value) (w w' : World) : Prop := w.heap.size ≤ w'.heap.size ∧ (∀ g, g < w.heap.size → v.ownBlock ≠ some g → w'.heap[g]? = w.heap[g]?) ∧ (v'.ownBlock = v.ownBlock ∨ ∃ g, v'.ownBlock = some g ∧ w.heap.size ≤ g)
section
variable {α : Type} {E T : TypeId} {cs : α → List Value} {z : Value} {bytes : Nat} {w : World} {base : Nat} {v : Value} {l : List α}
theorem app_g (hk : ∀ x, (cs x).length = 1) (hone : ∀ x, ∀ u ∈ cs x, u.oneCell' = true) (hu : Try.prog.underlying T = some (.slice E)) (hi : (Try.prog.info? E).map (fun i => (i.zero, i.size, i.bytes)) = some (some z, 1, bytes)) (hzs : z.cells.size = 1) (hby : bytes ≤ 64)
    (h : Gr.OwnG E 1 cs w base v l) (m : List α) {A : Option Addr} {c n : Nat} (hn : n = m.length) (hm : Gr.RdG 1 cs w A m) (hA : A = none → c = 0) (hl : l.length + m.length ≤ 1000000) (hb : base ≤ w.heap.size) (ty : TypeId) :
    ∃ v' w', (Builtin.append_ #[T, T] ty #[v, .slice A n c]).run Try.prog w = .ok v' w' ∧ Gr.OwnG E 1 cs w' base v' (l ++ m) ∧ Below base w w' ∧ RowC v v' w w' := by
  subst hn
  cases A with
  | none =>
    have e1 : m = [] := by
      cases m with
      | nil => rfl
      | cons x m => obtain ⟨b, o, e, _⟩ := hm 0 x rfl; cases e
    subst e1
    rw [hA rfl]
    obtain ⟨i0, hi'⟩ : ∃ i0, Try.prog.info? E = some i0 := by
      cases hE : Try.prog.info? E with
      | none => rw [hE] at hi; simp at hi
      | some i => exact ⟨i, rfl⟩
    refine ⟨v, w, run_append_owned_none w base T ty E i0 1 hu hi' v _ _ h, ?_, Below.refl _ _, Nat.le_refl _, fun _ _ _ => rfl, .inl rfl⟩
    rw [List.append_nil]
    exact h
  | some ad =>
    have hr : ∀ j u, (m.flatMap cs)[j]? = some u → w.cell? (ad.add j) = some u := by
      cases m with
      | nil => intro j u hj; simp at hj
      | cons x m' =>
        obtain ⟨b, o, e, _⟩ := hm 0 x rfl
        injection e with e
        subst e
        exact Gr.rd_flat (k := 1) (cs := cs) hk (by decide) hm
    obtain ⟨v', w', e1, e2, e3, e4⟩ := Gr.run_append (E := E) (k := 1) (cs := cs) (z := z) (bytes := bytes) (m := m) (c := c) hk hone hu hi hzs (by omega) hby ty h hr (by omega) hb
    exact ⟨v', w', e1, e2, ⟨e3.os, e3.tape, e3.output, e3.size, fun g hg => e3.block g (by omega) (fun e => by have := (h.lt e.symm).2; omega)⟩, e3.size, fun g hg hne => e3.block g hg (fun e => hne e.symm), e4.imp id fun e => ⟨_, e, Nat.le_refl _⟩⟩
/-- one element more, that was made for it -/
theorem app1_g (hk : ∀ x, (cs x).length = 1) (hone : ∀ x, ∀ u ∈ cs x, u.oneCell' = true) (hu : Try.prog.underlying T = some (.slice E)) (hi : (Try.prog.info? E).map (fun i => (i.zero, i.size, i.bytes)) = some (some z, 1, bytes)) (hzs : z.cells.size = 1) (hby : bytes ≤ 64)
    (h : Gr.OwnG E 1 cs w base v l) (x : α) (hl : l.length ≤ 1000) (hb : base ≤ w.heap.size) (ty : TypeId) :
    ∃ v' w', (Builtin.append_ #[T, T] ty #[v, .slice (some ⟨w.heap.size, 0, none⟩) 1 1]).run Try.prog (w.alloc (.cells (cs x).toArray E)) = .ok v' w' ∧ Gr.OwnG E 1 cs w' base v' (l ++ [x]) ∧ Below base w w' ∧ RowC v v' w w' := by
  have hb1 : Below w.heap.size w (w.alloc (.cells (cs x).toArray E)) := (Below.refl _ _).alloc (Nat.le_refl _) _
  have hr : Gr.RdG 1 cs (w.alloc (.cells (cs x).toArray E)) (some ⟨w.heap.size, 0, none⟩) [x] := fun i y hy => by
    have hi : i = 0 := by have := (List.getElem?_eq_some_iff.1 hy).1; simp at this; omega
    subst hi
    injection hy with hy
    subst hy
    refine ⟨w.heap.size, 0, rfl, by simp, fun j u hu => ?_⟩
    rw [(Blk.new w E _).cell]
    simpa using hu
  obtain ⟨v', w', e1, e2, e3, e4, e5, e6⟩ := app_g hk hone hu hi hzs hby (h.below hb1 (Nat.le_refl _)) [x] (n := 1) (c := 1) rfl hr (fun e => by cases e) (by simp; omega) (Nat.le_trans hb hb1.size) ty
  refine ⟨v', w', e1, e2, (hb1.mono hb).trans e3, Nat.le_trans hb1.size e4, fun g hg hne => (e5 g (Nat.lt_of_lt_of_le hg hb1.size) hne).trans (hb1.block g hg), e6.imp id fun ⟨g, h1, h2⟩ => ⟨g, h1, Nat.le_trans hb1.size h2⟩⟩
theorem own_new_g (t : TypeId) (w : World) : Gr.OwnG t 1 cs (w.alloc (.cells #[] t)) w.heap.size (.slice (some ⟨w.heap.size, 0, none⟩) 0 0) ([] : List α) :=
  ⟨rfl, .inr ⟨w.heap.size, 0, #[], rfl, Nat.le_refl _, Blk.new w _ _, Nat.le_refl _, by simp [maxLen], rfl, rfl⟩⟩
theorem slice_to_g (hu : Try.prog.underlying T = some (.slice (Try.prog.elem T))) (hz : ∀ w, (sizeOf (Try.prog.elem T)).run Try.prog w = .ok 1 w) (b n c hi : Nat) (h : hi ≤ c) (w : World) :
    (Instr.sliceAt T (.slice (some ⟨b, 0, none⟩) n c) none (some (.int .i64 (hi : Int))) none).run Try.prog w = .ok (.slice (some ⟨b, 0, none⟩) hi c) w := by
  rw [run_sliceAt_slice (P := Try.prog) (w := w) (h := hu), run_slice_h (P := Try.prog) (w := w) T _ n c hu .i64 (hi : Int) (by omega) (by omega), hz]
  by_cases e : c = 0
  · simp [sliced, e, Addr.add]
  · simp [sliced, e, Addr.add]
theorem slice_from_g (hu : Try.prog.underlying T = some (.slice (Try.prog.elem T))) (hz : ∀ w, (sizeOf (Try.prog.elem T)).run Try.prog w = .ok 1 w) (b n c lo : Nat) (h : lo ≤ n) (w : World) :
    (Instr.sliceAt T (.slice (some ⟨b, 0, none⟩) n c) (some (.int .i64 (lo : Int))) none none).run Try.prog w = .ok (.slice (some ⟨b, Nr.offL c lo, none⟩) (n - lo) (c - lo)) w := by
  rw [run_sliceAt_slice (P := Try.prog) (w := w) (h := hu), run_slice_l (P := Try.prog) (w := w) T _ n c hu .i64 (lo : Int) (by omega) (by omega), hz]
  unfold Nr.offL
  by_cases e : c = lo
  · subst e; simp [sliced]
  · simp [sliced, e, add_plain]
/-- a part of a row can be read -/
theorem rd_take {A : Option Addr} (h : Gr.RdG 1 cs w A l) (k : Nat) : Gr.RdG 1 cs w A (l.take k) := fun i x hx => by
  have hi := (List.getElem?_eq_some_iff.1 hx).1
  rw [List.length_take] at hi
  rw [List.getElem?_take_of_lt (by omega)] at hx
  exact h i x hx
theorem rd_drop {b c k : Nat} (h : Gr.RdG 1 cs w (some ⟨b, 0, none⟩) l) (hc : l.length ≤ c) : Gr.RdG 1 cs w (some ⟨b, Nr.offL c k, none⟩) (l.drop k) := fun i x hx => by
  have hi := (List.getElem?_eq_some_iff.1 hx).1
  rw [List.length_drop] at hi
  rw [List.getElem?_drop] at hx
  obtain ⟨b', o', e1, e2, e3⟩ := h _ x hx
  injection e1 with e1
  injection e1 with e1 e4
  subst e1 e4
  refine ⟨b, Nr.offL c k, rfl, e2, fun j u hu => ?_⟩
  have := e3 j u hu
  unfold Nr.offL
  rw [if_neg (by omega)]
  rw [show k + i * 1 + j = 0 + (k + i) * 1 + j by omega]
  exact this
theorem cut_g (hk : ∀ x, (cs x).length = 1) (hone : ∀ x, ∀ u ∈ cs x, u.oneCell' = true) (hu : Try.prog.underlying T = some (.slice E)) (hi : (Try.prog.info? E).map (fun i => (i.zero, i.size, i.bytes)) = some (some z, 1, bytes)) (hzs : z.cells.size = 1) (hby : bytes ≤ 64)
    {b c k n : Nat} (h : Gr.RdG 1 cs w (some ⟨b, 0, none⟩) l) (hn : n = l.length) (hk2 : k < n) (hl : n ≤ 1000) (ty : TypeId) :
    ∃ v1 w1, (Builtin.append_ #[T, T] ty #[.slice (some ⟨w.heap.size, 0, none⟩) 0 0, .slice (some ⟨b, 0, none⟩) k c]).run Try.prog (w.alloc (.cells #[] E)) = .ok v1 w1 ∧ Gr.OwnG E 1 cs w1 w.heap.size v1 (l.take k) ∧ Below w.heap.size w w1 := by
  have hb1 : Below w.heap.size w (w.alloc (.cells #[] E)) := (Below.refl _ _).alloc (Nat.le_refl _) _
  obtain ⟨v', w', e1, e2, e3, _⟩ := app_g hk hone hu hi hzs hby (own_new_g (cs := cs) E w) (l.take k) (n := k) (c := c) (by rw [List.length_take]; omega) ((rd_take h k).below hb1) (fun e => by cases e) (by simp; omega) hb1.size ty
  exact ⟨v', w', e1, by simpa using e2, hb1.trans e3⟩
theorem cut2_g (hk : ∀ x, (cs x).length = 1) (hone : ∀ x, ∀ u ∈ cs x, u.oneCell' = true) (hu : Try.prog.underlying T = some (.slice E)) (hi : (Try.prog.info? E).map (fun i => (i.zero, i.size, i.bytes)) = some (some z, 1, bytes)) (hzs : z.cells.size = 1) (hby : bytes ≤ 64)
    {b c k n : Nat} (h : Gr.RdG 1 cs w (some ⟨b, 0, none⟩) l) (hn : n = l.length) (hc : n ≤ c) (hk2 : k < n) (hl : n ≤ 1000) {w1 : World} {v1 : Value} (h1 : Gr.OwnG E 1 cs w1 w.heap.size v1 (l.take k)) (hb : Below w.heap.size w w1) (ty : TypeId) :
    ∃ v2 w2, (Builtin.append_ #[T, T] ty #[v1, .slice (some ⟨b, Nr.offL c (k + 1), none⟩) (n - (k + 1)) (c - (k + 1))]).run Try.prog w1 = .ok v2 w2 ∧ Gr.OwnG E 1 cs w2 w.heap.size v2 (l.eraseIdx k) ∧ Below w.heap.size w w2 := by
  subst hn
  obtain ⟨v', w', e1, e2, e3, _⟩ := app_g hk hone hu hi hzs hby h1 (l.drop (k + 1)) (n := l.length - (k + 1)) (c := c - (k + 1)) (by rw [List.length_drop]) ((rd_drop h hc).below hb) (fun e => by cases e) (by simp; omega) hb.size ty
  refine ⟨v', w', e1, ?_, hb.trans e3⟩
  rw [List.eraseIdx_eq_take_drop_succ]
  exact e2
end
theorem exec_bld0 {P : Program} {w w' : World} {o : Oper} {a : Act} {ty : TypeId} {v : Value} (ho : o.op = .buildSlice ty 0 #[]) (hl : (Instr.buildSlice ty 0 #[]).run P w = .ok v w') : (execOp a.eval o).run P w = .ok (.value v) w' := by
  unfold execOp
  simp only [ho, List.map_toArray, List.map_nil, hl, Sem.run_bind, Sem.run_pure, Result.andThen_ok]
theorem wp_app_g {w : World} {o : Oper} {a : Act} {K : Act → World → Prop} {Q : Exit → Act → World → Prop} (T : TypeId) (s x : Operand) (ho : o.op = .call { callee := .builtin .append, args := #[s, x], argTypes := #[T, T] })
    {v y : Value} {R : Value → World → Prop} (hs : a.eval s = v) (hx : a.eval x = y) (hrun : ∀ ty, ∃ v' w', (Builtin.append_ #[T, T] ty #[v, y]).run Try.prog w = .ok v' w' ∧ R v' w') (h : ∀ v' w', R v' w' → K (a.put o.dst v') w') : o.wp Try.prog a w K Q := by
  obtain ⟨v', w', h1, h2⟩ := hrun o.type
  exact Gr.wp_append T s x ho hs hx h1 (h v' w' h2)
theorem wpList_app_g {w : World} {ops : Array Oper} {rest : List Oper} {o : Oper} {a : Act} {Q : Exit → Act → World → Prop} (hgd : o.guard = none) (T : TypeId) (s x : Operand) (ho : o.op = .call { callee := .builtin .append, args := #[s, x], argTypes := #[T, T] })
    {v y : Value} {R : Value → World → Prop} (hs : a.eval s = v) (hx : a.eval x = y) (hrun : ∀ ty, ∃ v' w', (Builtin.append_ #[T, T] ty #[v, y]).run Try.prog w = .ok v' w' ∧ R v' w') (h : ∀ v' w', R v' w' → wpList Try.prog ops Q rest (a.put o.dst v') w') : wpList Try.prog ops Q (o :: rest) a w :=
  wpList_plain hgd fun K hK' => wp_app_g T s x ho hs hx hrun fun v' w' h' => hK' _ _ (h v' w' h')
/- rows of bools, rows of rows -/
def csT (b : Bool) : List Value := [.bool b]
structure RV where
  A : Option Addr
  n : Nat
  c : Nat
def RV.v (x : RV) : Value := .slice x.A x.n x.c
def csR (x : RV) : List Value := [.slice x.A x.n x.c]
abbrev OwnT (w : World) (base : Nat) (v : Value) (l : List Bool) : Prop := Gr.OwnG 4 1 csT w base v l
abbrev OwnR (w : World) (base : Nat) (v : Value) (l : List RV) : Prop := Gr.OwnG 29 1 csR w base v l
theorem info_row : (Try.prog.info? 29).map (fun i => (i.zero, i.size, i.bytes)) = some (some (.slice none 0 0), 1, 24) := by kernel_rfl
theorem oneN (x : Nat) : ∀ u ∈ csN x, u.oneCell' = true := fun u hu => by simp [csN] at hu; subst hu; rfl
theorem oneT (x : Bool) : ∀ u ∈ csT x, u.oneCell' = true := fun u hu => by simp [csT] at hu; subst hu; rfl
theorem oneR (x : RV) : ∀ u ∈ csR x, u.oneCell' = true := fun u hu => by simp [csR] at hu; subst hu; rfl
theorem appN {w : World} {base : Nat} {v : Value} {l : List Nat} (h : OwnN w base v l) (x : Nat) (hl : l.length ≤ 1000) (hb : base ≤ w.heap.size) (ty : TypeId) :
    ∃ v' w', (Builtin.append_ #[29, 29] ty #[v, .slice (some ⟨w.heap.size, 0, none⟩) 1 1]).run Try.prog (w.alloc (.cells #[.int .i64 (x : Int)] 3)) = .ok v' w' ∧ OwnN w' base v' (l ++ [x]) ∧ Below base w w' ∧ RowC v v' w w' :=
  app1_g (fun _ => rfl) oneN Try.underlying29 Ir.info_int rfl (by omega) h x hl hb ty
theorem appT {w : World} {base : Nat} {v : Value} {l : List Bool} (h : OwnT w base v l) (x : Bool) (hl : l.length ≤ 1000) (hb : base ≤ w.heap.size) (ty : TypeId) :
    ∃ v' w', (Builtin.append_ #[31, 31] ty #[v, .slice (some ⟨w.heap.size, 0, none⟩) 1 1]).run Try.prog (w.alloc (.cells #[.bool x] 4)) = .ok v' w' ∧ OwnT w' base v' (l ++ [x]) ∧ Below base w w' ∧ RowC v v' w w' :=
  app1_g (fun _ => rfl) oneT Try.underlying31 info_bool rfl (by omega) h x hl hb ty
theorem appR {w : World} {base : Nat} {v : Value} {l : List RV} (h : OwnR w base v l) (x : RV) (hl : l.length ≤ 1000) (hb : base ≤ w.heap.size) (ty : TypeId) :
    ∃ v' w', (Builtin.append_ #[30, 30] ty #[v, .slice (some ⟨w.heap.size, 0, none⟩) 1 1]).run Try.prog (w.alloc (.cells #[.slice x.A x.n x.c] 29)) = .ok v' w' ∧ OwnR w' base v' (l ++ [x]) ∧ Below base w w' ∧ RowC v v' w w' :=
  app1_g (fun _ => rfl) oneR Try.underlying30 info_row rfl (by omega) h x hl hb ty
/-- 'append([]int{}, l...)' -/
theorem copyN {w : World} {l : List Nat} {A : Option Addr} {c n : Nat} (hn : n = l.length) (hm : Gr.RdG 1 csN w A l) (hA : A = none → c = 0) (hl : l.length ≤ 1000) (ty : TypeId) :
    ∃ v' w', (Builtin.append_ #[29, 29] ty #[.slice (some ⟨w.heap.size, 0, none⟩) 0 0, .slice A n c]).run Try.prog (w.alloc (.cells #[] 3)) = .ok v' w' ∧ OwnN w' w.heap.size v' l ∧ Below w.heap.size w w' := by
  have hb1 : Below w.heap.size w (w.alloc (.cells #[] 3)) := (Below.refl _ _).alloc (Nat.le_refl _) _
  obtain ⟨v', w', e1, e2, e3, _⟩ := app_g (fun _ => rfl) oneN Try.underlying29 Ir.info_int rfl (by omega) (own_new_g (cs := csN) 3 w) l hn (hm.below hb1) hA (by simp; omega) hb1.size ty
  exact ⟨v', w', e1, by simpa using e2, hb1.trans e3⟩
theorem und_ints : Try.prog.underlying 29 = some (.slice (Try.prog.elem 29)) := by kernel_rfl
theorem und_rows : Try.prog.underlying 30 = some (.slice (Try.prog.elem 30)) := by kernel_rfl
theorem size_int1 (w : World) : (sizeOf (Try.prog.elem 29)).run Try.prog w = .ok 1 w := by
  rw [show Try.prog.elem 29 = 3 by kernel_rfl]
  exact Nr.sizeOf_int w
theorem size_row1 (w : World) : (sizeOf (Try.prog.elem 30)).run Try.prog w = .ok 1 w := by
  rw [show Try.prog.elem 30 = 29 by kernel_rfl]
  obtain ⟨i0, hi, hz0, hz1, hz2⟩ : ∃ i0, Try.prog.info? 29 = some i0 ∧ i0.zero = some (.slice none 0 0) ∧ i0.size = 1 ∧ i0.bytes = 24 := info_parts info_row
  simp [sizeOf, typeInfo, hi, hz1]
theorem bs_ints (w : World) : (Instr.buildSlice 29 0 #[]).run Try.prog w = .ok (.slice (some ⟨w.heap.size, 0, none⟩) 0 0) (w.alloc (.cells #[] 3)) := by kernel_rfl
theorem bs_rows (w : World) : (Instr.buildSlice 30 0 #[]).run Try.prog w = .ok (.slice (some ⟨w.heap.size, 0, none⟩) 0 0) (w.alloc (.cells #[] 29)) := by kernel_rfl
/- what was told free, as a row of bools -/
def frL (a : Nat) (X : List Nat) : List Bool := (List.range a).map fun n => decide (n ∈ X)
theorem frL_len (a : Nat) (X : List Nat) : (frL a X).length = a := by simp [frL]
theorem frL_at {a n : Nat} {X : List Nat} (h : n < a) : (frL a X)[n]? = some (decide (n ∈ X)) := by simp [frL, h]
theorem frL_push {a : Nat} {X : List Nat} (h : a ∉ X) : frL (a + 1) X = frL a X ++ [false] := by
  unfold frL
  rw [List.range_succ, List.map_append]
  simp [h]
theorem frL_mark {a n : Nat} {X : List Nat} : (frL a X).set n true = frL a (X ++ [n]) := by
  apply List.ext_getElem?
  intro i
  rw [List.getElem?_set, frL_len]
  by_cases hi : i < a
  · rw [frL_at hi, frL_at hi]
    by_cases e : n = i
    · subst e; simp [hi]
    · rw [if_neg e]
      have e' : ¬ i = n := fun h => e h.symm
      simp [e']
  · rw [List.getElem?_eq_none (by rw [frL_len]; omega), List.getElem?_eq_none (by rw [frL_len]; omega)]
    by_cases e : n = i
    · rw [if_pos e, if_neg (by omega)]
    · rw [if_neg e]
end Dd
end Go.Proofs.Ytefgofoocabkkaa
