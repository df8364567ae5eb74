/-
  Rows of structs: a call's own, and those that can be read, whatever the struct's cells. No conditions beyond those that each theorem types.
-/
import Derived.Test.YtikenhcglbfgpaaDoorStrBM
import Derived.Maps.AppendAt
import Derived.Laws.AppendOwnNone
import Derived.Test.YtikenhcglbfgpaaDoorItnWrite
import Derived.Lib.SliceRun
namespace Go.Proofs.YtikenhcglbfgpaaDoor
open Go Go.RowKit
set_option maxRecDepth 100000
set_option linter.unusedVariables false
namespace Gr
section
variable {α : Type} {E : TypeId} {k : Nat} {cs : α → List Value}
theorem flat_length (hk : ∀ x, (cs x).length = k) : ∀ l : List α, (l.flatMap cs).length = l.length * k
  | [] => by simp
  | x :: l => by rw [List.flatMap_cons, List.length_append, hk, flat_length hk l, List.length_cons, Nat.succ_mul]; omega
theorem flat_get (hk : ∀ x, (cs x).length = k) : ∀ {l : List α} {i : Nat} {x : α}, l[i]? = some x → ∀ j, j < k → (l.flatMap cs)[i * k + j]? = (cs x)[j]?
  | [], i, x, h, _, _ => by simp at h
  | y :: l, 0, x, h, j, hj => by
    simp at h
    subst h
    rw [List.flatMap_cons, Nat.zero_mul, Nat.zero_add, List.getElem?_append_left (by rw [hk]; exact hj)]
  | y :: l, i + 1, x, h, j, hj => by
    rw [List.getElem?_cons_succ] at h
    rw [List.flatMap_cons, List.getElem?_append_right (by rw [hk, Nat.succ_mul]; omega), hk, show (i + 1) * k + j - k = i * k + j by rw [Nat.succ_mul]; omega]
    exact flat_get hk h j hj
def OwnG (E : TypeId) (k : Nat) (cs : α → List Value) (w : World) (base : Nat) (v : Value) (l : List α) : Prop := w.ownsRow base E k v l.length (l.flatMap cs)
def RdG (k : Nat) (cs : α → List Value) (w : World) (A : Option Addr) (l : List α) : Prop := ∀ i x, l[i]? = some x → ∃ b o, A = some ⟨b, o, none⟩ ∧ b < w.heap.size ∧ ∀ j u, (cs x)[j]? = some u → w.cell? ⟨b, o + i * k + j, none⟩ = some u
variable {w w' : World} {base : Nat} {v : Value} {l m : List α} {A : Option Addr}
theorem OwnG.nil (w : World) (base : Nat) : OwnG E k cs w base (.slice none 0 0) ([] : List α) := World.ownsRow_nil w base _ k
theorem RdG.below (h : RdG k cs w A l) (hb : Below w.heap.size w w') : RdG k cs w' A l := fun i x hx => by
  obtain ⟨b, o, h1, h2, h3⟩ := h i x hx
  exact ⟨b, o, h1, Nat.lt_of_lt_of_le h2 hb.size, fun j u hu => (hb.cell (p := ⟨b, o + i * k + j, none⟩) h2).trans (h3 j u hu)⟩
theorem RdG.keep (h : RdG k cs w A l) (hz : w.heap.size ≤ w'.heap.size) (hf : ∀ b o s, A = some ⟨b, o, s⟩ → w'.heap[b]? = w.heap[b]?) : RdG k cs w' A l := fun i x hx => by
  obtain ⟨b, o, h1, h2, h3⟩ := h i x hx
  refine ⟨b, o, h1, Nat.lt_of_lt_of_le h2 hz, fun j u hu => ?_⟩
  have h4 := h3 j u hu
  have h5 := hf b o none h1
  unfold World.cell? at h4 ⊢
  rw [h5]
  exact h4
theorem OwnG.shape (h : OwnG E k cs w base v l) (hk : ∀ x, (cs x).length = k) : ∃ A c, v = .slice A l.length c ∧ RdG k cs w A l ∧ l.length ≤ c ∧ c ≤ maxLen ∧ (A = none → c = 0) ∧ (∀ b o s, A = some ⟨b, o, s⟩ → base ≤ b ∧ b < w.heap.size) := by
  rcases h.2 with ⟨h1, h2⟩ | ⟨g, cap, cur, h1, h2, h3, h4, h5, h6, h7⟩
  · refine ⟨none, 0, by rw [h1, h2], fun i x hx => ?_, by omega, by unfold maxLen; omega, (fun _ => rfl), (fun b o s e => by cases e)⟩
    have := (List.getElem?_eq_some_iff.1 hx).1; omega
  · have hlt := (Array.getElem?_eq_some_iff.1 h3).1
    refine ⟨_, cap, h1, fun i x hx => ?_, h4, h5, (fun e => by cases e), (fun b o s e => by injection e with e; injection e with e; subst e; exact ⟨h2, hlt⟩)⟩
    have hi := (List.getElem?_eq_some_iff.1 hx).1
    refine ⟨g, 0, rfl, hlt, fun j u hu => ?_⟩
    have hj : j < k := by have := (List.getElem?_eq_some_iff.1 hu).1; rw [hk] at this; exact this
    have hb : i * k + j < l.length * k := by
      have : (i + 1) * k ≤ l.length * k := Nat.mul_le_mul_right k hi
      rw [Nat.succ_mul] at this
      omega
    rw [Nat.zero_add, cell_of_row w g _ cur E (0, 0) h3]
    have h8 := flat_get hk hx j hj
    rw [hu, ← h7, List.getElem?_take_of_lt hb] at h8
    rw [← h8]
    simp
theorem OwnG.lt (h : OwnG E k cs w base v l) {g : Nat} (hg : v.ownBlock = some g) : g < w.heap.size ∧ base ≤ g := by
  rcases h.2 with ⟨h1, h2⟩ | ⟨g', cap, cur, h1, h2, h3, _⟩
  · rw [h1] at hg; cases hg
  · rw [h1] at hg; injection hg with hg; subst hg; exact ⟨(Array.getElem?_eq_some_iff.1 h3).1, h2⟩
theorem OwnG.keep (h : OwnG E k cs w base v l) (hf : ∀ g, v.ownBlock = some g → w'.heap[g]? = w.heap[g]?) : OwnG E k cs w' base v l := by
  refine ⟨h.1, ?_⟩
  rcases h.2 with h1 | ⟨g', cap, cur, h1, h2, h3, h4⟩
  · exact .inl h1
  · exact .inr ⟨g', cap, cur, h1, h2, (hf g' (by rw [h1]; rfl)).trans h3, h4⟩
theorem OwnG.below {B : Nat} (h : OwnG E k cs w base v l) (hb : Below B w w') (hB : w.heap.size ≤ B) : OwnG E k cs w' base v l := h.keep fun g hg => hb.block g (by have := (h.lt hg).1; omega)
theorem OwnG.grown {row : Option Nat} (h : OwnG E k cs w base v l) (hb : w.grownBy w' row) (hne : ∀ g, v.ownBlock = some g → some g ≠ row) : OwnG E k cs w' base v l := h.keep fun g hg => hb.block g (h.lt hg).1 (hne g hg)
theorem OwnG.blk_of (h : OwnG E k cs w base v l) {g : Nat} (hg : v.ownBlock = some g) : ∃ cur, Blk w g E cur := by
  rcases h.2 with ⟨h1, h2⟩ | ⟨g', cap, cur, h1, h2, h3, _⟩
  · rw [h1] at hg; cases hg
  · rw [h1] at hg; injection hg with hg; subst hg; exact ⟨cur, h3⟩
/-- 'append(l, m...)' -/
theorem run_append {T : TypeId} {z : Value} {bytes : Nat} (hk : ∀ x, (cs x).length = k) (hone : ∀ x, ∀ u ∈ cs x, u.oneCell' = true) (hu : Tryd.prog.underlying T = some (.slice E)) (hi : (Tryd.prog.info? E).map (fun i => (i.zero, i.size, i.bytes)) = some (some z, k, bytes)) (hzs : z.cells.size = k) (hk0 : 0 < k) (hby : bytes ≤ 64)
    (ty : TypeId) (h : OwnG E k cs w base v l) {ad : Addr} {c : Nat} (hr : ∀ j u, (m.flatMap cs)[j]? = some u → w.cell? (ad.add j) = some u) (hl : l.length + m.length ≤ 1099511627776) (hb : base ≤ w.heap.size) :
    ∃ v' w', (Builtin.append_ #[T, T] ty #[v, .slice (some ad) m.length c]).run Tryd.prog w = .ok v' w' ∧ OwnG E k cs w' base v' (l ++ m) ∧ w.grownBy w' v.ownBlock ∧ (v'.ownBlock = v.ownBlock ∨ v'.ownBlock = some w.heap.size) := by
  obtain ⟨i0, hi', hz0, hz1, hz2⟩ : ∃ i0, Tryd.prog.info? E = some i0 ∧ i0.zero = some z ∧ i0.size = k ∧ i0.bytes = bytes := by
    cases hE : Tryd.prog.info? E with
    | none => rw [hE] at hi; simp at hi
    | some i => rw [hE] at hi; simp at hi; exact ⟨i, rfl, hi.1, hi.2.1, hi.2.2⟩
  obtain ⟨v', w', e1, e2, e3, e4, e5⟩ := run_append_own_at (P := Tryd.prog) w base T ty E i0 z k bytes hu hi' hz0 hz1 hz2 hzs hk0 v l.length (l.flatMap cs) h ad m.length c (m.flatMap cs) (flat_length hk m) hr
    (fun u hu => by obtain ⟨x, _, hx⟩ := List.mem_flatMap.1 hu; exact hone x u hx) (by unfold maxLen; omega) (by
      have := Nat.mul_le_mul_left (l.length + m.length) hby
      omega) hb
  refine ⟨v', w', e1, ?_, e3, e5⟩
  unfold OwnG
  rw [List.length_append, List.flatMap_append]
  exact e2
/-- what lies in a block of its own, as a row of one -/
theorem one_cells (x : α) (W : World) (t : TypeId) : ∀ j u, (([x] : List α).flatMap cs)[j]? = some u → (W.alloc (.cells (cs x).toArray t)).cell? ((⟨W.heap.size, 0, none⟩ : Addr).add j) = some u := by
  intro j u hj
  rw [add_plain, Nat.zero_add, (Blk.new W t _).cell]
  simpa using hj
end
/-- 'xs[i]' of elements of so many cells -/
theorem index_gen {P : Program} {t e : TypeId} {k : Nat} (ht : P.underlying t = some (.slice e)) (hi : (P.info? e).map (·.size) = some k) (b o n c i : Nat) (hlt : i < n) (w : World) :
    (Instr.indexAt t (.slice (some ⟨b, o, none⟩) n c) (.int .i64 (i : Int))).run P w = .ok (.pointer (some ⟨b, o + i * k, none⟩)) w := by
  cases hq : P.info? e with
  | none => simp [hq] at hi
  | some inf =>
    have hs : inf.size = k := by simpa [hq] using hi
    have h2 : (i : Int) < (n : Int) := by omega
    unfold Instr.indexAt asIntOf
    simp [run_underlying ht, Sem.run_bind, sizeOf, typeInfo, hq, hs, hlt, add_plain]
theorem wp_append {w : World} {o : Oper} {a : Act} {K : Act → World → Prop} {Q : Exit → Act → World → Prop} (T : TypeId) (s x : Operand) (ho : o.op = .call { callee := .builtin .append, args := #[s, x], argTypes := #[T, T] })
    {v y v' : Value} {w' : World} (hs : a.eval s = v) (hx : a.eval x = y) (hrun : (Builtin.append_ #[T, T] o.type #[v, y]).run Tryd.prog w = .ok v' w') (h : K (a.put o.dst v') w') : o.wp Tryd.prog a w K Q := by
  unfold Oper.wp execOp
  simp only [ho, resolve, invoke, builtin, Sem.run_bind, Sem.run_pure, Result.andThen_ok, List.map_toArray, List.map_cons, List.map_nil, hs, hx, hrun]
  exact h
theorem wpList_append {w : World} {ops : Array Oper} {rest : List Oper} {o : Oper} {a : Act} {Q : Exit → Act → World → Prop} (hgd : o.guard = none) (T : TypeId) (s x : Operand) (ho : o.op = .call { callee := .builtin .append, args := #[s, x], argTypes := #[T, T] })
    {v y v' : Value} {w' : World} (hs : a.eval s = v) (hx : a.eval x = y) (hrun : ∀ ty, (Builtin.append_ #[T, T] ty #[v, y]).run Tryd.prog w = .ok v' w') (h : wpList Tryd.prog ops Q rest (a.put o.dst v') w') : wpList Tryd.prog ops Q (o :: rest) a w :=
  wpList_plain hgd fun K hK' => wp_append T s x ho hs hx (hrun o.type) (hK' _ _ h)
end Gr
end Go.Proofs.YtikenhcglbfgpaaDoor
namespace Go.Proofs.YtikenhcglbfgpaaDoor
open Go Go.RowKit
set_option maxRecDepth 100000
set_option linter.unusedVariables false
namespace Gr
theorem run_append_b {α : Type} {E : TypeId} {k : Nat} {cs : α → List Value} {w : World} {base : Nat} {v : Value} {l m : List α} {T : TypeId} {z : Value} {bytes : Nat} (hk : ∀ x, (cs x).length = k) (hone : ∀ x, ∀ u ∈ cs x, u.oneCell' = true) (hu : Tryd.prog.underlying T = some (.slice E)) (hi : (Tryd.prog.info? E).map (fun i => (i.zero, i.size, i.bytes)) = some (some z, k, bytes)) (hzs : z.cells.size = k) (hk0 : 0 < k)
    (ty : TypeId) (h : OwnG E k cs w base v l) {ad : Addr} {c : Nat} (hr : ∀ j u, (m.flatMap cs)[j]? = some u → w.cell? (ad.add j) = some u) (hl : l.length + m.length ≤ 4611686018427387904) (hby : (l.length + m.length) * bytes ≤ 140737488355328) (hb : base ≤ w.heap.size) :
    ∃ v' w', (Builtin.append_ #[T, T] ty #[v, .slice (some ad) m.length c]).run Tryd.prog w = .ok v' w' ∧ OwnG E k cs w' base v' (l ++ m) ∧ w.grownBy w' v.ownBlock ∧ (v'.ownBlock = v.ownBlock ∨ v'.ownBlock = some w.heap.size) := by
  obtain ⟨i0, hi', hz0, hz1, hz2⟩ : ∃ i0, Tryd.prog.info? E = some i0 ∧ i0.zero = some z ∧ i0.size = k ∧ i0.bytes = bytes := by
    cases hE : Tryd.prog.info? E with
    | none => rw [hE] at hi; simp at hi
    | some i => rw [hE] at hi; simp at hi; exact ⟨i, rfl, hi.1, hi.2.1, hi.2.2⟩
  obtain ⟨v', w', e1, e2, e3, e4, e5⟩ := run_append_own_at (P := Tryd.prog) w base T ty E i0 z k bytes hu hi' hz0 hz1 hz2 hzs hk0 v l.length (l.flatMap cs) h ad m.length c (m.flatMap cs) (flat_length hk m) hr
    (fun u hu => by obtain ⟨x, _, hx⟩ := List.mem_flatMap.1 hu; exact hone x u hx) (by unfold maxLen; omega) hby hb
  refine ⟨v', w', e1, ?_, e3, e5⟩
  unfold OwnG
  rw [List.length_append, List.flatMap_append]
  exact e2
end Gr
end Go.Proofs.YtikenhcglbfgpaaDoor
namespace Go.Proofs.YtikenhcglbfgpaaDoor
open Go Go.RowKit refRack
set_option maxRecDepth 100000
set_option linter.unusedVariables false
namespace Itn
def csC (p : Pc) : List Value := [.bool p.l, .string p.s]
def csS (s : ByteArray) : List Value := [.string s]
abbrev OwnC (w : World) (base : Nat) (v : Value) (l : List Pc) : Prop := Gr.OwnG 59 2 csC w base v l
abbrev OwnS (w : World) (base : Nat) (v : Value) (l : List ByteArray) : Prop := Gr.OwnG 9 1 csS w base v l
theorem info_pc : (Tryd.prog.info? 59).map (fun i => (i.zero, i.size, i.bytes)) = some (some (.agg #[.bool false, .string ⟨#[]⟩]), 2, 24) := by kernel_rfl
theorem info_st : (Tryd.prog.info? 9).map (fun i => (i.zero, i.size, i.bytes)) = some (some (.string ⟨#[]⟩), 1, 16) := by kernel_rfl
theorem oneC (x : Pc) : ∀ u ∈ csC x, u.oneCell' = true := fun u hu => by simp [csC] at hu; rcases hu with rfl | rfl <;> rfl
theorem oneS (x : ByteArray) : ∀ u ∈ csS x, u.oneCell' = true := fun u hu => by simp [csS] at hu; subst hu; rfl
/-- only the row's own block, and what is new, may have changed -/
def RowG (v v' : Value) (w w' : World) : Prop := w.heap.size ≤ w'.heap.size ∧ (∀ g, g < w.heap.size → v.ownBlock ≠ some g → w'.heap[g]? = w.heap[g]?) ∧ (v'.ownBlock = v.ownBlock ∨ v'.ownBlock = some w.heap.size ∨ v'.ownBlock = some (w.heap.size + 1))
section
variable {w : World} {base : Nat} {v : Value}
theorem app1 {α : Type} {E T : TypeId} {k : Nat} {cs : α → List Value} {z : Value} {bytes : Nat} {l : List α} (hk : ∀ x, (cs x).length = k) (hone : ∀ x, ∀ u ∈ cs x, u.oneCell' = true) (hu : Tryd.prog.underlying T = some (.slice E)) (hi : (Tryd.prog.info? E).map (fun i => (i.zero, i.size, i.bytes)) = some (some z, k, bytes)) (hzs : z.cells.size = k) (hk0 : 0 < k) (hb64 : bytes ≤ 64)
    (h : Gr.OwnG E k cs w base v l) (x : α) (hl : l.length ≤ 1000000) (hb : base ≤ w.heap.size) (ty : TypeId) :
    ∃ v' w', (Builtin.append_ #[T, T] ty #[v, .slice (some ⟨w.heap.size, 0, none⟩) 1 1]).run Tryd.prog (w.alloc (.cells (cs x).toArray E)) = .ok v' w' ∧ Gr.OwnG E k cs w' base v' (l ++ [x]) ∧ Below base w w' ∧ RowG v v' w w' := by
  have hB : Below base w (w.alloc (.cells (cs x).toArray E)) := (Below.refl _ _).alloc hb _
  have hB2 : Below w.heap.size w (w.alloc (.cells (cs x).toArray E)) := (Below.refl _ _).alloc (Nat.le_refl _) _
  have hs : (w.alloc (.cells (cs x).toArray E)).heap.size = w.heap.size + 1 := by simp
  obtain ⟨v', w', e1, e2, e3, e4⟩ := Gr.run_append_b (m := [x]) (c := 1) hk hone hu hi hzs hk0 ty (h.below hB2 (Nat.le_refl _)) (ad := ⟨w.heap.size, 0, none⟩) (Gr.one_cells x w E) (by simp; omega) (by
      have := Nat.mul_le_mul_left (l.length + 1) hb64
      have h1 : ([x] : List α).length = 1 := rfl
      rw [h1]
      omega) (by rw [hs]; omega)
  refine ⟨v', w', e1, e2, hB.trans ⟨e3.os, e3.tape, e3.output, e3.size, fun g hg => e3.block g (by omega) (fun e => by have := (h.lt e.symm).2; omega)⟩, by have := e3.size; omega, fun g hg hne => (e3.block g (by omega) (fun e => hne e.symm)).trans (hB2.block g hg), ?_⟩
  rw [hs] at e4
  rcases e4 with e | e
  · exact .inl e
  · exact .inr (.inr e)
theorem appC {l : List Pc} (h : OwnC w base v l) (x : Pc) (hl : l.length ≤ 1000000) (hb : base ≤ w.heap.size) (ty : TypeId) :
    ∃ v' w', (Builtin.append_ #[56, 56] ty #[v, .slice (some ⟨w.heap.size, 0, none⟩) 1 1]).run Tryd.prog (w.alloc (.cells #[.bool x.l, .string x.s] 59)) = .ok v' w' ∧ OwnC w' base v' (l ++ [x]) ∧ Below base w w' ∧ RowG v v' w w' :=
  app1 (k := 2) (cs := csC) (fun _ => rfl) oneC Tryd.underlying56 info_pc rfl (by omega) (by omega) h x hl hb ty
theorem appS {l : List ByteArray} (h : OwnS w base v l) (x : ByteArray) (hl : l.length ≤ 1000000) (hb : base ≤ w.heap.size) (ty : TypeId) :
    ∃ v' w', (Builtin.append_ #[22, 22] ty #[v, .slice (some ⟨w.heap.size, 0, none⟩) 1 1]).run Tryd.prog (w.alloc (.cells #[.string x] 9)) = .ok v' w' ∧ OwnS w' base v' (l ++ [x]) ∧ Below base w w' ∧ RowG v v' w w' :=
  app1 (k := 1) (cs := csS) (fun _ => rfl) oneS Tryd.underlying22 info_st rfl (by omega) (by omega) h x hl hb ty
end
theorem wp_app_g {w : World} {o : Oper} {a : Act} {K : Act → World → Prop} {Q : Exit → Act → World → Prop} (T : TypeId) (s x : Operand) (ho : o.op = .call { callee := .builtin .append, args := #[s, x], argTypes := #[T, T] })
    {v y : Value} {R : Value → World → Prop} (hs : a.eval s = v) (hx : a.eval x = y) (hrun : ∀ ty, ∃ v' w', (Builtin.append_ #[T, T] ty #[v, y]).run Tryd.prog w = .ok v' w' ∧ R v' w') (h : ∀ v' w', R v' w' → K (a.put o.dst v') w') : o.wp Tryd.prog a w K Q := by
  obtain ⟨v', w', h1, h2⟩ := hrun o.type
  exact Gr.wp_append T s x ho hs hx h1 (h v' w' h2)
theorem wpList_app_g {w : World} {ops : Array Oper} {rest : List Oper} {o : Oper} {a : Act} {Q : Exit → Act → World → Prop} (hgd : o.guard = none) (T : TypeId) (s x : Operand) (ho : o.op = .call { callee := .builtin .append, args := #[s, x], argTypes := #[T, T] })
    {v y : Value} {R : Value → World → Prop} (hs : a.eval s = v) (hx : a.eval x = y) (hrun : ∀ ty, ∃ v' w', (Builtin.append_ #[T, T] ty #[v, y]).run Tryd.prog w = .ok v' w' ∧ R v' w') (h : ∀ v' w', R v' w' → wpList Tryd.prog ops Q rest (a.put o.dst v') w') : wpList Tryd.prog ops Q (o :: rest) a w :=
  wpList_plain hgd fun K hK' => wp_app_g T s x ho hs hx hrun fun v' w' h' => hK' _ _ (h v' w' h')
/- the pieces of a text -/
def cutF : Nat → ByteArray → List Pc
  | 0, s => [⟨true, s⟩]
  | f + 1, s => if 56 < s.size then ⟨false, s.extract 0 56⟩ :: cutF f (s.extract 56 s.size) else [⟨true, s⟩]
def cutL (s : ByteArray) : List Pc := cutF s.size s
theorem cutF_big {f : Nat} {s : ByteArray} (hf : s.size ≤ f) (h : 56 < s.size) : ∃ f', f = f' + 1 ∧ cutF f s = ⟨false, s.extract 0 56⟩ :: cutF f' (s.extract 56 s.size) := by
  cases f with
  | zero => omega
  | succ f => exact ⟨f, rfl, if_pos h⟩
theorem cutF_small {f : Nat} {s : ByteArray} (h : ¬ 56 < s.size) : cutF f s = [⟨true, s⟩] := by
  cases f with
  | zero => rfl
  | succ f => exact if_neg h
theorem ext_size (s : ByteArray) (a b : Nat) (h : b ≤ s.size) : (s.extract a b).size = b - a := by
  rw [ByteArray.size_extract]; omega
theorem cutF_len : ∀ f s, s.size ≤ f → (cutF f s).length = needN s.size
  | 0, s, h => by show 1 = 1 + (s.size - 1) / 56; omega
  | f + 1, s, h => by
    unfold cutF
    by_cases hb : 56 < s.size
    · rw [if_pos hb, List.length_cons, cutF_len f _ (by rw [ext_size _ _ _ (Nat.le_refl _)]; omega), ext_size _ _ _ (Nat.le_refl _)]
      unfold needN
      omega
    · rw [if_neg hb]
      show 1 = 1 + (s.size - 1) / 56
      omega
theorem cutF_fit : ∀ f s, s.size ≤ f → ∀ p ∈ cutF f s, p.s.size ≤ 56
  | 0, s, h, p, hp => by
    rcases List.mem_cons.1 hp with rfl | hp
    · show s.size ≤ 56; omega
    · cases hp
  | f + 1, s, h, p, hp => by
    unfold cutF at hp
    by_cases hb : 56 < s.size
    · rw [if_pos hb] at hp
      rcases List.mem_cons.1 hp with rfl | hp
      · show (s.extract 0 56).size ≤ 56
        rw [ext_size _ _ _ (by omega)]
        omega
      · exact cutF_fit f _ (by rw [ext_size _ _ _ (Nat.le_refl _)]; omega) p hp
    · rw [if_neg hb] at hp
      rcases List.mem_cons.1 hp with rfl | hp
      · show s.size ≤ 56; omega
      · cases hp
theorem cutL_len (s : ByteArray) : (cutL s).length = needN s.size := cutF_len _ _ (Nat.le_refl _)
theorem cutL_fit (s : ByteArray) : ∀ p ∈ cutL s, p.s.size ≤ 56 := cutF_fit _ _ (Nat.le_refl _)
set_option maxHeartbeats 3200000 in
theorem cut_at (s : ByteArray) (w : World) (hs : s.size ≤ 1000000) : Calls Tryd.prog 23 #[.string s] w fun e w' => (∃ v, e = .returned v ∧ OwnC w' w.heap.size v (cutL s)) ∧ Below w.heap.size w w' := by
  have H0 : Hid (OwnC w w.heap.size (.slice none 0 0) [] ∧ Below w.heap.size w w ∧ [] ++ cutF s.size s = cutL s) := Lib.hid ⟨Gr.OwnG.nil _ _, Below.refl _ _, rfl⟩
  have HS := Lib.hid hs
  go_enter Tryd.func23, Tryd.ntmps23
  go_wp2_with fail
  go_loopw [0, 3] (fun v y wr => ∃ (t : ByteArray) (f : Nat) (l : List Pc), v = .string t ∧ t.size ≤ f ∧ t.size + 56 * l.length ≤ 1000000 ∧ Hid (OwnC wr w.heap.size y l ∧ Below w.heap.size w wr ∧ l ++ cutF f t = cutL s)) (fun v _ _ => match v with | .string t => t.size | _ => 0)
  case atStart => exact ⟨s, s.size, [], rfl, Nat.le_refl _, by simp; omega, H0⟩
  case round =>
    clear H0
    obtain ⟨t, f, l, rfl, hf, hz, HR⟩ := hrel
    by_cases hlt : 56 < t.size
    · have i1 : (56 : Int) < (t.size : Int) := by omega
      obtain ⟨f', hf', he⟩ := cutF_big hf hlt
      have HE := Lib.hid he
      have HL : Hid (l.length ≤ 1000000) := Lib.hid (by omega)
      clear he
      go_wp2_with (at_builtin; refine wpList_app_g rfl 56 (.tmp 7) (.tmp 11) rfl rfl rfl (fun ty => appC HR.out.1 ⟨false, t.extract 0 56⟩ HL.out HR.out.2.1.size ty) ?_; intro v5 W5 h5; refine of_hid ?_)
      refine Lib.hid ?_
      have H5 := Lib.hid h5
      clear h5
      have i2 : (56 : Int) ≤ (t.size : Int) := by omega
      go_wp2_with fail
      go_roundw
      case rel => exact ⟨t.extract 56 t.size, f', l ++ [⟨false, t.extract 0 56⟩], by go_num, by rw [ext_size _ _ _ (Nat.le_refl _)]; omega, by rw [ext_size _ _ _ (Nat.le_refl _), List.length_append]; simp; omega, Lib.hid ⟨H5.out.1, HR.out.2.1.trans H5.out.2.1, by rw [← HR.out.2.2, HE.out, List.append_assoc]; rfl⟩⟩
      case measure => simp [ByteArray.size_extract]; omega
    · have i1 : ¬ ((56 : Int) < (t.size : Int)) := by omega
      have HE := Lib.hid (cutF_small (f := f) hlt)
      have HL : Hid (l.length ≤ 1000000) := Lib.hid (by omega)
      go_wp2_with (at_builtin; refine wpList_app_g rfl 56 (.tmp 15) (.tmp 18) rfl rfl rfl (fun ty => appC HR.out.1 ⟨true, t⟩ HL.out HR.out.2.1.size ty) ?_; intro v5 W5 h5; refine of_hid ?_)
      refine Lib.hid ?_
      have H5 := Lib.hid h5
      clear h5
      go_wp2_with fail
      go_ret
      exact ⟨⟨_, rfl, by rw [← HR.out.2.2, HE.out]; exact H5.out.1⟩, HR.out.2.1.trans H5.out.2.1⟩
theorem extract_all (s : ByteArray) : s.extract 0 s.size = s := by simp
def shortB (s : ByteArray) : ByteArray := s.extract 0 (min s.size 300)
theorem short_at (s : ByteArray) (w : World) (hs : s.size ≤ 4611686018427387904) : Calls Tryd.prog 8 #[.string s] w fun e w' => e = .returned (.string (shortB s)) ∧ w' = w := by
  by_cases h : s.size ≤ 300
  · have i1 : ((s.size : Int) ≤ 300) := by omega
    go_enter Tryd.func8, Tryd.ntmps8
    go_wp2_with fail
    go_ret
    exact ⟨by unfold shortB; rw [show min s.size 300 = s.size by omega, extract_all s]; rfl, rfl⟩
  · have i1 : ¬ ((s.size : Int) ≤ 300) := by omega
    go_enter Tryd.func8, Tryd.ntmps8
    go_wp2_with fail
    go_ret
    exact ⟨by unfold shortB; rw [show min s.size 300 = 300 by omega]; rfl, rfl⟩
end Itn
end Go.Proofs.YtikenhcglbfgpaaDoor
