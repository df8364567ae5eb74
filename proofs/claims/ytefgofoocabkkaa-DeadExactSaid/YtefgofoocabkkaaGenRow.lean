/-
  Rows of structs: a call's own, and those that can be read, whatever the struct's cells. No conditions beyond those that each theorem types.
-/
import Derived.Test.YtefgofoocabkkaaRackMem
import Derived.Maps.AppendAt
import Derived.Laws.AppendOwnNone
namespace Go.Proofs.Ytefgofoocabkkaa
open Go Go.RowKit
set_option maxRecDepth 100000
set_option linter.unusedVariables false
namespace Gr
section
variable {α : Type} {E : TypeId} {k : Nat} {cs : α → List Value}
theorem flat_length (hk : ∀ x, (cs x).length = k) : ∀ l : List α, (l.flatMap cs).length = l.length * k
  | [] => by simp
  | x :: l => by rw [List.flatMap_cons, List.length_append, hk, flat_length hk l, List.length_cons, Nat.succ_mul]; omega
theorem flat_get (hk : ∀ x, (cs x).length = k) : ∀ {l : List α} {i : Nat} {x : α}, l[i]? = some x → ∀ j, j < k → (l.flatMap cs)[i * k + j]? = (cs x)[j]?
  | [], i, x, h, _, _ => by simp at h
  | y :: l, 0, x, h, j, hj => by
    simp at h
    subst h
    rw [List.flatMap_cons, Nat.zero_mul, Nat.zero_add, List.getElem?_append_left (by rw [hk]; exact hj)]
  | y :: l, i + 1, x, h, j, hj => by
    rw [List.getElem?_cons_succ] at h
    rw [List.flatMap_cons, List.getElem?_append_right (by rw [hk, Nat.succ_mul]; omega), hk, show (i + 1) * k + j - k = i * k + j by rw [Nat.succ_mul]; omega]
    exact flat_get hk h j hj
def OwnG (E : TypeId) (k : Nat) (cs : α → List Value) (w : World) (base : Nat) (v : Value) (l : List α) : Prop := w.ownsRow base E k v l.length (l.flatMap cs)
def RdG (k : Nat) (cs : α → List Value) (w : World) (A : Option Addr) (l : List α) : Prop := ∀ i x, l[i]? = some x → ∃ b o, A = some ⟨b, o, none⟩ ∧ b < w.heap.size ∧ ∀ j u, (cs x)[j]? = some u → w.cell? ⟨b, o + i * k + j, none⟩ = some u
variable {w w' : World} {base : Nat} {v : Value} {l m : List α} {A : Option Addr}
theorem OwnG.nil (w : World) (base : Nat) : OwnG E k cs w base (.slice none 0 0) ([] : List α) := World.ownsRow_nil w base _ k
theorem RdG.below (h : RdG k cs w A l) (hb : Below w.heap.size w w') : RdG k cs w' A l := fun i x hx => by
  obtain ⟨b, o, h1, h2, h3⟩ := h i x hx
  exact ⟨b, o, h1, Nat.lt_of_lt_of_le h2 hb.size, fun j u hu => (hb.cell (p := ⟨b, o + i * k + j, none⟩) h2).trans (h3 j u hu)⟩
theorem RdG.keep (h : RdG k cs w A l) (hz : w.heap.size ≤ w'.heap.size) (hf : ∀ b o s, A = some ⟨b, o, s⟩ → w'.heap[b]? = w.heap[b]?) : RdG k cs w' A l := fun i x hx => by
  obtain ⟨b, o, h1, h2, h3⟩ := h i x hx
  refine ⟨b, o, h1, Nat.lt_of_lt_of_le h2 hz, fun j u hu => ?_⟩
  have h4 := h3 j u hu
  have h5 := hf b o none h1
  unfold World.cell? at h4 ⊢
  rw [h5]
  exact h4
theorem OwnG.shape (h : OwnG E k cs w base v l) (hk : ∀ x, (cs x).length = k) : ∃ A c, v = .slice A l.length c ∧ RdG k cs w A l ∧ l.length ≤ c ∧ c ≤ maxLen ∧ (A = none → c = 0) ∧ (∀ b o s, A = some ⟨b, o, s⟩ → base ≤ b ∧ b < w.heap.size) := by
  rcases h.2 with ⟨h1, h2⟩ | ⟨g, cap, cur, h1, h2, h3, h4, h5, h6, h7⟩
  · refine ⟨none, 0, by rw [h1, h2], fun i x hx => ?_, by omega, by unfold maxLen; omega, (fun _ => rfl), (fun b o s e => by cases e)⟩
    have := (List.getElem?_eq_some_iff.1 hx).1; omega
  · have hlt := (Array.getElem?_eq_some_iff.1 h3).1
    refine ⟨_, cap, h1, fun i x hx => ?_, h4, h5, (fun e => by cases e), (fun b o s e => by injection e with e; injection e with e; subst e; exact ⟨h2, hlt⟩)⟩
    have hi := (List.getElem?_eq_some_iff.1 hx).1
    refine ⟨g, 0, rfl, hlt, fun j u hu => ?_⟩
    have hj : j < k := by have := (List.getElem?_eq_some_iff.1 hu).1; rw [hk] at this; exact this
    have hb : i * k + j < l.length * k := by
      have : (i + 1) * k ≤ l.length * k := Nat.mul_le_mul_right k hi
      rw [Nat.succ_mul] at this
      omega
    rw [Nat.zero_add, cell_of_row w g _ cur E (0, 0) h3]
    have h8 := flat_get hk hx j hj
    rw [hu, ← h7, List.getElem?_take_of_lt hb] at h8
    rw [← h8]
    simp
theorem OwnG.lt (h : OwnG E k cs w base v l) {g : Nat} (hg : v.ownBlock = some g) : g < w.heap.size ∧ base ≤ g := by
  rcases h.2 with ⟨h1, h2⟩ | ⟨g', cap, cur, h1, h2, h3, _⟩
  · rw [h1] at hg; cases hg
  · rw [h1] at hg; injection hg with hg; subst hg; exact ⟨(Array.getElem?_eq_some_iff.1 h3).1, h2⟩
theorem OwnG.keep (h : OwnG E k cs w base v l) (hf : ∀ g, v.ownBlock = some g → w'.heap[g]? = w.heap[g]?) : OwnG E k cs w' base v l := by
  refine ⟨h.1, ?_⟩
  rcases h.2 with h1 | ⟨g', cap, cur, h1, h2, h3, h4⟩
  · exact .inl h1
  · exact .inr ⟨g', cap, cur, h1, h2, (hf g' (by rw [h1]; rfl)).trans h3, h4⟩
theorem OwnG.below {B : Nat} (h : OwnG E k cs w base v l) (hb : Below B w w') (hB : w.heap.size ≤ B) : OwnG E k cs w' base v l := h.keep fun g hg => hb.block g (by have := (h.lt hg).1; omega)
theorem OwnG.grown {row : Option Nat} (h : OwnG E k cs w base v l) (hb : w.grownBy w' row) (hne : ∀ g, v.ownBlock = some g → some g ≠ row) : OwnG E k cs w' base v l := h.keep fun g hg => hb.block g (h.lt hg).1 (hne g hg)
theorem OwnG.blk_of (h : OwnG E k cs w base v l) {g : Nat} (hg : v.ownBlock = some g) : ∃ cur, Blk w g E cur := by
  rcases h.2 with ⟨h1, h2⟩ | ⟨g', cap, cur, h1, h2, h3, _⟩
  · rw [h1] at hg; cases hg
  · rw [h1] at hg; injection hg with hg; subst hg; exact ⟨cur, h3⟩
/-- 'append(l, m...)' -/
theorem run_append {T : TypeId} {z : Value} {bytes : Nat} (hk : ∀ x, (cs x).length = k) (hone : ∀ x, ∀ u ∈ cs x, u.oneCell' = true) (hu : Try.prog.underlying T = some (.slice E)) (hi : (Try.prog.info? E).map (fun i => (i.zero, i.size, i.bytes)) = some (some z, k, bytes)) (hzs : z.cells.size = k) (hk0 : 0 < k) (hby : bytes ≤ 64)
    (ty : TypeId) (h : OwnG E k cs w base v l) {ad : Addr} {c : Nat} (hr : ∀ j u, (m.flatMap cs)[j]? = some u → w.cell? (ad.add j) = some u) (hl : l.length + m.length ≤ 1099511627776) (hb : base ≤ w.heap.size) :
    ∃ v' w', (Builtin.append_ #[T, T] ty #[v, .slice (some ad) m.length c]).run Try.prog w = .ok v' w' ∧ OwnG E k cs w' base v' (l ++ m) ∧ w.grownBy w' v.ownBlock ∧ (v'.ownBlock = v.ownBlock ∨ v'.ownBlock = some w.heap.size) := by
  obtain ⟨i0, hi', hz0, hz1, hz2⟩ : ∃ i0, Try.prog.info? E = some i0 ∧ i0.zero = some z ∧ i0.size = k ∧ i0.bytes = bytes := by
    cases hE : Try.prog.info? E with
    | none => rw [hE] at hi; simp at hi
    | some i => rw [hE] at hi; simp at hi; exact ⟨i, rfl, hi.1, hi.2.1, hi.2.2⟩
  obtain ⟨v', w', e1, e2, e3, e4, e5⟩ := run_append_own_at (P := Try.prog) w base T ty E i0 z k bytes hu hi' hz0 hz1 hz2 hzs hk0 v l.length (l.flatMap cs) h ad m.length c (m.flatMap cs) (flat_length hk m) hr
    (fun u hu => by obtain ⟨x, _, hx⟩ := List.mem_flatMap.1 hu; exact hone x u hx) (by unfold maxLen; omega) (by
      have := Nat.mul_le_mul_left (l.length + m.length) hby
      omega) hb
  refine ⟨v', w', e1, ?_, e3, e5⟩
  unfold OwnG
  rw [List.length_append, List.flatMap_append]
  exact e2
/-- what lies in a block of its own, as a row of one -/
theorem one_cells (x : α) (W : World) (t : TypeId) : ∀ j u, (([x] : List α).flatMap cs)[j]? = some u → (W.alloc (.cells (cs x).toArray t)).cell? ((⟨W.heap.size, 0, none⟩ : Addr).add j) = some u := by
  intro j u hj
  rw [add_plain, Nat.zero_add, (Blk.new W t _).cell]
  simpa using hj
end
/-- 'xs[i]' of elements of so many cells -/
theorem index_gen {P : Program} {t e : TypeId} {k : Nat} (ht : P.underlying t = some (.slice e)) (hi : (P.info? e).map (·.size) = some k) (b o n c i : Nat) (hlt : i < n) (w : World) :
    (Instr.indexAt t (.slice (some ⟨b, o, none⟩) n c) (.int .i64 (i : Int))).run P w = .ok (.pointer (some ⟨b, o + i * k, none⟩)) w := by
  cases hq : P.info? e with
  | none => simp [hq] at hi
  | some inf =>
    have hs : inf.size = k := by simpa [hq] using hi
    have h2 : (i : Int) < (n : Int) := by omega
    unfold Instr.indexAt asIntOf
    simp [run_underlying ht, Sem.run_bind, sizeOf, typeInfo, hq, hs, hlt, add_plain]
theorem wp_append {w : World} {o : Oper} {a : Act} {K : Act → World → Prop} {Q : Exit → Act → World → Prop} (T : TypeId) (s x : Operand) (ho : o.op = .call { callee := .builtin .append, args := #[s, x], argTypes := #[T, T] })
    {v y v' : Value} {w' : World} (hs : a.eval s = v) (hx : a.eval x = y) (hrun : (Builtin.append_ #[T, T] o.type #[v, y]).run Try.prog w = .ok v' w') (h : K (a.put o.dst v') w') : o.wp Try.prog a w K Q := by
  unfold Oper.wp execOp
  simp only [ho, resolve, invoke, builtin, Sem.run_bind, Sem.run_pure, Result.andThen_ok, List.map_toArray, List.map_cons, List.map_nil, hs, hx, hrun]
  exact h
theorem wpList_append {w : World} {ops : Array Oper} {rest : List Oper} {o : Oper} {a : Act} {Q : Exit → Act → World → Prop} (hgd : o.guard = none) (T : TypeId) (s x : Operand) (ho : o.op = .call { callee := .builtin .append, args := #[s, x], argTypes := #[T, T] })
    {v y v' : Value} {w' : World} (hs : a.eval s = v) (hx : a.eval x = y) (hrun : ∀ ty, (Builtin.append_ #[T, T] ty #[v, y]).run Try.prog w = .ok v' w') (h : wpList Try.prog ops Q rest (a.put o.dst v') w') : wpList Try.prog ops Q (o :: rest) a w :=
  wpList_plain hgd fun K hK' => wp_append T s x ho hs hx (hrun o.type) (hK' _ _ h)
end Gr
end Go.Proofs.Ytefgofoocabkkaa
