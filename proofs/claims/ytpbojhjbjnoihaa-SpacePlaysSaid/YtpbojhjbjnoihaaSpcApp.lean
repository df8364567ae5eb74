/-
  'append' to the call's own row of ranges; the steps of 'copy', 'clear', 'append' for the walk. No conditions beyond those that each theorem types.
-/
import Derived.Test.YtpbojhjbjnoihaaSpcRow
namespace Go.Proofs.Ytpbojhjbjnoihaa
open Go Go.RowKit
set_option maxRecDepth 100000
set_option linter.unusedVariables false
namespace Sp
/-- a value that can be read as these ranges -/
def Sr (w : World) (x : Value) (m : List Rg) : Prop := Src Try.prog 2 31 x m.length (rcells m) w
theorem Sr.nil (w : World) : Sr w (.slice none 0 0) [] := Src.ofNil w Try.underlying31 0
theorem Sr.of {w : World} {b o c : Nat} {m : List Rg} (h : ∀ j v, (rcells m)[j]? = some v → w.cell? ⟨b, o + j, none⟩ = some v) : Sr w (.slice (some ⟨b, o, none⟩) m.length c) m :=
  Src.ofSlice w Try.underlying31 ⟨b, o, none⟩ m.length c (rcells m) (rcells_length m) (fun j u hj => by rw [add_plain]; exact h j u hj) (rcells_one m)
theorem own_new {W : World} {l : List Rg} {k : Nat} {xs : Array Value} (hx : xs = (rcells l).toArray) (hm : l.length + k ≤ maxLen) :
    Own (W.alloc (.cells (xs ++ Builtin.zeroCells (Value.agg #[.int .i64 0, .int .i64 0]).cells k) 34)) W.heap.size (.slice (some ⟨W.heap.size, 0, none⟩) l.length (l.length + k)) l := by
  subst hx
  refine .inr ⟨W.heap.size, l.length + k, _, rfl, Nat.le_refl _, Blk.new W _ _, Nat.le_add_right _ _, hm, ?_, fun j hj => ?_⟩
  · have hz1 : (Value.agg #[.int .i64 0, .int .i64 0]).cells.size = 2 := rfl
    simp only [Array.size_append, List.size_toArray, size_zeroCells, hz1, rcells_length]
    omega
  · rw [Array.getElem?_append_left (by simp [rcells_length]; omega)]
    simp
theorem own_cat {n m : Nat} {l k : List Rg} {g c : Nat} {w : World} {base : Nat} (h : Own w base (.slice (some ⟨g, 0, none⟩) n c) l) (hm : l.length + k.length ≤ c) :
    Own (w.setCells g (l.length * 2) (rcells k)) base (.slice (some ⟨g, 0, none⟩) (l.length + k.length) c) (l ++ k) := by
  refine h.set (by rw [List.length_append]) (by rw [List.length_append]; exact hm) fun cur hs he j hj => ?_
  rw [List.length_append] at hj
  rw [rcells_append, rcells_length]
  by_cases h1 : j < l.length * 2
  · rw [if_neg (by omega), he j h1, List.getElem?_append_left (by rw [rcells_length]; exact h1)]
  · rw [if_pos ⟨by omega, by omega⟩, List.getElem?_append_right (by rw [rcells_length]; omega), rcells_length]
theorem run_append_rg {w : World} {base : Nat} {v x : Value} {l m : List Rg} (ty : TypeId) (h : Own w base v l) (hs : Sr w x m) (hl : l.length + m.length ≤ 1000000) (hb : base ≤ w.heap.size) :
    ∃ v' w', (Builtin.append_ #[31, 31] ty #[v, x]).run Try.prog w = .ok v' w' ∧ Own w' base v' (l ++ m) ∧ w.grownBy w' v.ownBlock ∧ (v'.ownBlock = v.ownBlock ∨ v'.ownBlock = some w.heap.size) := by
  obtain ⟨i0, hi, hz0, hz1, hz2⟩ := info_parts infoR
  have hgrow : ∀ (A : Option Addr) (n c : Nat), n = l.length → c ≤ maxLen → (Builtin.firstCells i0.size n (.slice A n c)).run Try.prog w.drew = .ok (rcells l).toArray w.drew → c < n + m.length →
      ∃ v' w', (Builtin.append_ #[31, 31] ty #[.slice A n c, x]).run Try.prog w = .ok v' w' ∧ Own w' base v' (l ++ m) ∧ w.grownBy w' (Value.slice A n c).ownBlock ∧ (v'.ownBlock = (Value.slice A n c).ownBlock ∨ v'.ownBlock = some w.heap.size) := fun A n c hn hcm hold hlt => by
    have hr := run_append_grow_src (P := Try.prog) w 31 31 ty 34 i0 _ Try.underlying31 hi hz0 A n c (rcells l) hold x m.length (rcells m) (by rw [hz1]; exact hs) hlt (by omega) (by rw [hz2]; exact growslice_fits hlt (by omega))
    have hge := grownCap_ge w (n + m.length) c 34
    have hle : grownCap w (n + m.length) c 34 ≤ maxLen := grownCap_le_maxLen w (n + m.length) c 34 (by unfold maxLen; omega)
    obtain ⟨k, hk⟩ : ∃ k, grownCap w (n + m.length) c 34 = n + m.length + k := ⟨_, (Nat.add_sub_cancel' hge).symm⟩
    rw [hk, show n + m.length + k - (n + m.length) = k by omega] at hr
    have hlen : (l ++ m).length = n + m.length := by rw [List.length_append, hn]
    have ho := own_new (W := w.drew) (l := l ++ m) (k := k) (xs := (rcells l ++ rcells m).toArray) (by rw [rcells_append]) (by rw [hlen]; omega)
    rw [hlen] at ho
    exact ⟨_, _, hr, ho.base_ hb, ⟨rfl, rfl, rfl, by simp, fun k hk _ => Below.heap_alloc w.drew _ k hk⟩, .inr rfl⟩
  rcases h with ⟨rfl, rfl⟩ | ⟨g, cap, cur, rfl, hg, hblk, h1, h2, h3, h4⟩
  · by_cases hm : m = []
    · subst hm
      refine ⟨.slice none 0 0, w, ?_, .inl ⟨rfl, rfl⟩, World.grownBy.refl w _, .inl rfl⟩
      have hz := sizeR w
      have hc := hs.cells
      have hc' : (Builtin.firstCells 2 0 x).run Try.prog w = .ok #[] w := hc
      simp [Builtin.append_, run_underlying Try.underlying31, hz, hs.len, hc']
    · have hpos : 0 < m.length := List.length_pos_iff.2 hm
      exact hgrow none 0 0 rfl (by unfold maxLen; omega) (run_firstCells_none w.drew i0.size 0 0 0) (by omega)
  · have hown : Own w base (.slice (some ⟨g, 0, none⟩) l.length cap) l := .inr ⟨g, cap, cur, rfl, hg, hblk, h1, h2, h3, h4⟩
    obtain ⟨r1, r2, r3, r4, _, _, _, r8, _⟩ := hown.room
    by_cases hroom : l.length + m.length ≤ cap
    · have hr := run_append_room_src (P := Try.prog) w 31 31 ty 34 i0 Try.underlying31 hi g 0 l.length cap x m.length (rcells m) (by rw [hz1]; exact hs) hroom
        (fun j hj => by rw [hz1, Nat.zero_add]; rw [rcells_length] at hj; exact r1 _ (by omega)) (fun j _ => r2 _)
      rw [hz1, Nat.zero_add] at hr
      exact ⟨_, _, hr, own_cat (n := l.length) (m := 0) hown hroom, grown_setCells g _ _ w, .inl rfl⟩
    · refine hgrow (some ⟨g, 0, none⟩) l.length cap rfl h2 ?_ (by omega)
      rw [hz1]
      exact run_firstCells_some (P := Try.prog) w.drew 2 l.length ⟨g, 0, none⟩ l.length cap (rcells l) (rcells_length l) (fun j u hj => by rw [add_plain, Nat.zero_add]; exact r8 j u hj)
theorem wpList_append_rg {w : World} {ops : Array Oper} {rest : List Oper} {o : Oper} {a : Act} {Q : Exit → Act → World → Prop} (hgd : o.guard = none) (s y : Operand)
    (ho : o.op = .call { callee := .builtin .append, args := #[s, y], argTypes := #[31, 31] }) {base : Nat} {v x : Value} {l m : List Rg} (hv : a.eval s = v) (hx : a.eval y = x)
    (h : Own w base v l) (hs : Sr w x m) (hl : l.length + m.length ≤ 1000000) (hb : base ≤ w.heap.size)
    (hK : ∀ v' w', Own w' base v' (l ++ m) → w.grownBy w' v.ownBlock → (v'.ownBlock = v.ownBlock ∨ v'.ownBlock = some w.heap.size) → wpList Try.prog ops Q rest (a.put o.dst v') w') : wpList Try.prog ops Q (o :: rest) a w := by
  refine wpList_plain hgd fun K hK' => ?_
  obtain ⟨v', w', hrun, h1, h2, h3⟩ := run_append_rg o.type h hs hl hb
  unfold Oper.wp execOp
  simp only [ho, resolve, invoke, builtin, Sem.run_bind, Sem.run_pure, Result.andThen_ok, List.map_toArray, List.map_cons, List.map_nil, hv, hx, hrun]
  exact hK' _ _ (hK v' w' h1 h2 h3)
theorem wpList_copy_rg (w : World) {ops : Array Oper} {rest : List Oper} {o : Oper} {a : Act} {Q : Exit → Act → World → Prop} (hgd : o.guard = none) (d s : Operand)
    (ho : o.op = .call { callee := .builtin .copy, args := #[d, s], argTypes := #[31, 31] }) (v u : Value) (hd : a.eval d = v) (hs : a.eval s = u) {v' : Value} {w' : World}
    (hr : (Builtin.copy_ #[31, 31] o.type #[v, u]).run Try.prog w = .ok v' w') (h : wpList Try.prog ops Q rest (a.put o.dst v') w') : wpList Try.prog ops Q (o :: rest) a w := by
  refine wpList_plain hgd fun K hK' => ?_
  unfold Oper.wp execOp
  simp only [ho, resolve, invoke, builtin, Sem.run_bind, Sem.run_pure, Result.andThen_ok, List.map_toArray, List.map_cons, List.map_nil, hd, hs, hr]
  exact hK' _ _ h
theorem wpList_clear_rg (w : World) {ops : Array Oper} {rest : List Oper} {o : Oper} {a : Act} {Q : Exit → Act → World → Prop} (hgd : o.guard = none) (d : Operand)
    (ho : o.op = .call { callee := .builtin .clear, args := #[d], argTypes := #[31] }) (v : Value) (hd : a.eval d = v) {v' : Value} {w' : World}
    (hr : (Builtin.clear_ #[31] o.type #[v]).run Try.prog w = .ok v' w') (h : wpList Try.prog ops Q rest (a.put o.dst v') w') : wpList Try.prog ops Q (o :: rest) a w := by
  refine wpList_plain hgd fun K hK' => ?_
  unfold Oper.wp execOp
  simp only [ho, resolve, invoke, builtin, Sem.run_bind, Sem.run_pure, Result.andThen_ok, List.map_toArray, List.map_cons, List.map_nil, hd, hr]
  exact hK' _ _ h
theorem step_copy_rg {ops : Array Oper} {o : Oper} {a : Act} {w : World} {K : Act → World → Prop} {Q : Exit → Act → World → Prop} {E : Prop}
    (hg : o.guard = none) (d x : Operand) (hop : o.op = Op.call { callee := Callee.builtin Builtin.copy, args := #[d, x], argTypes := #[31, 31] })
    (v u : Value) (hd : a.eval d = v) (hx : a.eval x = u) {v' : Value} {w' : World} (hr : (Builtin.copy_ #[31, 31] o.type #[v, u]).run Try.prog w = .ok v' w') (hK : K (a.put o.dst v') w') :
    if Region.wanted o (yielded ops a.tmps) = true then Oper.wp Try.prog o a w K Q else E := by
  have hw : Region.wanted o (yielded ops a.tmps) = true := by simp [Region.wanted, hg]
  rw [if_pos hw]
  unfold Oper.wp
  simp [execOp, hop, resolve, invoke, builtin, hd, hx, hr, Result.andThen]
  exact hK
end Sp
end Go.Proofs.Ytpbojhjbjnoihaa
