/-
  What 'append(append([][]byte{}, cols...), make([]byte, n))' makes, step by step. No conditions beyond those that each theorem types.
-/
import Derived.Test.YtoabhbmhjelplaaParKnown
import Derived.Test.YtoabhbmhjelplaaOwnS
import Derived.Test.YtoabhbmhjelplaaDrawTwo
import Derived.Test.YtoabhbmhjelplaaDrawSeqM
namespace Go.Proofs.Ytoabhbmhjelplaa
open Go Go.RowKit
set_option maxRecDepth 100000
set_option linter.unusedVariables false

theorem exec_build0 {P : Program} {w w' : World} {o : Oper} {a : Act} {ty : TypeId} {v : Value} (ho : o.op = .buildSlice ty 0 #[]) (hl : (Instr.buildSlice ty 0 #[]).run P w = .ok v w') : (execOp a.eval o).run P w = .ok (.value v) w' := by
  unfold execOp
  simp only [ho, List.map_toArray, List.map_nil, hl, Sem.run_bind, Sem.run_pure, Result.andThen_ok]
theorem bs_rows0 (w : World) : (Instr.buildSlice 22 0 #[]).run Try.prog w = .ok (.slice (some ⟨w.heap.size, 0, none⟩) 0 0) (w.alloc (.cells #[] 31)) := by kernel_rfl
theorem bs_rows1 (A : Option Addr) (n c : Nat) (w : World) : (Instr.buildSlice 22 1 #[(0, .slice A n c)]).run Try.prog w = .ok (.slice (some ⟨w.heap.size, 0, none⟩) 1 1) (w.alloc (.cells #[.slice A n c] 31)) := by kernel_rfl
theorem own_one {w : World} {base : Nat} (A : Option Addr) (n c : Nat) (hb : base ≤ w.heap.size) : OwnS (w.alloc (.cells #[.slice A n c] 31)) base (.slice (some ⟨w.heap.size, 0, none⟩) 1 1) 1 (fun _ => (A, n, c)) :=
  .inr ⟨w.heap.size, 1, #[.slice A n c], (0, 0), rfl, hb, Blk.new w _ _, .inl (Nat.le_refl _), Nat.le_refl _, by simp [maxLen], rfl, fun j hj => by
    obtain rfl : j = 0 := by omega
    rfl⟩
/-- appended to an empty literal -/
theorem run_append_empty {w : World} {B m c g0 : Nat} {A : Option Addr} {Y : Nat → Hd} (ty : TypeId) (hy : RdH w B A m Y) (hm0 : 0 < m) (hmc : m ≤ c) (hl : m ≤ 100000) :
    ∃ v' w', (Builtin.append_ #[22, 22] ty #[.slice (some ⟨g0, 0, none⟩) 0 0, .slice A m c]).run Try.prog w = .ok v' w' ∧ OwnS w' w.heap.size v' m Y ∧ Below w.heap.size w w' := by
  obtain ⟨i0, hi, hz0, hz1, hz2⟩ := info_parts infoS
  obtain ⟨b, o, rfl, _⟩ := hy 0 hm0
  have hnews : ∀ j u, (headsL m Y)[j]? = some u → w.cell? ((⟨b, o, none⟩ : Addr).add j) = some u := fun j u hj => by
    have hjm : j < m := by have := (List.getElem?_eq_some_iff.1 hj).1; rw [headsL_length] at this; exact this
    rw [headsL_get Y hjm] at hj
    injection hj with hj
    subst hj
    obtain ⟨b', o', h1, h2, h3⟩ := hy j hjm
    injection h1 with h1
    injection h1 with h1 h1'
    subst h1; subst h1'
    rw [add_plain]
    exact h3
  have hr := run_append_grow (P := Try.prog) w 22 ty 31 i0 (.slice none 0 0) Try.underlying22 hi hz0 ⟨g0, 0, none⟩ 0 0 [] (by rw [hz1]; rfl) (fun j u h => by simp at h) ⟨b, o, none⟩ m c (headsL m Y) (by rw [headsL_length, hz1, Nat.mul_one]) hnews (by omega) (by omega) (by rw [hz2]; exact growslice_fits (by omega) (by omega))
  have hg := grow_rowS (w := w) (n := 0) (m := m) (cap := 0) (olds := []) (X := Y) (Y := Y) rfl (by omega)
  simp only [Nat.zero_add] at hg hr
  refine ⟨_, _, hr, hg.congr fun j hj => ?_, ⟨rfl, rfl, rfl, by simp, fun k hk => Below.heap_alloc w.drew _ k hk⟩⟩
  unfold catS
  rw [if_neg (by omega), Nat.sub_zero]
theorem wp_append_empty {w : World} {o : Oper} {a : Act} {K : Act → World → Prop} {Q : Exit → Act → World → Prop} (s x : Operand)
    (ho : o.op = .call { callee := .builtin .append, args := #[s, x], argTypes := #[22, 22] }) {B m c g0 : Nat} {A : Option Addr} {Y : Nat → Hd} (hs : a.eval s = .slice (some ⟨g0, 0, none⟩) 0 0) (hx : a.eval x = .slice A m c)
    (hy : RdH w B A m Y) (hm0 : 0 < m) (hmc : m ≤ c) (hl : m ≤ 100000)
    (h : ∀ v' w', OwnS w' w.heap.size v' m Y → Below w.heap.size w w' → K (a.put o.dst v') w') : o.wp Try.prog a w K Q := by
  obtain ⟨v', w', hrun, h1, h2⟩ := run_append_empty o.type hy hm0 hmc hl
  unfold Oper.wp execOp
  simp only [ho, resolve, invoke, builtin, Sem.run_bind, Sem.run_pure, Result.andThen_ok, List.map_toArray, List.map_cons, List.map_nil, hs, hx]
  rw [hrun]
  exact h v' w' h1 h2
theorem wp_append_hd {w : World} {o : Oper} {a : Act} {K : Act → World → Prop} {Q : Exit → Act → World → Prop} (s x : Operand)
    (ho : o.op = .call { callee := .builtin .append, args := #[s, x], argTypes := #[22, 22] }) {base n B m c : Nat} {v : Value} {A : Option Addr} {X Y : Nat → Hd} (hs : a.eval s = v) (hx : a.eval x = .slice A m c)
    (hown : OwnS w base v n X) (hy : RdH w B A m Y) (h0 : A = none → c = 0) (hmc : m ≤ c) (hl : n + m ≤ 100000) (hb : base ≤ w.heap.size)
    (h : ∀ v' w', OwnS w' base v' (n + m) (catS n X Y) → w.grownBy w' v.ownBlock → K (a.put o.dst v') w') : o.wp Try.prog a w K Q := by
  obtain ⟨v', w', hrun, h1, h2, h3⟩ := run_append_hd o.type hown hy h0 hmc hl hb
  unfold Oper.wp execOp
  simp only [ho, resolve, invoke, builtin, Sem.run_bind, Sem.run_pure, Result.andThen_ok, List.map_toArray, List.map_cons, List.map_nil, hs, hx, hrun]
  exact h v' w' h1 h2
theorem OwnS.ne_ {w : World} {base n g : Nat} {v : Value} {X : Nat → Hd} {cs : Array Value} (h : OwnS w base v n X) (hb : Blk w g 5 cs) : some g ≠ v.ownBlock := fun e => by
  rcases h with ⟨rfl, _⟩ | ⟨g', cap, cur, fr, rfl, _, hg, _⟩
  · cases e
  · simp [Value.ownBlock] at e
    subst e
    unfold Blk at hb
    rw [hb] at hg
    injection hg with hg
    injection hg with _ hg _
    exact absurd hg (by decide)

/-- where the region stands, whatever came first -/
structure Phi (w3 : World) (Z n k : Nat) (HD : Nat → Hd) (x1 x2 y1 y2 : Option Value) (W : World) : Prop where
  below : Below Z w3 W
  room : Z ≤ W.heap.size
  e30 : ∀ v, x1 = some v → ∃ g0, v = .slice (some ⟨g0, 0, none⟩) 0 0
  e32 : ∀ v, x2 = some v → OwnS W Z v k HD
  e37 : ∀ v, y1 = some v → ∃ g, v = .slice (some ⟨g, 0, none⟩) n n ∧ Z ≤ g ∧ Blk W g 5 (rowArr n fun _ => 0)
  e38 : ∀ v, y2 = some v → ∃ g, y1 = some (.slice (some ⟨g, 0, none⟩) n n) ∧ OwnS W Z v 1 (fun _ => (some ⟨g, 0, none⟩, n, n))
theorem Phi.mono {w3 W W' : World} {Z n k : Nat} {HD : Nat → Hd} {x1 x2 y1 y2 : Option Value} (h : Phi w3 Z n k HD x1 x2 y1 y2 W) (hb : Below W.heap.size W W') : Phi w3 Z n k HD x1 x2 y1 y2 W' := by
  refine ⟨h.below.trans (hb.mono h.room), Nat.le_trans h.room hb.size, h.e30, fun v e => (h.e32 v e).below hb (Nat.le_refl _), fun v e => ?_, fun v e => ?_⟩
  · obtain ⟨g, h1, h2, h3⟩ := h.e37 v e
    exact ⟨g, h1, h2, h3.below hb h3.lt⟩
  · obtain ⟨g, h1, h2⟩ := h.e38 v e
    exact ⟨g, h1, h2.below hb (Nat.le_refl _)⟩

theorem RdB.mono {w : World} {B B' n : Nat} {A : Option Addr} {x : Nat → Nat} (h : RdB w B A n x) (hB : B ≤ B') : RdB w B' A n x := fun j hj => by
  obtain ⟨b, o, h1, h2, h3, h4⟩ := h j hj
  exact ⟨b, o, h1, by omega, h3, h4⟩
theorem own_rowS {a w w' : World} {base n : Nat} {v : Value} {X : Nat → Hd} (h : Below base a w) (ho : OwnS w base v n X) (hg : w.grownBy w' v.ownBlock) (hs : base ≤ w.heap.size) : Below base a w' :=
  ⟨hg.os.trans h.os, hg.tape.trans h.tape, hg.output.trans h.output, Nat.le_trans h.size hg.size, fun i hi => (hg.block i (by omega) (fun e => by have := (ho.lt e.symm).2; omega)).trans (h.block i hi)⟩
theorem exec_extract {P : Program} {a : Act} {o : Oper} {x : Operand} {k : Nat} {vs : Array Value} {v : Value} (w : World) (e : o.op = .extract x k) (hx : a.eval x = .tuple vs) (hv : vs[k]? = some v) : (execOp a.eval o).run P w = .ok (.value v) w := by
  unfold execOp
  simp [e, hx, Instr.extract, hv, Sem.run_bind, Sem.run_pure]
theorem index_rows0 (b o n c : Nat) (h : 0 < n) (w : World) : (Instr.indexAt 22 (.slice (some ⟨b, o, none⟩) n c) (.int .i64 0)).run Try.prog w = .ok (.pointer (some ⟨b, o, none⟩)) w :=
  index_slice (P := Try.prog) (t := 22) (e := 31) Try.underlying22 (by kernel_rfl) b o n c 0 h w
theorem len_slice (ty : TypeId) (A : Option Addr) (n c : Nat) (w : World) : (Builtin.len_ #[31] ty #[.slice A n c]).run Try.prog w = .ok (.int .i64 (n : Int)) w := by
  simp [Builtin.len_, Builtin.lenOf, goInt, run_underlying Try.underlying31]
theorem exec_buildSlice3 {P : Program} {w w' : World} {o : Oper} {a : Act} {ty : TypeId} {n : Nat} {x0 x1 x2 : Operand} {u0 u1 u2 v : Value} (ho : o.op = .buildSlice ty n #[(0, x0), (1, x1), (2, x2)]) (h0 : a.eval x0 = u0) (h1 : a.eval x1 = u1) (h2 : a.eval x2 = u2) (hl : (Instr.buildSlice ty n #[(0, u0), (1, u1), (2, u2)]).run P w = .ok v w') : (execOp a.eval o).run P w = .ok (.value v) w' := by
  unfold execOp
  simp only [ho, List.map_toArray, List.map_cons, List.map_nil, h0, h1, h2, hl, Sem.run_bind, Sem.run_pure, Result.andThen_ok]
theorem bs_rows3 (A : Option Addr) (n c : Nat) (w : World) : (Instr.buildSlice 22 3 #[(0, .slice A n c), (1, .slice A n c), (2, .slice A n c)]).run Try.prog w = .ok (.slice (some ⟨w.heap.size, 0, none⟩) 3 3) (w.alloc (.cells #[.slice A n c, .slice A n c, .slice A n c] 31)) := by kernel_rfl
theorem rdr_three {w : World} {B n c : Nat} {A : Option Addr} {y : Nat → Nat} (h : RdB w B A n y) (hB : B ≤ w.heap.size) : RdR (w.alloc (.cells #[.slice A n c, .slice A n c, .slice A n c] 31)) (w.heap.size + 1) (some ⟨w.heap.size, 0, none⟩) 3 (fun _ => A) (fun _ => n) (fun _ => c) (fun _ => y) := by
  intro i hi
  refine ⟨w.heap.size, 0, rfl, by omega, ?_, (h.below ((Below.refl w.heap.size w).alloc (Nat.le_refl _) _) hB).mono (by omega)⟩
  rw [Nat.zero_add, (Blk.new w _ _).cell]
  match i, hi with
  | 0, _ => rfl
  | 1, _ => rfl
  | 2, _ => rfl
theorem par_single (j : Nat) (x : Nat → Nat → Nat) (v : Nat) (h : x 0 v < 256) : M.par 1 j x v = x 0 v := by
  show 0 ^^^ M.gmul (M.pw (0 * j)) (x 0 v) = x 0 v
  rw [Nat.zero_xor, Nat.zero_mul, M.pw_zero, M.gmul_comm, M.gmul_one h]
/-- the columns, and one of noughts -/
def wideX (k : Nat) (x : Nat → Nat → Nat) (i v : Nat) : Nat := if i < k then x i v else 0
theorem par_wide (k j : Nat) (x : Nat → Nat → Nat) (v : Nat) : M.par (k + 1) j (wideX k x) v = M.par k j x v := by
  rw [M.par_succ]
  have e : wideX k x k v = 0 := if_neg (by omega)
  rw [e, M.gmul_zero_right, Nat.xor_zero]
  exact M.xsum_congr fun i hi => by unfold wideX; rw [if_pos hi]
/-- k heads and one more, read as rows -/
theorem rdr_wide {W : World} {B k n g : Nat} {A : Option Addr} {ra : Nat → Option Addr} {rl rc : Nat → Nat} {x : Nat → Nat → Nat} (hh : RdH W W.heap.size A (k + 1) (catS k (fun i => (ra i, rl i, rc i)) (fun _ => (some ⟨g, 0, none⟩, n, n))))
    (hr : ∀ i, i < k → RdB W B (ra i) (rl i) (x i)) (hB : B ≤ W.heap.size) (hg : Blk W g 5 (rowArr n fun _ => 0)) :
    RdR W W.heap.size A (k + 1) (fun i => (catS k (fun i => (ra i, rl i, rc i)) (fun _ => ((some ⟨g, 0, none⟩, n, n) : Hd)) i).1) (fun i => (catS k (fun i => (ra i, rl i, rc i)) (fun _ => ((some ⟨g, 0, none⟩, n, n) : Hd)) i).2.1) (fun i => (catS k (fun i => (ra i, rl i, rc i)) (fun _ => ((some ⟨g, 0, none⟩, n, n) : Hd)) i).2.2) (wideX k x) := by
  intro i hi
  obtain ⟨b, o, h1, h2, h3⟩ := hh i hi
  refine ⟨b, o, h1, h2, h3, ?_⟩
  by_cases e : i < k
  · have e1 : catS k (fun i => (ra i, rl i, rc i)) (fun _ => ((some ⟨g, 0, none⟩, n, n) : Hd)) i = (ra i, rl i, rc i) := if_pos e
    dsimp only
    rw [e1]
    intro j hj
    obtain ⟨b', o', q1, q2, q3, q4⟩ := hr i e j hj
    have e2 : wideX k x i j = x i j := if_pos e
    exact ⟨b', o', q1, by omega, by rw [e2]; exact q3, by rw [e2]; exact q4⟩
  · have e1 : catS k (fun i => (ra i, rl i, rc i)) (fun _ => ((some ⟨g, 0, none⟩, n, n) : Hd)) i = (some ⟨g, 0, none⟩, n, n) := if_neg e
    dsimp only
    rw [e1]
    intro j hj
    have e2 : wideX k x i j = 0 := if_neg e
    exact ⟨g, 0, rfl, hg.lt, by rw [e2, Nat.zero_add, hg.cell, rowArr_get hj], by rw [e2]; omega⟩
theorem alike_wide {k n g : Nat} {ra : Nat → Option Addr} {rl rc : Nat → Nat} (hk : 0 < k) (h : Alike k rl) (hn : n = rl 0) : Alike (k + 1) (fun i => (catS k (fun i => (ra i, rl i, rc i)) (fun _ => ((some ⟨g, 0, none⟩, n, n) : Hd)) i).2.1) := by
  have e0 : (catS k (fun i => (ra i, rl i, rc i)) (fun _ => ((some ⟨g, 0, none⟩, n, n) : Hd)) 0) = (ra 0, rl 0, rc 0) := if_pos hk
  refine ⟨?_, ?_, fun i hi => ?_⟩
  · show 1 ≤ (catS k _ _ 0).2.1; rw [e0]; exact h.1
  · show (catS k _ _ 0).2.1 ≤ 4096; rw [e0]; exact h.2.1
  · show (catS k _ _ i).2.1 = (catS k _ _ 0).2.1
    rw [e0]
    by_cases e : i < k
    · have e1 : catS k (fun i => (ra i, rl i, rc i)) (fun _ => ((some ⟨g, 0, none⟩, n, n) : Hd)) i = (ra i, rl i, rc i) := if_pos e
      rw [e1]
      exact h.2.2 i e
    · have e1 : catS k (fun i => (ra i, rl i, rc i)) (fun _ => ((some ⟨g, 0, none⟩, n, n) : Hd)) i = (some ⟨g, 0, none⟩, n, n) := if_neg e
      rw [e1]
      exact hn
end Go.Proofs.Ytoabhbmhjelplaa
