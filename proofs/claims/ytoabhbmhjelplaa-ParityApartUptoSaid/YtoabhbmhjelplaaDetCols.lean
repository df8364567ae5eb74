/-
  Rows of bytes that a call collects one by one: what they hold, what one row more makes of them. No conditions beyond those that each theorem types.
-/
import Derived.Test.YtoabhbmhjelplaaParDataM
import Derived.Test.YtoabhbmhjelplaaOwnS
import Derived.Test.YtoabhbmhjelplaaDrawSeqM
namespace Go.Proofs.Ytoabhbmhjelplaa.D
open Go Go.RowKit
set_option maxRecDepth 100000
set_option linter.unusedVariables false

theorem exec_build0 {P : Program} {w w' : World} {o : Oper} {a : Act} {ty : TypeId} {v : Value} (ho : o.op = .buildSlice ty 0 #[]) (hl : (Instr.buildSlice ty 0 #[]).run P w = .ok v w') : (execOp a.eval o).run P w = .ok (.value v) w' := by
  unfold execOp
  simp only [ho, List.map_toArray, List.map_nil, hl, Sem.run_bind, Sem.run_pure, Result.andThen_ok]
theorem bs_rows1 (A : Option Addr) (n c : Nat) (w : World) : (Instr.buildSlice 22 1 #[(0, .slice A n c)]).run Try.prog w = .ok (.slice (some ⟨w.heap.size, 0, none⟩) 1 1) (w.alloc (.cells #[.slice A n c] 31)) := by kernel_rfl
theorem wp_append_hd {w : World} {o : Oper} {a : Act} {K : Act → World → Prop} {Q : Exit → Act → World → Prop} (s x : Operand)
    (ho : o.op = .call { callee := .builtin .append, args := #[s, x], argTypes := #[22, 22] }) {base n B m c : Nat} {v : Value} {A : Option Addr} {X Y : Nat → Hd} (hs : a.eval s = v) (hx : a.eval x = .slice A m c)
    (hown : OwnS w base v n X) (hy : RdH w B A m Y) (h0 : A = none → c = 0) (hmc : m ≤ c) (hl : n + m ≤ 100000) (hb : base ≤ w.heap.size)
    (h : ∀ v' w', OwnS w' base v' (n + m) (catS n X Y) → w.grownBy w' v.ownBlock → K (a.put o.dst v') w') : o.wp Try.prog a w K Q := by
  obtain ⟨v', w', hrun, h1, h2, h3⟩ := run_append_hd o.type hown hy h0 hmc hl hb
  unfold Oper.wp execOp
  simp only [ho, resolve, invoke, builtin, Sem.run_bind, Sem.run_pure, Result.andThen_ok, List.map_toArray, List.map_cons, List.map_nil, hs, hx, hrun]
  exact h v' w' h1 h2
theorem own_rowS {a w w' : World} {base n : Nat} {v : Value} {X : Nat → Hd} (h : Below base a w) (ho : OwnS w base v n X) (hg : w.grownBy w' v.ownBlock) (hs : base ≤ w.heap.size) : Below base a w' :=
  ⟨hg.os.trans h.os, hg.tape.trans h.tape, hg.output.trans h.output, Nat.le_trans h.size hg.size, fun i hi => (hg.block i (by omega) (fun e => by have := (ho.lt e.symm).2; omega)).trans (h.block i hi)⟩
theorem index_rows0 (b o n c : Nat) (h : 0 < n) (w : World) : (Instr.indexAt 22 (.slice (some ⟨b, o, none⟩) n c) (.int .i64 0)).run Try.prog w = .ok (.pointer (some ⟨b, o, none⟩)) w :=
  index_slice (P := Try.prog) (t := 22) (e := 31) Try.underlying22 (by kernel_rfl) b o n c 0 h w
theorem wp_append_rd8 {w : World} {o : Oper} {a : Act} {K : Act → World → Prop} {Q : Exit → Act → World → Prop} (s x : Operand)
    (ho : o.op = .call { callee := .builtin .append, args := #[s, x], argTypes := #[31, 31] }) {base n B m c : Nat} {v : Value} {A : Option Addr} {X Y : Nat → Nat} (hs : a.eval s = v) (hx : a.eval x = .slice A m c)
    (hown : Own8 w base v n X) (hy : RdB w B A m Y) (h0 : A = none → c = 0) (hmc : m ≤ c) (hl : n + m ≤ 70368744177664) (hb : base ≤ w.heap.size)
    (h : ∀ v' w', Own8 w' base v' (n + m) (cat n X Y) → w.grownBy w' v.ownBlock → (v'.ownBlock = v.ownBlock ∨ v'.ownBlock = some w.heap.size) → K (a.put o.dst v') w') : o.wp Try.prog a w K Q := by
  obtain ⟨v', w', hrun, h1, h2, h3⟩ := run_append_rd o.type hown hy h0 hmc hl hb
  unfold Oper.wp execOp
  simp only [ho, resolve, invoke, builtin, Sem.run_bind, Sem.run_pure, Result.andThen_ok, List.map_toArray, List.map_cons, List.map_nil, hs, hx, hrun]
  exact h v' w' h1 h2 h3
theorem bs_one8 (u : Int) (w : World) : (Instr.buildSlice 31 1 #[(0, .int .u8 u)]).run Try.prog w = .ok (.slice (some ⟨w.heap.size, 0, none⟩) 1 1) (w.alloc (.cells #[.int .u8 u] 5)) := by kernel_rfl
theorem rdb_one8 (w : World) (u : Nat) (hu : u < 256) : RdB (w.alloc (.cells #[.int .u8 ((u : Nat) : Int)] 5)) (w.heap.size + 1) (some ⟨w.heap.size, 0, none⟩) 1 (fun _ => u) := fun i hi => by
  obtain rfl : i = 0 := by omega
  refine ⟨w.heap.size, 0, rfl, by omega, ?_, hu⟩
  rw [Nat.zero_add, (Blk.new w _ _).cell]
  rfl
theorem add_int (a b : Nat) (h : a + b ≤ 9223372036854775807) (w : World) : (binOp .add 3 (.int .i64 (a : Int)) (.int .i64 (b : Int))).run Try.prog w = .ok (.int .i64 ((a + b : Nat) : Int)) w := by
  have e : IntKind.i64.wrap ((a : Int) + (b : Int)) = ((a + b : Nat) : Int) := by rw [IntKind.wrap_i64]; omega
  have h : (binOp .add 3 (.int .i64 (a : Int)) (.int .i64 (b : Int))).run Try.prog w = .ok (.int .i64 (IntKind.i64.wrap ((a : Int) + (b : Int)))) w := by kernel_rfl
  rw [h, e]
theorem index_rows (b o n c i : Nat) (h : i < n) (w : World) : (Instr.indexAt 22 (.slice (some ⟨b, o, none⟩) n c) (.int .i64 (i : Int))).run Try.prog w = .ok (.pointer (some ⟨b, o + i, none⟩)) w :=
  index_slice (P := Try.prog) (t := 22) (e := 31) Try.underlying22 (by kernel_rfl) b o n c i h w
theorem index_rows_zero (b n c i : Nat) (h : i < n) (w : World) : (Instr.indexAt 22 (.slice (some ⟨b, 0, none⟩) n c) (.int .i64 (i : Int))).run Try.prog w = .ok (.pointer (some ⟨b, i, none⟩)) w := by
  have h := index_rows b 0 n c i h w
  rw [Nat.zero_add] at h
  exact h
theorem index_bytes (b o n c i : Nat) (h : i < n) (w : World) : (Instr.indexAt 31 (.slice (some ⟨b, o, none⟩) n c) (.int .i64 (i : Int))).run Try.prog w = .ok (.pointer (some ⟨b, o + i, none⟩)) w :=
  index_slice (P := Try.prog) (t := 31) (e := 5) Try.underlying31 size_u8 b o n c i h w
theorem rdR_head {w : World} {B n i b o : Nat} {ra : Nat → Option Addr} {rl rc : Nat → Nat} {x : Nat → Nat → Nat} (h : RdR w B (some ⟨b, o, none⟩) n ra rl rc x) (hi : i < n) : b < B ∧ w.cell? ⟨b, o + i, none⟩ = some (.slice (ra i) (rl i) (rc i)) ∧ RdB w B (ra i) (rl i) (x i) := by
  obtain ⟨b', o', q, h1, h2, h3⟩ := h i hi
  injection q with q
  injection q with q1 q2
  subst q1; subst q2
  exact ⟨h1, h2, h3⟩
theorem ownS_neG {w : World} {base n m g : Nat} {v : Value} {X : Nat → Hd} {x : Nat → Nat} (h : OwnS w base v n X) (hb : RowG w g m x) : some g ≠ v.ownBlock := fun e => by
  rcases h with ⟨rfl, _⟩ | ⟨g', cap, cur, fr, rfl, _, hg, _⟩
  · cases e
  · simp [Value.ownBlock] at e
    subst e
    obtain ⟨cs, fr2, hb, _⟩ := hb
    rw [hb] at hg
    injection hg with hg
    injection hg with _ hg _
    exact absurd hg (by decide)
theorem rdh_one (w : World) (A : Option Addr) (n c : Nat) : RdH (w.alloc (.cells #[.slice A n c] 31)) (w.heap.size + 1) (some ⟨w.heap.size, 0, none⟩) 1 (fun _ => (A, n, c)) := fun i hi => by
  obtain rfl : i = 0 := by omega
  refine ⟨w.heap.size, 0, rfl, by omega, ?_⟩
  rw [Nat.zero_add, (Blk.new w _ _).cell]
  rfl
theorem own_empty {w : World} {base : Nat} (hb : base ≤ w.heap.size) : Own8 (w.alloc (.cells #[] 5)) base (.slice (some ⟨w.heap.size, 0, none⟩) 0 0) 0 (fun _ => 0) :=
  .inr ⟨w.heap.size, 0, #[], (0, 0), rfl, hb, Blk.new w _ _, .inl (Nat.le_refl _), Nat.le_refl _, by simp [maxLen], rfl, fun j hj => absurd hj (by omega)⟩

theorem own_grown8 {w0 w w' : World} {base n : Nat} {v : Value} {X : Nat → Nat} (hb : Below base w0 w) (ho : Own8 w base v n X) (hg : w.grownBy w' v.ownBlock) (hs : base ≤ w.heap.size) : Below base w0 w' :=
  hb.trans ⟨hg.os, hg.tape, hg.output, hg.size, fun k hk => hg.block k (by omega) (fun e => by have := (ho.lt e.symm).2; omega)⟩

/-- i heads, each of a row of n bytes that stands alone -/
structure Cols (w : World) (base : Nat) (v : Value) (i n : Nat) (H : Nat → Hd) (R : Nat → Nat) (x : Nat → Nat → Nat) : Prop where
  own : OwnS w base v i H
  hd : ∀ j, j < i → ∃ c, H j = (some ⟨R j, 0, none⟩, n, c) ∧ n ≤ c ∧ c ≤ maxLen
  row : ∀ j, j < i → base ≤ R j ∧ RowG w (R j) n (x j)
  apart : ∀ j k, j < k → k < i → R j ≠ R k
theorem Cols.none_ (w : World) (base n : Nat) (H : Nat → Hd) (R : Nat → Nat) (x : Nat → Nat → Nat) : Cols w base (.slice none 0 0) 0 n H R x :=
  ⟨OwnS.nil _ _ _, fun j hj => absurd hj (by omega), fun j hj => absurd hj (by omega), fun j k _ hk => absurd hk (by omega)⟩
section
variable {w w' : World} {base i n : Nat} {v : Value} {H : Nat → Hd} {R : Nat → Nat} {x : Nat → Nat → Nat}
theorem Cols.below (h : Cols w base v i n H R x) {B : Nat} (hb : Below B w w') (hB : w.heap.size ≤ B) : Cols w' base v i n H R x :=
  ⟨h.own.below hb hB, h.hd, fun j hj => ⟨(h.row j hj).1, (h.row j hj).2.below hb (Nat.lt_of_lt_of_le (h.row j hj).2.lt hB)⟩, h.apart⟩
/-- one row more -/
theorem Cols.push {w2 : World} {v' : Value} {g c : Nat} {X : Nat → Nat} (h : Cols w base v i n H R x) (ho : OwnS w2 base v' (i + 1) (catS i H (fun _ => (some ⟨g, 0, none⟩, n, c)))) (hg : w.grownBy w2 v.ownBlock) (hr : RowG w g n X) (hb : base ≤ g) (hc : n ≤ c ∧ c ≤ maxLen) (hne : ∀ j, j < i → R j ≠ g) (hx : ∀ v, v < n → X v = x i v) :
    Cols w2 base v' (i + 1) n (catS i H (fun _ => (some ⟨g, 0, none⟩, n, c))) (fun j => if j = i then g else R j) x := by
  have q1 : ∀ j, j < i → (if j = i then g else R j) = R j := fun j hj => if_neg (by omega)
  have q2 : (if i = i then g else R i) = g := if_pos rfl
  refine ⟨ho, fun j hj => ?_, fun j hj => ?_, fun j k hjk hk => ?_⟩
  · unfold catS
    by_cases e : j < i
    · have e1 := q1 j e
      rw [if_pos e, e1]
      exact h.hd j e
    · obtain rfl : j = i := by omega
      rw [if_neg e, q2]
      exact ⟨c, rfl, hc⟩
  · by_cases e : j < i
    · obtain ⟨h1, h2⟩ := h.row j e
      have e1 := q1 j e
      rw [e1]
      exact ⟨h1, h2.heap (hg.block _ h2.lt (ownS_neG h.own h2))⟩
    · obtain rfl : j = i := by omega
      rw [q2]
      exact ⟨hb, (hr.heap (hg.block _ hr.lt (ownS_neG h.own hr))).congr hx⟩
  · by_cases e : k < i
    · have e1 := q1 j (by omega)
      have e2 := q1 k e
      rw [e1, e2]
      exact h.apart j k hjk e
    · obtain rfl : k = i := by omega
      have e1 := q1 j (by omega)
      rw [e1, q2]
      exact hne j (by omega)
theorem Cols.rdr (h : Cols w base v i n H R x) (hx : ∀ j, j < i → ∀ v, v < n → x j v < 256) : ∃ A c, v = .slice A i c ∧ i ≤ c ∧ c ≤ maxLen ∧ RdR w w.heap.size A i (fun j => (H j).1) (fun j => (H j).2.1) (fun j => (H j).2.2) x := by
  obtain ⟨A, c, rfl, h1, h2, h3, _⟩ := h.own.shape
  refine ⟨A, c, rfl, h2, h3, fun j hj => ?_⟩
  obtain ⟨b, o, q1, q2, q3⟩ := h1 j hj
  obtain ⟨cj, e, _⟩ := h.hd j hj
  obtain ⟨_, hr⟩ := h.row j hj
  refine ⟨b, o, q1, q2, q3, ?_⟩
  show RdB w w.heap.size (H j).1 (H j).2.1 (x j)
  rw [e]
  exact hr.rdb (fun v hv => hx j hj v hv) hr.lt
theorem Cols.len (h : Cols w base v i n H R x) {j : Nat} (hj : j < i) : (H j).2.1 = n := by
  obtain ⟨c, e, _⟩ := h.hd j hj
  rw [e]
end
theorem bs_bytes0 (w : World) : (Instr.buildSlice 31 0 #[]).run Try.prog w = .ok (.slice (some ⟨w.heap.size, 0, none⟩) 0 0) (w.alloc (.cells #[] 5)) := by kernel_rfl
theorem slice_headB (b o n c N : Nat) (h1 : N ≤ c) (W : World) : (Instr.sliceAt 31 (.slice (some ⟨b, o, none⟩) n c) none (some (.int .i64 (N : Int))) none).run Try.prog W = .ok (.slice (some ⟨b, o, none⟩) N c) W := by
  have hu : Try.prog.underlying 31 = some (.slice (Try.prog.elem 31)) := by kernel_rfl
  have he : Try.prog.elem 31 = 5 := by kernel_rfl
  have hs : (sizeOf 5).run Try.prog W = .ok 1 W := by kernel_rfl
  rw [run_sliceAt_slice (P := Try.prog) (w := W) (h := hu), run_slice_h (P := Try.prog) (w := W) 31 (some ⟨b, o, none⟩) n c hu .i64 (N : Int) (by omega) (by omega), he, hs]
  simp [sliced, Addr.add, Result.andThen]
theorem xor_u8 (w : World) (a b : Nat) (ha : a < 256) (hb : b < 256) : (binOp .xor 5 (.int .u8 (a : Int)) (.int .u8 (b : Int))).run Try.prog w = .ok (.int .u8 ((a ^^^ b : Nat) : Int)) w := by
  have h := u8_xor_nat a b ha hb
  have h2 : (binOp .xor 5 (.int .u8 (a : Int)) (.int .u8 (b : Int))).run Try.prog w = .ok (.int .u8 (bits .xor .u8 (a : Int) (b : Int))) w := by kernel_rfl
  rw [h2, h]
theorem subA_some (b o c lo : Nat) : ∃ o2, subA (some ⟨b, o, none⟩) c lo = some ⟨b, o2, none⟩ := by
  unfold subA
  split
  · exact ⟨o, rfl⟩
  · exact ⟨o + lo, by simp [add_plain]⟩
end Go.Proofs.Ytoabhbmhjelplaa.D
