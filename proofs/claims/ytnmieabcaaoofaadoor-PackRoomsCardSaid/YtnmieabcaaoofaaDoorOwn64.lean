/-
  Rows of numbers of 64 bits that a call has made: appends of one number, loads. Conditions: lengths below 2^40.
-/
import Derived.Test.YtnmieabcaaoofaaDoorOwn8
namespace Go.Proofs.YtnmieabcaaoofaaDoor
open Go Go.RowKit Go.Lib
set_option linter.unusedVariables false

def numsL (n : Nat) (X : Nat → Nat) : List Value := (List.range n).map fun j => Value.int .u64 ((X j : Nat) : Int)
theorem numsL_length (n : Nat) (X : Nat → Nat) : (numsL n X).length = n := by simp [numsL]
theorem numsL_get {n j : Nat} (X : Nat → Nat) (h : j < n) : (numsL n X)[j]? = some (.int .u64 ((X j : Nat) : Int)) := by simp [numsL, h]
theorem numsL_congr {n : Nat} {X Y : Nat → Nat} (h : ∀ j, j < n → X j = Y j) : numsL n X = numsL n Y := by
  unfold numsL
  apply List.map_congr_left
  intro j hj
  rw [h j (by simpa using hj)]
theorem numsL_cat (n m : Nat) (X Y : Nat → Nat) : numsL n X ++ numsL m Y = numsL (n + m) (cat n X Y) := by
  apply List.ext_getElem?
  intro j
  by_cases h : j < n
  · rw [List.getElem?_append_left (by rw [numsL_length]; exact h), numsL_get X h, numsL_get _ (by omega)]
    unfold cat
    rw [if_pos h]
  · rw [List.getElem?_append_right (by rw [numsL_length]; omega), numsL_length]
    by_cases h2 : j < n + m
    · rw [numsL_get Y (by omega), numsL_get _ h2]
      unfold cat
      rw [if_neg h]
    · rw [List.getElem?_eq_none (by rw [numsL_length]; omega), List.getElem?_eq_none (by rw [numsL_length]; omega)]
/-- the call's own row of n numbers -/
def Own64 (w : World) (base : Nat) (v : Value) (n : Nat) (X : Nat → Nat) : Prop := w.ownsRow base 38 1 v n (numsL n X)
theorem Own64.nil (w : World) (base : Nat) (X : Nat → Nat) : Own64 w base (.slice none 0 0) 0 X := World.ownsRow_nil w base 38 1
theorem Own64.congr {w : World} {base n : Nat} {v : Value} {X Y : Nat → Nat} (h : Own64 w base v n X) (e : ∀ j, j < n → X j = Y j) : Own64 w base v n Y := by
  unfold Own64
  rw [← numsL_congr e]
  exact h
theorem Own64.keep {w w' : World} {base n : Nat} {v : Value} {X : Nat → Nat} (h : Own64 w base v n X) (hk : ∀ g, v.ownBlock = some g → w'.heap[g]? = w.heap[g]?) : Own64 w' base v n X := by
  rcases h with ⟨h1, h2⟩
  refine ⟨h1, ?_⟩
  rcases h2 with h2 | ⟨g, cap, cur, rfl, hg, hb, h3⟩
  · exact .inl h2
  · exact .inr ⟨g, cap, cur, rfl, hg, (hk g rfl).trans hb, h3⟩
theorem Own64.lt {w : World} {base n g : Nat} {v : Value} {X : Nat → Nat} (h : Own64 w base v n X) (hg : v.ownBlock = some g) : g < w.heap.size ∧ base ≤ g := by
  rcases h.2 with ⟨rfl, _⟩ | ⟨g', cap, cur, rfl, hb, hblk, _⟩
  · simp [Value.ownBlock] at hg
  · simp [Value.ownBlock] at hg
    subst hg
    exact ⟨Blk.lt (t := 38) (cs := cur) hblk, hb⟩
theorem Own64.below {w w' : World} {base n B : Nat} {v : Value} {X : Nat → Nat} (h : Own64 w base v n X) (hk : Below B w w') (hB : w.heap.size ≤ B) : Own64 w' base v n X :=
  h.keep fun g hg => hk.block g (by have := (h.lt hg).1; omega)
theorem Own64.drewN {w : World} {base n : Nat} {v : Value} {X : Nat → Nat} (h : Own64 w base v n X) (k : Nat) : Own64 (w.drewN k) base v n X := h
theorem Own64.alloc {w : World} {base n : Nat} {v : Value} {X : Nat → Nat} (h : Own64 w base v n X) (o : Obj) : Own64 (w.alloc o) base v n X := h.keep fun g hg => Below.heap_alloc w o g (h.lt hg).1
/-- a row that is not empty: its block, its cells -/
theorem Own64.row {w : World} {base n : Nat} {v : Value} {X : Nat → Nat} (h : Own64 w base v n X) (hn : 0 < n) : ∃ g c cs, v = .slice (some ⟨g, 0, none⟩) n c ∧ base ≤ g ∧ Blk w g 38 cs ∧ n ≤ c ∧ c ≤ maxLen ∧ ∀ j, j < n → cs[j]? = some (.int .u64 ((X j : Nat) : Int)) := by
  rcases h.2 with ⟨rfl, rfl⟩ | ⟨g, cap, cur, rfl, hg, hb, h1, h2, h3, h4⟩
  · omega
  · refine ⟨g, cap, cur, rfl, hg, hb, h1, h2, fun j hj => ?_⟩
    have h5 := numsL_get X hj
    rw [← h4, List.getElem?_take_of_lt (by omega), Array.getElem?_toList] at h5
    exact h5
theorem Own64.shape {w : World} {base n : Nat} {v : Value} {X : Nat → Nat} (h : Own64 w base v n X) : ∃ A c, v = .slice A n c ∧ n ≤ c ∧ c ≤ maxLen := by
  rcases h.2 with ⟨rfl, rfl⟩ | ⟨g, cap, cur, rfl, hg, hb, h1, h2, h3, h4⟩
  · exact ⟨none, 0, rfl, Nat.le_refl _, by simp [maxLen]⟩
  · exact ⟨_, cap, rfl, h1, h2⟩
theorem info64 : (Tryd.prog.info? 38).map (fun i => (i.zero, i.size, i.bytes)) = some (some (.int .u64 0), 1, 8) := by kernel_rfl
/-- 'append(v, x)' -/
theorem wpList_push64 {w0 : World} {ops : Array Oper} {rest : List Oper} {o : Oper} {a : Act} {Q : Exit → Act → World → Prop} (hgd : o.guard = none) (s x : Operand)
    (ho : o.op = .call { callee := .builtin .append, args := #[s, x], argTypes := #[52, 52] }) {base n y : Nat} {v : Value} {X : Nat → Nat} (hs : a.eval s = v) (hx : a.eval x = .slice (some ⟨w0.heap.size, 0, none⟩) 1 1)
    (hown : Own64 w0 base v n X) (hl : n ≤ 1099511627776) (hb : base ≤ w0.heap.size)
    (h : ∀ v' w', Own64 w' base v' (n + 1) (upd X n y) → (w0.alloc (.cells #[.int .u64 ((y : Nat) : Int)] 38)).grownBy w' v.ownBlock → (v'.ownBlock = v.ownBlock ∨ v'.ownBlock = some (w0.heap.size + 1)) → wpList Tryd.prog ops Q rest (a.put o.dst v') w') :
    wpList Tryd.prog ops Q (o :: rest) a (w0.alloc (.cells #[.int .u64 ((y : Nat) : Int)] 38)) := by
  obtain ⟨i0, hi, hz0, hz1, hz2⟩ := info_parts info64
  refine wpList_plain hgd fun K hK => ?_
  obtain ⟨v', w', hrun, e2, e3, e4, e5⟩ := run_append_own_at (P := Tryd.prog) (w0.alloc (.cells #[.int .u64 ((y : Nat) : Int)] 38)) base 52 o.type 38 i0 (.int .u64 0) 1 8 Tryd.underlying52 hi hz0 hz1 hz2 rfl (by decide) v n _ (hown.alloc _) ⟨w0.heap.size, 0, none⟩ 1 1 [.int .u64 ((y : Nat) : Int)] rfl
    (fun j u hj => by
      have hj0 : j = 0 := by
        rcases j with _ | j
        · rfl
        · simp at hj
      subst hj0
      simp at hj
      subst hj
      rw [add_plain, (Blk.new w0 38 #[.int .u64 ((y : Nat) : Int)]).cell]
      rfl) (fun u hu => by simp at hu; subst hu; rfl) (by simp only [maxLen]; omega) (by omega) (by simp; omega)
  have e6 : numsL n X ++ [.int .u64 ((y : Nat) : Int)] = numsL (n + 1) (upd X n y) := by
    have h1 := numsL_cat n 1 X (fun _ => y)
    have h2 : numsL 1 (fun _ => y) = [.int .u64 ((y : Nat) : Int)] := rfl
    rw [h2] at h1
    rw [h1]
    exact numsL_congr fun j hj => by
      unfold cat upd
      by_cases hjn : j < n
      · rw [if_pos hjn, if_neg (by omega)]
      · rw [if_neg hjn, if_pos (by omega)]
  rw [e6] at e2
  unfold Oper.wp execOp
  simp only [ho, resolve, invoke, builtin, Sem.run_bind, Sem.run_pure, Result.andThen_ok, List.map_toArray, List.map_cons, List.map_nil, hs, hx, hrun]
  exact hK _ _ (h v' w' e2 e3 (by simpa using e5))
theorem own64_grown {w0 w w' : World} {base n : Nat} {v : Value} {X : Nat → Nat} (hb : Below base w0 w) (ho : Own64 w base v n X) (o : Obj) (hg : (w.alloc o).grownBy w' v.ownBlock) (hs : base ≤ w.heap.size) : Below base w0 w' :=
  (hb.alloc hs o).trans ⟨hg.os, hg.tape, hg.output, hg.size, fun k hk => hg.block k (by simp; omega) (fun e => by have := (ho.lt e.symm).2; omega)⟩
/-- n numbers at the head of block g -/
def RowN (w : World) (g n : Nat) (X : Nat → Nat) : Prop := ∃ cs, Blk w g 38 cs ∧ ∀ j, j < n → cs[j]? = some (.int .u64 ((X j : Nat) : Int))
section
variable {w w' : World} {g n : Nat} {X : Nat → Nat}
theorem RowN.lt (h : RowN w g n X) : g < w.heap.size := by obtain ⟨cs, hb, _⟩ := h; exact hb.lt
theorem RowN.cell (h : RowN w g n X) {j : Nat} (hj : j < n) : w.cell? ⟨g, j, none⟩ = some (.int .u64 ((X j : Nat) : Int)) := by
  obtain ⟨cs, hb, hc⟩ := h
  rw [hb.cell]
  exact hc j hj
theorem RowN.frozen (h : RowN w g n X) (j : Nat) : w.frozen? ⟨g, j, none⟩ = false := by obtain ⟨cs, hb, _⟩ := h; exact hb.frozen j
theorem RowN.heap (h : RowN w g n X) (e : w'.heap[g]? = w.heap[g]?) : RowN w' g n X := by
  obtain ⟨cs, hb, hc⟩ := h
  exact ⟨cs, e.trans hb, hc⟩
theorem RowN.set (h : RowN w g n X) {k v : Nat} (hk : k < n) : RowN (w.setCell ⟨g, k, none⟩ (.int .u64 ((v : Nat) : Int))) g n (upd X k v) := by
  obtain ⟨cs, hb, hc⟩ := h
  refine ⟨_, hb.set_ k _, fun j hj => ?_⟩
  have hk' := (Array.getElem?_eq_some_iff.1 (hc k hk)).1
  rw [Array.getElem?_setIfInBounds]
  unfold upd
  by_cases e : k = j
  · rw [if_pos e, if_pos hk', if_pos e.symm]
  · rw [if_neg e, if_neg (fun x => e x.symm)]
    exact hc j hj
theorem RowN.congr {Y : Nat → Nat} (h : RowN w g n X) (e : ∀ j, j < n → X j = Y j) : RowN w g n Y := by
  obtain ⟨cs, hb, hc⟩ := h
  exact ⟨cs, hb, fun j hj => by rw [← e j hj]; exact hc j hj⟩
theorem RowN.below {B : Nat} (h : RowN w g n X) (hb : Below B w w') (hg : g < B) : RowN w' g n X := h.heap (hb.block g hg)
theorem RowN.new_ (h : RowN w g n X) (hb : Below w.heap.size w w') : RowN w' g n X := h.below hb h.lt
theorem RowN.only {b : Nat} (h : RowN w g n X) (hb : Only b w w') (hg : g ≠ b) : RowN w' g n X := h.heap (hb.block g h.lt (fun e => hg (by injection e)))
theorem RowN.drewN (h : RowN w g n X) (k : Nat) : RowN (w.drewN k) g n X := h
theorem RowN.alloc (h : RowN w g n X) (o : Obj) : RowN (w.alloc o) g n X := h.heap (Below.heap_alloc w o g h.lt)
end
theorem Own64.rowN {w : World} {base n : Nat} {v : Value} {X : Nat → Nat} (h : Own64 w base v n X) (hn : 0 < n) : ∃ g c, v = .slice (some ⟨g, 0, none⟩) n c ∧ base ≤ g ∧ RowN w g n X ∧ n ≤ c ∧ c ≤ maxLen := by
  obtain ⟨g, c, cs, e, hg, hb, h1, h2, h3⟩ := h.row hn
  exact ⟨g, c, e, hg, ⟨cs, hb, h3⟩, h1, h2⟩
theorem Own64.base {w : World} {base base' n : Nat} {v : Value} {X : Nat → Nat} (h : Own64 w base v n X) (hb : base' ≤ base) : Own64 w base' v n X := by
  rcases h with ⟨h1, h2⟩
  refine ⟨h1, ?_⟩
  rcases h2 with h2 | ⟨g, cap, cur, e, hg, h3⟩
  · exact .inl h2
  · exact .inr ⟨g, cap, cur, e, Nat.le_trans hb hg, h3⟩
/-- a row that the call has just laid -/
theorem Own64.lit {w : World} {cs : Array Value} {n : Nat} {X : Nat → Nat} (hs : cs = (numsL n X).toArray) (hn : n ≤ maxLen) : Own64 (w.alloc (.cells cs 38)) w.heap.size (.slice (some ⟨w.heap.size, 0, none⟩) n n) n X := by
  subst hs
  have h := World.ownsRow_lit (base := w.heap.size) (e := 38) (size := 1) w (numsL n X).toArray n (Nat.le_refl _) hn (by simp [numsL_length])
  rw [List.toList_toArray] at h
  exact h
/-- 'append(v, y...)' -/
theorem wpList_append64 {w : World} {ops : Array Oper} {rest : List Oper} {o : Oper} {a : Act} {Q : Exit → Act → World → Prop} (hgd : o.guard = none) (s x : Operand)
    (ho : o.op = .call { callee := .builtin .append, args := #[s, x], argTypes := #[52, 52] }) {base n m c g : Nat} {v : Value} {X Y : Nat → Nat} (hs : a.eval s = v) (hx : a.eval x = .slice (some ⟨g, 0, none⟩) m c)
    (hown : Own64 w base v n X) (hy : RowN w g m Y) (hl : n + m ≤ 1099511627776) (hb : base ≤ w.heap.size)
    (h : ∀ v' w', Own64 w' base v' (n + m) (cat n X Y) → w.grownBy w' v.ownBlock → (v'.ownBlock = v.ownBlock ∨ v'.ownBlock = some w.heap.size) → wpList Tryd.prog ops Q rest (a.put o.dst v') w') :
    wpList Tryd.prog ops Q (o :: rest) a w := by
  obtain ⟨i0, hi, hz0, hz1, hz2⟩ := info_parts info64
  refine wpList_plain hgd fun K hK => ?_
  obtain ⟨v', w', hrun, e2, e3, e4, e5⟩ := run_append_own_at (P := Tryd.prog) w base 52 o.type 38 i0 (.int .u64 0) 1 8 Tryd.underlying52 hi hz0 hz1 hz2 rfl (by decide) v n _ hown ⟨g, 0, none⟩ m c (numsL m Y) (by rw [numsL_length, Nat.mul_one])
    (fun j u hj => by
      have hjm : j < m := by have := (List.getElem?_eq_some_iff.1 hj).1; rw [numsL_length] at this; exact this
      rw [numsL_get Y hjm] at hj
      injection hj with hj
      subst hj
      rw [add_plain, Nat.zero_add]
      exact hy.cell hjm) (fun u hu => by
      simp only [numsL, List.mem_map] at hu
      obtain ⟨j, _, rfl⟩ := hu
      rfl) (by simp only [maxLen]; omega) (by omega) hb
  rw [numsL_cat] at e2
  unfold Oper.wp execOp
  simp only [ho, resolve, invoke, builtin, Sem.run_bind, Sem.run_pure, Result.andThen_ok, List.map_toArray, List.map_cons, List.map_nil, hs, hx, hrun]
  exact hK _ _ (h v' w' e2 e3 e5)
theorem own64_grown' {w0 w w' : World} {base n : Nat} {v : Value} {X : Nat → Nat} (hb : Below base w0 w) (ho : Own64 w base v n X) (hg : w.grownBy w' v.ownBlock) (hs : base ≤ w.heap.size) : Below base w0 w' :=
  hb.trans ⟨hg.os, hg.tape, hg.output, hg.size, fun k hk => hg.block k (by omega) (fun e => by have := (ho.lt e.symm).2; omega)⟩
end Go.Proofs.YtnmieabcaaoofaaDoor
