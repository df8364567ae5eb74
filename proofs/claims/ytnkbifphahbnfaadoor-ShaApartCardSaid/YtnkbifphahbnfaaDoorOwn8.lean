/-
  Rows of bytes that a call has made: appends of bytes that came in, and of texts. Conditions: lengths below 2^46.
-/
import Derived.Test.YtnkbifphahbnfaaDoorBytes
import Derived.Maps.AppendAt
import Derived.Lib.AppendStr
namespace Go.Proofs.YtnkbifphahbnfaaDoor
open Go Go.RowKit Go.Lib
set_option linter.unusedVariables false

def bytesL (n : Nat) (X : Nat → Nat) : List Value := (List.range n).map fun j => Value.int .u8 ((X j : Nat) : Int)
theorem bytesL_length (n : Nat) (X : Nat → Nat) : (bytesL n X).length = n := by simp [bytesL]
theorem bytesL_get {n j : Nat} (X : Nat → Nat) (h : j < n) : (bytesL n X)[j]? = some (.int .u8 ((X j : Nat) : Int)) := by simp [bytesL, h]
theorem bytesL_congr {n : Nat} {X Y : Nat → Nat} (h : ∀ j, j < n → X j = Y j) : bytesL n X = bytesL n Y := by
  unfold bytesL
  apply List.map_congr_left
  intro j hj
  rw [h j (by simpa using hj)]
theorem bytesL_mem {n : Nat} {X : Nat → Nat} : ∀ u ∈ bytesL n X, u.oneCell' = true := fun u hu => by
  simp only [bytesL, List.mem_map] at hu
  obtain ⟨j, _, rfl⟩ := hu
  rfl
/-- X, and Y behind -/
def cat (n : Nat) (X Y : Nat → Nat) (j : Nat) : Nat := if j < n then X j else Y (j - n)
theorem bytesL_cat (n m : Nat) (X Y : Nat → Nat) : bytesL n X ++ bytesL m Y = bytesL (n + m) (cat n X Y) := by
  apply List.ext_getElem?
  intro j
  by_cases h : j < n
  · rw [List.getElem?_append_left (by rw [bytesL_length]; exact h), bytesL_get X h, bytesL_get _ (by omega)]
    unfold cat
    rw [if_pos h]
  · rw [List.getElem?_append_right (by rw [bytesL_length]; omega), bytesL_length]
    by_cases h2 : j < n + m
    · rw [bytesL_get Y (by omega), bytesL_get _ h2]
      unfold cat
      rw [if_neg h]
    · rw [List.getElem?_eq_none (by rw [bytesL_length]; omega), List.getElem?_eq_none (by rw [bytesL_length]; omega)]
/-- the call's own row of n bytes -/
def Own8 (w : World) (base : Nat) (v : Value) (n : Nat) (X : Nat → Nat) : Prop := w.ownsRow base 5 1 v n (bytesL n X)
theorem Own8.shape {w : World} {base n : Nat} {v : Value} {X : Nat → Nat} (h : Own8 w base v n X) (hX : ∀ j, j < n → X j < 256) :
    ∃ A c, v = .slice A n c ∧ RdB w w.heap.size A n X ∧ n ≤ c ∧ c ≤ maxLen ∧ (∀ g o, A = some ⟨g, o, none⟩ → base ≤ g) ∧ (A = none → c = 0) := by
  rcases h.2 with ⟨rfl, rfl⟩ | ⟨g, cap, cur, rfl, hg, hb, h1, h2, h3, h4⟩
  · exact ⟨none, 0, rfl, fun j hj => absurd hj (by omega), by omega, by simp [maxLen], fun g o e => (by cases e), fun _ => rfl⟩
  · have hblk : Blk w g 5 cur := hb
    refine ⟨_, _, rfl, fun j hj => ⟨g, 0, rfl, hblk.lt, ?_, hX j hj⟩, h1, h2, fun g' o e => by injection e with e; injection e with e _; omega, fun e => (by cases e)⟩
    have h5 := bytesL_get X hj
    rw [← h4, List.getElem?_take_of_lt (by omega), Array.getElem?_toList] at h5
    rw [Nat.zero_add, hblk.cell]
    exact h5
theorem Own8.of_blk {w : World} {base g n c : Nat} {X : Nat → Nat} (h : Blk w g 5 (rowArr c X)) (hb : base ≤ g) (hn : n ≤ c) (hc : c ≤ maxLen) : Own8 w base (.slice (some ⟨g, 0, none⟩) n c) n X :=
  ⟨by rw [bytesL_length, Nat.mul_one], .inr ⟨g, c, rowArr c X, rfl, hb, h, hn, hc, by rw [rowArr_size, Nat.mul_one], by
    apply List.ext_getElem?
    intro j
    rw [Nat.mul_one]
    by_cases hj : j < n
    · rw [List.getElem?_take_of_lt hj, Array.getElem?_toList, rowArr_get (by omega), bytesL_get X hj]
    · rw [List.getElem?_eq_none (by simp; omega), List.getElem?_eq_none (by rw [bytesL_length]; omega)]⟩⟩
theorem Own8.congr {w : World} {base n : Nat} {v : Value} {X Y : Nat → Nat} (h : Own8 w base v n X) (e : ∀ j, j < n → X j = Y j) : Own8 w base v n Y := by
  unfold Own8
  rw [← bytesL_congr e]
  exact h
theorem Own8.keep {w w' : World} {base n : Nat} {v : Value} {X : Nat → Nat} (h : Own8 w base v n X) (hk : ∀ g, v.ownBlock = some g → w'.heap[g]? = w.heap[g]?) : Own8 w' base v n X := by
  rcases h with ⟨h1, h2⟩
  refine ⟨h1, ?_⟩
  rcases h2 with h2 | ⟨g, cap, cur, rfl, hg, hb, h3⟩
  · exact .inl h2
  · exact .inr ⟨g, cap, cur, rfl, hg, (hk g rfl).trans hb, h3⟩
theorem Own8.lt {w : World} {base n g : Nat} {v : Value} {X : Nat → Nat} (h : Own8 w base v n X) (hg : v.ownBlock = some g) : g < w.heap.size ∧ base ≤ g := by
  rcases h.2 with ⟨rfl, _⟩ | ⟨g', cap, cur, rfl, hb, hblk, _⟩
  · simp [Value.ownBlock] at hg
  · simp [Value.ownBlock] at hg
    subst hg
    exact ⟨Blk.lt (t := 5) (cs := cur) hblk, hb⟩
theorem Own8.below {w w' : World} {base n B : Nat} {v : Value} {X : Nat → Nat} (h : Own8 w base v n X) (hk : Below B w w') (hB : w.heap.size ≤ B) : Own8 w' base v n X :=
  h.keep fun g hg => hk.block g (by have := (h.lt hg).1; omega)
theorem info8 : (Tryd.prog.info? 5).map (fun i => (i.zero, i.size, i.bytes)) = some (some (.int .u8 0), 1, 1) := by kernel_rfl

theorem run_append_rd {w : World} {base n B m c : Nat} {v : Value} {A : Option Addr} {X Y : Nat → Nat} (ty : TypeId) (h : Own8 w base v n X) (hy : RdB w B A m Y) (h0 : A = none → c = 0) (hmc : m ≤ c) (hl : n + m ≤ 70368744177664) (hb : base ≤ w.heap.size) :
    ∃ v' w', (Builtin.append_ #[22, 22] ty #[v, .slice A m c]).run Tryd.prog w = .ok v' w' ∧ Own8 w' base v' (n + m) (cat n X Y) ∧ w.grownBy w' v.ownBlock ∧ (v'.ownBlock = v.ownBlock ∨ v'.ownBlock = some w.heap.size) := by
  obtain ⟨i0, hi, hz0, hz1, hz2⟩ := info_parts info8
  cases A with
  | none =>
    have hc := h0 rfl
    subst hc
    obtain rfl : m = 0 := by omega
    refine ⟨v, w, run_append_owned_none (P := Tryd.prog) w base 22 ty 5 i0 1 Tryd.underlying22 hi v n _ h, h.congr fun j hj => ?_, World.grownBy.refl w _, .inl rfl⟩
    unfold cat
    rw [if_pos (by omega)]
  | some ad =>
    obtain ⟨v', w', e1, e2, e3, e4, e5⟩ := run_append_own_at (P := Tryd.prog) w base 22 ty 5 i0 (.int .u8 0) 1 1 Tryd.underlying22 hi hz0 hz1 hz2 rfl (by decide) v n _ h ad m c (bytesL m Y) (by rw [bytesL_length, Nat.mul_one])
      (fun j u hj => by
        have hjm : j < m := by have := (List.getElem?_eq_some_iff.1 hj).1; rw [bytesL_length] at this; exact this
        rw [bytesL_get Y hjm] at hj
        injection hj with hj
        subst hj
        obtain ⟨b, o, h1, h2, h3, _⟩ := hy j hjm
        injection h1 with h1
        subst h1
        rw [add_plain]
        exact h3) bytesL_mem (by simp only [maxLen]; omega) (by omega) hb
    rw [bytesL_cat] at e2
    exact ⟨v', w', e1, e2, e3, e5⟩
theorem wpList_append_rd {w : World} {ops : Array Oper} {rest : List Oper} {o : Oper} {a : Act} {Q : Exit → Act → World → Prop} (hgd : o.guard = none) (s x : Operand)
    (ho : o.op = .call { callee := .builtin .append, args := #[s, x], argTypes := #[22, 22] }) {base n B m c : Nat} {v : Value} {A : Option Addr} {X Y : Nat → Nat} (hs : a.eval s = v) (hx : a.eval x = .slice A m c)
    (hown : Own8 w base v n X) (hy : RdB w B A m Y) (h0 : A = none → c = 0) (hmc : m ≤ c) (hl : n + m ≤ 70368744177664) (hb : base ≤ w.heap.size)
    (h : ∀ v' w', Own8 w' base v' (n + m) (cat n X Y) → w.grownBy w' v.ownBlock → (v'.ownBlock = v.ownBlock ∨ v'.ownBlock = some w.heap.size) → wpList Tryd.prog ops Q rest (a.put o.dst v') w') : wpList Tryd.prog ops Q (o :: rest) a w := by
  refine wpList_plain hgd fun K hK => ?_
  obtain ⟨v', w', hrun, h1, h2, h3⟩ := run_append_rd o.type hown hy h0 hmc hl hb
  unfold Oper.wp execOp
  simp only [ho, resolve, invoke, builtin, Sem.run_bind, Sem.run_pure, Result.andThen_ok, List.map_toArray, List.map_cons, List.map_nil, hs, hx, hrun]
  exact hK _ _ (h v' w' h1 h2 h3)
theorem strB_data (n : Nat) (X : Nat → Nat) : (strB n X).data.toList = (List.range n).map fun j => UInt8.ofNat (X j) := by rw [← strB_list, ByteArray.toList_eq]
theorem strB_size (n : Nat) (X : Nat → Nat) : (strB n X).size = n := by
  have h := congrArg List.length (strB_data n X)
  rw [List.length_map, List.length_range, Array.length_toList] at h
  exact h
theorem strCells_strB (n : Nat) (X : Nat → Nat) (hX : ∀ j, j < n → X j < 256) : strCells (strB n X) = bytesL n X := by
  unfold strCells
  have e : (strB n X).data.toList = (List.range n).map fun j => UInt8.ofNat (X j) := by rw [← strB_list, ByteArray.toList_eq]
  rw [e, List.map_map]
  unfold bytesL
  apply List.map_congr_left
  intro j hj
  have := hX j (by simpa using hj)
  simp [UInt8.toNat_ofNat']
  omega
theorem wpList_append_txt {w : World} {ops : Array Oper} {rest : List Oper} {o : Oper} {a : Act} {Q : Exit → Act → World → Prop} (hgd : o.guard = none) (s x : Operand)
    (ho : o.op = .call { callee := .builtin .append, args := #[s, x], argTypes := #[22, 9] }) {base n m : Nat} {v : Value} {X Y : Nat → Nat} (hs : a.eval s = v) (hx : a.eval x = .string (strB m Y))
    (hown : Own8 w base v n X) (hY : ∀ j, j < m → Y j < 256) (hl : n + m ≤ 70368744177664) (hb : base ≤ w.heap.size)
    (h : ∀ v' w', Own8 w' base v' (n + m) (cat n X Y) → w.grownBy w' v.ownBlock → wpList Tryd.prog ops Q rest (a.put o.dst v') w') : wpList Tryd.prog ops Q (o :: rest) a w := by
  obtain ⟨i0, hi, hz0, hz1, hz2⟩ := info_parts info8
  have hsz := strB_size m Y
  refine wpList_append_own_string w hgd s x 22 9 ho base 5 i0 Tryd.underlying22 Tryd.underlying9 hi hz0 hz1 hz2 v n (bytesL n X) hs hown (strB m Y) hx (by rw [hsz]; simp only [maxLen]; omega) (by rw [hsz]; omega) hb ?_
  intro v' w' h1 h2 _
  rw [hsz, strCells_strB m Y hY, bytesL_cat] at h1
  exact h v' w' h1 h2
/-- n bytes at the head of block g -/
def RowG (w : World) (g n : Nat) (X : Nat → Nat) : Prop := ∃ cs, Blk w g 5 cs ∧ ∀ j, j < n → cs[j]? = some (.int .u8 ((X j : Nat) : Int))
def upd (X : Nat → Nat) (k v : Nat) (j : Nat) : Nat := if j = k then v else X j
theorem upd_lt {X : Nat → Nat} {k v : Nat} (hX : ∀ j, X j < 256) (hv : v < 256) (j : Nat) : upd X k v j < 256 := by
  unfold upd
  split
  · exact hv
  · exact hX j
section
variable {w w' : World} {g n : Nat} {X : Nat → Nat}
theorem RowG.lt (h : RowG w g n X) : g < w.heap.size := by obtain ⟨cs, hb, _⟩ := h; exact hb.lt
theorem RowG.cell (h : RowG w g n X) {j : Nat} (hj : j < n) : w.cell? ⟨g, j, none⟩ = some (.int .u8 ((X j : Nat) : Int)) := by
  obtain ⟨cs, hb, hc⟩ := h
  rw [hb.cell]
  exact hc j hj
theorem RowG.frozen (h : RowG w g n X) (j : Nat) : w.frozen? ⟨g, j, none⟩ = false := by obtain ⟨cs, hb, _⟩ := h; exact hb.frozen j
theorem RowG.rdb (h : RowG w g n X) (hX : ∀ j, j < n → X j < 256) {B : Nat} (hB : g < B) : RdB w B (some ⟨g, 0, none⟩) n X := fun j hj => ⟨g, 0, rfl, hB, by rw [Nat.zero_add]; exact h.cell hj, hX j hj⟩
theorem RowG.set (h : RowG w g n X) {k v : Nat} (hk : k < n) : RowG (w.setCell ⟨g, k, none⟩ (.int .u8 ((v : Nat) : Int))) g n (upd X k v) := by
  obtain ⟨cs, hb, hc⟩ := h
  refine ⟨_, hb.set_ k _, fun j hj => ?_⟩
  have hk' := (Array.getElem?_eq_some_iff.1 (hc k hk)).1
  rw [Array.getElem?_setIfInBounds]
  unfold upd
  by_cases e : k = j
  · rw [if_pos e, if_pos hk', if_pos e.symm]
  · rw [if_neg e, if_neg (fun x => e x.symm)]
    exact hc j hj
theorem RowG.congr {Y : Nat → Nat} (h : RowG w g n X) (e : ∀ j, j < n → X j = Y j) : RowG w g n Y := by
  obtain ⟨cs, hb, hc⟩ := h
  exact ⟨cs, hb, fun j hj => by rw [← e j hj]; exact hc j hj⟩
theorem RowG.part {m : Nat} (h : RowG w g n X) (hm : m ≤ n) : RowG w g m X := by
  obtain ⟨cs, hb, hc⟩ := h
  exact ⟨cs, hb, fun j hj => hc j (by omega)⟩
theorem RowG.below {B : Nat} (h : RowG w g n X) (hb : Below B w w') (hg : g < B) : RowG w' g n X := by
  obtain ⟨cs, h1, hc⟩ := h
  exact ⟨cs, h1.below hb hg, hc⟩
theorem RowG.new_ (h : RowG w g n X) (hb : Below w.heap.size w w') : RowG w' g n X := h.below hb h.lt
theorem RowG.far (h : RowG w g n X) {p : Addr} (hp : g ≠ p.block) (u : Value) : RowG (w.setCell p u) g n X := by
  obtain ⟨cs, h1, hc⟩ := h
  exact ⟨cs, h1.far hp u, hc⟩
theorem RowG.drewN (h : RowG w g n X) (k : Nat) : RowG (w.drewN k) g n X := h
theorem RowG.alloc (h : RowG w g n X) (o : Obj) : RowG (w.alloc o) g n X := by
  obtain ⟨cs, h1, hc⟩ := h
  exact ⟨cs, h1.alloc o, hc⟩
theorem RowG.of_blk {c : Nat} (h : Blk w g 5 (rowArr c X)) (hn : n ≤ c) : RowG w g n X := ⟨_, h, fun j hj => rowArr_get (by omega)⟩
theorem RowG.conv (h : RowG w g n X) (hX : ∀ j, j < n → X j < 256) (c : Nat) : (convert 22 9 (.slice (some ⟨g, 0, none⟩) n c)).run Tryd.prog w = .ok (.string (strB n X)) w := conv_rd (h.rdb hX (Nat.lt_succ_self g))
end
theorem Own8.row {w : World} {base n : Nat} {v : Value} {X : Nat → Nat} (h : Own8 w base v n X) (hn : 0 < n) : ∃ g c, v = .slice (some ⟨g, 0, none⟩) n c ∧ base ≤ g ∧ RowG w g n X ∧ n ≤ c ∧ c ≤ maxLen := by
  rcases h.2 with ⟨rfl, rfl⟩ | ⟨g, cap, cur, rfl, hg, hb, h1, h2, h3, h4⟩
  · omega
  · refine ⟨g, cap, rfl, hg, ⟨cur, hb, fun j hj => ?_⟩, h1, h2⟩
    have h5 := bytesL_get X hj
    rw [← h4, List.getElem?_take_of_lt (by omega), Array.getElem?_toList] at h5
    exact h5
/-- the bytes f, of which those from k on are x, m of them -/
def put8 (f x : Nat → Nat) (k m j : Nat) : Nat := if k ≤ j ∧ j < k + m then x (j - k) else f j
theorem run_append_room8 {w : World} {g n m c cap B : Nat} {A : Option Addr} {f x : Nat → Nat} (ty : TypeId) (hb : Blk w g 5 (rowArr cap f)) (hx : RdB w B A m x) (h0 : A = none → c = 0) (hmc : m ≤ c) (hr : n + m ≤ cap) :
    ∃ w', (Builtin.append_ #[22, 22] ty #[.slice (some ⟨g, 0, none⟩) n cap, .slice A m c]).run Tryd.prog w = .ok (.slice (some ⟨g, 0, none⟩) (n + m) cap) w' ∧ Blk w' g 5 (rowArr cap (put8 f x n m)) ∧ Only g w w' ∧ w'.heap.size = w.heap.size := by
  obtain ⟨i0, hi, hz0, hz1, hz2⟩ := info_parts info8
  cases A with
  | none =>
    have hc := h0 rfl
    subst hc
    obtain rfl : m = 0 := by omega
    refine ⟨w, ?_, ?_, Only.refl _ _, rfl⟩
    · have h1 : (sizeOf 5).run Tryd.prog w = .ok 1 w := sizeOf_u8 w
      simp [Builtin.append_, run_underlying Tryd.underlying22, h1, Builtin.lenOf, Builtin.firstCells, show n ≤ cap by omega, storeCells]
    · rw [show rowArr cap (put8 f x n 0) = rowArr cap f from rowArr_congr fun j _ => by unfold put8; rw [if_neg (by omega)]]
      exact hb
  | some ad =>
    have e1 := run_append_room (P := Tryd.prog) w 22 ty 5 i0 Tryd.underlying22 hi g n cap (rowArr cap f) hb ad m c (bytesL m x) (by rw [bytesL_length, hz1, Nat.mul_one])
      (fun j u hj => by
        have hjm : j < m := by have := (List.getElem?_eq_some_iff.1 hj).1; rw [bytesL_length] at this; exact this
        rw [bytesL_get x hjm] at hj
        injection hj with hj
        subst hj
        obtain ⟨b, o, h1, h2, h3, _⟩ := hx j hjm
        injection h1 with h1
        subst h1
        rw [add_plain]
        exact h3) bytesL_mem hr (by rw [hz1, bytesL_length, rowArr_size]; omega)
    rw [hz1, Nat.mul_one, bytesL_length] at e1
    refine ⟨_, e1, ?_, ⟨rfl, rfl, rfl, by simp, fun k hk hne => setRow_other w g k _ (fun e => hne (by rw [e]))⟩, by simp⟩
    have e2 : ((rowArr cap f).toList.take n ++ bytesL m x ++ (rowArr cap f).toList.drop (n + m)).toArray = rowArr cap (put8 f x n m) := by
      apply Array.ext_getElem?
      intro j
      have hl1 : ((rowArr cap f).toList.take n).length = n := by rw [List.length_take, Array.length_toList, rowArr_size]; omega
      by_cases hj : j < cap
      · rw [rowArr_get hj, List.getElem?_toArray]
        unfold put8
        by_cases h1 : j < n
        · rw [List.append_assoc, List.getElem?_append_left (by omega), List.getElem?_take_of_lt h1, Array.getElem?_toList, rowArr_get hj, if_neg (by omega)]
        · by_cases h2 : j < n + m
          · rw [List.append_assoc, List.getElem?_append_right (by omega), hl1, List.getElem?_append_left (by rw [bytesL_length]; omega), bytesL_get x (by omega), if_pos ⟨by omega, h2⟩]
          · rw [List.getElem?_append_right (by rw [List.length_append, hl1, bytesL_length]; omega), List.length_append, hl1, bytesL_length, List.getElem?_drop, Array.getElem?_toList, show n + m + (j - (n + m)) = j by omega, rowArr_get hj, if_neg (by omega)]
      · rw [Array.getElem?_eq_none (by simp [hl1, bytesL_length, rowArr_size]; omega), Array.getElem?_eq_none (by rw [rowArr_size]; omega)]
    rw [e2]
    exact setRow_heap w g _ _ _ _ hb
theorem wpList_append_room8 {w : World} {ops : Array Oper} {rest : List Oper} {o : Oper} {a : Act} {Q : Exit → Act → World → Prop} (hgd : o.guard = none) (s y : Operand)
    (ho : o.op = .call { callee := .builtin .append, args := #[s, y], argTypes := #[22, 22] }) {g n m c cap B : Nat} {A : Option Addr} {f x : Nat → Nat} (hs : a.eval s = .slice (some ⟨g, 0, none⟩) n cap) (hy : a.eval y = .slice A m c)
    (hb : Blk w g 5 (rowArr cap f)) (hx : RdB w B A m x) (h0 : A = none → c = 0) (hmc : m ≤ c) (hr : n + m ≤ cap)
    (h : ∀ w', Blk w' g 5 (rowArr cap (put8 f x n m)) → Only g w w' → w'.heap.size = w.heap.size → wpList Tryd.prog ops Q rest (a.put o.dst (.slice (some ⟨g, 0, none⟩) (n + m) cap)) w') : wpList Tryd.prog ops Q (o :: rest) a w := by
  refine wpList_plain hgd fun K hK => ?_
  obtain ⟨w', hrun, h1, h2, h3⟩ := run_append_room8 (c := c) o.type hb hx h0 hmc hr
  unfold Oper.wp execOp
  simp only [ho, resolve, invoke, builtin, Sem.run_bind, Sem.run_pure, Result.andThen_ok, List.map_toArray, List.map_cons, List.map_nil, hs, hy, hrun]
  exact hK _ _ (h w' h1 h2 h3)
end Go.Proofs.YtnkbifphahbnfaaDoor
