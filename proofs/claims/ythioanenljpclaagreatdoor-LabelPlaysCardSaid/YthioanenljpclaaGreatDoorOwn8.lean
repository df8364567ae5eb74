/-
  Rows of bytes that a call has made: appends of bytes that came in, and of texts. Conditions: lengths below 2^46.
-/
import Derived.Test.YthioanenljpclaaGreatDoorBytesM
import Derived.Maps.AppendAt
import Derived.Lib.AppendStr
import Derived.Lib.ConvBytes
namespace Go.Proofs.YthioanenljpclaaGreatDoor
open Go Go.RowKit Go.Lib
set_option maxRecDepth 100000
set_option linter.unusedVariables false

def bytesL (n : Nat) (X : Nat → Nat) : List Value := (List.range n).map fun j => Value.int .u8 ((X j : Nat) : Int)
theorem bytesL_length (n : Nat) (X : Nat → Nat) : (bytesL n X).length = n := by simp [bytesL]
theorem bytesL_get {n j : Nat} (X : Nat → Nat) (h : j < n) : (bytesL n X)[j]? = some (.int .u8 ((X j : Nat) : Int)) := by simp [bytesL, h]
theorem bytesL_mem {n : Nat} {X : Nat → Nat} : ∀ u ∈ bytesL n X, u.oneCell' = true := fun u hu => by
  simp only [bytesL, List.mem_map] at hu
  obtain ⟨j, _, rfl⟩ := hu
  rfl
/-- X, and Y behind -/
def cat (n : Nat) (X Y : Nat → Nat) (j : Nat) : Nat := if j < n then X j else Y (j - n)
theorem bytesL_cat (n m : Nat) (X Y : Nat → Nat) : bytesL n X ++ bytesL m Y = bytesL (n + m) (cat n X Y) := by
  apply List.ext_getElem?
  intro j
  by_cases h : j < n
  · rw [List.getElem?_append_left (by rw [bytesL_length]; exact h), bytesL_get X h, bytesL_get _ (by omega)]
    unfold cat
    rw [if_pos h]
  · rw [List.getElem?_append_right (by rw [bytesL_length]; omega), bytesL_length]
    by_cases h2 : j < n + m
    · rw [bytesL_get Y (by omega), bytesL_get _ h2]
      unfold cat
      rw [if_neg h]
    · rw [List.getElem?_eq_none (by rw [bytesL_length]; omega), List.getElem?_eq_none (by rw [bytesL_length]; omega)]
/-- no cell of a block of m cells is marked -/
def freeTail (fr : Nat × Nat) (m : Nat) : Prop := fr.2 ≤ fr.1 ∨ m ≤ fr.1
/-- the call's own row of n bytes -/
def Own8 (w : World) (base : Nat) (v : Value) (n : Nat) (X : Nat → Nat) : Prop :=
  (v = .slice none 0 0 ∧ n = 0) ∨ ∃ g cap cur fr, v = .slice (some ⟨g, 0, none⟩) n cap ∧ base ≤ g ∧ w.heap[g]? = some (.cells cur 5 fr) ∧ freeTail fr cap ∧ n ≤ cap ∧ cap ≤ maxLen ∧ cur.size = cap ∧ ∀ j, j < n → cur[j]? = some (.int .u8 ((X j : Nat) : Int))
theorem lt_of_heap {w : World} {g : Nat} {o : Obj} (h : w.heap[g]? = some o) : g < w.heap.size := (Array.getElem?_eq_some_iff.1 h).1
theorem Own8.nil (w : World) (base : Nat) (X : Nat → Nat) : Own8 w base (.slice none 0 0) 0 X := .inl ⟨rfl, rfl⟩
theorem Own8.shape {w : World} {base n : Nat} {v : Value} {X : Nat → Nat} (h : Own8 w base v n X) (hX : ∀ j, j < n → X j < 256) :
    ∃ A c, v = .slice A n c ∧ RdB w w.heap.size A n X ∧ n ≤ c ∧ c ≤ maxLen ∧ (∀ g o, A = some ⟨g, o, none⟩ → base ≤ g) ∧ (A = none → c = 0) := by
  rcases h with ⟨rfl, rfl⟩ | ⟨g, cap, cur, fr, rfl, hg, hb, h0, h1, h2, h3, h4⟩
  · exact ⟨none, 0, rfl, fun j hj => absurd hj (by omega), by omega, by simp [maxLen], fun g o e => (by cases e), fun _ => rfl⟩
  · exact ⟨_, _, rfl, fun j hj => ⟨g, 0, rfl, lt_of_heap hb, by rw [Nat.zero_add, cell_of_row _ _ _ _ _ _ hb]; exact h4 j hj, hX j hj⟩, h1, h2, fun g' o e => by injection e with e; injection e with e _; omega, fun e => (by cases e)⟩
theorem Own8.of_blk {w : World} {base g n c : Nat} {X : Nat → Nat} (h : Blk w g 5 (rowArr c X)) (hb : base ≤ g) (hn : n ≤ c) (hc : c ≤ maxLen) : Own8 w base (.slice (some ⟨g, 0, none⟩) n c) n X :=
  .inr ⟨g, c, rowArr c X, (0, 0), rfl, hb, h, .inl (Nat.le_refl _), hn, hc, rowArr_size c X, fun j hj => rowArr_get (by omega)⟩
theorem Own8.congr {w : World} {base n : Nat} {v : Value} {X Y : Nat → Nat} (h : Own8 w base v n X) (e : ∀ j, j < n → X j = Y j) : Own8 w base v n Y := by
  rcases h with h | ⟨g, cap, cur, fr, rfl, hg, hb, h0, h1, h2, h3, h4⟩
  · exact .inl h
  · exact .inr ⟨g, cap, cur, fr, rfl, hg, hb, h0, h1, h2, h3, fun j hj => by rw [← e j hj]; exact h4 j hj⟩
theorem Own8.keep {w w' : World} {base n : Nat} {v : Value} {X : Nat → Nat} (h : Own8 w base v n X) (hk : ∀ g, v.ownBlock = some g → w'.heap[g]? = w.heap[g]?) : Own8 w' base v n X := by
  rcases h with h | ⟨g, cap, cur, fr, rfl, hg, hb, h3⟩
  · exact .inl h
  · exact .inr ⟨g, cap, cur, fr, rfl, hg, (hk g rfl).trans hb, h3⟩
theorem Own8.lt {w : World} {base n g : Nat} {v : Value} {X : Nat → Nat} (h : Own8 w base v n X) (hg : v.ownBlock = some g) : g < w.heap.size ∧ base ≤ g := by
  rcases h with ⟨rfl, _⟩ | ⟨g', cap, cur, fr, rfl, hb, hblk, _⟩
  · simp [Value.ownBlock] at hg
  · simp [Value.ownBlock] at hg
    subst hg
    exact ⟨lt_of_heap hblk, hb⟩
theorem Own8.below {w w' : World} {base n B : Nat} {v : Value} {X : Nat → Nat} (h : Own8 w base v n X) (hk : Below B w w') (hB : w.heap.size ≤ B) : Own8 w' base v n X :=
  h.keep fun g hg => hk.block g (by have := (h.lt hg).1; omega)
theorem Own8.base {w : World} {base base' n : Nat} {v : Value} {X : Nat → Nat} (h : Own8 w base v n X) (hb : base' ≤ base) : Own8 w base' v n X := by
  rcases h with h | ⟨g, cap, cur, fr, rfl, hg, h3⟩
  · exact .inl h
  · exact .inr ⟨g, cap, cur, fr, rfl, Nat.le_trans hb hg, h3⟩
theorem info8 : (Tryz.prog.info? 5).map (fun i => (i.zero, i.size, i.bytes)) = some (some (.int .u8 0), 1, 1) := by kernel_rfl
/-- cells stored one behind the other -/
theorem store_run (g o : Nat) (t : TypeId) (fr : Nat × Nat) : ∀ (vs : List Value) (i : Nat) (cur : Array Value) (w : World), w.heap[g]? = some (.cells cur t fr) → freeTail fr cur.size → o + i + vs.length ≤ cur.size → (∀ v ∈ vs, v.oneCell' = true) →
    ∃ w' cur', (storeCells ⟨g, o, none⟩ vs i).run Tryz.prog w = .ok () w' ∧ w'.heap[g]? = some (.cells cur' t fr) ∧ cur'.size = cur.size ∧ (∀ j, cur'[j]? = if o + i ≤ j ∧ j < o + i + vs.length then vs[j - (o + i)]? else cur[j]?) ∧ Only g w w' ∧ w'.heap.size = w.heap.size
  | [], i, cur, w, hg, _, _, _ => ⟨w, cur, rfl, hg, rfl, fun j => by rw [if_neg (by simp)], Only.refl _ _, rfl⟩
  | v :: rest, i, cur, w, hg, hf, hl, h1 => by
    have hi : o + i < cur.size := by simp at hl; omega
    have hcell : w.cell? ⟨g, o + i, none⟩ = some cur[o + i] := by rw [cell_of_row _ _ _ _ _ _ hg]; simp [hi]
    have hfro : w.frozen? ⟨g, o + i, none⟩ = false := by
      unfold freeTail at hf
      simp only [World.frozen?, hg]
      simp
      omega
    have hst : (store ((⟨g, o, none⟩ : Addr).add i) v).run Tryz.prog w = .ok () (w.setRow g (cur.setIfInBounds (o + i) v)) := by
      rw [add_plain, run_store _ w _ v _ (h1 v (by simp)), hcell]
      simp [hfro, setCell_eq_setRow w g (o + i) cur t fr v hg]
    have hg1 := setRow_heap w g cur (cur.setIfInBounds (o + i) v) t fr hg
    obtain ⟨w', cur', e1, e2, e3, e4, e5, e6⟩ := store_run g o t fr rest (i + 1) (cur.setIfInBounds (o + i) v) _ hg1 (by simpa using hf) (by simp at hl ⊢; omega) (fun x hx => h1 x (by simp [hx]))
    have o1 : Only g w (w.setRow g (cur.setIfInBounds (o + i) v)) := ⟨rfl, rfl, rfl, by simp, fun k hk hne => setRow_other w g k _ (fun e => hne (by rw [e]))⟩
    refine ⟨w', cur', ?_, e2, by rw [e3]; simp, fun j => ?_, o1.trans e5, by rw [e6]; simp⟩
    · simp only [storeCells, Sem.run_bind, hst, Result.andThen_ok, e1]
    · rw [e4, Array.getElem?_setIfInBounds]
      simp only [List.length_cons]
      by_cases ha : o + i = j
      · rw [if_neg (by omega), if_pos ha, if_pos hi, if_pos (by omega), show j - (o + i) = 0 by omega]
        rfl
      · by_cases hb : o + (i + 1) ≤ j ∧ j < o + (i + 1) + rest.length
        · rw [if_pos hb, if_pos (by omega), show j - (o + i) = (j - (o + (i + 1))) + 1 by omega]
          rfl
        · rw [if_neg hb, if_neg ha, if_neg (by omega)]
theorem grow_row {w : World} {n m cap : Nat} {olds : List Value} {X Y : Nat → Nat} (ho : olds = bytesL n X) (hl : n + m ≤ 70368744177664) :
    Own8 (w.drew.alloc (.cells (olds.toArray ++ (bytesL m Y).toArray ++ Builtin.zeroCells (Value.int .u8 0).cells (grownCap w (n + m) cap 5 - (n + m))) 5)) w.heap.size (.slice (some ⟨w.heap.size, 0, none⟩) (n + m) (grownCap w (n + m) cap 5)) (n + m) (cat n X Y) := by
  have hge := grownCap_ge w (n + m) cap 5
  have hcm : grownCap w (n + m) cap 5 ≤ maxLen := grownCap_le_maxLen w (n + m) cap 5 (by simp only [maxLen]; omega)
  refine .inr ⟨w.heap.size, _, _, (0, 0), rfl, Nat.le_refl _, heap_alloc_new w.drew _, .inl (Nat.le_refl _), hge, hcm, ?_, fun j hj => ?_⟩
  · have hz1 : (Value.int IntKind.u8 0).cells.size = 1 := rfl
    simp only [Array.size_append, List.size_toArray, size_zeroCells, hz1, ho, bytesL_length]
    omega
  · have h1 := bytesL_cat n m X Y
    have h2 := bytesL_get (cat n X Y) hj
    rw [← h1, ← ho] at h2
    rw [Array.getElem?_append_left (by simp [ho, bytesL_length]; omega)]
    simpa using h2
theorem put_row {cur cur' : Array Value} {n m : Nat} {X Y : Nat → Nat} (h4 : ∀ j, j < n → cur[j]? = some (.int .u8 ((X j : Nat) : Int))) (e : ∀ j, cur'[j]? = if n + 0 ≤ j ∧ j < n + 0 + (bytesL m Y).length then (bytesL m Y)[j - (n + 0)]? else cur[j]?) :
    ∀ j, j < n + m → cur'[j]? = some (.int .u8 ((cat n X Y j : Nat) : Int)) := fun j hj => by
  rw [e, bytesL_length, Nat.add_zero]
  unfold cat
  by_cases h : j < n
  · rw [if_neg (by omega), if_pos h]
    exact h4 j h
  · rw [if_pos ⟨by omega, hj⟩, if_neg h]
    exact bytesL_get Y (by omega)
theorem run_append_rd {w : World} {base n B m c : Nat} {v : Value} {A : Option Addr} {X Y : Nat → Nat} (ty : TypeId) (h : Own8 w base v n X) (hy : RdB w B A m Y) (h0 : A = none → c = 0) (hmc : m ≤ c) (hl : n + m ≤ 70368744177664) (hb : base ≤ w.heap.size) :
    ∃ v' w', (Builtin.append_ #[51, 51] ty #[v, .slice A m c]).run Tryz.prog w = .ok v' w' ∧ Own8 w' base v' (n + m) (cat n X Y) ∧ w.grownBy w' v.ownBlock ∧ (v'.ownBlock = v.ownBlock ∨ v'.ownBlock = some w.heap.size) := by
  obtain ⟨i0, hi, hz0, hz1, hz2⟩ := info_parts info8
  have hsz : ∀ w', (sizeOf 5).run Tryz.prog w' = .ok 1 w' := sizeOf_u8
  have hne : ∀ m', m = m' + 1 → ∃ ad, A = some ad := fun m' e => by obtain ⟨b, o, e2, _⟩ := hy 0 (by omega); exact ⟨_, e2⟩
  have hnews : ∀ ad, A = some ad → ∀ j u, (bytesL m Y)[j]? = some u → w.cell? (ad.add j) = some u := fun ad e j u hj => by
    have hjm : j < m := by have := (List.getElem?_eq_some_iff.1 hj).1; rw [bytesL_length] at this; exact this
    rw [bytesL_get Y hjm] at hj
    injection hj with hj
    subst hj
    obtain ⟨b, o, h1, h2, h3, _⟩ := hy j hjm
    rw [e] at h1
    injection h1 with h1
    subst h1
    rw [add_plain]
    exact h3
  have hfc : (Builtin.firstCells 1 m (.slice A m c)).run Tryz.prog w = .ok (bytesL m Y).toArray w := by
    cases A with
    | none =>
      have hm : m = 0 := by have := h0 rfl; omega
      subst hm
      exact run_firstCells_none w 1 0 0 c
    | some ad => exact run_firstCells_some (P := Tryz.prog) w 1 m ad m c (bytesL m Y) (by rw [bytesL_length, Nat.mul_one]) (hnews ad rfl)
  rcases h with ⟨rfl, rfl⟩ | ⟨g, cap, cur, fr, rfl, hg, hblk, hfr, h1, h2, h3, h4⟩
  · by_cases hm : m = 0
    · subst hm
      refine ⟨.slice none 0 0, w, ?_, .inl ⟨rfl, rfl⟩, World.grownBy.refl w _, .inl rfl⟩
      simp [Builtin.append_, run_underlying Tryz.underlying51, hsz, Builtin.lenOf, hfc]
    · obtain ⟨ad, rfl⟩ := hne (m - 1) (by omega)
      have hr := run_append_nil (P := Tryz.prog) w 51 ty 5 i0 (.int .u8 0) Tryz.underlying51 hi hz0 ad m c (bytesL m Y) (by rw [bytesL_length, hz1, Nat.mul_one]) (hnews ad rfl) (by omega) (by omega) (by rw [hz2]; omega)
      have hgr := grow_row (w := w) (n := 0) (m := m) (cap := 0) (olds := []) (X := X) (Y := Y) rfl (by omega)
      simp only [Nat.zero_add] at hgr hr ⊢
      rw [show (([] : List Value).toArray ++ (bytesL m Y).toArray) = (bytesL m Y).toArray by simp] at hgr
      exact ⟨_, _, hr, hgr.base hb, ⟨rfl, rfl, rfl, by simp, fun k hk _ => Below.heap_alloc w.drew _ k hk⟩, .inr rfl⟩
  · by_cases hroom : n + m ≤ cap
    · obtain ⟨w', cur', e1, e2, e3, e4, e5, e6⟩ := store_run g n 5 fr (bytesL m Y) 0 cur w hblk (by rw [h3]; exact hfr) (by rw [bytesL_length]; omega) bytesL_mem
      refine ⟨.slice (some ⟨g, 0, none⟩) (n + m) cap, w', ?_, .inr ⟨g, cap, cur', fr, rfl, hg, e2, hfr, hroom, h2, by omega, put_row h4 e4⟩, e5, .inl rfl⟩
      simp [Builtin.append_, run_underlying Tryz.underlying51, hsz, Builtin.lenOf, hroom, hfc, Addr.add_lit, e1]
    · obtain ⟨ad, rfl⟩ := hne (m - 1) (by omega)
      have holds : ∀ j u, (bytesL n X)[j]? = some u → w.cell? ((⟨g, 0, none⟩ : Addr).add j) = some u := fun j u hj => by
        have hjn : j < n := by have := (List.getElem?_eq_some_iff.1 hj).1; rw [bytesL_length] at this; exact this
        rw [bytesL_get X hjn] at hj
        injection hj with hj
        subst hj
        rw [add_plain, Nat.zero_add, cell_of_row _ _ _ _ _ _ hblk]
        exact h4 j hjn
      have hr := run_append_grow (P := Tryz.prog) w 51 ty 5 i0 (.int .u8 0) Tryz.underlying51 hi hz0 ⟨g, 0, none⟩ n cap (bytesL n X) (by rw [bytesL_length, hz1, Nat.mul_one]) holds ad m c (bytesL m Y) (by rw [bytesL_length, hz1, Nat.mul_one]) (hnews ad rfl) (by omega) (by omega) (by rw [hz2]; exact growslice_fits (by omega) (by omega))
      exact ⟨_, _, hr, (grow_row (w := w) (cap := cap) (Y := Y) rfl hl).base hb, ⟨rfl, rfl, rfl, by simp, fun k hk _ => Below.heap_alloc w.drew _ k hk⟩, .inr rfl⟩
theorem wpList_append_rd {w : World} {ops : Array Oper} {rest : List Oper} {o : Oper} {a : Act} {Q : Exit → Act → World → Prop} (hgd : o.guard = none) (s x : Operand)
    (ho : o.op = .call { callee := .builtin .append, args := #[s, x], argTypes := #[51, 51] }) {base n B m c : Nat} {v : Value} {A : Option Addr} {X Y : Nat → Nat} (hs : a.eval s = v) (hx : a.eval x = .slice A m c)
    (hown : Own8 w base v n X) (hy : RdB w B A m Y) (h0 : A = none → c = 0) (hmc : m ≤ c) (hl : n + m ≤ 70368744177664) (hb : base ≤ w.heap.size)
    (h : ∀ v' w', Own8 w' base v' (n + m) (cat n X Y) → w.grownBy w' v.ownBlock → (v'.ownBlock = v.ownBlock ∨ v'.ownBlock = some w.heap.size) → wpList Tryz.prog ops Q rest (a.put o.dst v') w') : wpList Tryz.prog ops Q (o :: rest) a w := by
  refine wpList_plain hgd fun K hK => ?_
  obtain ⟨v', w', hrun, h1, h2, h3⟩ := run_append_rd o.type hown hy h0 hmc hl hb
  unfold Oper.wp execOp
  simp only [ho, resolve, invoke, builtin, Sem.run_bind, Sem.run_pure, Result.andThen_ok, List.map_toArray, List.map_cons, List.map_nil, hs, hx, hrun]
  exact hK _ _ (h v' w' h1 h2 h3)
theorem strB_data (n : Nat) (X : Nat → Nat) : (strB n X).data.toList = (List.range n).map fun j => UInt8.ofNat (X j) := by rw [← strB_list, ByteArray.toList_eq]
theorem strB_size (n : Nat) (X : Nat → Nat) : (strB n X).size = n := by
  have h := congrArg List.length (strB_data n X)
  rw [List.length_map, List.length_range, Array.length_toList] at h
  exact h
theorem strCells_strB (n : Nat) (X : Nat → Nat) (hX : ∀ j, j < n → X j < 256) : strCells (strB n X) = bytesL n X := by
  unfold strCells
  have e : (strB n X).data.toList = (List.range n).map fun j => UInt8.ofNat (X j) := by rw [← strB_list, ByteArray.toList_eq]
  rw [e, List.map_map]
  unfold bytesL
  apply List.map_congr_left
  intro j hj
  have := hX j (by simpa using hj)
  simp [UInt8.toNat_ofNat']
  omega
theorem run_append_txt {w : World} {base n m : Nat} {v : Value} {X Y : Nat → Nat} (ty : TypeId) (h : Own8 w base v n X) (hY : ∀ j, j < m → Y j < 256) (hl : n + m ≤ 70368744177664) (hb : base ≤ w.heap.size) :
    ∃ v' w', (Builtin.append_ #[51, 9] ty #[v, .string (strB m Y)]).run Tryz.prog w = .ok v' w' ∧ Own8 w' base v' (n + m) (cat n X Y) ∧ w.grownBy w' v.ownBlock := by
  obtain ⟨i0, hi, hz0, hz1, hz2⟩ := info_parts info8
  have hsz : ∀ w', (sizeOf 5).run Tryz.prog w' = .ok 1 w' := sizeOf_u8
  have hss := strB_size m Y
  have hsc := strCells_strB m Y hY
  have hfc : (Builtin.firstCells 1 m (.string (strB m Y))).run Tryz.prog w = .ok (bytesL m Y).toArray w := by
    have := run_firstCells_string (P := Tryz.prog) w 1 (strB m Y)
    rw [hss, hsc] at this
    exact this
  rcases h with ⟨rfl, rfl⟩ | ⟨g, cap, cur, fr, rfl, hg, hblk, hfr, h1, h2, h3, h4⟩
  · by_cases hm : m = 0
    · subst hm
      refine ⟨.slice none 0 0, w, ?_, .inl ⟨rfl, rfl⟩, World.grownBy.refl w _⟩
      simp [Builtin.append_, run_underlying Tryz.underlying51, run_underlying Tryz.underlying9, hsz, Builtin.lenOf, hss, hfc]
    · obtain ⟨v', w', e1, e2, e3, _⟩ := run_append_own_string (P := Tryz.prog) w base 51 9 ty 5 i0 Tryz.underlying51 Tryz.underlying9 hi hz0 hz1 hz2 (.slice none 0 0) 0 [] (World.ownsRow_nil w base 5 1) (strB m Y) (by rw [hss]; simp only [maxLen]; omega) (by rw [hss]; omega) hb
      rw [hss, hsc, List.nil_append] at e2
      refine ⟨v', w', e1, ?_, e3⟩
      rcases e2.2 with ⟨_, e⟩ | ⟨g, cap, cur, rfl, q1, q2, q3, q4, q5, q6⟩
      · omega
      · refine .inr ⟨g, cap, cur, (0, 0), rfl, q1, q2, .inl (Nat.le_refl _), q3, q4, by omega, fun j hj => ?_⟩
        have h5 := bytesL_get Y (show j < m by omega)
        rw [← q6, List.getElem?_take_of_lt (by omega), Array.getElem?_toList] at h5
        rw [h5]
        unfold cat
        rw [if_neg (by omega), Nat.sub_zero]
  · by_cases hroom : n + m ≤ cap
    · obtain ⟨w', cur', e1, e2, e3, e4, e5, e6⟩ := store_run g n 5 fr (bytesL m Y) 0 cur w hblk (by rw [h3]; exact hfr) (by rw [bytesL_length]; omega) bytesL_mem
      refine ⟨.slice (some ⟨g, 0, none⟩) (n + m) cap, w', ?_, .inr ⟨g, cap, cur', fr, rfl, hg, e2, hfr, hroom, h2, by omega, put_row h4 e4⟩, e5⟩
      simp [Builtin.append_, run_underlying Tryz.underlying51, run_underlying Tryz.underlying9, hsz, Builtin.lenOf, hss, hroom, hfc, Addr.add_lit, e1]
    · have holds : ∀ j u, (bytesL n X)[j]? = some u → w.cell? ((⟨g, 0, none⟩ : Addr).add j) = some u := fun j u hj => by
        have hjn : j < n := by have := (List.getElem?_eq_some_iff.1 hj).1; rw [bytesL_length] at this; exact this
        rw [bytesL_get X hjn] at hj
        injection hj with hj
        subst hj
        rw [add_plain, Nat.zero_add, cell_of_row _ _ _ _ _ _ hblk]
        exact h4 j hjn
      have hr := run_append_grow_string (P := Tryz.prog) w 51 9 ty 5 i0 (.int .u8 0) Tryz.underlying51 Tryz.underlying9 hi hz0 ⟨g, 0, none⟩ n cap (bytesL n X) (by rw [bytesL_length, hz1, Nat.mul_one]) holds (strB m Y) (by rw [hss]; omega) (by rw [hss]; omega) (by rw [hz2, hss]; exact growslice_fits (by omega) (by omega))
      rw [hss, hsc] at hr
      exact ⟨_, _, hr, (grow_row (w := w) (cap := cap) (Y := Y) rfl hl).base hb, ⟨rfl, rfl, rfl, by simp, fun k hk _ => Below.heap_alloc w.drew _ k hk⟩⟩
theorem wpList_append_txt {w : World} {ops : Array Oper} {rest : List Oper} {o : Oper} {a : Act} {Q : Exit → Act → World → Prop} (hgd : o.guard = none) (s x : Operand)
    (ho : o.op = .call { callee := .builtin .append, args := #[s, x], argTypes := #[51, 9] }) {base n m : Nat} {v : Value} {X Y : Nat → Nat} (hs : a.eval s = v) (hx : a.eval x = .string (strB m Y))
    (hown : Own8 w base v n X) (hY : ∀ j, j < m → Y j < 256) (hl : n + m ≤ 70368744177664) (hb : base ≤ w.heap.size)
    (h : ∀ v' w', Own8 w' base v' (n + m) (cat n X Y) → w.grownBy w' v.ownBlock → wpList Tryz.prog ops Q rest (a.put o.dst v') w') : wpList Tryz.prog ops Q (o :: rest) a w := by
  refine wpList_plain hgd fun K hK => ?_
  obtain ⟨v', w', hrun, h1, h2⟩ := run_append_txt o.type hown hY hl hb
  unfold Oper.wp execOp
  simp only [ho, resolve, invoke, builtin, Sem.run_bind, Sem.run_pure, Result.andThen_ok, List.map_toArray, List.map_cons, List.map_nil, hs, hx, hrun]
  exact hK _ _ (h v' w' h1 h2)
/-- n bytes at the head of block g -/
def RowG (w : World) (g n : Nat) (X : Nat → Nat) : Prop := ∃ cs fr, w.heap[g]? = some (.cells cs 5 fr) ∧ freeTail fr cs.size ∧ ∀ j, j < n → cs[j]? = some (.int .u8 ((X j : Nat) : Int))
def upd (X : Nat → Nat) (k v : Nat) (j : Nat) : Nat := if j = k then v else X j
section
variable {w w' : World} {g n : Nat} {X : Nat → Nat}
theorem RowG.lt (h : RowG w g n X) : g < w.heap.size := by obtain ⟨cs, fr, hb, _⟩ := h; exact lt_of_heap hb
theorem RowG.cell (h : RowG w g n X) {j : Nat} (hj : j < n) : w.cell? ⟨g, j, none⟩ = some (.int .u8 ((X j : Nat) : Int)) := by
  obtain ⟨cs, fr, hb, _, hc⟩ := h
  rw [cell_of_row _ _ _ _ _ _ hb]
  exact hc j hj
theorem RowG.frozen (h : RowG w g n X) {j : Nat} (hj : j < n) : w.frozen? ⟨g, j, none⟩ = false := by
  obtain ⟨cs, fr, hb, hf, hc⟩ := h
  have hlt := (Array.getElem?_eq_some_iff.1 (hc j hj)).1
  unfold freeTail at hf
  simp only [World.frozen?, hb]
  simp
  omega
theorem RowG.rdb (h : RowG w g n X) (hX : ∀ j, j < n → X j < 256) {B : Nat} (hB : g < B) : RdB w B (some ⟨g, 0, none⟩) n X := fun j hj => ⟨g, 0, rfl, hB, by rw [Nat.zero_add]; exact h.cell hj, hX j hj⟩
theorem RowG.heap (h : RowG w g n X) (e : w'.heap[g]? = w.heap[g]?) : RowG w' g n X := by
  obtain ⟨cs, fr, hb, hc⟩ := h
  exact ⟨cs, fr, e.trans hb, hc⟩
theorem RowG.set (h : RowG w g n X) {k v : Nat} (hk : k < n) : RowG (w.setCell ⟨g, k, none⟩ (.int .u8 ((v : Nat) : Int))) g n (upd X k v) := by
  obtain ⟨cs, fr, hb, hf, hc⟩ := h
  refine ⟨cs.setIfInBounds k (.int .u8 ((v : Nat) : Int)), fr, ?_, by simpa using hf, fun j hj => ?_⟩
  · rw [setCell_eq_setRow w g k cs _ fr _ hb]
    exact setRow_heap w g cs _ _ fr hb
  have hk' := (Array.getElem?_eq_some_iff.1 (hc k hk)).1
  rw [Array.getElem?_setIfInBounds]
  unfold upd
  by_cases e : k = j
  · rw [if_pos e, if_pos hk', if_pos e.symm]
  · rw [if_neg e, if_neg (fun x => e x.symm)]
    exact hc j hj
theorem RowG.congr {Y : Nat → Nat} (h : RowG w g n X) (e : ∀ j, j < n → X j = Y j) : RowG w g n Y := by
  obtain ⟨cs, fr, hb, hf, hc⟩ := h
  exact ⟨cs, fr, hb, hf, fun j hj => by rw [← e j hj]; exact hc j hj⟩
theorem RowG.part {m : Nat} (h : RowG w g n X) (hm : m ≤ n) : RowG w g m X := by
  obtain ⟨cs, fr, hb, hf, hc⟩ := h
  exact ⟨cs, fr, hb, hf, fun j hj => hc j (by omega)⟩
theorem RowG.below {B : Nat} (h : RowG w g n X) (hb : Below B w w') (hg : g < B) : RowG w' g n X := h.heap (hb.block g hg)
theorem RowG.new_ (h : RowG w g n X) (hb : Below w.heap.size w w') : RowG w' g n X := h.below hb h.lt
theorem RowG.far (h : RowG w g n X) {p : Addr} (hp : g ≠ p.block) (u : Value) : RowG (w.setCell p u) g n X := h.heap (Below.heap_setCell w p u g hp)
theorem RowG.drewN (h : RowG w g n X) (k : Nat) : RowG (w.drewN k) g n X := h
theorem RowG.alloc (h : RowG w g n X) (o : Obj) : RowG (w.alloc o) g n X := h.heap (Below.heap_alloc w o g h.lt)
theorem RowG.of_blk {c : Nat} (h : Blk w g 5 (rowArr c X)) (hn : n ≤ c) : RowG w g n X := ⟨_, (0, 0), h, .inl (Nat.le_refl _), fun j hj => rowArr_get (by omega)⟩
theorem RowG.conv (h : RowG w g n X) (hX : ∀ j, j < n → X j < 256) (c : Nat) : (convert 51 9 (.slice (some ⟨g, 0, none⟩) n c)).run Tryz.prog w = .ok (.string (strB n X)) w := conv_rd (h.rdb hX (Nat.lt_succ_self g))
end
theorem Own8.row {w : World} {base n : Nat} {v : Value} {X : Nat → Nat} (h : Own8 w base v n X) (hn : 0 < n) : ∃ g c, v = .slice (some ⟨g, 0, none⟩) n c ∧ base ≤ g ∧ RowG w g n X ∧ n ≤ c ∧ c ≤ maxLen := by
  rcases h with ⟨rfl, rfl⟩ | ⟨g, cap, cur, fr, rfl, hg, hb, h0, h1, h2, h3, h4⟩
  · omega
  · exact ⟨g, cap, rfl, hg, ⟨cur, fr, hb, by rw [h3]; exact h0, h4⟩, h1, h2⟩
/-- the bytes f, of which those from k on are x, m of them -/
def put8 (f x : Nat → Nat) (k m j : Nat) : Nat := if k ≤ j ∧ j < k + m then x (j - k) else f j
/-- '[]byte(s)' -/
theorem conv_str (n : Nat) (X : Nat → Nat) (w : World) (hX : ∀ j, j < n → X j < 256) (hn : n ≤ maxLen) : ∃ c w', (convert 9 51 (.string (strB n X))).run Tryz.prog w = .ok (.slice (some ⟨w.heap.size, 0, none⟩) n c) w' ∧ Own8 w' w.heap.size (.slice (some ⟨w.heap.size, 0, none⟩) n c) n X ∧ Below w.heap.size w w' := by
  have hr := Lib.run_convert_string_bytes (P := Tryz.prog) w 9 51 5 (strB n X) Tryz.underlying9 Tryz.underlying51 Tryz.underlying5
  have hss := strB_size n X
  rw [hss] at hr
  have hge := grownCap_ge w n 0 5
  have hcm : grownCap w n 0 5 ≤ maxLen := grownCap_le_maxLen w n 0 5 hn
  have hs2 : (strB n X).data.size = n := hss
  have hsz : (Lib.bytesCells w 5 (strB n X)).size = grownCap w n 0 5 := by
    unfold Lib.bytesCells
    simp [hs2, hss]
    omega
  refine ⟨_, _, hr, .inr ⟨w.heap.size, grownCap w n 0 5, _, _, rfl, Nat.le_refl _, Lib.bytesWorld_at_new w 5 (strB n X), .inr (by rw [hsz]; exact Nat.le_refl _), hge, hcm, hsz, fun j hj => ?_⟩, ⟨rfl, rfl, rfl, by rw [Lib.bytesWorld_size]; omega, fun k hk => Lib.bytesWorld_at_old w 5 (strB n X) k hk⟩⟩
  have h1 := Lib.bytesWorld_cell w 5 (strB n X) j (by rw [hss]; exact hj)
  rw [cell_of_row _ _ _ _ _ _ (Lib.bytesWorld_at_new w 5 (strB n X))] at h1
  rw [h1, strB_data]
  have := hX j hj
  simp [List.getD_eq_getElem?_getD, hj, UInt8.toNat_ofNat']
  omega
theorem wpList_conv_str {w : World} {ops : Array Oper} {rest : List Oper} {o : Oper} {a : Act} {Q : Exit → Act → World → Prop} (hgd : o.guard = none) (x : Operand) (ho : o.op = .convert 9 51 x) {n : Nat} {X : Nat → Nat} (hx : a.eval x = .string (strB n X)) (hX : ∀ j, j < n → X j < 256) (hn : n ≤ maxLen)
    (h : ∀ c w', Own8 w' w.heap.size (.slice (some ⟨w.heap.size, 0, none⟩) n c) n X → Below w.heap.size w w' → wpList Tryz.prog ops Q rest (a.put o.dst (.slice (some ⟨w.heap.size, 0, none⟩) n c)) w') : wpList Tryz.prog ops Q (o :: rest) a w := by
  obtain ⟨c, w', hr, h1, h2⟩ := conv_str n X w hX hn
  refine wpList_plain hgd fun K hK => ?_
  unfold Oper.wp execOp
  simp only [ho, hx, hr, Sem.run_bind, Sem.run_pure, Result.andThen_ok]
  exact hK _ _ (h c w' h1 h2)
end Go.Proofs.YthioanenljpclaaGreatDoor
