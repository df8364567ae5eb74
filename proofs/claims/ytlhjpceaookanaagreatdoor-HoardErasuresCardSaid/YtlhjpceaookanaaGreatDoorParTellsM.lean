/-
  Rows of bytes that a law collects one by one: what they hold, what one row more makes of them. No conditions beyond those that each theorem types.
-/
import Derived.Test.YtlhjpceaookanaaGreatDoorParGrowM
import Derived.Test.YtlhjpceaookanaaGreatDoorParKnownM
import Derived.Test.YtlhjpceaookanaaGreatDoorArrCallsM
import Derived.IntWalk
namespace Go.Proofs.YtlhjpceaookanaaGreatDoor
open Go Go.RowKit
set_option maxRecDepth 100000
set_option linter.unusedVariables false

theorem wpList_append_hd {w : World} {ops : Array Oper} {rest : List Oper} {o : Oper} {a : Act} {Q : Exit → Act → World → Prop} (hgd : o.guard = none) (s x : Operand)
    (ho : o.op = .call { callee := .builtin .append, args := #[s, x], argTypes := #[77, 77] }) {base n B m c : Nat} {v : Value} {A : Option Addr} {X Y : Nat → Hd} (hs : a.eval s = v) (hx : a.eval x = .slice A m c)
    (hown : OwnS w base v n X) (hy : RdH w B A m Y) (h0 : A = none → c = 0) (hmc : m ≤ c) (hl : n + m ≤ 100000) (hb : base ≤ w.heap.size)
    (h : ∀ v' w', OwnS w' base v' (n + m) (catS n X Y) → w.grownBy w' v.ownBlock → (v'.ownBlock = v.ownBlock ∨ v'.ownBlock = some w.heap.size) → wpList Tryz.prog ops Q rest (a.put o.dst v') w') : wpList Tryz.prog ops Q (o :: rest) a w := by
  refine wpList_plain hgd fun K hK => ?_
  obtain ⟨v', w', hrun, h1, h2, h3⟩ := run_append_hd o.type hown hy h0 hmc hl hb
  unfold Oper.wp execOp
  simp only [ho, resolve, invoke, builtin, Sem.run_bind, Sem.run_pure, Result.andThen_ok, List.map_toArray, List.map_cons, List.map_nil, hs, hx, hrun]
  exact hK _ _ (h v' w' h1 h2 h3)
theorem OwnS.neG {w : World} {base n m g : Nat} {v : Value} {X : Nat → Hd} {x : Nat → Nat} (h : OwnS w base v n X) (hb : RowG w g m x) : some g ≠ v.ownBlock := fun e => by
  rcases h with ⟨rfl, _⟩ | ⟨g', cap, cur, fr, rfl, _, hg, _⟩
  · cases e
  · simp [Value.ownBlock] at e
    subst e
    obtain ⟨cs, fr2, hb, _⟩ := hb
    rw [hb] at hg
    injection hg with hg
    injection hg with _ hg _
    exact absurd hg (by decide)
theorem rdh_one (w : World) (A : Option Addr) (n c : Nat) : RdH (w.alloc (.cells #[.slice A n c] 36)) (w.heap.size + 1) (some ⟨w.heap.size, 0, none⟩) 1 (fun _ => (A, n, c)) := fun i hi => by
  obtain rfl : i = 0 := by omega
  refine ⟨w.heap.size, 0, rfl, by omega, ?_⟩
  rw [Nat.zero_add, (Blk.new w _ _).cell]
  rfl
theorem own_empty {w : World} {base : Nat} (hb : base ≤ w.heap.size) : Own8 (w.alloc (.cells #[] 5)) base (.slice (some ⟨w.heap.size, 0, none⟩) 0 0) 0 (fun _ => 0) :=
  .inr ⟨w.heap.size, 0, #[], (0, 0), rfl, hb, Blk.new w _ _, .inl (Nat.le_refl _), Nat.le_refl _, by simp [maxLen], rfl, fun j hj => absurd hj (by omega)⟩

theorem own_grown8 {w0 w w' : World} {base n : Nat} {v : Value} {X : Nat → Nat} (hb : Below base w0 w) (ho : Own8 w base v n X) (hg : w.grownBy w' v.ownBlock) (hs : base ≤ w.heap.size) : Below base w0 w' :=
  hb.trans ⟨hg.os, hg.tape, hg.output, hg.size, fun k hk => hg.block k (by omega) (fun e => by have := (ho.lt e.symm).2; omega)⟩

/-- i heads, each of a row of n bytes that stands alone -/
structure Cols (w : World) (base : Nat) (v : Value) (i n : Nat) (H : Nat → Hd) (R : Nat → Nat) (x : Nat → Nat → Nat) : Prop where
  own : OwnS w base v i H
  hd : ∀ j, j < i → ∃ c, H j = (some ⟨R j, 0, none⟩, n, c) ∧ n ≤ c ∧ c ≤ maxLen
  row : ∀ j, j < i → base ≤ R j ∧ RowG w (R j) n (x j)
  apart : ∀ j k, j < k → k < i → R j ≠ R k
theorem Cols.none_ (w : World) (base n : Nat) (H : Nat → Hd) (R : Nat → Nat) (x : Nat → Nat → Nat) : Cols w base (.slice none 0 0) 0 n H R x :=
  ⟨OwnS.nil _ _ _, fun j hj => absurd hj (by omega), fun j hj => absurd hj (by omega), fun j k _ hk => absurd hk (by omega)⟩
section
variable {w w' : World} {base i n : Nat} {v : Value} {H : Nat → Hd} {R : Nat → Nat} {x : Nat → Nat → Nat}
theorem Cols.below (h : Cols w base v i n H R x) {B : Nat} (hb : Below B w w') (hB : w.heap.size ≤ B) : Cols w' base v i n H R x :=
  ⟨h.own.below hb hB, h.hd, fun j hj => ⟨(h.row j hj).1, (h.row j hj).2.below hb (Nat.lt_of_lt_of_le (h.row j hj).2.lt hB)⟩, h.apart⟩
/-- one row more -/
theorem Cols.push {w2 : World} {v' : Value} {g c : Nat} {X : Nat → Nat} (h : Cols w base v i n H R x) (ho : OwnS w2 base v' (i + 1) (catS i H (fun _ => (some ⟨g, 0, none⟩, n, c)))) (hg : w.grownBy w2 v.ownBlock) (hr : RowG w g n X) (hb : base ≤ g) (hc : n ≤ c ∧ c ≤ maxLen) (hne : ∀ j, j < i → R j ≠ g) (hx : ∀ v, v < n → X v = x i v) :
    Cols w2 base v' (i + 1) n (catS i H (fun _ => (some ⟨g, 0, none⟩, n, c))) (fun j => if j = i then g else R j) x := by
  have q1 : ∀ j, j < i → (if j = i then g else R j) = R j := fun j hj => if_neg (by omega)
  have q2 : (if i = i then g else R i) = g := if_pos rfl
  refine ⟨ho, fun j hj => ?_, fun j hj => ?_, fun j k hjk hk => ?_⟩
  · unfold catS
    by_cases e : j < i
    · have e1 := q1 j e
      rw [if_pos e, e1]
      exact h.hd j e
    · obtain rfl : j = i := by omega
      rw [if_neg e, q2]
      exact ⟨c, rfl, hc⟩
  · by_cases e : j < i
    · obtain ⟨h1, h2⟩ := h.row j e
      have e1 := q1 j e
      rw [e1]
      exact ⟨h1, h2.heap (hg.block _ h2.lt (h.own.neG h2))⟩
    · obtain rfl : j = i := by omega
      rw [q2]
      exact ⟨hb, (hr.heap (hg.block _ hr.lt (h.own.neG hr))).congr hx⟩
  · by_cases e : k < i
    · have e1 := q1 j (by omega)
      have e2 := q1 k e
      rw [e1, e2]
      exact h.apart j k hjk e
    · obtain rfl : k = i := by omega
      have e1 := q1 j (by omega)
      rw [e1, q2]
      exact hne j (by omega)
theorem Cols.rdr (h : Cols w base v i n H R x) (hx : ∀ j, j < i → ∀ v, v < n → x j v < 256) : ∃ A c, v = .slice A i c ∧ i ≤ c ∧ c ≤ maxLen ∧ RdR w w.heap.size A i (fun j => (H j).1) (fun j => (H j).2.1) (fun j => (H j).2.2) x := by
  obtain ⟨A, c, rfl, h1, h2, h3, _⟩ := h.own.shape
  refine ⟨A, c, rfl, h2, h3, fun j hj => ?_⟩
  obtain ⟨b, o, q1, q2, q3⟩ := h1 j hj
  obtain ⟨cj, e, _⟩ := h.hd j hj
  obtain ⟨_, hr⟩ := h.row j hj
  refine ⟨b, o, q1, q2, q3, ?_⟩
  show RdB w w.heap.size (H j).1 (H j).2.1 (x j)
  rw [e]
  exact hr.rdb (fun v hv => hx j hj v hv) hr.lt
theorem Cols.len (h : Cols w base v i n H R x) {j : Nat} (hj : j < i) : (H j).2.1 = n := by
  obtain ⟨c, e, _⟩ := h.hd j hj
  rw [e]
theorem Cols.alike (h : Cols w base v i n H R x) (hi : 0 < i) (h1 : 1 ≤ n) (h2 : n ≤ 4096) : Alike i (fun j => (H j).2.1) :=
  ⟨by show 1 ≤ (H 0).2.1; rw [h.len hi]; exact h1, by show (H 0).2.1 ≤ 4096; rw [h.len hi]; exact h2, fun j hj => by
    show (H j).2.1 = (H 0).2.1
    rw [h.len hj, h.len hi]⟩
end
end Go.Proofs.YtlhjpceaookanaaGreatDoor
namespace Go.Proofs.YtlhjpceaookanaaGreatDoor
open Go Go.RowKit
set_option maxRecDepth 100000
set_option linter.unusedVariables false

set_option maxHeartbeats 400000 in
theorem rising_nil (n : Int) (w : World) : Calls Tryz.prog 110 #[.slice none 0 0, .int .i64 n] w fun e w' => e = .returned (.bool true) ∧ w = w' := by
  go_enter Tryz.func110, Tryz.ntmps110
  go_wp2
  go_loop [10] (fun x => x = .int .i64 ((0 : Nat) : Int)) (fun x => 0)
  case atStart => rfl
  case round =>
    obtain rfl := hrel
    go_wp2
    go_ret
    exact ⟨rfl, rfl⟩

set_option maxHeartbeats 400000 in
theorem fault_ok (k cd B : Nat) (A : Option Addr) (ra : Nat → Option Addr) (rl rc : Nat → Nat) (x : Nat → Nat → Nat) (w : World) (hr : RdR w B A k ra rl rc x) (hk : 4 ≤ k ∧ k ≤ 16) (ha : Alike k rl) :
    Calls Tryz.prog 97 #[.slice A k cd, .slice none 0 0] w fun e w' => e = .returned (.int .i64 0) ∧ w = w' := by
  have HA := Lib.hid ha
  have HR := Lib.hid hr
  obtain ⟨hk4, hk16⟩ := hk
  have t1 : ((k : Int) < 4) = False := by simp; omega
  have t2 : ((16 : Int) < (k : Int)) = False := by simp; omega
  have t3 : ((0 : Int) == (k : Int)) = false := by rw [beq_eq_false_iff_ne]; omega
  clear hr ha
  go_enter Tryz.func97, Tryz.ntmps97
  go_wp2_with fail
  refine (rising_nil _ _).mono ?_
  rintro e w1 ⟨rfl, rfl⟩
  go_wp2_with fail
  refine (alike_yes k cd B A ra rl rc x _ HR.out (by omega) (by omega) HA.out).mono ?_
  rintro e w1 ⟨rfl, rfl⟩
  go_wp2_with fail
  go_ret
  exact ⟨rfl, rfl⟩

set_option maxHeartbeats 400000 in
theorem fault_bad (k cd B : Nat) (A : Option Addr) (ra : Nat → Option Addr) (rl rc : Nat → Nat) (x : Nat → Nat → Nat) (w : World) (hr : RdR w B A k ra rl rc x) (hn : ¬ (4 ≤ k ∧ k ≤ 16 ∧ Alike k rl)) :
    Calls Tryz.prog 97 #[.slice A k cd, .slice none 0 0] w fun e w' => e = .returned (.int .i64 1) ∧ w = w' := by
  have HN := Lib.hid hn
  have HR := Lib.hid hr
  clear hr hn
  by_cases h1 : k < 4
  · have t1 : ((k : Int) < 4) = True := by simp; omega
    go_enter Tryz.func97, Tryz.ntmps97
    go_wp2_with fail
    go_ret
    exact ⟨rfl, rfl⟩
  have t1 : ((k : Int) < 4) = False := by simp; omega
  by_cases h2 : 16 < k
  · have t2 : ((16 : Int) < (k : Int)) = True := by simp; omega
    go_enter Tryz.func97, Tryz.ntmps97
    go_wp2_with fail
    go_ret
    exact ⟨rfl, rfl⟩
  have t2 : ((16 : Int) < (k : Int)) = False := by simp; omega
  have t3 : ((0 : Int) == (k : Int)) = false := by rw [beq_eq_false_iff_ne]; omega
  go_enter Tryz.func97, Tryz.ntmps97
  go_wp2_with fail
  refine (rising_nil _ _).mono ?_
  rintro e w1 ⟨rfl, rfl⟩
  go_wp2_with fail
  refine (alike_no k cd B A ra rl rc x _ HR.out (by omega) (by omega) (fun h => HN.out ⟨by omega, by omega, h⟩)).mono ?_
  rintro e w1 ⟨rfl, rfl⟩
  go_wp2_with fail
  go_ret
  exact ⟨rfl, rfl⟩

set_option maxHeartbeats 400000 in
theorem equal_yes (n c c2 B B2 : Nat) (A A2 : Option Addr) (X Y : Nat → Nat) (w : World) (hx : RdB w B A n X) (hy : RdB w B2 A2 n Y) (he : ∀ j, j < n → X j = Y j) :
    Calls Tryz.prog 41 #[.slice A n c, .slice A2 n c2] w fun e w' => e = .returned (.bool true) ∧ w = w' := by
  have S1 := conv_rd (cap := c) hx
  have S2 := conv_rd (cap := c2) hy
  rw [← strB_congr he] at S2
  clear hx hy
  generalize strB n X = s at *
  go_enter Tryz.func41, Tryz.ntmps41
  go_wp2_with fail
  go_ret
  exact ⟨rfl, rfl⟩
set_option maxHeartbeats 400000 in
theorem equal_no (n c c2 B B2 : Nat) (A A2 : Option Addr) (X Y : Nat → Nat) (w : World) (hx : RdB w B A n X) (hy : RdB w B2 A2 n Y) (he : ¬ ∀ j, j < n → X j = Y j) :
    Calls Tryz.prog 41 #[.slice A n c, .slice A2 n c2] w fun e w' => e = .returned (.bool false) ∧ w = w' := by
  have S1 := conv_rd (cap := c) hx
  have S2 := conv_rd (cap := c2) hy
  have hne : ((strB n X).toList == (strB n Y).toList) = false := beq_eq_false_iff_ne.2 fun h => he (strB_inj (fun j hj => by obtain ⟨_, _, _, _, _, q⟩ := hx j hj; exact q) (fun j hj => by obtain ⟨_, _, _, _, _, q⟩ := hy j hj; exact q) h).2
  clear hx hy he
  generalize strB n X = s at *
  generalize strB n Y = t at *
  go_enter Tryz.func41, Tryz.ntmps41
  go_wp2_with fail
  go_ret
  exact ⟨rfl, rfl⟩

theorem least_p {k : Nat} {p : Nat → Prop} (h : ¬ ∀ i, i < k → p i) : ∃ i0, i0 < k ∧ ¬ p i0 ∧ ∀ i, i < i0 → p i := by
  induction k with
  | zero => exact absurd (fun i hi => absurd hi (by omega)) h
  | succ k ih =>
    by_cases h1 : ∀ i, i < k → p i
    · refine ⟨k, by omega, fun e => h fun i hi => ?_, h1⟩
      by_cases e2 : i = k
      · rw [e2]; exact e
      · exact h1 i (by omega)
    · obtain ⟨i0, a, b, c⟩ := ih h1
      exact ⟨i0, by omega, b, c⟩
theorem SumsAt.rdr {w0 w : World} {b n k : Nat} {x : Nat → Nat → Nat} {R : Nat → Nat} (h : SumsAt w0 w b n k 3 x R) :
    RdR w w.heap.size (some ⟨w0.heap.size, 0, none⟩) 3 (fun i => some ⟨R i, 0, none⟩) (fun _ => n) (fun _ => n) (fun i v => M.par k i x v) := by
  intro i hi
  obtain ⟨h1, h2⟩ := h.row i hi
  have hc := h.head.cell i
  rw [hdP_get hi, if_pos hi] at hc
  exact ⟨_, _, rfl, h.head.lt, by rw [Nat.zero_add]; exact hc, h2.rdb (fun v _ => M.par_lt _ _ _ _) h2.lt⟩

/-- Are the last three columns the parities of the others? -/
def Tells (m : Nat) (n : Nat) (x : Nat → Nat → Nat) (j : Nat) : Prop := ∀ v, v < n → M.par m j x v = x (m + j) v

end Go.Proofs.YtlhjpceaookanaaGreatDoor
namespace Go.Proofs.YtlhjpceaookanaaGreatDoor
open Go Go.RowKit
set_option maxRecDepth 100000
set_option linter.unusedVariables false

section
variable {w w' : World} {base i n : Nat} {v : Value} {H : Nat → Hd} {R : Nat → Nat} {x : Nat → Nat → Nat}
theorem Cols.lower (h : Cols w base v i n H R x) {b : Nat} (hb : b ≤ base) : Cols w b v i n H R x :=
  ⟨h.own.base hb, h.hd, fun j hj => ⟨Nat.le_trans hb (h.row j hj).1, (h.row j hj).2⟩, h.apart⟩
theorem Cols.drew (h : Cols w base v i n H R x) : Cols w.drew base v i n H R x := ⟨h.own, h.hd, h.row, h.apart⟩
def updR (x : Nat → Nat → Nat) (j k u : Nat) (j' : Nat) : Nat → Nat := if j' = j then upd (x j) k u else x j'
/-- one byte of one row is stored -/
theorem Cols.set (h : Cols w base v i n H R x) {j k u : Nat} (hj : j < i) (hk : k < n) : Cols (w.setCell ⟨R j, k, none⟩ (.int .u8 ((u : Nat) : Int))) base v i n H R (updR x j k u) := by
  obtain ⟨h1, h2⟩ := h.row j hj
  refine ⟨h.own.keep fun g hg => Below.heap_setCell w _ _ g (fun e => h.own.neG h2 (by rw [hg, e])), h.hd, fun j' hj' => ?_, h.apart⟩
  obtain ⟨h3, h4⟩ := h.row j' hj'
  refine ⟨h3, ?_⟩
  unfold updR
  by_cases e : j' = j
  · rw [if_pos e, e]; exact h2.set hk
  · rw [if_neg e]
    refine h4.far (p := ⟨R j, k, none⟩) ?_ _
    show R j' ≠ R j
    by_cases e2 : j' < j
    · exact h.apart j' j e2 hj
    · exact (h.apart j j' (by omega) hj').symm
/-- the rows of another are appended -/
theorem Cols.join {w2 : World} {v' v2 : Value} {i2 : Nat} {H2 : Nat → Hd} {R2 : Nat → Nat} {y : Nat → Nat → Nat} (h : Cols w base v i n H R x) (h2 : Cols w base v2 i2 n H2 R2 y) (ho : OwnS w2 base v' (i + i2) (catS i H H2)) (hg : w.grownBy w2 v.ownBlock) (hne : ∀ j j2, j < i → j2 < i2 → R j ≠ R2 j2) :
    Cols w2 base v' (i + i2) n (catS i H H2) (fun j => if j < i then R j else R2 (j - i)) (fun j => if j < i then x j else y (j - i)) := by
  have q1 : ∀ j, j < i → (if j < i then R j else R2 (j - i)) = R j := fun j hj => if_pos hj
  have q2 : ∀ j, ¬ j < i → (if j < i then R j else R2 (j - i)) = R2 (j - i) := fun j hj => if_neg hj
  refine ⟨ho, fun j hj => ?_, fun j hj => ?_, fun j k hjk hk => ?_⟩
  · unfold catS
    by_cases e : j < i
    · rw [if_pos e, q1 j e]
      exact h.hd j e
    · rw [if_neg e, q2 j e]
      exact h2.hd (j - i) (by omega)
  · show base ≤ (if j < i then R j else R2 (j - i)) ∧ RowG w2 (if j < i then R j else R2 (j - i)) n (if j < i then x j else y (j - i))
    by_cases e : j < i
    · obtain ⟨h3, h4⟩ := h.row j e
      rw [q1 j e, if_pos e]
      exact ⟨h3, h4.heap (hg.block _ h4.lt (h.own.neG h4))⟩
    · obtain ⟨h3, h4⟩ := h2.row (j - i) (by omega)
      rw [q2 j e, if_neg e]
      exact ⟨h3, h4.heap (hg.block _ h4.lt (h.own.neG h4))⟩
  · show (if j < i then R j else R2 (j - i)) ≠ (if k < i then R k else R2 (k - i))
    by_cases e : k < i
    · rw [q1 j (by omega), q1 k e]
      exact h.apart j k hjk e
    · by_cases e2 : j < i
      · rw [q1 j e2, q2 k e]
        exact hne j (k - i) e2 (by omega)
      · rw [q2 j e2, q2 k e]
        exact h2.apart (j - i) (k - i) (by omega) (by omega)
end
set_option maxHeartbeats 800000 in
theorem make_cols (k cd B : Nat) (A : Option Addr) (ra : Nat → Option Addr) (rl rc : Nat → Nat) (x : Nat → Nat → Nat) (w : World) (hr : RdR w B A k ra rl rc x) (hB : B ≤ w.heap.size) (hk0 : 0 < k) (hk : k ≤ 13) (ha : Alike k rl) :
    Calls Tryz.prog 68 #[.slice A k cd] w fun e w' => ∃ v R, e = .returned (.tuple #[v, .int .i64 0]) ∧ Cols w' w.heap.size v 3 (rl 0) (fun i => (some ⟨R i, 0, none⟩, rl 0, rl 0)) R (fun i v => M.par k i x v) ∧ Below w.heap.size w w' := by
  have HA := Lib.hid ha
  have HR := Lib.hid hr
  have hz := build_field
  have t1 : ((k : Int) < 1) = False := by simp; omega
  have t2 : ((13 : Int) < (k : Int)) = False := by simp; omega
  clear hr ha
  go_enter Tryz.func68, Tryz.ntmps68
  go_wp2_with fail
  refine (alike_yes k cd B A ra rl rc x _ HR.out hk0 (by omega) HA.out).mono ?_
  rintro e w1 ⟨rfl, rfl⟩
  go_wp2_with fail
  have F1 : Fld (w.alloc (.cells (fcells 0 0 0) 147)) w.heap.size := .inl (Blk.new _ _ _)
  have B1 : Below w.heap.size w (w.alloc (.cells (fcells 0 0 0) 147)) := (Below.refl _ _).alloc (Nat.le_refl _) _
  refine (sums_any w.heap.size (rl 0) k cd B A ra rl rc x _ F1 (HR.out.below B1 hB) HA.out.2.2 hk0 (by omega) hB HA.out.2.1 (Nat.le_trans hB B1.size)).mono ?_
  rintro e w3 ⟨rfl, R, H3⟩
  have HS := Lib.hid H3
  have HB := Lib.hid (B1.trans (H3.only.below (Nat.le_refl _) B1.size))
  clear H3 F1 B1
  go_wp2_with fail
  go_ret2
  refine ⟨_, R, rfl, ?_, HB.out⟩
  have s1 : (w.alloc (.cells (fcells 0 0 0) 147)).heap.size = w.heap.size + 1 := by simp
  have hh := HS.out.head
  rw [s1] at hh
  refine ⟨.inr ⟨w.heap.size + 1, 3, _, (0, 0), rfl, by omega, hh, .inl (Nat.le_refl _), Nat.le_refl _, by simp [maxLen], by simp [hdP], fun j hj => ?_⟩, fun j hj => ⟨rl 0, rfl, Nat.le_refl _, ?_⟩, fun j hj => ?_, HS.out.apart⟩
  · rw [hdP_get hj, if_pos hj]; rfl
  · have := HA.out.2.1; unfold maxLen; omega
  · obtain ⟨h1, h2⟩ := HS.out.row j hj
    rw [s1] at h1
    exact ⟨by omega, h2⟩
theorem conv_u64 (a : Int) (w : World) : (convert 3 34 (.int .i64 a)).run Tryz.prog w = .ok (.int .u64 (IntKind.u64.wrap a)) w := by kernel_rfl
theorem conv_u64n (n : Nat) (h : n ≤ 9223372036854775807) (w : World) : (convert 3 34 (.int .i64 (n : Int))).run Tryz.prog w = .ok (.int .u64 (n : Int)) w := by
  rw [conv_u64, show IntKind.u64.wrap (n : Int) = (n : Int) by simp [IntKind.wrap, IntKind.bits, IntKind.signed]; omega]
theorem conv_i64 (a : Int) (w : World) : (convert 34 3 (.int .u64 a)).run Tryz.prog w = .ok (.int .i64 (IntKind.i64.wrap a)) w := by kernel_rfl
theorem conv_i64n (n : Nat) (h : n ≤ 9223372036854775807) (w : World) : (convert 34 3 (.int .u64 (n : Int))).run Tryz.prog w = .ok (.int .i64 (n : Int)) w := by
  rw [conv_i64, show IntKind.i64.wrap (n : Int) = (n : Int) by rw [IntKind.wrap_i64]; omega]
theorem quo_u64 (a b : Nat) (ha : a < 18446744073709551616) (hb : 0 < b) (w : World) : (binOp .quo 34 (.int .u64 (a : Int)) (.int .u64 (b : Int))).run Tryz.prog w = .ok (.int .u64 ((a / b : Nat) : Int)) w := by
  have h0 : ((b : Int) == 0) = false := by rw [beq_eq_false_iff_ne]; omega
  have h1 : IntKind.u64.wrap ((a : Int).tdiv (b : Int)) = ((a / b : Nat) : Int) := by rw [IntWalk.u64_quo _ _ (by omega), Int.natCast_ediv]
  have hne : ¬ (b : Int) = 0 := by omega
  have h2 : (binOp .quo 34 (.int .u64 (a : Int)) (.int .u64 (b : Int))).run Tryz.prog w = (if (b : Int) = 0 then (runtimePanic (.error "integer divide by zero") : Sem Value) else pure (.int .u64 (IntKind.u64.wrap ((a : Int).tdiv (b : Int))))).run Tryz.prog w := rfl
  rw [h2, if_neg hne, h1]
  rfl
theorem rem_u64 (a b : Nat) (ha : a < 18446744073709551616) (hb : 0 < b) (w : World) : (binOp .rem 34 (.int .u64 (a : Int)) (.int .u64 (b : Int))).run Tryz.prog w = .ok (.int .u64 ((a % b : Nat) : Int)) w := by
  have h0 : ((b : Int) == 0) = false := by rw [beq_eq_false_iff_ne]; omega
  have h1 : (a : Int).tmod (b : Int) = ((a % b : Nat) : Int) := by rw [Int.tmod_eq_emod_of_nonneg (by omega), Int.natCast_emod]
  have hlt : a % b < b := Nat.mod_lt _ hb
  have hne : ¬ (b : Int) = 0 := by omega
  have h2 : (binOp .rem 34 (.int .u64 (a : Int)) (.int .u64 (b : Int))).run Tryz.prog w = (if (b : Int) = 0 then (runtimePanic (.error "integer divide by zero") : Sem Value) else pure (.int .u64 ((a : Int).tmod (b : Int)))).run Tryz.prog w := rfl
  rw [h2, if_neg hne, h1]
  rfl
/-- one byte of a data column has e added: parity 0 has it too -/
theorem par_turn (k : Nat) (x : Nat → Nat → Nat) (i v e : Nat) (hi : i < k) (he : e < 256) (hx : ∀ j, j < k → x j v < 256) : M.par k 0 (updR x i v (x i v ^^^ e)) v = M.par k 0 x v ^^^ e := by
  have h1 : M.par k 0 (updR x i v (x i v ^^^ e)) v = M.xsum k (fun j => M.gmul (M.pw (j * 0)) (x j v) ^^^ (if j = i then e else 0)) := by
    unfold M.par
    refine M.xsum_congr fun j hj => ?_
    unfold updR
    by_cases q : j = i
    · rw [if_pos q, if_pos q, q]
      unfold upd
      rw [if_pos rfl, Nat.mul_zero, M.pw_zero, M.gmul_comm, M.gmul_one (M.xor_lt (hx i hi) he), M.gmul_comm, M.gmul_one (hx i hi)]
    · rw [if_neg q, if_neg q, Nat.xor_zero]
  rw [h1, M.xsum_xor, M.xsum_one k _ i hi (fun j _ hj => if_neg hj), if_pos rfl]
  rfl
theorem xor_same {a x : Nat} (h : a ^^^ x = a) : x = 0 := by
  have h2 := congrArg (fun y => a ^^^ y) h
  simpa [← Nat.xor_assoc] using h2
/-- the columns with their parities -/
def withP (k : Nat) (x : Nat → Nat → Nat) (j : Nat) : Nat → Nat := if j < k then x j else M.par k (j - k) x
theorem tells_same (k n i v : Nat) (x : Nat → Nat → Nat) : ∀ j, j < 3 → Tells k n (updR (withP k x) i v (withP k x i v ^^^ 0)) j := by
  have e : updR (withP k x) i v (withP k x i v ^^^ 0) = withP k x := by
    funext j u
    unfold updR
    by_cases q : j = i
    · rw [if_pos q, q, Nat.xor_zero]
      unfold upd
      by_cases q2 : u = v
      · rw [if_pos q2, q2]
      · rw [if_neg q2]
    · rw [if_neg q]
  rw [e]
  intro j hj u hu
  have e2 : withP k x (k + j) u = M.par k j x u := by unfold withP; rw [if_neg (by omega), show k + j - k = j by omega]
  rw [e2]
  unfold M.par
  exact M.xsum_congr fun l hl => by unfold withP; rw [if_pos hl]
theorem par_withP (k j : Nat) (x : Nat → Nat → Nat) (v : Nat) : M.par k j (withP k x) v = M.par k j x v := by
  unfold M.par
  exact M.xsum_congr fun l hl => by unfold withP; rw [if_pos hl]
theorem tells_not (k n i v e : Nat) (x : Nat → Nat → Nat) (hi : i < k + 3) (hv : v < n) (he : e < 256) (h0 : e ≠ 0) (hx : ∀ j, j < k → ∀ v, v < n → x j v < 256) : ¬ ∀ j, j < 3 → Tells k n (updR (withP k x) i v (withP k x i v ^^^ e)) j := by
  intro h
  by_cases q : i < k
  · have h1 := h 0 (by omega) v hv
    rw [par_turn k (withP k x) i v e q he (fun j hj => by unfold withP; rw [if_pos hj]; exact hx j hj v hv), par_withP] at h1
    have e2 : updR (withP k x) i v (withP k x i v ^^^ e) (k + 0) v = M.par k 0 x v := by
      unfold updR
      rw [if_neg (by omega)]
      unfold withP
      rw [if_neg (by omega), show k + 0 - k = 0 by omega]
    rw [e2] at h1
    exact h0 (xor_same h1)
  · have h1 := h (i - k) (by omega) v hv
    have e1 : M.par k (i - k) (updR (withP k x) i v (withP k x i v ^^^ e)) v = M.par k (i - k) x v := by
      rw [← par_withP k (i - k) x v]
      unfold M.par
      exact M.xsum_congr fun l hl => by unfold updR; rw [if_neg (by omega)]
    have e2 : updR (withP k x) i v (withP k x i v ^^^ e) (k + (i - k)) v = M.par k (i - k) x v ^^^ e := by
      rw [show k + (i - k) = i by omega]
      unfold updR
      rw [if_pos rfl]
      unfold upd
      rw [if_pos rfl]
      unfold withP
      rw [if_neg q]
    rw [e1, e2] at h1
    exact h0 (xor_same h1.symm)
end Go.Proofs.YtlhjpceaookanaaGreatDoor
