/-
  The walk of 'ParityBounds'. Conditions: the argument reads as rows of bytes.
-/
import Derived.Test.YtigclcnkmbokhaaParMend0
import Derived.Test.YtigclcnkmbokhaaParTells
import Derived.Test.YtigclcnkmbokhaaParKnown
import Derived.Test.YtigclcnkmbokhaaFieldArgs
import Derived.Test.YtigclcnkmbokhaaTakeTail
namespace Go.Proofs.Ytigclcnkmbokhaa
open Go Go.RowKit
set_option maxRecDepth 100000
set_option linter.unusedVariables false
theorem wpList_append_empty {w : World} {ops : Array Oper} {rest : List Oper} {o : Oper} {a : Act} {Q : Exit → Act → World → Prop} (hgd : o.guard = none) (s x : Operand)
    (ho : o.op = .call { callee := .builtin .append, args := #[s, x], argTypes := #[22, 22] }) {B m c g0 : Nat} {A : Option Addr} {Y : Nat → Hd} (hs : a.eval s = .slice (some ⟨g0, 0, none⟩) 0 0) (hx : a.eval x = .slice A m c)
    (hy : RdH w B A m Y) (hm0 : 0 < m) (hmc : m ≤ c) (hl : m ≤ 100000)
    (h : ∀ v' w', OwnS w' w.heap.size v' m Y → Below w.heap.size w w' → wpList Try.prog ops Q rest (a.put o.dst v') w') : wpList Try.prog ops Q (o :: rest) a w := by
  refine wpList_plain hgd fun K hK => ?_
  obtain ⟨v', w', hrun, h1, h2⟩ := run_append_empty o.type hy hm0 hmc hl
  unfold Oper.wp execOp
  simp only [ho, resolve, invoke, builtin, Sem.run_bind, Sem.run_pure, Result.andThen_ok, List.map_toArray, List.map_cons, List.map_nil, hs, hx]
  rw [hrun]
  exact hK _ _ (h v' w' h1 h2)
theorem RdR.heads {w : World} {B n : Nat} {A : Option Addr} {ra : Nat → Option Addr} {rl rc : Nat → Nat} {x : Nat → Nat → Nat} (h : RdR w B A n ra rl rc x) : RdH w B A n (fun i => (ra i, rl i, rc i)) := fun i hi => by
  obtain ⟨b, o, h1, h2, h3, _⟩ := h i hi
  exact ⟨b, o, h1, h2, h3⟩
theorem RdH.below {w w' : World} {B B' n : Nat} {A : Option Addr} {X : Nat → Hd} (h : RdH w B A n X) (hb : Below B' w w') (hB : B ≤ B') : RdH w' B A n X := fun i hi => by
  obtain ⟨b, o, h1, h2, h3⟩ := h i hi
  exact ⟨b, o, h1, h2, (hb.cell (p := ⟨b, o + i, none⟩) (by show b < B'; omega)).trans h3⟩
theorem Cols.heads {w : World} {base i n : Nat} {v : Value} {H : Nat → Hd} {R : Nat → Nat} {x : Nat → Nat → Nat} (h : Cols w base v i n H R x) : ∃ A c, v = .slice A i c ∧ i ≤ c ∧ c ≤ maxLen ∧ (A = none → c = 0) ∧ RdH w w.heap.size A i H := by
  obtain ⟨A, c, rfl, h1, h2, h3, _, h4⟩ := h.own.shape
  exact ⟨A, c, rfl, h2, h3, h4, h1⟩
theorem rdr_join {W : World} {B B3 k : Nat} {A : Option Addr} {ra : Nat → Option Addr} {rl rc : Nat → Nat} {x y : Nat → Nat → Nat} {H3 : Nat → Hd} (hh : RdH W W.heap.size A (k + 3) (catS k (fun i => (ra i, rl i, rc i)) H3))
    (hr : ∀ i, i < k → RdB W B (ra i) (rl i) (x i)) (hB : B ≤ W.heap.size) (h3 : ∀ i, i < 3 → RdB W B3 (H3 i).1 (H3 i).2.1 (y i)) (hB3 : B3 ≤ W.heap.size) :
    RdR W W.heap.size A (k + 3) (fun i => (catS k (fun i => (ra i, rl i, rc i)) H3 i).1) (fun i => (catS k (fun i => (ra i, rl i, rc i)) H3 i).2.1) (fun i => (catS k (fun i => (ra i, rl i, rc i)) H3 i).2.2) (fun j => if j < k then x j else y (j - k)) := by
  intro i hi
  obtain ⟨b, o, h1, h2, h4⟩ := hh i hi
  refine ⟨b, o, h1, h2, h4, ?_⟩
  show RdB W W.heap.size (catS k (fun i => (ra i, rl i, rc i)) H3 i).1 (catS k (fun i => (ra i, rl i, rc i)) H3 i).2.1 (if i < k then x i else y (i - k))
  unfold catS
  by_cases e : i < k
  · rw [if_pos e, if_pos e]
    exact (hr i e).mono hB
  · rw [if_neg e, if_neg e]
    exact (h3 (i - k) (by omega)).mono hB3
theorem rdz_one (w : World) (a : Int) : RdZ (w.alloc (.cells #[.int .i64 a] 3)) (w.heap.size + 1) (some ⟨w.heap.size, 0, none⟩) 1 (fun _ => a) := fun i hi => by
  obtain rfl : i = 0 := by omega
  refine ⟨w.heap.size, 0, rfl, by omega, ?_⟩
  rw [Nat.zero_add, (Blk.new w _ _).cell]
  rfl
theorem rdz_two (w : World) (a b : Int) : RdZ (w.alloc (.cells #[.int .i64 a, .int .i64 b] 3)) (w.heap.size + 1) (some ⟨w.heap.size, 0, none⟩) 2 (fun i => if i = 0 then a else b) := fun i hi => by
  refine ⟨w.heap.size, 0, rfl, by omega, ?_⟩
  rw [Nat.zero_add, (Blk.new w _ _).cell]
  match i, hi with
  | 0, _ => rfl
  | 1, _ => rfl
theorem rdz_four (w : World) : RdZ (w.alloc (.cells #[.int .i64 0, .int .i64 1, .int .i64 2, .int .i64 3] 3)) (w.heap.size + 1) (some ⟨w.heap.size, 0, none⟩) 4 (fun i => (i : Int)) := fun i hi => by
  refine ⟨w.heap.size, 0, rfl, by omega, ?_⟩
  rw [Nat.zero_add, (Blk.new w _ _).cell]
  match i, hi with
  | 0, _ => rfl
  | 1, _ => rfl
  | 2, _ => rfl
  | 3, _ => rfl
theorem rise_four {k : Nat} (hk : 4 ≤ k) : Rise 4 (fun i => (i : Int)) (k : Int) := fun i hi => by
  unfold prv
  by_cases e : i = 0
  · subst e; simp; omega
  · rw [if_neg e]
    show ((i - 1 : Nat) : Int) < (i : Int) ∧ (i : Int) < (k : Int)
    constructor <;> omega
namespace parityBounds

set_option maxHeartbeats 6400000 in
theorem walk (A : Option Addr) (k c : Nat) (ra : Nat → Option Addr) (rl rc : Nat → Nat) (x : Nat → Nat → Nat) (w : World)
    (hr : RdR w w.heap.size A k ra rl rc x) (hl : k ≤ c) (hm : c ≤ maxLen) (hc : ∀ i, i < k → rl i ≤ rc i ∧ rc i ≤ maxLen) :
    Calls Try.prog 10 #[.slice A k c] w fun e w' => e = .returned (.bool true) ∧ Below w.heap.size w w' := by
  have HR := Lib.hid hr
  have hkm : k ≤ maxLen := Nat.le_trans hl hm
  clear hr hc
  go_enter Try.func10, Try.ntmps10
  go_wp2_with fail
  refine (known_any _).mono ?_
  rintro e0 w1 ⟨rfl, hb1⟩
  have B1 := Lib.hid hb1
  have R1 := Lib.hid (HR.out.below hb1 (Nat.le_refl _))
  clear hb1
  go_wp2_with fail
  refine (small_any k c w.heap.size A ra rl rc x _ R1.out hkm).mono ?_
  rintro e0 w2 ⟨hs, rfl⟩
  rcases hs with rfl | rfl
  · go_wp2_with fail
    refine (known_any _).mono ?_
    rintro e w3 ⟨rfl, hb3⟩
    have B3 := Lib.hid (B1.out.trans (hb3.mono B1.out.size))
    clear hb3
    go_wp2_with fail
    go_ret
    exact ⟨rfl, B3.out⟩
  go_wp2_with fail
  by_cases hok : 0 < k ∧ k ≤ 13 ∧ Alike k rl
  case neg =>
    refine (make_no k c w.heap.size A ra rl rc x _ R1.out hok).mono ?_
    rintro e0 w3 ⟨rfl, rfl⟩
    clear hok
    go_wp2_with fail
    go_ret
    exact ⟨rfl, B1.out⟩
  obtain ⟨hk0, hk13, hal⟩ := hok
  refine (make_cols k c w.heap.size A ra rl rc x _ R1.out B1.out.size hk0 hk13 hal).mono ?_
  rintro e0 w3 ⟨v3, R3, rfl, hp3, hb3⟩
  obtain ⟨n, hn⟩ : ∃ n, n = rl 0 := ⟨_, rfl⟩
  rw [← hn] at hp3
  have HLA : Hid (∀ i, i < k → rl i = n) := fun i hi => by rw [hn]; exact hal.2.2 i hi
  have hn1 : 1 ≤ n := by rw [hn]; exact hal.1
  have hn2 : n ≤ 4096 := by rw [hn]; exact hal.2.1
  have B3 := Lib.hid (B1.out.trans (hb3.mono B1.out.size))
  have X3 := Lib.hid (R1.out.below (hb3.mono B1.out.size) (Nat.le_refl _))
  obtain ⟨A3, c3, rfl, hc3, hc3m, hn3, hh3⟩ := hp3.heads
  have P3 := Lib.hid hp3
  have H3 := Lib.hid hh3
  have N3 := Lib.hid hn3
  have s03 := B3.out.size
  obtain ⟨b0, o0, rfl, _⟩ := X3.out 0 hk0
  have L4 : Hid (Below w3.heap.size w3 (w3.alloc (.cells #[] 34))) := Lib.hid ((Below.refl _ _).alloc (Nat.le_refl _) _)
  have H0 := Lib.hid (X3.out.heads.below L4.out s03)
  unfold maxLen at hm hkm
  clear hal hp3 hb3 B1 R1 hn HR hh3 hn3
  go_wp2_with ((with_reducible refine wpList_append_empty rfl (.tmp 29) (.tmp 30) rfl rfl rfl H0.out hk0 hl (by omega) ?_); intro v4 w4 ho4 hb4; refine of_hid ?_)
  refine Lib.hid ?_
  have s4 : w3.heap.size ≤ (w3.alloc (.cells #[] 34)).heap.size := L4.out.size
  have O4 := Lib.hid (ho4.base s4)
  have L5 := Lib.hid (L4.out.trans (hb4.mono s4))
  have s5 := L5.out.size
  have H5 := Lib.hid (H3.out.below L5.out (Nat.le_refl _))
  clear ho4 hb4 s4 L4 H0
  go_wp2_with ((with_reducible refine wpList_append_hd rfl (.tmp 31) (.tmp 32) rfl rfl rfl O4.out H5.out N3.out hc3 (by omega) s5 ?_); intro v6 w6 ho6 hg6 he6; refine of_hid ?_)
  refine Lib.hid ?_
  have L6 := Lib.hid (own_rowS L5.out O4.out hg6 s5)
  have s6 := L6.out.size
  obtain ⟨A6, c6, rfl, hh6, hc6, hc6m, _, _⟩ := ho6.shape
  have X6 : RdR w6 w6.heap.size A6 (k + 3) _ _ _ _ := rdr_join (B := w.heap.size) (B3 := w3.heap.size) hh6 (fun i hi => by obtain ⟨_, _, _, _, _, q⟩ := (X3.out.below L6.out s03) i hi; exact q) (Nat.le_trans s03 s6) (y := fun i v => M.par k i x v) (fun i hi => (P3.out.row i hi).2.rdb (fun v _ => M.par_lt _ _ _ _) (P3.out.row i hi).2.lt |>.below L6.out (Nat.le_refl _)) s6
  obtain ⟨ra6, rl6, rc6, x6, X6, hal6, hn6⟩ : ∃ ra6 rl6 rc6 x6, RdR w6 w6.heap.size A6 (k + 3) ra6 rl6 rc6 x6 ∧ Alike (k + 3) rl6 ∧ ∀ i, i < k + 3 → rl6 i = n := by
    have h6 : ∀ i, i < k + 3 → (catS k (fun i => (ra i, rl i, rc i)) (fun i => ((some ⟨R3 i, 0, none⟩, n, n) : Hd)) i).2.1 = n := fun i hi => by
      unfold catS
      by_cases e : i < k
      · rw [if_pos e]; exact HLA.out i e
      · rw [if_neg e]
    exact ⟨_, _, _, _, X6, ⟨Nat.le_trans hn1 (Nat.le_of_eq (h6 0 (by omega)).symm), Nat.le_trans (Nat.le_of_eq (h6 0 (by omega))) hn2, fun i hi => (h6 i hi).trans (h6 0 (by omega)).symm⟩, h6⟩
  have X6 := Lib.hid X6
  have AL6 := Lib.hid hal6
  have LW := Lib.hid (B3.out.trans (L6.out.mono s03))
  clear ho6 hg6 he6 O4 L5 H5 H3 P3 N3 X3 B3 L6 hh6 hal6 HLA hn6
  go_wp2_with fail
  refine (rebuild_nil (k + 3) k c6 w6.heap.size A6 ra6 rl6 rc6 x6 _ X6.out (Nat.le_refl _) rfl hk0 (by omega) AL6.out).mono ?_
  rintro e0 w7 ⟨v7, H7, R7, rfl, hc7, hb7⟩
  have XL : Hid (∀ j, j < k + 3 → ∀ v, v < rl6 0 → x6 j v < 256) := fun j hj v hv => by
    obtain ⟨_, _, _, _, _, q⟩ := X6.out j hj
    rw [← AL6.out.2.2 j hj] at hv
    obtain ⟨_, _, _, _, _, q2⟩ := q v hv
    exact q2
  obtain ⟨A7, c7, rfl, hc7a, hc7m, hr7⟩ := hc7.rdr XL.out
  have E7 : Hid (∀ j, j < k + 3 → (H7 j).2.1 = rl6 0) := fun j hj => hc7.len hj
  have X7 := Lib.hid hr7
  have X67 := Lib.hid (X6.out.below hb7 (Nat.le_refl _))
  have s67 := hb7.size
  have s06 := LW.out.size
  have LW7 := Lib.hid (LW.out.trans (hb7.mono s06))
  have s07 := LW7.out.size
  clear hc7 hr7 hb7 LW X6 XL
  go_wp2_with fail
  obtain ⟨W8, hW8⟩ : ∃ W8, W8 = w7.alloc (.cells #[.int .i64 ((k : Int) + 3)] 3) := ⟨_, rfl⟩
  have Z8 := rdz_one w7 ((k : Int) + 3)
  rw [← hW8] at Z8 ⊢
  have L8 : Hid (Below w7.heap.size w7 W8) := by rw [hW8]; exact (Below.refl _ _).alloc (Nat.le_refl _) _
  have Z8' := Lib.hid Z8
  clear hW8 Z8
  refine (rebuild_err (k + 3) c6 1 1 A6 (some ⟨w7.heap.size, 0, none⟩) 1 W8 (by decide) (fault_order (k + 3) c6 0 1 1 _ A6 _ ra6 rl6 rc6 x6 _ W8 Z8'.out (by unfold maxLen; omega) (.inl fun h => by have h2 : ((k : Int) + 3) < ((k + 3 : Nat) : Int) := (h 0 (by omega)).2; omega) (by omega) (by omega))).mono ?_
  rintro e0 w8 ⟨rfl, rfl⟩
  clear Z8'
  go_wp2_with fail
  obtain ⟨W9, hW9⟩ : ∃ W9, W9 = W8.alloc (.cells #[.int .i64 1, .int .i64 0] 3) := ⟨_, rfl⟩
  have Z9 := rdz_two W8 1 0
  rw [← hW9] at Z9 ⊢
  have L9 : Hid (Below w7.heap.size w7 W9) := by rw [hW9]; exact L8.out.alloc L8.out.size _
  have Z9' := Lib.hid Z9
  clear hW9 Z9
  refine (rebuild_err (k + 3) c6 2 2 A6 (some ⟨W8.heap.size, 0, none⟩) 1 W9 (by decide) (fault_order (k + 3) c6 0 2 2 _ A6 _ ra6 rl6 rc6 x6 _ W9 Z9'.out (by unfold maxLen; omega) (.inl fun h => by have := (h 1 (by omega)).1; unfold prv at this; simp at this) (by omega) (by omega))).mono ?_
  rintro e0 w9 ⟨rfl, rfl⟩
  clear Z9' L8
  go_wp2_with fail
  obtain ⟨W10, hW10⟩ : ∃ W10, W10 = W9.alloc (.cells #[.int .i64 0, .int .i64 1, .int .i64 2, .int .i64 3] 3) := ⟨_, rfl⟩
  have Z10 := rdz_four W9
  rw [← hW10] at Z10 ⊢
  have L10 : Hid (Below w7.heap.size w7 W10) := by rw [hW10]; exact L9.out.alloc L9.out.size _
  have Z10' := Lib.hid Z10
  have X10 := Lib.hid (X67.out.below L10.out s67)
  have Y10 := Lib.hid (X7.out.below L10.out (Nat.le_refl _))
  have LF := Lib.hid (LW7.out.trans (L10.out.mono s07))
  clear hW10 Z10 L9 X67 X7 LW7
  have HSAME : Hid (∀ i, i < k + 3 → (H7 i).2.1 = rl6 i ∧ ∀ v, v < (H7 i).2.1 → x6 i v = x6 i v) := fun i hi => ⟨by rw [E7.out i hi, AL6.out.2.2 i hi], fun _ _ => rfl⟩
  have hk3 : k + 3 ≤ maxLen := by unfold maxLen; omega
  have HK3 := Lib.hid hk3
  clear hk3
  by_cases hk1 : k = 1
  · subst hk1
    refine (rebuild_err (1 + 3) c6 4 4 A6 (some ⟨W9.heap.size, 0, none⟩) 1 W10 (by decide) (fault_order (1 + 3) c6 0 4 4 _ A6 _ ra6 rl6 rc6 x6 _ W10 Z10'.out (by unfold maxLen; omega) (.inr rfl) (by omega) (by omega))).mono ?_
    rintro e0 w10 ⟨rfl, rfl⟩
    go_wp2_with fail
    refine (same_yes (1 + 3) c7 c6 _ _ A7 A6 _ _ _ _ _ _ _ _ W10 Y10.out X10.out (fun i hi => ⟨(HSAME.out i hi).1, fun _ _ => rfl⟩) HK3.out).mono ?_
    rintro e0 w11 ⟨rfl, nq, rfl⟩
    go_wp2_with fail
    go_ret
    exact ⟨rfl, below_drewN LF.out nq⟩
  · have hne : (((k : Int) + 3) == 4) = false := by rw [beq_eq_false_iff_ne]; omega
    refine (rebuild_err (k + 3) c6 4 4 A6 (some ⟨W9.heap.size, 0, none⟩) 4 W10 (by decide) (fault_many (k + 3) c6 _ 4 4 _ 4 A6 _ ra6 rl6 rc6 x6 _ W10 X10.out Z10'.out (by omega) (by unfold maxLen; omega) (rise_four (by omega)) ⟨by omega, fun j hj => rfl, fun h => absurd h (by omega)⟩ (by omega) (by omega) (by omega) (by omega) (by omega) (by omega) ⟨by rw [AL6.out.2.2 4 (by omega)]; exact AL6.out.1, by rw [AL6.out.2.2 4 (by omega)]; exact AL6.out.2.1, fun i hi _ => by rw [AL6.out.2.2 i hi, AL6.out.2.2 4 (by omega)]⟩)).mono ?_
    rintro e0 w10 ⟨rfl, rfl⟩
    go_wp2_with fail
    refine (same_yes (k + 3) c7 c6 _ _ A7 A6 _ _ _ _ _ _ _ _ W10 Y10.out X10.out (fun i hi => ⟨(HSAME.out i hi).1, fun _ _ => rfl⟩) HK3.out).mono ?_
    rintro e0 w11 ⟨rfl, nq, rfl⟩
    go_wp2_with fail
    go_ret
    exact ⟨rfl, below_drewN LF.out nq⟩
end parityBounds
end Go.Proofs.Ytigclcnkmbokhaa
