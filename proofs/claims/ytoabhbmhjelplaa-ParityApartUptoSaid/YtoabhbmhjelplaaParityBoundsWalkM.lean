/-
  The document's own answers for parities: 'even' where it says no, 'right' without a bad column, 'DocMake', 'DocCheck', each by a contract. Conditions: what is handed in reads as rows of bytes.
-/
import Derived.Test.YtoabhbmhjelplaaParRef
import Derived.Test.YtoabhbmhjelplaaParMend0
import Derived.Test.YtoabhbmhjelplaaParTells
import Derived.Test.YtoabhbmhjelplaaParKnown
import Derived.Test.YtoabhbmhjelplaaFieldArgsM
import Derived.Test.YtoabhbmhjelplaaDrawOpsM
namespace Go.Proofs.Ytoabhbmhjelplaa
open Go Go.RowKit
set_option maxRecDepth 100000
set_option linter.unusedVariables false

theorem slice_headR (b o n c N : Nat) (h1 : N ≤ c) (W : World) : (Instr.sliceAt 22 (.slice (some ⟨b, o, none⟩) n c) none (some (.int .i64 (N : Int))) none).run Try.prog W = .ok (.slice (some ⟨b, o, none⟩) N c) W := by
  have hu : Try.prog.underlying 22 = some (.slice (Try.prog.elem 22)) := by kernel_rfl
  have he : Try.prog.elem 22 = 31 := by kernel_rfl
  have hs : (sizeOf 31).run Try.prog W = .ok 1 W := by kernel_rfl
  rw [run_sliceAt_slice (P := Try.prog) (w := W) (h := hu), run_slice_h (P := Try.prog) (w := W) 22 (some ⟨b, o, none⟩) n c hu .i64 (N : Int) (by omega) (by omega), he, hs]
  simp [sliced, Addr.add, Result.andThen]
theorem add_int (a b : Nat) (h : a + b ≤ 9223372036854775807) (w : World) : (binOp .add 3 (.int .i64 (a : Int)) (.int .i64 (b : Int))).run Try.prog w = .ok (.int .i64 ((a + b : Nat) : Int)) w := by
  have e : IntKind.i64.wrap ((a : Int) + (b : Int)) = ((a + b : Nat) : Int) := by rw [IntKind.wrap_i64]; omega
  have h : (binOp .add 3 (.int .i64 (a : Int)) (.int .i64 (b : Int))).run Try.prog w = .ok (.int .i64 (IntKind.i64.wrap ((a : Int) + (b : Int)))) w := by kernel_rfl
  rw [h, e]
theorem neq_str (a b : ByteArray) (w : World) : (binOp .neq 9 (.string a) (.string b)).run Try.prog w = .ok (.bool (!(a.toList == b.toList))) w := by
  simp [binOp, Op.stringOp, bne]
theorem neq_str_same {n : Nat} {X Y : Nat → Nat} (h : ∀ v, v < n → X v = Y v) (w : World) : (binOp .neq 9 (.string (strB n X)) (.string (strB n Y))).run Try.prog w = .ok (.bool false) w := by
  rw [neq_str, strB_congr h, beq_self_eq_true]
  rfl
theorem neq_str_diff {m n j : Nat} {x : Nat → Nat → Nat} {Y : Nat → Nat} (h : ¬ ∀ v, v < n → M.par m j x v = Y v) (hy : ∀ v, v < n → Y v < 256) (w : World) : (binOp .neq 9 (.string (strB n (M.par m j x))) (.string (strB n Y))).run Try.prog w = .ok (.bool true) w := by
  have e : ((strB n (M.par m j x)).toList == (strB n Y).toList) = false := beq_eq_false_iff_ne.2 fun q => h (strB_inj (fun _ _ => M.par_lt _ _ _ _) hy q).2
  rw [neq_str, e]
  rfl

set_option maxHeartbeats 1600000 in
theorem even_no (k cd B : Nat) (A : Option Addr) (ra : Nat → Option Addr) (rl rc : Nat → Nat) (x : Nat → Nat → Nat) (w : World) (hr : RdR w B A k ra rl rc x) (hk0 : 0 < k) (hk : k ≤ 16) (ha : ¬ Alike k rl) :
    Calls Try.prog 13 #[.slice A k cd, .slice none 0 0] w fun e w' => e = .returned (.int .i64 (-1)) ∧ w = w' := by
  have HR := Lib.hid hr
  obtain ⟨i0, hi0, hgood, hbad⟩ : ∃ i0, 0 < i0 ∧ (∀ i, i < i0 → rl i = rl 0) ∧ ((i0 = k ∧ (rl 0 < 1 ∨ 4096 < rl 0)) ∨ (i0 < k ∧ rl i0 ≠ rl 0)) := by
    by_cases h : ∀ i, i < k → rl i = rl 0
    · refine ⟨k, hk0, h, .inl ⟨rfl, ?_⟩⟩
      by_cases h1 : rl 0 < 1
      · exact .inl h1
      · by_cases h2 : 4096 < rl 0
        · exact .inr h2
        · exact absurd ⟨by omega, by omega, h⟩ ha
    · obtain ⟨i0, a, b, c⟩ := least_p (p := fun i => rl i = rl 0) h
      refine ⟨i0, ?_, c, .inr ⟨a, b⟩⟩
      rcases Nat.eq_zero_or_pos i0 with e | e
      · exact absurd (by rw [e]) b
      · exact e
  have HG := Lib.hid hgood
  have HBAD := Lib.hid hbad
  have hik : i0 ≤ k := by rcases hbad with ⟨h, _⟩ | ⟨h, _⟩ <;> omega
  clear hr ha hgood hbad
  go_enter Try.func13, Try.ntmps13
  go_wp2_with fail
  go_loop [5, 6] (fun y t => ∃ i : Nat, i ≤ i0 ∧ t = .int .i64 i ∧ y = .int .i64 (if i = 0 then -1 else (rl 0 : Int))) (fun _ t => k - (intOf t).toNat)
  case atStart => exact ⟨0, by omega, rfl, rfl⟩
  case round =>
    obtain ⟨i, hi, rfl, rfl⟩ := hrel
    by_cases hlt : i < i0
    · have hltk : i < k := by omega
      obtain ⟨bx, ox, rfl, hbx, hcx, _⟩ := HR.out i hltk
      rw [HG.out i hlt] at hcx
      clear hbx
      by_cases hi00 : i = 0
      · subst hi00
        rw [if_pos rfl]
        rw [Nat.add_zero] at hcx
        generalize ra 0 = r1 at *
        generalize rc 0 = c1 at *
        generalize hn : rl 0 = n at *
        have HN := Lib.hid hn
        clear hn
        go_wp2_with fail
        refine (has_nil _ _).mono ?_
        rintro e w1 ⟨rfl, rfl⟩
        go_wp2_with fail
        go_round
        case rel => exact ⟨1, by omega, by go_num, rfl⟩
        case measure => simp [intOf]; omega
      · rw [if_neg hi00]
        generalize ra i = r1 at *
        generalize rc i = c1 at *
        generalize hn : rl 0 = n at *
        have HN := Lib.hid hn
        clear hn
        have h0n : (0 : Int) ≤ (n : Int) := by omega
        go_wp2_with fail
        refine (has_nil _ _).mono ?_
        rintro e w1 ⟨rfl, rfl⟩
        go_wp2_with fail
        go_round
        case rel => exact ⟨i + 1, by omega, by go_num, by rw [if_neg (by omega)]⟩
        case measure => simp [intOf]; omega
    · obtain rfl : i = i0 := by omega
      rw [if_neg (by omega)]
      rcases HBAD.out with ⟨hk2, hb⟩ | ⟨hk2, hb⟩
      · subst hk2
        generalize hn : rl 0 = n at *
        have HN := Lib.hid hn
        clear hn
        by_cases h1 : n < 1
        · have t1 : ((n : Int) < 1) = True := by simp; omega
          clear hb
          go_wp2_with fail
          go_ret
          exact ⟨rfl, rfl⟩
        · have t1 : ((n : Int) < 1) = False := by simp; omega
          have t2 : ((4096 : Int) < (n : Int)) = True := by simp; omega
          clear hb
          go_wp2_with fail
          go_ret
          exact ⟨rfl, rfl⟩
      · obtain ⟨bx, ox, rfl, hbx, hcx, _⟩ := HR.out i hk2
        have hne : (((rl i : Nat) : Int) != ((rl 0 : Nat) : Int)) = true := by rw [bne_iff_ne]; omega
        clear hbx hb
        generalize ra i = r1 at *
        generalize rc i = c1 at *
        generalize rl i = n1 at *
        generalize hn : rl 0 = n at *
        have HN := Lib.hid hn
        clear hn
        have h0n : (0 : Int) ≤ (n : Int) := by omega
        go_wp2_with fail
        refine (has_nil _ _).mono ?_
        rintro e w1 ⟨rfl, rfl⟩
        go_wp2_with fail
        go_ret
        exact ⟨rfl, rfl⟩

set_option maxHeartbeats 800000 in
theorem right_yes (k cd B : Nat) (A : Option Addr) (ra : Nat → Option Addr) (rl rc : Nat → Nat) (x : Nat → Nat → Nat) (w : World) (hr : RdR w B A k ra rl rc x) (hk : 4 ≤ k ∧ k ≤ 16) (ha : Alike k rl) :
    Calls Try.prog 12 #[.slice A k cd, .slice none 0 0] w fun e w' => e = .returned (.int .i64 0) ∧ w = w' := by
  have HA := Lib.hid ha
  have HR := Lib.hid hr
  obtain ⟨hk4, hk16⟩ := hk
  have t1 : ((k : Int) < 4) = False := by simp; omega
  have t2 : ((16 : Int) < (k : Int)) = False := by simp; omega
  clear hr ha
  go_enter Try.func12, Try.ntmps12
  go_wp2_with fail
  go_loop [5] (fun x => x = .int .i64 0) (fun _ => 0)
  case atStart => rfl
  case round =>
    obtain rfl := hrel
    go_wp2_with fail
    refine (even_yes k cd B A ra rl rc x _ HR.out (by omega) hk16 HA.out).mono ?_
    rintro e w1 ⟨rfl, rfl⟩
    have t3 : ((rl 0 : Int) < 0) = False := by simp
    go_wp2_with fail
    go_ret
    exact ⟨rfl, rfl⟩
set_option maxHeartbeats 800000 in
theorem right_no (k cd B : Nat) (A : Option Addr) (ra : Nat → Option Addr) (rl rc : Nat → Nat) (x : Nat → Nat → Nat) (w : World) (hr : RdR w B A k ra rl rc x) (hn : ¬ (4 ≤ k ∧ k ≤ 16 ∧ Alike k rl)) :
    Calls Try.prog 12 #[.slice A k cd, .slice none 0 0] w fun e w' => e = .returned (.int .i64 1) ∧ w = w' := by
  have HN := Lib.hid hn
  have HR := Lib.hid hr
  clear hr hn
  by_cases h1 : k < 4
  · have t1 : ((k : Int) < 4) = True := by simp; omega
    go_enter Try.func12, Try.ntmps12
    go_wp2_with fail
    go_ret
    exact ⟨rfl, rfl⟩
  have t1 : ((k : Int) < 4) = False := by simp; omega
  by_cases h2 : 16 < k
  · have t2 : ((16 : Int) < (k : Int)) = True := by simp; omega
    go_enter Try.func12, Try.ntmps12
    go_wp2_with fail
    go_ret
    exact ⟨rfl, rfl⟩
  have t2 : ((16 : Int) < (k : Int)) = False := by simp; omega
  go_enter Try.func12, Try.ntmps12
  go_wp2_with fail
  go_loop [5] (fun x => x = .int .i64 0) (fun _ => 0)
  case atStart => rfl
  case round =>
    obtain rfl := hrel
    go_wp2_with fail
    refine (even_no k cd B A ra rl rc x _ HR.out (by omega) (by omega) (fun h => HN.out ⟨by omega, by omega, h⟩)).mono ?_
    rintro e w1 ⟨rfl, rfl⟩
    go_wp2_with fail
    go_ret
    exact ⟨rfl, rfl⟩

end Go.Proofs.Ytoabhbmhjelplaa
namespace Go.Proofs.Ytoabhbmhjelplaa
open Go Go.RowKit
set_option maxRecDepth 100000
set_option linter.unusedVariables false
theorem wpList_append_empty {w : World} {ops : Array Oper} {rest : List Oper} {o : Oper} {a : Act} {Q : Exit → Act → World → Prop} (hgd : o.guard = none) (s x : Operand)
    (ho : o.op = .call { callee := .builtin .append, args := #[s, x], argTypes := #[22, 22] }) {B m c g0 : Nat} {A : Option Addr} {Y : Nat → Hd} (hs : a.eval s = .slice (some ⟨g0, 0, none⟩) 0 0) (hx : a.eval x = .slice A m c)
    (hy : RdH w B A m Y) (hm0 : 0 < m) (hmc : m ≤ c) (hl : m ≤ 100000)
    (h : ∀ v' w', OwnS w' w.heap.size v' m Y → Below w.heap.size w w' → wpList Try.prog ops Q rest (a.put o.dst v') w') : wpList Try.prog ops Q (o :: rest) a w := by
  refine wpList_plain hgd fun K hK => ?_
  obtain ⟨v', w', hrun, h1, h2⟩ := run_append_empty o.type hy hm0 hmc hl
  unfold Oper.wp execOp
  simp only [ho, resolve, invoke, builtin, Sem.run_bind, Sem.run_pure, Result.andThen_ok, List.map_toArray, List.map_cons, List.map_nil, hs, hx]
  rw [hrun]
  exact hK _ _ (h v' w' h1 h2)
theorem RdR.heads {w : World} {B n : Nat} {A : Option Addr} {ra : Nat → Option Addr} {rl rc : Nat → Nat} {x : Nat → Nat → Nat} (h : RdR w B A n ra rl rc x) : RdH w B A n (fun i => (ra i, rl i, rc i)) := fun i hi => by
  obtain ⟨b, o, h1, h2, h3, _⟩ := h i hi
  exact ⟨b, o, h1, h2, h3⟩
theorem RdH.below {w w' : World} {B B' n : Nat} {A : Option Addr} {X : Nat → Hd} (h : RdH w B A n X) (hb : Below B' w w') (hB : B ≤ B') : RdH w' B A n X := fun i hi => by
  obtain ⟨b, o, h1, h2, h3⟩ := h i hi
  exact ⟨b, o, h1, h2, (hb.cell (p := ⟨b, o + i, none⟩) (by show b < B'; omega)).trans h3⟩
theorem Cols.heads {w : World} {base i n : Nat} {v : Value} {H : Nat → Hd} {R : Nat → Nat} {x : Nat → Nat → Nat} (h : Cols w base v i n H R x) : ∃ A c, v = .slice A i c ∧ i ≤ c ∧ c ≤ maxLen ∧ (A = none → c = 0) ∧ RdH w w.heap.size A i H := by
  obtain ⟨A, c, rfl, h1, h2, h3, _, h4⟩ := h.own.shape
  exact ⟨A, c, rfl, h2, h3, h4, h1⟩
theorem rdr_join {W : World} {B B3 k : Nat} {A : Option Addr} {ra : Nat → Option Addr} {rl rc : Nat → Nat} {x y : Nat → Nat → Nat} {H3 : Nat → Hd} (hh : RdH W W.heap.size A (k + 3) (catS k (fun i => (ra i, rl i, rc i)) H3))
    (hr : ∀ i, i < k → RdB W B (ra i) (rl i) (x i)) (hB : B ≤ W.heap.size) (h3 : ∀ i, i < 3 → RdB W B3 (H3 i).1 (H3 i).2.1 (y i)) (hB3 : B3 ≤ W.heap.size) :
    RdR W W.heap.size A (k + 3) (fun i => (catS k (fun i => (ra i, rl i, rc i)) H3 i).1) (fun i => (catS k (fun i => (ra i, rl i, rc i)) H3 i).2.1) (fun i => (catS k (fun i => (ra i, rl i, rc i)) H3 i).2.2) (fun j => if j < k then x j else y (j - k)) := by
  intro i hi
  obtain ⟨b, o, h1, h2, h4⟩ := hh i hi
  refine ⟨b, o, h1, h2, h4, ?_⟩
  show RdB W W.heap.size (catS k (fun i => (ra i, rl i, rc i)) H3 i).1 (catS k (fun i => (ra i, rl i, rc i)) H3 i).2.1 (if i < k then x i else y (i - k))
  unfold catS
  by_cases e : i < k
  · rw [if_pos e, if_pos e]
    exact (hr i e).mono hB
  · rw [if_neg e, if_neg e]
    exact (h3 (i - k) (by omega)).mono hB3
theorem rdz_one (w : World) (a : Int) : RdZ (w.alloc (.cells #[.int .i64 a] 3)) (w.heap.size + 1) (some ⟨w.heap.size, 0, none⟩) 1 (fun _ => a) := fun i hi => by
  obtain rfl : i = 0 := by omega
  refine ⟨w.heap.size, 0, rfl, by omega, ?_⟩
  rw [Nat.zero_add, (Blk.new w _ _).cell]
  rfl
theorem rdz_two (w : World) (a b : Int) : RdZ (w.alloc (.cells #[.int .i64 a, .int .i64 b] 3)) (w.heap.size + 1) (some ⟨w.heap.size, 0, none⟩) 2 (fun i => if i = 0 then a else b) := fun i hi => by
  refine ⟨w.heap.size, 0, rfl, by omega, ?_⟩
  rw [Nat.zero_add, (Blk.new w _ _).cell]
  match i, hi with
  | 0, _ => rfl
  | 1, _ => rfl
theorem rdz_four (w : World) : RdZ (w.alloc (.cells #[.int .i64 0, .int .i64 1, .int .i64 2, .int .i64 3] 3)) (w.heap.size + 1) (some ⟨w.heap.size, 0, none⟩) 4 (fun i => (i : Int)) := fun i hi => by
  refine ⟨w.heap.size, 0, rfl, by omega, ?_⟩
  rw [Nat.zero_add, (Blk.new w _ _).cell]
  match i, hi with
  | 0, _ => rfl
  | 1, _ => rfl
  | 2, _ => rfl
  | 3, _ => rfl
theorem rise_four {k : Nat} (hk : 4 ≤ k) : Rise 4 (fun i => (i : Int)) (k : Int) := fun i hi => by
  unfold prv
  by_cases e : i = 0
  · subst e; simp; omega
  · rw [if_neg e]
    show ((i - 1 : Nat) : Int) < (i : Int) ∧ (i : Int) < (k : Int)
    constructor <;> omega
namespace parityBounds

end parityBounds
end Go.Proofs.Ytoabhbmhjelplaa
