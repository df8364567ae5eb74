/-
  The walk of 'ParitySums'. Conditions: the arguments read as rows of bytes.
-/
import Derived.Test.YtgljeeblkcmlmaaParKnown
import Derived.Test.YtgljeeblkcmlmaaParCols
import Derived.Test.YtgljeeblkcmlmaaFieldArgs
import Derived.Test.YtgljeeblkcmlmaaTakeTail
import Derived.Test.YtgljeeblkcmlmaaDrawSeq
import Derived.Test.YtgljeeblkcmlmaaFieldGauss
namespace Go.Proofs.Ytgljeeblkcmlmaa
open Go Go.RowKit
set_option maxRecDepth 100000
set_option linter.unusedVariables false
theorem len_rows (ty : TypeId) (A : Option Addr) (n c : Nat) (w : World) : (Builtin.len_ #[22] ty #[.slice A n c]).run Try.prog w = .ok (.int .i64 (n : Int)) w := by
  simp [Builtin.len_, Builtin.lenOf, goInt, run_underlying Try.underlying22]
theorem neq_int_t (a b : Nat) (h : a ≠ b) (w : World) : (binOp .neq 3 (.int .i64 (a : Int)) (.int .i64 (b : Int))).run Try.prog w = .ok (.bool true) w := by
  have e : (!((a : Int) == (b : Int))) = true := by
    rw [Bool.not_eq_true', beq_eq_false_iff_ne]; omega
  have h : (binOp .neq 3 (.int .i64 (a : Int)) (.int .i64 (b : Int))).run Try.prog w = .ok (.bool (!((a : Int) == (b : Int)))) w := by kernel_rfl
  rw [h, e]
theorem neq_int_f (a : Nat) (w : World) : (binOp .neq 3 (.int .i64 (a : Int)) (.int .i64 (a : Int))).run Try.prog w = .ok (.bool false) w := by
  have h : (binOp .neq 3 (.int .i64 (a : Int)) (.int .i64 (a : Int))).run Try.prog w = .ok (.bool (!((a : Int) == (a : Int)))) w := by kernel_rfl
  rw [h, beq_self_eq_true]
  rfl
theorem neq_int_same {a b : Nat} (h : a = b) (w : World) : (binOp .neq 3 (.int .i64 (a : Int)) (.int .i64 (b : Int))).run Try.prog w = .ok (.bool false) w := by
  subst h
  exact neq_int_f a w
theorem neq_u8_same {a b : Nat} (h : a = b) (w : World) : (binOp .neq 5 (.int .u8 (a : Int)) (.int .u8 (b : Int))).run Try.prog w = .ok (.bool false) w := by
  subst h
  have h : (binOp .neq 5 (.int .u8 (a : Int)) (.int .u8 (a : Int))).run Try.prog w = .ok (.bool (!((a : Int) == (a : Int)))) w := by kernel_rfl
  rw [h, beq_self_eq_true]
  rfl
theorem index_rows (b o n c i : Nat) (h : i < n) (w : World) : (Instr.indexAt 22 (.slice (some ⟨b, o, none⟩) n c) (.int .i64 (i : Int))).run Try.prog w = .ok (.pointer (some ⟨b, o + i, none⟩)) w :=
  index_slice (P := Try.prog) (t := 22) (e := 34) Try.underlying22 (by kernel_rfl) b o n c i h w
theorem index_rows_zero (b n c i : Nat) (h : i < n) (w : World) : (Instr.indexAt 22 (.slice (some ⟨b, 0, none⟩) n c) (.int .i64 (i : Int))).run Try.prog w = .ok (.pointer (some ⟨b, i, none⟩)) w := by
  have h := index_rows b 0 n c i h w
  rw [Nat.zero_add] at h
  exact h
theorem index_bytes (b o n c i : Nat) (h : i < n) (w : World) : (Instr.indexAt 34 (.slice (some ⟨b, o, none⟩) n c) (.int .i64 (i : Int))).run Try.prog w = .ok (.pointer (some ⟨b, o + i, none⟩)) w :=
  index_slice (P := Try.prog) (t := 34) (e := 5) Try.underlying34 size_u8 b o n c i h w
theorem RdR.head {w : World} {B n i b o : Nat} {ra : Nat → Option Addr} {rl rc : Nat → Nat} {x : Nat → Nat → Nat} (h : RdR w B (some ⟨b, o, none⟩) n ra rl rc x) (hi : i < n) : b < B ∧ w.cell? ⟨b, o + i, none⟩ = some (.slice (ra i) (rl i) (rc i)) ∧ RdB w B (ra i) (rl i) (x i) := by
  obtain ⟨b', o', q, h1, h2, h3⟩ := h i hi
  injection q with q
  injection q with q1 q2
  subst q1; subst q2
  exact ⟨h1, h2, h3⟩
theorem RdB.at_ {w : World} {B n j b o : Nat} {x : Nat → Nat} (h : RdB w B (some ⟨b, o, none⟩) n x) (hj : j < n) : b < B ∧ w.cell? ⟨b, o + j, none⟩ = some (.int .u8 ((x j : Nat) : Int)) ∧ x j < 256 := by
  obtain ⟨b', o', q, h1, h2, h3⟩ := h j hj
  injection q with q
  injection q with q1 q2
  subst q1; subst q2
  exact ⟨h1, h2, h3⟩
theorem below_drew {B : Nat} {a w : World} (h : Below B a w) : Below B a w.drew := ⟨h.os, h.tape, h.output, h.size, h.block⟩
theorem RdR.of_par {w : World} {h n B : Nat} {R : Nat → Nat} {x : Nat → Nat → Nat} (hp : RdR w B (some ⟨h, 0, none⟩) 3 (fun i => some ⟨R i, 0, none⟩) (fun _ => n) (fun _ => n) x) {j v : Nat} (hj : j < 3) (hv : v < n) :
    w.cell? ⟨h, j, none⟩ = some (.slice (some ⟨R j, 0, none⟩) n n) ∧ w.cell? ⟨R j, v, none⟩ = some (.int .u8 ((x j v : Nat) : Int)) := by
  obtain ⟨_, h1, h2⟩ := hp.head hj
  obtain ⟨_, h3, _⟩ := h2.at_ hv
  rw [Nat.zero_add] at h1 h3
  exact ⟨h1, h3⟩
namespace paritySums

def mixX (X Y : Nat → Nat) (k j : Nat) : Nat := if j < k then X j ^^^ Y j else X j
theorem par_sum (k j : Nat) (x y : Nat → Nat → Nat) (v : Nat) (hx : ∀ i, i < k → x i v < 256) (hy : ∀ i, i < k → y i v < 256) : M.par k j (fun i v => x i v ^^^ y i v) v = M.par k j x v ^^^ M.par k j y v := by
  unfold M.par
  rw [← M.xsum_xor]
  exact M.xsum_congr fun i hi => M.gmul_xor (M.pw_any_lt _) (hx i hi) (hy i hi)

set_option maxHeartbeats 6400000 in
theorem walk (A : Option Addr) (k c : Nat) (ra : Nat → Option Addr) (rl rc : Nat → Nat) (x : Nat → Nat → Nat) (A2 : Option Addr) (k2 c2 : Nat) (rb : Nat → Option Addr) (sl sc : Nat → Nat) (y : Nat → Nat → Nat) (w : World)
    (hr : RdR w w.heap.size A k ra rl rc x) (hl : k ≤ c) (hm : c ≤ maxLen) (hc : ∀ i, i < k → rl i ≤ rc i ∧ rc i ≤ maxLen) (hs : RdR w w.heap.size A2 k2 rb sl sc y) (hl2 : k2 ≤ c2) (hm2 : c2 ≤ maxLen) (hc2 : ∀ i, i < k2 → sl i ≤ sc i ∧ sc i ≤ maxLen) :
    Calls Try.prog 8 #[.slice A k c, .slice A2 k2 c2] w fun e w' => e = .returned (.bool true) ∧ Below w.heap.size w w' := by
  have HR := Lib.hid hr
  have HC := Lib.hid hc
  have HR2 := Lib.hid hs
  have hkm : k ≤ maxLen := Nat.le_trans hl hm
  have hkm2 : k2 ≤ maxLen := Nat.le_trans hl2 hm2
  have HT : Hid True := trivial
  clear hr hc hs hc2
  go_enter Try.func8, Try.ntmps8
  go_wp2_with fail
  refine (known_any _).mono ?_
  rintro e w1 ⟨rfl, hb1⟩
  have B1 := Lib.hid hb1
  have R1 := Lib.hid (HR.out.below hb1 (Nat.le_refl _))
  have S1 := Lib.hid (HR2.out.below hb1 (Nat.le_refl _))
  clear hb1
  go_wp2_with fail
  refine (small_any k c w.heap.size A ra rl rc x _ R1.out hkm).mono ?_
  rintro e w2 ⟨hs, rfl⟩
  rcases hs with rfl | rfl
  · go_wp2_with fail
    refine (known_any _).mono ?_
    rintro e w3 ⟨rfl, hb3⟩
    have B3 := Lib.hid (B1.out.trans (hb3.mono B1.out.size))
    clear hb3
    go_wp2_with fail
    go_ret
    exact ⟨rfl, B3.out⟩
  go_wp2_with fail
  refine (small_any k2 c2 w.heap.size A2 rb sl sc y _ S1.out hkm2).mono ?_
  rintro e w2 ⟨hs, rfl⟩
  rcases hs with rfl | rfl
  · go_wp2_with fail
    refine (known_any _).mono ?_
    rintro e w3 ⟨rfl, hb3⟩
    have B3 := Lib.hid (B1.out.trans (hb3.mono B1.out.size))
    clear hb3
    go_wp2_with fail
    go_ret
    exact ⟨rfl, B3.out⟩
  go_wp2_with fail
  by_cases hok : 0 < k ∧ k ≤ 13 ∧ Alike k rl
  case neg =>
    refine (make_no k c w.heap.size A ra rl rc x _ R1.out hok).mono ?_
    rintro e w3 ⟨rfl, rfl⟩
    clear hok
    go_wp2_with fail
    by_cases hok2 : 0 < k2 ∧ k2 ≤ 13 ∧ Alike k2 sl
    case neg =>
      refine (make_no k2 c2 w.heap.size A2 rb sl sc y _ S1.out hok2).mono ?_
      rintro e w4 ⟨rfl, rfl⟩
      clear hok2
      go_wp2_with fail
      refine region_anyZ (fun _ : World => True) 24 (by kernel_rfl) ?_
      refine takeG 0 (.move (.tmp 6)) (some 40) none (.int .i64 1) (by kernel_rfl) (by kernel_rfl) (by kernel_rfl) (fun _ _ _ h => h) (fun o w e hS => exec_move w e (by kernel_rfl)) HT.out ?_
      refine takeG 1 (.binOp .neq 25 (.tmp 40) (.const (.int .i64 0)) 25) (some 41) none (.bool true) (by kernel_rfl) (by kernel_rfl) (by kernel_rfl) (fun _ _ _ h => h) (fun o w e hS => exec_bin (u1 := .int .i64 1) (u2 := (.int .i64 0)) w e (by kernel_rfl) (by kernel_rfl) (eqG_int ..) (by kernel_rfl)) HT.out ?_
      refine takeG 2 (.move (.tmp 41)) (some 42) none (.bool true) (by kernel_rfl) (by kernel_rfl) (by kernel_rfl) (fun _ _ _ h => h) (fun o w e hS => exec_move w e (by kernel_rfl)) HT.out ?_
      refine takeSkip 3 (.move (.tmp 8)) (some 43) (some (2, false)) (by kernel_rfl) (by kernel_rfl) (by kernel_rfl) (fun _ _ _ h => h) HT.out ?_
      refine takeSkip 4 (.binOp .neq 25 (.tmp 43) (.const (.int .i64 0)) 25) (some 44) (some (2, false)) (by kernel_rfl) (by kernel_rfl) (by kernel_rfl) (fun _ _ _ h => h) HT.out ?_
      refine takeG 5 (.pick (.tmp 42) (.const (Value.bool true)) (.tmp 44)) (some 45) none (.bool true) (by kernel_rfl) (by kernel_rfl) (by kernel_rfl) (fun _ _ _ h => h) (fun o w e hS => exec_pick (b := true) w e (by kernel_rfl) (by kernel_rfl)) HT.out ?_
      refine takeG 6 (.move (.tmp 45)) (some 46) none (.bool true) (by kernel_rfl) (by kernel_rfl) (by kernel_rfl) (fun _ _ _ h => h) (fun o w e hS => exec_move w e (by kernel_rfl)) HT.out ?_
      refine takeSkip 7 (.move (.tmp 0)) (some 47) (some (6, false)) (by kernel_rfl) (by kernel_rfl) (by kernel_rfl) (fun _ _ _ h => h) HT.out ?_
      refine takeSkip 8 (.call ⟨.builtin .len, #[(.tmp 47)], #[22]⟩) (some 48) (some (6, false)) (by kernel_rfl) (by kernel_rfl) (by kernel_rfl) (fun _ _ _ h => h) HT.out ?_
      refine takeSkip 9 (.move (.tmp 1)) (some 49) (some (6, false)) (by kernel_rfl) (by kernel_rfl) (by kernel_rfl) (fun _ _ _ h => h) HT.out ?_
      refine takeSkip 10 (.call ⟨.builtin .len, #[(.tmp 49)], #[22]⟩) (some 50) (some (6, false)) (by kernel_rfl) (by kernel_rfl) (by kernel_rfl) (fun _ _ _ h => h) HT.out ?_
      refine takeSkip 11 (.binOp .neq 3 (.tmp 48) (.tmp 50) 3) (some 51) (some (6, false)) (by kernel_rfl) (by kernel_rfl) (by kernel_rfl) (fun _ _ _ h => h) HT.out ?_
      refine takeG 12 (.pick (.tmp 46) (.const (Value.bool true)) (.tmp 51)) (some 52) none (.bool true) (by kernel_rfl) (by kernel_rfl) (by kernel_rfl) (fun _ _ _ h => h) (fun o w e hS => exec_pick (b := true) w e (by kernel_rfl) (by kernel_rfl)) HT.out ?_
      refine takeG 13 (.move (.tmp 52)) (some 53) none (.bool true) (by kernel_rfl) (by kernel_rfl) (by kernel_rfl) (fun _ _ _ h => h) (fun o w e hS => exec_move w e (by kernel_rfl)) HT.out ?_
      refine takeSkip 14 (.move (.tmp 0)) (some 54) (some (13, false)) (by kernel_rfl) (by kernel_rfl) (by kernel_rfl) (fun _ _ _ h => h) HT.out ?_
      refine takeSkip 15 (.indexAddr 22 (.tmp 54) (.const (.int .i64 0))) (some 55) (some (13, false)) (by kernel_rfl) (by kernel_rfl) (by kernel_rfl) (fun _ _ _ h => h) HT.out ?_
      refine takeSkip 16 (.load 34 (.tmp 55)) (some 56) (some (13, false)) (by kernel_rfl) (by kernel_rfl) (by kernel_rfl) (fun _ _ _ h => h) HT.out ?_
      refine takeSkip 17 (.call ⟨.builtin .len, #[(.tmp 56)], #[34]⟩) (some 57) (some (13, false)) (by kernel_rfl) (by kernel_rfl) (by kernel_rfl) (fun _ _ _ h => h) HT.out ?_
      refine takeSkip 18 (.move (.tmp 1)) (some 58) (some (13, false)) (by kernel_rfl) (by kernel_rfl) (by kernel_rfl) (fun _ _ _ h => h) HT.out ?_
      refine takeSkip 19 (.indexAddr 22 (.tmp 58) (.const (.int .i64 0))) (some 59) (some (13, false)) (by kernel_rfl) (by kernel_rfl) (by kernel_rfl) (fun _ _ _ h => h) HT.out ?_
      refine takeSkip 20 (.load 34 (.tmp 59)) (some 60) (some (13, false)) (by kernel_rfl) (by kernel_rfl) (by kernel_rfl) (fun _ _ _ h => h) HT.out ?_
      refine takeSkip 21 (.call ⟨.builtin .len, #[(.tmp 60)], #[34]⟩) (some 61) (some (13, false)) (by kernel_rfl) (by kernel_rfl) (by kernel_rfl) (fun _ _ _ h => h) HT.out ?_
      refine takeSkip 22 (.binOp .neq 3 (.tmp 57) (.tmp 61) 3) (some 62) (some (13, false)) (by kernel_rfl) (by kernel_rfl) (by kernel_rfl) (fun _ _ _ h => h) HT.out ?_
      refine lastS 23 (.pick (.tmp 53) (.const (Value.bool true)) (.tmp 62)) (some 63) (.bool true) (by kernel_rfl) (by kernel_rfl) (by kernel_rfl) HT.out (fun o e => exec_pick (b := true) _ e (by kernel_rfl) (by kernel_rfl)) ?_
      simp only [put_some, put_none, List.setIfInBounds_toArray, List.set_cons_succ, List.set_cons_zero]
      clear HT
      go_wp2_with fail
      go_ret
      exact ⟨rfl, below_drew B1.out⟩
    case pos =>
      refine (make_yes k2 c2 w.heap.size A2 rb sl sc y _ S1.out B1.out.size hok2.1 hok2.2.1 hok2.2.2).mono ?_
      rintro e w4 ⟨v, rfl, ⟨h4, R4, rfl, hp4⟩, hb4⟩
      have B4 := Lib.hid (B1.out.trans (hb4.mono B1.out.size))
      clear hok2 hp4 hb4
      go_wp2_with fail
      refine region_anyZ (fun _ : World => True) 24 (by kernel_rfl) ?_
      refine takeG 0 (.move (.tmp 6)) (some 40) none (.int .i64 1) (by kernel_rfl) (by kernel_rfl) (by kernel_rfl) (fun _ _ _ h => h) (fun o w e hS => exec_move w e (by kernel_rfl)) HT.out ?_
      refine takeG 1 (.binOp .neq 25 (.tmp 40) (.const (.int .i64 0)) 25) (some 41) none (.bool true) (by kernel_rfl) (by kernel_rfl) (by kernel_rfl) (fun _ _ _ h => h) (fun o w e hS => exec_bin (u1 := .int .i64 1) (u2 := (.int .i64 0)) w e (by kernel_rfl) (by kernel_rfl) (eqG_int ..) (by kernel_rfl)) HT.out ?_
      refine takeG 2 (.move (.tmp 41)) (some 42) none (.bool true) (by kernel_rfl) (by kernel_rfl) (by kernel_rfl) (fun _ _ _ h => h) (fun o w e hS => exec_move w e (by kernel_rfl)) HT.out ?_
      refine takeSkip 3 (.move (.tmp 8)) (some 43) (some (2, false)) (by kernel_rfl) (by kernel_rfl) (by kernel_rfl) (fun _ _ _ h => h) HT.out ?_
      refine takeSkip 4 (.binOp .neq 25 (.tmp 43) (.const (.int .i64 0)) 25) (some 44) (some (2, false)) (by kernel_rfl) (by kernel_rfl) (by kernel_rfl) (fun _ _ _ h => h) HT.out ?_
      refine takeG 5 (.pick (.tmp 42) (.const (Value.bool true)) (.tmp 44)) (some 45) none (.bool true) (by kernel_rfl) (by kernel_rfl) (by kernel_rfl) (fun _ _ _ h => h) (fun o w e hS => exec_pick (b := true) w e (by kernel_rfl) (by kernel_rfl)) HT.out ?_
      refine takeG 6 (.move (.tmp 45)) (some 46) none (.bool true) (by kernel_rfl) (by kernel_rfl) (by kernel_rfl) (fun _ _ _ h => h) (fun o w e hS => exec_move w e (by kernel_rfl)) HT.out ?_
      refine takeSkip 7 (.move (.tmp 0)) (some 47) (some (6, false)) (by kernel_rfl) (by kernel_rfl) (by kernel_rfl) (fun _ _ _ h => h) HT.out ?_
      refine takeSkip 8 (.call ⟨.builtin .len, #[(.tmp 47)], #[22]⟩) (some 48) (some (6, false)) (by kernel_rfl) (by kernel_rfl) (by kernel_rfl) (fun _ _ _ h => h) HT.out ?_
      refine takeSkip 9 (.move (.tmp 1)) (some 49) (some (6, false)) (by kernel_rfl) (by kernel_rfl) (by kernel_rfl) (fun _ _ _ h => h) HT.out ?_
      refine takeSkip 10 (.call ⟨.builtin .len, #[(.tmp 49)], #[22]⟩) (some 50) (some (6, false)) (by kernel_rfl) (by kernel_rfl) (by kernel_rfl) (fun _ _ _ h => h) HT.out ?_
      refine takeSkip 11 (.binOp .neq 3 (.tmp 48) (.tmp 50) 3) (some 51) (some (6, false)) (by kernel_rfl) (by kernel_rfl) (by kernel_rfl) (fun _ _ _ h => h) HT.out ?_
      refine takeG 12 (.pick (.tmp 46) (.const (Value.bool true)) (.tmp 51)) (some 52) none (.bool true) (by kernel_rfl) (by kernel_rfl) (by kernel_rfl) (fun _ _ _ h => h) (fun o w e hS => exec_pick (b := true) w e (by kernel_rfl) (by kernel_rfl)) HT.out ?_
      refine takeG 13 (.move (.tmp 52)) (some 53) none (.bool true) (by kernel_rfl) (by kernel_rfl) (by kernel_rfl) (fun _ _ _ h => h) (fun o w e hS => exec_move w e (by kernel_rfl)) HT.out ?_
      refine takeSkip 14 (.move (.tmp 0)) (some 54) (some (13, false)) (by kernel_rfl) (by kernel_rfl) (by kernel_rfl) (fun _ _ _ h => h) HT.out ?_
      refine takeSkip 15 (.indexAddr 22 (.tmp 54) (.const (.int .i64 0))) (some 55) (some (13, false)) (by kernel_rfl) (by kernel_rfl) (by kernel_rfl) (fun _ _ _ h => h) HT.out ?_
      refine takeSkip 16 (.load 34 (.tmp 55)) (some 56) (some (13, false)) (by kernel_rfl) (by kernel_rfl) (by kernel_rfl) (fun _ _ _ h => h) HT.out ?_
      refine takeSkip 17 (.call ⟨.builtin .len, #[(.tmp 56)], #[34]⟩) (some 57) (some (13, false)) (by kernel_rfl) (by kernel_rfl) (by kernel_rfl) (fun _ _ _ h => h) HT.out ?_
      refine takeSkip 18 (.move (.tmp 1)) (some 58) (some (13, false)) (by kernel_rfl) (by kernel_rfl) (by kernel_rfl) (fun _ _ _ h => h) HT.out ?_
      refine takeSkip 19 (.indexAddr 22 (.tmp 58) (.const (.int .i64 0))) (some 59) (some (13, false)) (by kernel_rfl) (by kernel_rfl) (by kernel_rfl) (fun _ _ _ h => h) HT.out ?_
      refine takeSkip 20 (.load 34 (.tmp 59)) (some 60) (some (13, false)) (by kernel_rfl) (by kernel_rfl) (by kernel_rfl) (fun _ _ _ h => h) HT.out ?_
      refine takeSkip 21 (.call ⟨.builtin .len, #[(.tmp 60)], #[34]⟩) (some 61) (some (13, false)) (by kernel_rfl) (by kernel_rfl) (by kernel_rfl) (fun _ _ _ h => h) HT.out ?_
      refine takeSkip 22 (.binOp .neq 3 (.tmp 57) (.tmp 61) 3) (some 62) (some (13, false)) (by kernel_rfl) (by kernel_rfl) (by kernel_rfl) (fun _ _ _ h => h) HT.out ?_
      refine lastS 23 (.pick (.tmp 53) (.const (Value.bool true)) (.tmp 62)) (some 63) (.bool true) (by kernel_rfl) (by kernel_rfl) (by kernel_rfl) HT.out (fun o e => exec_pick (b := true) _ e (by kernel_rfl) (by kernel_rfl)) ?_
      simp only [put_some, put_none, List.setIfInBounds_toArray, List.set_cons_succ, List.set_cons_zero]
      clear HT
      go_wp2_with fail
      go_ret
      exact ⟨rfl, below_drew B4.out⟩
  obtain ⟨hk0, hk13, hal⟩ := hok
  refine (make_yes k c w.heap.size A ra rl rc x _ R1.out B1.out.size hk0 hk13 hal).mono ?_
  rintro e w3 ⟨v, rfl, ⟨h3, R3, rfl, hp3⟩, hb3⟩
  have HA := Lib.hid hal
  have P3 := Lib.hid hp3
  have B3 := Lib.hid (B1.out.trans (hb3.mono B1.out.size))
  have X3 := Lib.hid (R1.out.below (hb3.mono B1.out.size) (Nat.le_refl _))
  have Y3 := Lib.hid (S1.out.below (hb3.mono B1.out.size) (Nat.le_refl _))
  clear hal hp3 hb3 B1 R1 S1
  go_wp2_with fail
  by_cases hok2 : 0 < k2 ∧ k2 ≤ 13 ∧ Alike k2 sl
  case neg =>
    refine (make_no k2 c2 w.heap.size A2 rb sl sc y _ Y3.out hok2).mono ?_
    rintro e w4 ⟨rfl, rfl⟩
    clear hok2
    go_wp2_with fail
    refine region_anyZ (fun _ : World => True) 24 (by kernel_rfl) ?_
    refine takeG 0 (.move (.tmp 6)) (some 40) none (.int .i64 0) (by kernel_rfl) (by kernel_rfl) (by kernel_rfl) (fun _ _ _ h => h) (fun o w e hS => exec_move w e (by kernel_rfl)) HT.out ?_
    refine takeG 1 (.binOp .neq 25 (.tmp 40) (.const (.int .i64 0)) 25) (some 41) none (.bool false) (by kernel_rfl) (by kernel_rfl) (by kernel_rfl) (fun _ _ _ h => h) (fun o w e hS => exec_bin (u1 := .int .i64 0) (u2 := (.int .i64 0)) w e (by kernel_rfl) (by kernel_rfl) (eqG_int ..) (by kernel_rfl)) HT.out ?_
    refine takeG 2 (.move (.tmp 41)) (some 42) none (.bool false) (by kernel_rfl) (by kernel_rfl) (by kernel_rfl) (fun _ _ _ h => h) (fun o w e hS => exec_move w e (by kernel_rfl)) HT.out ?_
    refine takeG 3 (.move (.tmp 8)) (some 43) (some (2, false)) (.int .i64 1) (by kernel_rfl) (by kernel_rfl) (by kernel_rfl) (fun _ _ _ h => h) (fun o w e hS => exec_move w e (by kernel_rfl)) HT.out ?_
    refine takeG 4 (.binOp .neq 25 (.tmp 43) (.const (.int .i64 0)) 25) (some 44) (some (2, false)) (.bool true) (by kernel_rfl) (by kernel_rfl) (by kernel_rfl) (fun _ _ _ h => h) (fun o w e hS => exec_bin (u1 := .int .i64 1) (u2 := (.int .i64 0)) w e (by kernel_rfl) (by kernel_rfl) (eqG_int ..) (by kernel_rfl)) HT.out ?_
    refine takeG 5 (.pick (.tmp 42) (.const (Value.bool true)) (.tmp 44)) (some 45) none (.bool true) (by kernel_rfl) (by kernel_rfl) (by kernel_rfl) (fun _ _ _ h => h) (fun o w e hS => exec_pick (b := false) w e (by kernel_rfl) (by kernel_rfl)) HT.out ?_
    refine takeG 6 (.move (.tmp 45)) (some 46) none (.bool true) (by kernel_rfl) (by kernel_rfl) (by kernel_rfl) (fun _ _ _ h => h) (fun o w e hS => exec_move w e (by kernel_rfl)) HT.out ?_
    refine takeSkip 7 (.move (.tmp 0)) (some 47) (some (6, false)) (by kernel_rfl) (by kernel_rfl) (by kernel_rfl) (fun _ _ _ h => h) HT.out ?_
    refine takeSkip 8 (.call ⟨.builtin .len, #[(.tmp 47)], #[22]⟩) (some 48) (some (6, false)) (by kernel_rfl) (by kernel_rfl) (by kernel_rfl) (fun _ _ _ h => h) HT.out ?_
    refine takeSkip 9 (.move (.tmp 1)) (some 49) (some (6, false)) (by kernel_rfl) (by kernel_rfl) (by kernel_rfl) (fun _ _ _ h => h) HT.out ?_
    refine takeSkip 10 (.call ⟨.builtin .len, #[(.tmp 49)], #[22]⟩) (some 50) (some (6, false)) (by kernel_rfl) (by kernel_rfl) (by kernel_rfl) (fun _ _ _ h => h) HT.out ?_
    refine takeSkip 11 (.binOp .neq 3 (.tmp 48) (.tmp 50) 3) (some 51) (some (6, false)) (by kernel_rfl) (by kernel_rfl) (by kernel_rfl) (fun _ _ _ h => h) HT.out ?_
    refine takeG 12 (.pick (.tmp 46) (.const (Value.bool true)) (.tmp 51)) (some 52) none (.bool true) (by kernel_rfl) (by kernel_rfl) (by kernel_rfl) (fun _ _ _ h => h) (fun o w e hS => exec_pick (b := true) w e (by kernel_rfl) (by kernel_rfl)) HT.out ?_
    refine takeG 13 (.move (.tmp 52)) (some 53) none (.bool true) (by kernel_rfl) (by kernel_rfl) (by kernel_rfl) (fun _ _ _ h => h) (fun o w e hS => exec_move w e (by kernel_rfl)) HT.out ?_
    refine takeSkip 14 (.move (.tmp 0)) (some 54) (some (13, false)) (by kernel_rfl) (by kernel_rfl) (by kernel_rfl) (fun _ _ _ h => h) HT.out ?_
    refine takeSkip 15 (.indexAddr 22 (.tmp 54) (.const (.int .i64 0))) (some 55) (some (13, false)) (by kernel_rfl) (by kernel_rfl) (by kernel_rfl) (fun _ _ _ h => h) HT.out ?_
    refine takeSkip 16 (.load 34 (.tmp 55)) (some 56) (some (13, false)) (by kernel_rfl) (by kernel_rfl) (by kernel_rfl) (fun _ _ _ h => h) HT.out ?_
    refine takeSkip 17 (.call ⟨.builtin .len, #[(.tmp 56)], #[34]⟩) (some 57) (some (13, false)) (by kernel_rfl) (by kernel_rfl) (by kernel_rfl) (fun _ _ _ h => h) HT.out ?_
    refine takeSkip 18 (.move (.tmp 1)) (some 58) (some (13, false)) (by kernel_rfl) (by kernel_rfl) (by kernel_rfl) (fun _ _ _ h => h) HT.out ?_
    refine takeSkip 19 (.indexAddr 22 (.tmp 58) (.const (.int .i64 0))) (some 59) (some (13, false)) (by kernel_rfl) (by kernel_rfl) (by kernel_rfl) (fun _ _ _ h => h) HT.out ?_
    refine takeSkip 20 (.load 34 (.tmp 59)) (some 60) (some (13, false)) (by kernel_rfl) (by kernel_rfl) (by kernel_rfl) (fun _ _ _ h => h) HT.out ?_
    refine takeSkip 21 (.call ⟨.builtin .len, #[(.tmp 60)], #[34]⟩) (some 61) (some (13, false)) (by kernel_rfl) (by kernel_rfl) (by kernel_rfl) (fun _ _ _ h => h) HT.out ?_
    refine takeSkip 22 (.binOp .neq 3 (.tmp 57) (.tmp 61) 3) (some 62) (some (13, false)) (by kernel_rfl) (by kernel_rfl) (by kernel_rfl) (fun _ _ _ h => h) HT.out ?_
    refine lastS 23 (.pick (.tmp 53) (.const (Value.bool true)) (.tmp 62)) (some 63) (.bool true) (by kernel_rfl) (by kernel_rfl) (by kernel_rfl) HT.out (fun o e => exec_pick (b := true) _ e (by kernel_rfl) (by kernel_rfl)) ?_
    simp only [put_some, put_none, List.setIfInBounds_toArray, List.set_cons_succ, List.set_cons_zero]
    clear HT
    go_wp2_with fail
    go_ret
    exact ⟨rfl, below_drew B3.out⟩
  obtain ⟨hk20, hk213, hal2⟩ := hok2
  refine (make_yes k2 c2 w.heap.size A2 rb sl sc y _ Y3.out B3.out.size hk20 hk213 hal2).mono ?_
  rintro e w4 ⟨v, rfl, ⟨h4, R4, rfl, hp4⟩, hb4⟩
  have HA2 := Lib.hid hal2
  have P4 := Lib.hid hp4
  have P3' := Lib.hid (P3.out.below hb4 (Nat.le_refl _))
  have S34 := Lib.hid hb4.size
  have B4 := Lib.hid (B3.out.trans (hb4.mono B3.out.size))
  have X4 := Lib.hid (X3.out.below (hb4.mono B3.out.size) (Nat.le_refl _))
  have Y4 := Lib.hid (Y3.out.below (hb4.mono B3.out.size) (Nat.le_refl _))
  clear hal2 hp4 hb4 B3 P3 X3 Y3
  go_wp2_with fail
  by_cases hne : k ≠ k2
  · skip
    refine region_anyZ (fun _ : World => True) 24 (by kernel_rfl) ?_
    refine takeG 0 (.move (.tmp 6)) (some 40) none (.int .i64 0) (by kernel_rfl) (by kernel_rfl) (by kernel_rfl) (fun _ _ _ h => h) (fun o w e hS => exec_move w e (by kernel_rfl)) HT.out ?_
    refine takeG 1 (.binOp .neq 25 (.tmp 40) (.const (.int .i64 0)) 25) (some 41) none (.bool false) (by kernel_rfl) (by kernel_rfl) (by kernel_rfl) (fun _ _ _ h => h) (fun o w e hS => exec_bin (u1 := .int .i64 0) (u2 := (.int .i64 0)) w e (by kernel_rfl) (by kernel_rfl) (eqG_int ..) (by kernel_rfl)) HT.out ?_
    refine takeG 2 (.move (.tmp 41)) (some 42) none (.bool false) (by kernel_rfl) (by kernel_rfl) (by kernel_rfl) (fun _ _ _ h => h) (fun o w e hS => exec_move w e (by kernel_rfl)) HT.out ?_
    refine takeG 3 (.move (.tmp 8)) (some 43) (some (2, false)) (.int .i64 0) (by kernel_rfl) (by kernel_rfl) (by kernel_rfl) (fun _ _ _ h => h) (fun o w e hS => exec_move w e (by kernel_rfl)) HT.out ?_
    refine takeG 4 (.binOp .neq 25 (.tmp 43) (.const (.int .i64 0)) 25) (some 44) (some (2, false)) (.bool false) (by kernel_rfl) (by kernel_rfl) (by kernel_rfl) (fun _ _ _ h => h) (fun o w e hS => exec_bin (u1 := .int .i64 0) (u2 := (.int .i64 0)) w e (by kernel_rfl) (by kernel_rfl) (eqG_int ..) (by kernel_rfl)) HT.out ?_
    refine takeG 5 (.pick (.tmp 42) (.const (Value.bool true)) (.tmp 44)) (some 45) none (.bool false) (by kernel_rfl) (by kernel_rfl) (by kernel_rfl) (fun _ _ _ h => h) (fun o w e hS => exec_pick (b := false) w e (by kernel_rfl) (by kernel_rfl)) HT.out ?_
    refine takeG 6 (.move (.tmp 45)) (some 46) none (.bool false) (by kernel_rfl) (by kernel_rfl) (by kernel_rfl) (fun _ _ _ h => h) (fun o w e hS => exec_move w e (by kernel_rfl)) HT.out ?_
    refine takeG 7 (.move (.tmp 0)) (some 47) (some (6, false)) (.slice A k c) (by kernel_rfl) (by kernel_rfl) (by kernel_rfl) (fun _ _ _ h => h) (fun o w e hS => exec_move w e (by kernel_rfl)) HT.out ?_
    refine takeG 8 (.call ⟨.builtin .len, #[(.tmp 47)], #[22]⟩) (some 48) (some (6, false)) (.int .i64 (k : Int)) (by kernel_rfl) (by kernel_rfl) (by kernel_rfl) (fun _ _ _ h => h) (fun o w e hS => exec_len (u := .slice A k c) w e (by kernel_rfl) (len_rows ..)) HT.out ?_
    refine takeG 9 (.move (.tmp 1)) (some 49) (some (6, false)) (.slice A2 k2 c2) (by kernel_rfl) (by kernel_rfl) (by kernel_rfl) (fun _ _ _ h => h) (fun o w e hS => exec_move w e (by kernel_rfl)) HT.out ?_
    refine takeG 10 (.call ⟨.builtin .len, #[(.tmp 49)], #[22]⟩) (some 50) (some (6, false)) (.int .i64 (k2 : Int)) (by kernel_rfl) (by kernel_rfl) (by kernel_rfl) (fun _ _ _ h => h) (fun o w e hS => exec_len (u := .slice A2 k2 c2) w e (by kernel_rfl) (len_rows ..)) HT.out ?_
    refine takeG 11 (.binOp .neq 3 (.tmp 48) (.tmp 50) 3) (some 51) (some (6, false)) (.bool true) (by kernel_rfl) (by kernel_rfl) (by kernel_rfl) (fun _ _ _ h => h) (fun o w e hS => exec_bin (u1 := .int .i64 (k : Int)) (u2 := .int .i64 (k2 : Int)) w e (by kernel_rfl) (by kernel_rfl) (eqG_int ..) (neq_int_t _ _ hne _)) HT.out ?_
    refine takeG 12 (.pick (.tmp 46) (.const (Value.bool true)) (.tmp 51)) (some 52) none (.bool true) (by kernel_rfl) (by kernel_rfl) (by kernel_rfl) (fun _ _ _ h => h) (fun o w e hS => exec_pick (b := false) w e (by kernel_rfl) (by kernel_rfl)) HT.out ?_
    refine takeG 13 (.move (.tmp 52)) (some 53) none (.bool true) (by kernel_rfl) (by kernel_rfl) (by kernel_rfl) (fun _ _ _ h => h) (fun o w e hS => exec_move w e (by kernel_rfl)) HT.out ?_
    refine takeSkip 14 (.move (.tmp 0)) (some 54) (some (13, false)) (by kernel_rfl) (by kernel_rfl) (by kernel_rfl) (fun _ _ _ h => h) HT.out ?_
    refine takeSkip 15 (.indexAddr 22 (.tmp 54) (.const (.int .i64 0))) (some 55) (some (13, false)) (by kernel_rfl) (by kernel_rfl) (by kernel_rfl) (fun _ _ _ h => h) HT.out ?_
    refine takeSkip 16 (.load 34 (.tmp 55)) (some 56) (some (13, false)) (by kernel_rfl) (by kernel_rfl) (by kernel_rfl) (fun _ _ _ h => h) HT.out ?_
    refine takeSkip 17 (.call ⟨.builtin .len, #[(.tmp 56)], #[34]⟩) (some 57) (some (13, false)) (by kernel_rfl) (by kernel_rfl) (by kernel_rfl) (fun _ _ _ h => h) HT.out ?_
    refine takeSkip 18 (.move (.tmp 1)) (some 58) (some (13, false)) (by kernel_rfl) (by kernel_rfl) (by kernel_rfl) (fun _ _ _ h => h) HT.out ?_
    refine takeSkip 19 (.indexAddr 22 (.tmp 58) (.const (.int .i64 0))) (some 59) (some (13, false)) (by kernel_rfl) (by kernel_rfl) (by kernel_rfl) (fun _ _ _ h => h) HT.out ?_
    refine takeSkip 20 (.load 34 (.tmp 59)) (some 60) (some (13, false)) (by kernel_rfl) (by kernel_rfl) (by kernel_rfl) (fun _ _ _ h => h) HT.out ?_
    refine takeSkip 21 (.call ⟨.builtin .len, #[(.tmp 60)], #[34]⟩) (some 61) (some (13, false)) (by kernel_rfl) (by kernel_rfl) (by kernel_rfl) (fun _ _ _ h => h) HT.out ?_
    refine takeSkip 22 (.binOp .neq 3 (.tmp 57) (.tmp 61) 3) (some 62) (some (13, false)) (by kernel_rfl) (by kernel_rfl) (by kernel_rfl) (fun _ _ _ h => h) HT.out ?_
    refine lastS 23 (.pick (.tmp 53) (.const (Value.bool true)) (.tmp 62)) (some 63) (.bool true) (by kernel_rfl) (by kernel_rfl) (by kernel_rfl) HT.out (fun o e => exec_pick (b := true) _ e (by kernel_rfl) (by kernel_rfl)) ?_
    simp only [put_some, put_none, List.setIfInBounds_toArray, List.set_cons_succ, List.set_cons_zero]
    clear HT
    go_wp2_with fail
    go_ret
    exact ⟨rfl, below_drew B4.out⟩
  obtain rfl : k = k2 := by omega
  clear hne hk20 hk213
  obtain ⟨b0, o0, rfl, hb0, hcx0, hx0⟩ := X4.out 0 hk0
  obtain ⟨b1, o1, rfl, hb1, hcy0, hy0⟩ := Y4.out 0 hk0
  rw [Nat.add_zero] at hcx0 hcy0
  have HT : Hid (w4.drew.cell? ⟨b0, o0, none⟩ = some (.slice (ra 0) (rl 0) (rc 0)) ∧ w4.drew.cell? ⟨b1, o1, none⟩ = some (.slice (rb 0) (sl 0) (sc 0))) := ⟨hcx0, hcy0⟩
  clear hx0 hy0 hcx0 hcy0
  by_cases hnn : rl 0 = sl 0
  case neg =>
    have hne : rl 0 ≠ sl 0 := hnn
    refine region_anyZ (fun W : World => W.cell? ⟨b0, o0, none⟩ = some (.slice (ra 0) (rl 0) (rc 0)) ∧ W.cell? ⟨b1, o1, none⟩ = some (.slice (rb 0) (sl 0) (sc 0))) 24 (by kernel_rfl) ?_
    refine takeG 0 (.move (.tmp 6)) (some 40) none (.int .i64 0) (by kernel_rfl) (by kernel_rfl) (by kernel_rfl) (fun _ _ _ h => h) (fun o w e hS => exec_move w e (by kernel_rfl)) HT.out ?_
    refine takeG 1 (.binOp .neq 25 (.tmp 40) (.const (.int .i64 0)) 25) (some 41) none (.bool false) (by kernel_rfl) (by kernel_rfl) (by kernel_rfl) (fun _ _ _ h => h) (fun o w e hS => exec_bin (u1 := .int .i64 0) (u2 := (.int .i64 0)) w e (by kernel_rfl) (by kernel_rfl) (eqG_int ..) (by kernel_rfl)) HT.out ?_
    refine takeG 2 (.move (.tmp 41)) (some 42) none (.bool false) (by kernel_rfl) (by kernel_rfl) (by kernel_rfl) (fun _ _ _ h => h) (fun o w e hS => exec_move w e (by kernel_rfl)) HT.out ?_
    refine takeG 3 (.move (.tmp 8)) (some 43) (some (2, false)) (.int .i64 0) (by kernel_rfl) (by kernel_rfl) (by kernel_rfl) (fun _ _ _ h => h) (fun o w e hS => exec_move w e (by kernel_rfl)) HT.out ?_
    refine takeG 4 (.binOp .neq 25 (.tmp 43) (.const (.int .i64 0)) 25) (some 44) (some (2, false)) (.bool false) (by kernel_rfl) (by kernel_rfl) (by kernel_rfl) (fun _ _ _ h => h) (fun o w e hS => exec_bin (u1 := .int .i64 0) (u2 := (.int .i64 0)) w e (by kernel_rfl) (by kernel_rfl) (eqG_int ..) (by kernel_rfl)) HT.out ?_
    refine takeG 5 (.pick (.tmp 42) (.const (Value.bool true)) (.tmp 44)) (some 45) none (.bool false) (by kernel_rfl) (by kernel_rfl) (by kernel_rfl) (fun _ _ _ h => h) (fun o w e hS => exec_pick (b := false) w e (by kernel_rfl) (by kernel_rfl)) HT.out ?_
    refine takeG 6 (.move (.tmp 45)) (some 46) none (.bool false) (by kernel_rfl) (by kernel_rfl) (by kernel_rfl) (fun _ _ _ h => h) (fun o w e hS => exec_move w e (by kernel_rfl)) HT.out ?_
    refine takeG 7 (.move (.tmp 0)) (some 47) (some (6, false)) (.slice (some ⟨b0, o0, none⟩) k c) (by kernel_rfl) (by kernel_rfl) (by kernel_rfl) (fun _ _ _ h => h) (fun o w e hS => exec_move w e (by kernel_rfl)) HT.out ?_
    refine takeG 8 (.call ⟨.builtin .len, #[(.tmp 47)], #[22]⟩) (some 48) (some (6, false)) (.int .i64 (k : Int)) (by kernel_rfl) (by kernel_rfl) (by kernel_rfl) (fun _ _ _ h => h) (fun o w e hS => exec_len (u := .slice (some ⟨b0, o0, none⟩) k c) w e (by kernel_rfl) (len_rows ..)) HT.out ?_
    refine takeG 9 (.move (.tmp 1)) (some 49) (some (6, false)) (.slice (some ⟨b1, o1, none⟩) k c2) (by kernel_rfl) (by kernel_rfl) (by kernel_rfl) (fun _ _ _ h => h) (fun o w e hS => exec_move w e (by kernel_rfl)) HT.out ?_
    refine takeG 10 (.call ⟨.builtin .len, #[(.tmp 49)], #[22]⟩) (some 50) (some (6, false)) (.int .i64 (k : Int)) (by kernel_rfl) (by kernel_rfl) (by kernel_rfl) (fun _ _ _ h => h) (fun o w e hS => exec_len (u := .slice (some ⟨b1, o1, none⟩) k c2) w e (by kernel_rfl) (len_rows ..)) HT.out ?_
    refine takeG 11 (.binOp .neq 3 (.tmp 48) (.tmp 50) 3) (some 51) (some (6, false)) (.bool false) (by kernel_rfl) (by kernel_rfl) (by kernel_rfl) (fun _ _ _ h => h) (fun o w e hS => exec_bin (u1 := .int .i64 (k : Int)) (u2 := .int .i64 (k : Int)) w e (by kernel_rfl) (by kernel_rfl) (eqG_int ..) (neq_int_f _ _)) HT.out ?_
    refine takeG 12 (.pick (.tmp 46) (.const (Value.bool true)) (.tmp 51)) (some 52) none (.bool false) (by kernel_rfl) (by kernel_rfl) (by kernel_rfl) (fun _ _ _ h => h) (fun o w e hS => exec_pick (b := false) w e (by kernel_rfl) (by kernel_rfl)) HT.out ?_
    refine takeG 13 (.move (.tmp 52)) (some 53) none (.bool false) (by kernel_rfl) (by kernel_rfl) (by kernel_rfl) (fun _ _ _ h => h) (fun o w e hS => exec_move w e (by kernel_rfl)) HT.out ?_
    refine takeG 14 (.move (.tmp 0)) (some 54) (some (13, false)) (.slice (some ⟨b0, o0, none⟩) k c) (by kernel_rfl) (by kernel_rfl) (by kernel_rfl) (fun _ _ _ h => h) (fun o w e hS => exec_move w e (by kernel_rfl)) HT.out ?_
    refine takeG 15 (.indexAddr 22 (.tmp 54) (.const (.int .i64 0))) (some 55) (some (13, false)) (.pointer (some ⟨b0, o0, none⟩)) (by kernel_rfl) (by kernel_rfl) (by kernel_rfl) (fun _ _ _ h => h) (fun o w e hS => exec_index (u1 := .slice (some ⟨b0, o0, none⟩) k c) (u2 := (.int .i64 0)) w e (by kernel_rfl) (by kernel_rfl) (index_rows0 b0 o0 k c hk0 _)) HT.out ?_
    refine takeG 16 (.load 34 (.tmp 55)) (some 56) (some (13, false)) (.slice (ra 0) (rl 0) (rc 0)) (by kernel_rfl) (by kernel_rfl) (by kernel_rfl) (fun _ _ _ h => h) (fun o w e hS => exec_load (x := (.tmp 55)) e (by kernel_rfl) (load_one Try.underlying34 (by kernel_rfl) hS.1)) HT.out ?_
    refine takeG 17 (.call ⟨.builtin .len, #[(.tmp 56)], #[34]⟩) (some 57) (some (13, false)) (.int .i64 (rl 0 : Nat)) (by kernel_rfl) (by kernel_rfl) (by kernel_rfl) (fun _ _ _ h => h) (fun o w e hS => exec_len (u := .slice (ra 0) (rl 0) (rc 0)) w e (by kernel_rfl) (len_slice ..)) HT.out ?_
    refine takeG 18 (.move (.tmp 1)) (some 58) (some (13, false)) (.slice (some ⟨b1, o1, none⟩) k c2) (by kernel_rfl) (by kernel_rfl) (by kernel_rfl) (fun _ _ _ h => h) (fun o w e hS => exec_move w e (by kernel_rfl)) HT.out ?_
    refine takeG 19 (.indexAddr 22 (.tmp 58) (.const (.int .i64 0))) (some 59) (some (13, false)) (.pointer (some ⟨b1, o1, none⟩)) (by kernel_rfl) (by kernel_rfl) (by kernel_rfl) (fun _ _ _ h => h) (fun o w e hS => exec_index (u1 := .slice (some ⟨b1, o1, none⟩) k c2) (u2 := (.int .i64 0)) w e (by kernel_rfl) (by kernel_rfl) (index_rows0 b1 o1 k c2 hk0 _)) HT.out ?_
    refine takeG 20 (.load 34 (.tmp 59)) (some 60) (some (13, false)) (.slice (rb 0) (sl 0) (sc 0)) (by kernel_rfl) (by kernel_rfl) (by kernel_rfl) (fun _ _ _ h => h) (fun o w e hS => exec_load (x := (.tmp 59)) e (by kernel_rfl) (load_one Try.underlying34 (by kernel_rfl) hS.2)) HT.out ?_
    refine takeG 21 (.call ⟨.builtin .len, #[(.tmp 60)], #[34]⟩) (some 61) (some (13, false)) (.int .i64 (sl 0 : Nat)) (by kernel_rfl) (by kernel_rfl) (by kernel_rfl) (fun _ _ _ h => h) (fun o w e hS => exec_len (u := .slice (rb 0) (sl 0) (sc 0)) w e (by kernel_rfl) (len_slice ..)) HT.out ?_
    refine takeG 22 (.binOp .neq 3 (.tmp 57) (.tmp 61) 3) (some 62) (some (13, false)) (.bool true) (by kernel_rfl) (by kernel_rfl) (by kernel_rfl) (fun _ _ _ h => h) (fun o w e hS => exec_bin (u1 := .int .i64 (rl 0 : Nat)) (u2 := .int .i64 (sl 0 : Nat)) w e (by kernel_rfl) (by kernel_rfl) (eqG_int ..) (neq_int_t _ _ hne _)) HT.out ?_
    refine lastS 23 (.pick (.tmp 53) (.const (Value.bool true)) (.tmp 62)) (some 63) (.bool true) (by kernel_rfl) (by kernel_rfl) (by kernel_rfl) HT.out (fun o e => exec_pick (b := false) _ e (by kernel_rfl) (by kernel_rfl)) ?_
    simp only [put_some, put_none, List.setIfInBounds_toArray, List.set_cons_succ, List.set_cons_zero]
    clear HT
    go_wp2_with fail
    go_ret
    exact ⟨rfl, below_drew B4.out⟩
  refine region_anyZ (fun W : World => W.cell? ⟨b0, o0, none⟩ = some (.slice (ra 0) (rl 0) (rc 0)) ∧ W.cell? ⟨b1, o1, none⟩ = some (.slice (rb 0) (sl 0) (sc 0))) 24 (by kernel_rfl) ?_
  refine takeG 0 (.move (.tmp 6)) (some 40) none (.int .i64 0) (by kernel_rfl) (by kernel_rfl) (by kernel_rfl) (fun _ _ _ h => h) (fun o w e hS => exec_move w e (by kernel_rfl)) HT.out ?_
  refine takeG 1 (.binOp .neq 25 (.tmp 40) (.const (.int .i64 0)) 25) (some 41) none (.bool false) (by kernel_rfl) (by kernel_rfl) (by kernel_rfl) (fun _ _ _ h => h) (fun o w e hS => exec_bin (u1 := .int .i64 0) (u2 := (.int .i64 0)) w e (by kernel_rfl) (by kernel_rfl) (eqG_int ..) (by kernel_rfl)) HT.out ?_
  refine takeG 2 (.move (.tmp 41)) (some 42) none (.bool false) (by kernel_rfl) (by kernel_rfl) (by kernel_rfl) (fun _ _ _ h => h) (fun o w e hS => exec_move w e (by kernel_rfl)) HT.out ?_
  refine takeG 3 (.move (.tmp 8)) (some 43) (some (2, false)) (.int .i64 0) (by kernel_rfl) (by kernel_rfl) (by kernel_rfl) (fun _ _ _ h => h) (fun o w e hS => exec_move w e (by kernel_rfl)) HT.out ?_
  refine takeG 4 (.binOp .neq 25 (.tmp 43) (.const (.int .i64 0)) 25) (some 44) (some (2, false)) (.bool false) (by kernel_rfl) (by kernel_rfl) (by kernel_rfl) (fun _ _ _ h => h) (fun o w e hS => exec_bin (u1 := .int .i64 0) (u2 := (.int .i64 0)) w e (by kernel_rfl) (by kernel_rfl) (eqG_int ..) (by kernel_rfl)) HT.out ?_
  refine takeG 5 (.pick (.tmp 42) (.const (Value.bool true)) (.tmp 44)) (some 45) none (.bool false) (by kernel_rfl) (by kernel_rfl) (by kernel_rfl) (fun _ _ _ h => h) (fun o w e hS => exec_pick (b := false) w e (by kernel_rfl) (by kernel_rfl)) HT.out ?_
  refine takeG 6 (.move (.tmp 45)) (some 46) none (.bool false) (by kernel_rfl) (by kernel_rfl) (by kernel_rfl) (fun _ _ _ h => h) (fun o w e hS => exec_move w e (by kernel_rfl)) HT.out ?_
  refine takeG 7 (.move (.tmp 0)) (some 47) (some (6, false)) (.slice (some ⟨b0, o0, none⟩) k c) (by kernel_rfl) (by kernel_rfl) (by kernel_rfl) (fun _ _ _ h => h) (fun o w e hS => exec_move w e (by kernel_rfl)) HT.out ?_
  refine takeG 8 (.call ⟨.builtin .len, #[(.tmp 47)], #[22]⟩) (some 48) (some (6, false)) (.int .i64 (k : Int)) (by kernel_rfl) (by kernel_rfl) (by kernel_rfl) (fun _ _ _ h => h) (fun o w e hS => exec_len (u := .slice (some ⟨b0, o0, none⟩) k c) w e (by kernel_rfl) (len_rows ..)) HT.out ?_
  refine takeG 9 (.move (.tmp 1)) (some 49) (some (6, false)) (.slice (some ⟨b1, o1, none⟩) k c2) (by kernel_rfl) (by kernel_rfl) (by kernel_rfl) (fun _ _ _ h => h) (fun o w e hS => exec_move w e (by kernel_rfl)) HT.out ?_
  refine takeG 10 (.call ⟨.builtin .len, #[(.tmp 49)], #[22]⟩) (some 50) (some (6, false)) (.int .i64 (k : Int)) (by kernel_rfl) (by kernel_rfl) (by kernel_rfl) (fun _ _ _ h => h) (fun o w e hS => exec_len (u := .slice (some ⟨b1, o1, none⟩) k c2) w e (by kernel_rfl) (len_rows ..)) HT.out ?_
  refine takeG 11 (.binOp .neq 3 (.tmp 48) (.tmp 50) 3) (some 51) (some (6, false)) (.bool false) (by kernel_rfl) (by kernel_rfl) (by kernel_rfl) (fun _ _ _ h => h) (fun o w e hS => exec_bin (u1 := .int .i64 (k : Int)) (u2 := .int .i64 (k : Int)) w e (by kernel_rfl) (by kernel_rfl) (eqG_int ..) (neq_int_f _ _)) HT.out ?_
  refine takeG 12 (.pick (.tmp 46) (.const (Value.bool true)) (.tmp 51)) (some 52) none (.bool false) (by kernel_rfl) (by kernel_rfl) (by kernel_rfl) (fun _ _ _ h => h) (fun o w e hS => exec_pick (b := false) w e (by kernel_rfl) (by kernel_rfl)) HT.out ?_
  refine takeG 13 (.move (.tmp 52)) (some 53) none (.bool false) (by kernel_rfl) (by kernel_rfl) (by kernel_rfl) (fun _ _ _ h => h) (fun o w e hS => exec_move w e (by kernel_rfl)) HT.out ?_
  refine takeG 14 (.move (.tmp 0)) (some 54) (some (13, false)) (.slice (some ⟨b0, o0, none⟩) k c) (by kernel_rfl) (by kernel_rfl) (by kernel_rfl) (fun _ _ _ h => h) (fun o w e hS => exec_move w e (by kernel_rfl)) HT.out ?_
  refine takeG 15 (.indexAddr 22 (.tmp 54) (.const (.int .i64 0))) (some 55) (some (13, false)) (.pointer (some ⟨b0, o0, none⟩)) (by kernel_rfl) (by kernel_rfl) (by kernel_rfl) (fun _ _ _ h => h) (fun o w e hS => exec_index (u1 := .slice (some ⟨b0, o0, none⟩) k c) (u2 := (.int .i64 0)) w e (by kernel_rfl) (by kernel_rfl) (index_rows0 b0 o0 k c hk0 _)) HT.out ?_
  refine takeG 16 (.load 34 (.tmp 55)) (some 56) (some (13, false)) (.slice (ra 0) (rl 0) (rc 0)) (by kernel_rfl) (by kernel_rfl) (by kernel_rfl) (fun _ _ _ h => h) (fun o w e hS => exec_load (x := (.tmp 55)) e (by kernel_rfl) (load_one Try.underlying34 (by kernel_rfl) hS.1)) HT.out ?_
  refine takeG 17 (.call ⟨.builtin .len, #[(.tmp 56)], #[34]⟩) (some 57) (some (13, false)) (.int .i64 (rl 0 : Nat)) (by kernel_rfl) (by kernel_rfl) (by kernel_rfl) (fun _ _ _ h => h) (fun o w e hS => exec_len (u := .slice (ra 0) (rl 0) (rc 0)) w e (by kernel_rfl) (len_slice ..)) HT.out ?_
  refine takeG 18 (.move (.tmp 1)) (some 58) (some (13, false)) (.slice (some ⟨b1, o1, none⟩) k c2) (by kernel_rfl) (by kernel_rfl) (by kernel_rfl) (fun _ _ _ h => h) (fun o w e hS => exec_move w e (by kernel_rfl)) HT.out ?_
  refine takeG 19 (.indexAddr 22 (.tmp 58) (.const (.int .i64 0))) (some 59) (some (13, false)) (.pointer (some ⟨b1, o1, none⟩)) (by kernel_rfl) (by kernel_rfl) (by kernel_rfl) (fun _ _ _ h => h) (fun o w e hS => exec_index (u1 := .slice (some ⟨b1, o1, none⟩) k c2) (u2 := (.int .i64 0)) w e (by kernel_rfl) (by kernel_rfl) (index_rows0 b1 o1 k c2 hk0 _)) HT.out ?_
  refine takeG 20 (.load 34 (.tmp 59)) (some 60) (some (13, false)) (.slice (rb 0) (sl 0) (sc 0)) (by kernel_rfl) (by kernel_rfl) (by kernel_rfl) (fun _ _ _ h => h) (fun o w e hS => exec_load (x := (.tmp 59)) e (by kernel_rfl) (load_one Try.underlying34 (by kernel_rfl) hS.2)) HT.out ?_
  refine takeG 21 (.call ⟨.builtin .len, #[(.tmp 60)], #[34]⟩) (some 61) (some (13, false)) (.int .i64 (sl 0 : Nat)) (by kernel_rfl) (by kernel_rfl) (by kernel_rfl) (fun _ _ _ h => h) (fun o w e hS => exec_len (u := .slice (rb 0) (sl 0) (sc 0)) w e (by kernel_rfl) (len_slice ..)) HT.out ?_
  refine takeG 22 (.binOp .neq 3 (.tmp 57) (.tmp 61) 3) (some 62) (some (13, false)) (.bool false) (by kernel_rfl) (by kernel_rfl) (by kernel_rfl) (fun _ _ _ h => h) (fun o w e hS => exec_bin (u1 := .int .i64 (rl 0 : Nat)) (u2 := .int .i64 (sl 0 : Nat)) w e (by kernel_rfl) (by kernel_rfl) (eqG_int ..) (neq_int_same hnn _)) HT.out ?_
  refine lastS 23 (.pick (.tmp 53) (.const (Value.bool true)) (.tmp 62)) (some 63) (.bool false) (by kernel_rfl) (by kernel_rfl) (by kernel_rfl) HT.out (fun o e => exec_pick (b := false) _ e (by kernel_rfl) (by kernel_rfl)) ?_
  simp only [put_some, put_none, List.setIfInBounds_toArray, List.set_cons_succ, List.set_cons_zero]
  clear HT
  obtain ⟨n, hn⟩ : ∃ n, n = rl 0 := ⟨_, rfl⟩
  have HLA : Hid (∀ i, i < k → rl i = n) := fun i hi => by rw [hn]; exact HA.out.2.2 i hi
  have HLB : Hid (∀ i, i < k → sl i = n) := fun i hi => by rw [hn, hnn]; exact HA2.out.2.2 i hi
  have hn1 : 1 ≤ n := by rw [hn]; exact HA.out.1
  have hn2 : n ≤ 4096 := by rw [hn]; exact HA.out.2.1
  have s34 := Lib.hid (show w3.heap.size ≤ w4.heap.size from by exact S34.out)
  have P3 : Hid (RdR w4 w3.heap.size (some ⟨h3, 0, none⟩) 3 (fun i => some ⟨R3 i, 0, none⟩) (fun _ => n) (fun _ => n) (fun i v => M.par k i x v)) := by rw [hn]; exact P3'.out
  have P4' : Hid (RdR w4 w4.heap.size (some ⟨h4, 0, none⟩) 3 (fun i => some ⟨R4 i, 0, none⟩) (fun _ => n) (fun _ => n) (fun i v => M.par k i y v)) := by rw [hn, hnn]; exact P4.out
  have s04 := B4.out.size
  have HX : Hid (∀ i, i < k → ∀ v, v < n → x i v < 256) := fun i hi v hv => by
    obtain ⟨_, _, h⟩ := X4.out.head hi
    rw [HLA.out i hi] at h
    obtain ⟨_, _, _, _, _, q⟩ := h v hv
    exact q
  have HY : Hid (∀ i, i < k → ∀ v, v < n → y i v < 256) := fun i hi v hv => by
    obtain ⟨_, _, h⟩ := Y4.out.head hi
    rw [HLB.out i hi] at h
    obtain ⟨_, _, _, _, _, q⟩ := h v hv
    exact q
  have HC' := HC
  unfold maxLen at hm hkm hm2 hkm2
  clear HA HA2 P3' P4 S34 hn hnn hl2 hb0 hb1 HC
  go_wp2_with fail
  go_loopw [9, 10] (fun v t wr => ∃ (i : Nat) (H : Nat → Hd) (R : Nat → Nat), t = .int .i64 i ∧ i ≤ k ∧ Hid (Cols wr w4.heap.size v i n H R (fun j u => x j u ^^^ y j u)) ∧ Hid (Below w4.heap.size w4 wr)) (fun _ t _ => k - (intOf t).toNat)
  case atStart => exact ⟨0, fun _ => (none, 0, 0), fun _ => 0, rfl, by omega, Lib.hid (Cols.none_ _ _ _ _ _ _), Lib.hid (below_drew (Below.refl _ _))⟩
  case round =>
    obtain ⟨wo, rfl⟩ : ∃ wo : World, wo = wr := ⟨_, rfl⟩
    obtain ⟨i, H, R, rfl, hi, C1, L1⟩ := hrel
    by_cases hlt : i < k
    · obtain ⟨hba, hca, hxa⟩ := (X4.out.below L1.out s04).head hlt
      obtain ⟨hbb, hcb, hxb⟩ := (Y4.out.below L1.out s04).head hlt
      rw [HLA.out i hlt] at hca hxa
      rw [HLB.out i hlt] at hcb hxb
      have hrc := HC'.out i hlt
      rw [HLA.out i hlt] at hrc
      have hXi := Lib.hid (HX.out i hlt)
      have hYi := Lib.hid (HY.out i hlt)
      obtain ⟨bx, ox, hxe, _⟩ := hxa 0 (by omega)
      obtain ⟨by_, oy, hye, _⟩ := hxb 0 (by omega)
      rw [hxe] at hca hxa
      rw [hye] at hcb
      have s41 := L1.out.size
      have hbw : b0 < wo.heap.size := by omega
      have O1 : Hid (Own8 (wo.alloc (.cells #[] 5)) wo.heap.size (.slice (some ⟨wo.heap.size, 0, none⟩) 0 0) 0 (fun _ => 0)) := Lib.hid (own_empty (Nat.le_refl _))
      have RX : Hid (RdB (wo.alloc (.cells #[] 5)) w.heap.size (some ⟨bx, ox, none⟩) n (x i)) := Lib.hid (hxa.below ((Below.refl wo.heap.size wo).alloc (Nat.le_refl _) _) (by omega))
      have HYB : Hid (∀ W : World, Below wo.heap.size wo W → W.cell? ⟨b1, o1 + i, none⟩ = some (.slice (some ⟨by_, oy, none⟩) n (sc i)) ∧ ∀ j, j < n → W.cell? ⟨by_, oy + j, none⟩ = some (.int .u8 ((y i j : Nat) : Int))) := fun W hW => by
        refine ⟨(hW.cell (p := ⟨b1, o1 + i, none⟩) (by show b1 < wo.heap.size; omega)).trans hcb, fun j hj => ?_⟩
        rw [hye] at hxb
        exact ((hxb.below hW (by omega)).at_ hj).2.1
      clear hcb hxb hye hxe hxa hba hbb
      go_wp2_with ((with_reducible refine wpList_append_rd rfl (.tmp 70) (.tmp 74) rfl rfl rfl O1.out RX.out (fun e => by cases e) hrc.1 (by omega) (by simp) ?_); intro v2 w2 ho2 hg2 he2; refine of_hid ?_)
      refine Lib.hid ?_
      rw [Nat.zero_add] at ho2
      obtain ⟨g, cg, rfl, hgb, hrow, hng, hcg⟩ := ho2.row (by omega)
      have G2 : Hid (RowG w2 g n (mixX (x i) (y i) 0)) := Lib.hid (hrow.congr fun j _ => rfl)
      have L2 : Hid (Below wo.heap.size wo w2) := Lib.hid (own_grown8 ((Below.refl wo.heap.size wo).alloc (Nat.le_refl _) _) O1.out hg2 (by simp))
      unfold maxLen at hcg
      clear ho2 hg2 he2 hrow O1 RX hca
      go_wp2_with fail
      go_loopw [12] (fun t W => ∃ j : Nat, t = .int .i64 j ∧ j ≤ n ∧ Hid (RowG W g n (mixX (x i) (y i) j)) ∧ Hid (Below wo.heap.size wo W)) (fun t _ => n - (intOf t).toNat)
      case atStart => exact ⟨0, rfl, by omega, G2, L2⟩
      case round =>
        obtain ⟨j, rfl, hjn, G3, L3⟩ := hrel
        clear G2 L2
        by_cases hj : j < n
        · have HXM : Hid (mixX (x i) (y i) j j < 256) := by unfold mixX; rw [if_neg (by omega)]; exact hXi.out j hj
          have HYL : Hid (y i j < 256) := hYi.out j hj
          go_wp2_with fail
          have HS : Hid (wr.drew.cell? ⟨g, j, none⟩ = some (.int .u8 ((mixX (x i) (y i) j j : Nat) : Int)) ∧ wr.drew.cell? ⟨b1, o1 + i, none⟩ = some (.slice (some ⟨by_, oy, none⟩) n (sc i)) ∧ wr.drew.cell? ⟨by_, oy + j, none⟩ = some (.int .u8 ((y i j : Nat) : Int))) := ⟨G3.out.cell hj, (HYB.out wr L3.out).1, (HYB.out wr L3.out).2 j hj⟩
          have HF : Hid (wr.drew.frozen? ⟨g, j, none⟩ = false) := G3.out.frozen hj
          refine region_anyZ (fun W : World => W.cell? ⟨g, j, none⟩ = some (.int .u8 ((mixX (x i) (y i) j j : Nat) : Int)) ∧ W.cell? ⟨b1, o1 + i, none⟩ = some (.slice (some ⟨by_, oy, none⟩) n (sc i)) ∧ W.cell? ⟨by_, oy + j, none⟩ = some (.int .u8 ((y i j : Nat) : Int))) 15 (by kernel_rfl) ?_
          refine takeG 0 (.move (.tmp 11)) (some 82) none (.slice (some ⟨g, 0, none⟩) n cg) (by kernel_rfl) (by kernel_rfl) (by kernel_rfl) (fun _ _ _ h => h) (fun o w e hS => exec_move w e (by kernel_rfl)) HS.out ?_
          refine takeG 1 (.move (.tmp 12)) (some 83) none (.int .i64 (j : Int)) (by kernel_rfl) (by kernel_rfl) (by kernel_rfl) (fun _ _ _ h => h) (fun o w e hS => exec_move w e (by kernel_rfl)) HS.out ?_
          refine takeG 2 (.move (.tmp 11)) (some 84) none (.slice (some ⟨g, 0, none⟩) n cg) (by kernel_rfl) (by kernel_rfl) (by kernel_rfl) (fun _ _ _ h => h) (fun o w e hS => exec_move w e (by kernel_rfl)) HS.out ?_
          refine takeG 3 (.move (.tmp 12)) (some 85) none (.int .i64 (j : Int)) (by kernel_rfl) (by kernel_rfl) (by kernel_rfl) (fun _ _ _ h => h) (fun o w e hS => exec_move w e (by kernel_rfl)) HS.out ?_
          refine takeG 4 (.indexAddr 34 (.tmp 84) (.tmp 85)) (some 86) none (.pointer (some ⟨g, j, none⟩)) (by kernel_rfl) (by kernel_rfl) (by kernel_rfl) (fun _ _ _ h => h) (fun o w e hS => exec_index (u1 := .slice (some ⟨g, 0, none⟩) n cg) (u2 := .int .i64 (j : Int)) w e (by kernel_rfl) (by kernel_rfl) (index_zero g n cg j hj _)) HS.out ?_
          refine takeG 5 (.load 5 (.tmp 86)) (some 87) none (.int .u8 ((mixX (x i) (y i) j j : Nat) : Int)) (by kernel_rfl) (by kernel_rfl) (by kernel_rfl) (fun _ _ _ h => h) (fun o w e hS => exec_load (x := (.tmp 86)) e (by kernel_rfl) (load_one Try.underlying5 (by kernel_rfl) hS.1)) HS.out ?_
          refine takeG 6 (.move (.tmp 1)) (some 88) none (.slice (some ⟨b1, o1, none⟩) k c2) (by kernel_rfl) (by kernel_rfl) (by kernel_rfl) (fun _ _ _ h => h) (fun o w e hS => exec_move w e (by kernel_rfl)) HS.out ?_
          refine takeG 7 (.move (.tmp 10)) (some 89) none (.int .i64 (i : Int)) (by kernel_rfl) (by kernel_rfl) (by kernel_rfl) (fun _ _ _ h => h) (fun o w e hS => exec_move w e (by kernel_rfl)) HS.out ?_
          refine takeG 8 (.indexAddr 22 (.tmp 88) (.tmp 89)) (some 90) none (.pointer (some ⟨b1, o1 + i, none⟩)) (by kernel_rfl) (by kernel_rfl) (by kernel_rfl) (fun _ _ _ h => h) (fun o w e hS => exec_index (u1 := .slice (some ⟨b1, o1, none⟩) k c2) (u2 := .int .i64 (i : Int)) w e (by kernel_rfl) (by kernel_rfl) (index_rows b1 o1 k c2 i hlt _)) HS.out ?_
          refine takeG 9 (.load 34 (.tmp 90)) (some 91) none (.slice (some ⟨by_, oy, none⟩) n (sc i)) (by kernel_rfl) (by kernel_rfl) (by kernel_rfl) (fun _ _ _ h => h) (fun o w e hS => exec_load (x := (.tmp 90)) e (by kernel_rfl) (load_one Try.underlying34 (by kernel_rfl) hS.2.1)) HS.out ?_
          refine takeG 10 (.move (.tmp 12)) (some 92) none (.int .i64 (j : Int)) (by kernel_rfl) (by kernel_rfl) (by kernel_rfl) (fun _ _ _ h => h) (fun o w e hS => exec_move w e (by kernel_rfl)) HS.out ?_
          refine takeG 11 (.indexAddr 34 (.tmp 91) (.tmp 92)) (some 93) none (.pointer (some ⟨by_, oy + j, none⟩)) (by kernel_rfl) (by kernel_rfl) (by kernel_rfl) (fun _ _ _ h => h) (fun o w e hS => exec_index (u1 := .slice (some ⟨by_, oy, none⟩) n (sc i)) (u2 := .int .i64 (j : Int)) w e (by kernel_rfl) (by kernel_rfl) (index_bytes by_ oy n (sc i) j hj _)) HS.out ?_
          refine takeG 12 (.load 5 (.tmp 93)) (some 94) none (.int .u8 ((y i j : Nat) : Int)) (by kernel_rfl) (by kernel_rfl) (by kernel_rfl) (fun _ _ _ h => h) (fun o w e hS => exec_load (x := (.tmp 93)) e (by kernel_rfl) (load_one Try.underlying5 (by kernel_rfl) hS.2.2)) HS.out ?_
          refine takeG 13 (.binOp .xor 5 (.tmp 87) (.tmp 94) 5) (some 95) none (.int .u8 ((mixX (x i) (y i) j j ^^^ y i j : Nat) : Int)) (by kernel_rfl) (by kernel_rfl) (by kernel_rfl) (fun _ _ _ h => h) (fun o w e hS => exec_bin (u1 := .int .u8 ((mixX (x i) (y i) j j : Nat) : Int)) (u2 := .int .u8 ((y i j : Nat) : Int)) w e (by kernel_rfl) (by kernel_rfl) (eqG_int ..) (u8_xor_run _ _ HXM.out HYL.out _)) HS.out ?_
          refine takeG 14 (.indexAddr 34 (.tmp 82) (.tmp 83)) (some 96) none (.pointer (some ⟨g, j, none⟩)) (by kernel_rfl) (by kernel_rfl) (by kernel_rfl) (fun _ _ _ h => h) (fun o w e hS => exec_index (u1 := .slice (some ⟨g, 0, none⟩) n cg) (u2 := .int .i64 (j : Int)) w e (by kernel_rfl) (by kernel_rfl) (index_zero g n cg j hj _)) HS.out ?_
          refine lastStore 15 5 (.tmp 96) (.tmp 95) (.pointer (some ⟨g, j, none⟩)) (.int .u8 ((mixX (x i) (y i) j j ^^^ y i j : Nat) : Int)) _ (by kernel_rfl) (by kernel_rfl) (by kernel_rfl) rfl (by kernel_rfl) (by kernel_rfl) (store_one size_u8 rfl rfl (by rw [HS.out.1]; rfl) HF.out (by rw [add_plain]; rfl)) ?_
          have G4 : Hid (RowG (wr.drew.setCell ⟨g, j, none⟩ (.int .u8 ((mixX (x i) (y i) j j ^^^ y i j : Nat) : Int))) g n (mixX (x i) (y i) (j + 1))) := ((show RowG wr.drew g n (mixX (x i) (y i) j) from G3.out).set hj).congr fun v _ => by
            unfold upd
            by_cases e : v = j
            · subst e; rw [if_pos rfl]; unfold mixX; rw [if_neg (by omega), if_pos (by omega)]
            · rw [if_neg e]; unfold mixX
              by_cases e2 : v < j
              · rw [if_pos e2, if_pos (by omega)]
              · rw [if_neg e2, if_neg (by omega)]
          have L4 : Hid (Below wo.heap.size wo (wr.drew.setCell ⟨g, j, none⟩ (.int .u8 ((mixX (x i) (y i) j j ^^^ y i j : Nat) : Int)))) := (below_drew L3.out).setCell (p := ⟨g, j, none⟩) hgb _
          clear G3 L3 HS HF HXM HYL
          simp only [put_some, put_none, List.setIfInBounds_toArray, List.set_cons_succ, List.set_cons_zero]
          go_wp2_with fail
          go_roundw
          case rel => exact ⟨j + 1, by go_num, by omega, G4, L4⟩
          case measure => simp [intOf]; omega
        · obtain rfl : n = j := by omega
          have G4 : Hid (RowG wr g n (fun u => x i u ^^^ y i u)) := G3.out.congr fun v hv => by unfold mixX; rw [if_pos hv]
          have C4 : Hid (Cols (wr.alloc (.cells #[.slice (some ⟨g, 0, none⟩) n cg] 34)) w4.heap.size u9 i n H R (fun j u => x j u ^^^ y j u)) := Lib.hid ((C1.out.below L3.out (Nat.le_refl _)).below ((Below.refl wr.heap.size wr).alloc (Nat.le_refl _) _) (Nat.le_refl _))
          have H4 := Lib.hid (rdh_one wr (some ⟨g, 0, none⟩) n cg)
          have s3 := L3.out.size
          have hzz : w4.heap.size ≤ (wr.alloc (.cells #[.slice (some ⟨g, 0, none⟩) n cg] 34)).heap.size := by simp; omega
          have HZ := Lib.hid hzz
          clear hzz
          go_wp2_with ((with_reducible refine wpList_append_hd rfl (.tmp 97) (.tmp 99) rfl rfl rfl C4.out.own H4.out (fun e => by cases e) (Nat.le_refl _) (by omega) HZ.out ?_); intro v5 w5 ho5 hg5 he5; refine of_hid ?_)
          refine Lib.hid ?_
          have C5 := Lib.hid (C4.out.push ho5 hg5 (G4.out.alloc _) (by omega) ⟨hng, by unfold maxLen; omega⟩ (fun j hj => by have := (C1.out.row j hj).2.lt; omega) (fun _ _ => rfl))
          have L5 := Lib.hid (own_rowS ((L1.out.trans (L3.out.mono s41)).alloc (by omega) _) C4.out.own hg5 HZ.out)
          clear ho5 hg5 he5 C4 C1 L1 L3 G3 G4 H4 HZ
          go_wp2_with fail
          go_roundw
          case rel => exact ⟨i + 1, _, _, by go_num, by omega, C5, L5⟩
          case measure => simp [intOf]; omega
    · obtain rfl : k = i := by omega
      obtain ⟨Ac, cc, rfl, hkc, hcm, RR⟩ := C1.out.rdr (fun j hj v hv => M.xor_lt (HX.out j hj v hv) (HY.out j hj v hv))
      have HRR := Lib.hid RR
      have HAL := Lib.hid (C1.out.alike hk0 hn1 hn2)
      have HN0 := Lib.hid (C1.out.len hk0)
      clear RR
      go_wp2_with fail
      refine (make_yes k cc wo.heap.size Ac _ _ _ _ wo HRR.out (Nat.le_refl _) hk0 hk13 HAL.out).mono ?_
      rintro e w7 ⟨v, rfl, ⟨h7, R7, rfl, hp7⟩, hb7⟩
      rw [HN0.out] at hp7
      have P7 := Lib.hid hp7
      have s41 := L1.out.size
      have L7 := Lib.hid (L1.out.trans (hb7.mono s41))
      have P3s := Lib.hid (P3.out.below L7.out s34.out)
      have P4s := Lib.hid (P4'.out.below L7.out (Nat.le_refl _))
      have HPE : Hid (∀ j v, v < n → M.par k j (fun j u => x j u ^^^ y j u) v = M.par k j x v ^^^ M.par k j y v) := fun j v hv => par_sum k j x y v (fun i hi => HX.out i hi v hv) (fun i hi => HY.out i hi v hv)
      have LF := Lib.hid (B4.out.trans (L7.out.mono s04))
      have HP3 : Hid (∀ j v, M.par k j x v < 256) := fun j v => M.par_lt k j x v
      have HP4 : Hid (∀ j v, M.par k j y v < 256) := fun j v => M.par_lt k j y v
      obtain ⟨p7, p3, p4, P7', P3', P4', HPE, HP3, HP4⟩ : ∃ p7 p3 p4 : Nat → Nat → Nat, Hid (RdR w7 w7.heap.size (some ⟨h7, 0, none⟩) 3 (fun i => some ⟨R7 i, 0, none⟩) (fun _ => n) (fun _ => n) p7) ∧ Hid (RdR w7 w3.heap.size (some ⟨h3, 0, none⟩) 3 (fun i => some ⟨R3 i, 0, none⟩) (fun _ => n) (fun _ => n) p3) ∧ Hid (RdR w7 w4.heap.size (some ⟨h4, 0, none⟩) 3 (fun i => some ⟨R4 i, 0, none⟩) (fun _ => n) (fun _ => n) p4) ∧ Hid (∀ j v, v < n → p7 j v = p3 j v ^^^ p4 j v) ∧ Hid (∀ j v, p3 j v < 256) ∧ Hid (∀ j v, p4 j v < 256) := ⟨_, _, _, P7, P3s, P4s, HPE, HP3, HP4⟩
      clear hp7 hb7 HRR HAL HN0 C1 L1 P3 X4 Y4 HX HY HC' L7 P7 P3s P4s HLA HLB s34
      go_wp2_with fail
      go_loopw [15] (fun t W => ∃ j d : Nat, t = .int .i64 j ∧ j ≤ 3 ∧ Hid (W = w7.drewN d)) (fun t _ => 3 - (intOf t).toNat)
      case atStart => exact ⟨0, 0, rfl, by omega, Lib.hid rfl⟩
      case round =>
        obtain ⟨wz, rfl⟩ : ∃ wz : World, wz = wr := ⟨_, rfl⟩
        obtain ⟨j, d, rfl, hj3, HW⟩ := hrel
        by_cases hj : j < 3
        · have hjh : Hid (j < 3) := hj
          go_wp2_with fail
          go_loopw [16] (fun t W => ∃ v d : Nat, t = .int .i64 v ∧ v ≤ n ∧ Hid (W = w7.drewN d)) (fun t _ => n - (intOf t).toNat)
          case atStart => exact ⟨0, d, rfl, by omega, HW⟩
          case round =>
            obtain ⟨v, d2, rfl, hvn, HW2⟩ := hrel
            have hcl : wr.cell? ⟨h7, j, none⟩ = some (.slice (some ⟨R7 j, 0, none⟩) n n) := by
              rw [HW2.out]
              have h := (P7'.out.head hj).2.1
              rw [Nat.zero_add] at h
              exact h
            by_cases hv : v < n
            · have HSc : Hid ((wr.cell? ⟨h7, j, none⟩ = some (.slice (some ⟨R7 j, 0, none⟩) n n) ∧ wr.cell? ⟨R7 j, v, none⟩ = some (.int .u8 ((p7 j v : Nat) : Int))) ∧ (wr.cell? ⟨h3, j, none⟩ = some (.slice (some ⟨R3 j, 0, none⟩) n n) ∧ wr.cell? ⟨R3 j, v, none⟩ = some (.int .u8 ((p3 j v : Nat) : Int))) ∧ wr.cell? ⟨h4, j, none⟩ = some (.slice (some ⟨R4 j, 0, none⟩) n n) ∧ wr.cell? ⟨R4 j, v, none⟩ = some (.int .u8 ((p4 j v : Nat) : Int))) := by
                rw [HW2.out]
                exact ⟨P7'.out.of_par hj hv, P3'.out.of_par hj hv, P4'.out.of_par hj hv⟩
              have HPj := Lib.hid (HPE.out j v hv)
              go_wp2_with fail
              have HS : Hid ((wr.drew.cell? ⟨h7, j, none⟩ = some (.slice (some ⟨R7 j, 0, none⟩) n n) ∧ wr.drew.cell? ⟨R7 j, v, none⟩ = some (.int .u8 ((p7 j v : Nat) : Int))) ∧ (wr.drew.cell? ⟨h3, j, none⟩ = some (.slice (some ⟨R3 j, 0, none⟩) n n) ∧ wr.drew.cell? ⟨R3 j, v, none⟩ = some (.int .u8 ((p3 j v : Nat) : Int))) ∧ wr.drew.cell? ⟨h4, j, none⟩ = some (.slice (some ⟨R4 j, 0, none⟩) n n) ∧ wr.drew.cell? ⟨R4 j, v, none⟩ = some (.int .u8 ((p4 j v : Nat) : Int))) := HSc.out
              refine region_anyZ (fun W : World => (W.cell? ⟨h7, j, none⟩ = some (.slice (some ⟨R7 j, 0, none⟩) n n) ∧ W.cell? ⟨R7 j, v, none⟩ = some (.int .u8 ((p7 j v : Nat) : Int))) ∧ (W.cell? ⟨h3, j, none⟩ = some (.slice (some ⟨R3 j, 0, none⟩) n n) ∧ W.cell? ⟨R3 j, v, none⟩ = some (.int .u8 ((p3 j v : Nat) : Int))) ∧ W.cell? ⟨h4, j, none⟩ = some (.slice (some ⟨R4 j, 0, none⟩) n n) ∧ W.cell? ⟨R4 j, v, none⟩ = some (.int .u8 ((p4 j v : Nat) : Int))) 23 (by kernel_rfl) ?_
              refine takeG 0 (.move (.tmp 13)) (some 126) none (.slice (some ⟨h7, 0, none⟩) 3 3) (by kernel_rfl) (by kernel_rfl) (by kernel_rfl) (fun _ _ _ h => h) (fun o w e hS => exec_move w e (by kernel_rfl)) HS.out ?_
              refine takeG 1 (.move (.tmp 15)) (some 127) none (.int .i64 (j : Int)) (by kernel_rfl) (by kernel_rfl) (by kernel_rfl) (fun _ _ _ h => h) (fun o w e hS => exec_move w e (by kernel_rfl)) HS.out ?_
              refine takeG 2 (.indexAddr 22 (.tmp 126) (.tmp 127)) (some 128) none (.pointer (some ⟨h7, j, none⟩)) (by kernel_rfl) (by kernel_rfl) (by kernel_rfl) (fun _ _ _ h => h) (fun o w e hS => exec_index (u1 := .slice (some ⟨h7, 0, none⟩) 3 3) (u2 := .int .i64 (j : Int)) w e (by kernel_rfl) (by kernel_rfl) (index_rows_zero h7 3 3 j hj _)) HS.out ?_
              refine takeG 3 (.load 34 (.tmp 128)) (some 129) none (.slice (some ⟨R7 j, 0, none⟩) n n) (by kernel_rfl) (by kernel_rfl) (by kernel_rfl) (fun _ _ _ h => h) (fun o w e hS => exec_load (x := (.tmp 128)) e (by kernel_rfl) (load_one Try.underlying34 (by kernel_rfl) hS.1.1)) HS.out ?_
              refine takeG 4 (.move (.tmp 16)) (some 130) none (.int .i64 (v : Int)) (by kernel_rfl) (by kernel_rfl) (by kernel_rfl) (fun _ _ _ h => h) (fun o w e hS => exec_move w e (by kernel_rfl)) HS.out ?_
              refine takeG 5 (.indexAddr 34 (.tmp 129) (.tmp 130)) (some 131) none (.pointer (some ⟨R7 j, v, none⟩)) (by kernel_rfl) (by kernel_rfl) (by kernel_rfl) (fun _ _ _ h => h) (fun o w e hS => exec_index (u1 := .slice (some ⟨R7 j, 0, none⟩) n n) (u2 := .int .i64 (v : Int)) w e (by kernel_rfl) (by kernel_rfl) (index_zero (R7 j) n n v hv _)) HS.out ?_
              refine takeG 6 (.load 5 (.tmp 131)) (some 132) none (.int .u8 ((p7 j v : Nat) : Int)) (by kernel_rfl) (by kernel_rfl) (by kernel_rfl) (fun _ _ _ h => h) (fun o w e hS => exec_load (x := (.tmp 131)) e (by kernel_rfl) (load_one Try.underlying5 (by kernel_rfl) hS.1.2)) HS.out ?_
              refine takeG 7 (.move (.tmp 5)) (some 133) none (.slice (some ⟨h3, 0, none⟩) 3 3) (by kernel_rfl) (by kernel_rfl) (by kernel_rfl) (fun _ _ _ h => h) (fun o w e hS => exec_move w e (by kernel_rfl)) HS.out ?_
              refine takeG 8 (.move (.tmp 15)) (some 134) none (.int .i64 (j : Int)) (by kernel_rfl) (by kernel_rfl) (by kernel_rfl) (fun _ _ _ h => h) (fun o w e hS => exec_move w e (by kernel_rfl)) HS.out ?_
              refine takeG 9 (.indexAddr 22 (.tmp 133) (.tmp 134)) (some 135) none (.pointer (some ⟨h3, j, none⟩)) (by kernel_rfl) (by kernel_rfl) (by kernel_rfl) (fun _ _ _ h => h) (fun o w e hS => exec_index (u1 := .slice (some ⟨h3, 0, none⟩) 3 3) (u2 := .int .i64 (j : Int)) w e (by kernel_rfl) (by kernel_rfl) (index_rows_zero h3 3 3 j hj _)) HS.out ?_
              refine takeG 10 (.load 34 (.tmp 135)) (some 136) none (.slice (some ⟨R3 j, 0, none⟩) n n) (by kernel_rfl) (by kernel_rfl) (by kernel_rfl) (fun _ _ _ h => h) (fun o w e hS => exec_load (x := (.tmp 135)) e (by kernel_rfl) (load_one Try.underlying34 (by kernel_rfl) hS.2.1.1)) HS.out ?_
              refine takeG 11 (.move (.tmp 16)) (some 137) none (.int .i64 (v : Int)) (by kernel_rfl) (by kernel_rfl) (by kernel_rfl) (fun _ _ _ h => h) (fun o w e hS => exec_move w e (by kernel_rfl)) HS.out ?_
              refine takeG 12 (.indexAddr 34 (.tmp 136) (.tmp 137)) (some 138) none (.pointer (some ⟨R3 j, v, none⟩)) (by kernel_rfl) (by kernel_rfl) (by kernel_rfl) (fun _ _ _ h => h) (fun o w e hS => exec_index (u1 := .slice (some ⟨R3 j, 0, none⟩) n n) (u2 := .int .i64 (v : Int)) w e (by kernel_rfl) (by kernel_rfl) (index_zero (R3 j) n n v hv _)) HS.out ?_
              refine takeG 13 (.load 5 (.tmp 138)) (some 139) none (.int .u8 ((p3 j v : Nat) : Int)) (by kernel_rfl) (by kernel_rfl) (by kernel_rfl) (fun _ _ _ h => h) (fun o w e hS => exec_load (x := (.tmp 138)) e (by kernel_rfl) (load_one Try.underlying5 (by kernel_rfl) hS.2.1.2)) HS.out ?_
              refine takeG 14 (.move (.tmp 7)) (some 140) none (.slice (some ⟨h4, 0, none⟩) 3 3) (by kernel_rfl) (by kernel_rfl) (by kernel_rfl) (fun _ _ _ h => h) (fun o w e hS => exec_move w e (by kernel_rfl)) HS.out ?_
              refine takeG 15 (.move (.tmp 15)) (some 141) none (.int .i64 (j : Int)) (by kernel_rfl) (by kernel_rfl) (by kernel_rfl) (fun _ _ _ h => h) (fun o w e hS => exec_move w e (by kernel_rfl)) HS.out ?_
              refine takeG 16 (.indexAddr 22 (.tmp 140) (.tmp 141)) (some 142) none (.pointer (some ⟨h4, j, none⟩)) (by kernel_rfl) (by kernel_rfl) (by kernel_rfl) (fun _ _ _ h => h) (fun o w e hS => exec_index (u1 := .slice (some ⟨h4, 0, none⟩) 3 3) (u2 := .int .i64 (j : Int)) w e (by kernel_rfl) (by kernel_rfl) (index_rows_zero h4 3 3 j hj _)) HS.out ?_
              refine takeG 17 (.load 34 (.tmp 142)) (some 143) none (.slice (some ⟨R4 j, 0, none⟩) n n) (by kernel_rfl) (by kernel_rfl) (by kernel_rfl) (fun _ _ _ h => h) (fun o w e hS => exec_load (x := (.tmp 142)) e (by kernel_rfl) (load_one Try.underlying34 (by kernel_rfl) hS.2.2.1)) HS.out ?_
              refine takeG 18 (.move (.tmp 16)) (some 144) none (.int .i64 (v : Int)) (by kernel_rfl) (by kernel_rfl) (by kernel_rfl) (fun _ _ _ h => h) (fun o w e hS => exec_move w e (by kernel_rfl)) HS.out ?_
              refine takeG 19 (.indexAddr 34 (.tmp 143) (.tmp 144)) (some 145) none (.pointer (some ⟨R4 j, v, none⟩)) (by kernel_rfl) (by kernel_rfl) (by kernel_rfl) (fun _ _ _ h => h) (fun o w e hS => exec_index (u1 := .slice (some ⟨R4 j, 0, none⟩) n n) (u2 := .int .i64 (v : Int)) w e (by kernel_rfl) (by kernel_rfl) (index_zero (R4 j) n n v hv _)) HS.out ?_
              refine takeG 20 (.load 5 (.tmp 145)) (some 146) none (.int .u8 ((p4 j v : Nat) : Int)) (by kernel_rfl) (by kernel_rfl) (by kernel_rfl) (fun _ _ _ h => h) (fun o w e hS => exec_load (x := (.tmp 145)) e (by kernel_rfl) (load_one Try.underlying5 (by kernel_rfl) hS.2.2.2)) HS.out ?_
              refine takeG 21 (.binOp .xor 5 (.tmp 139) (.tmp 146) 5) (some 147) none (.int .u8 ((p3 j v ^^^ p4 j v : Nat) : Int)) (by kernel_rfl) (by kernel_rfl) (by kernel_rfl) (fun _ _ _ h => h) (fun o w e hS => exec_bin (u1 := .int .u8 ((p3 j v : Nat) : Int)) (u2 := .int .u8 ((p4 j v : Nat) : Int)) w e (by kernel_rfl) (by kernel_rfl) (eqG_int ..) (u8_xor_run _ _ (HP3.out j v) (HP4.out j v) _)) HS.out ?_
              refine lastS 22 (.binOp .neq 5 (.tmp 132) (.tmp 147) 5) (some 148) (.bool false) (by kernel_rfl) (by kernel_rfl) (by kernel_rfl) HS.out (fun o e => exec_bin (u1 := .int .u8 ((p7 j v : Nat) : Int)) (u2 := .int .u8 ((p3 j v ^^^ p4 j v : Nat) : Int)) _ e (by kernel_rfl) (by kernel_rfl) (eqG_int ..) (neq_u8_same HPj.out _)) ?_
              clear HS HSc hcl
              simp only [put_some, put_none, List.setIfInBounds_toArray, List.set_cons_succ, List.set_cons_zero]
              go_wp2_with fail
              go_roundw
              case rel => exact ⟨v + 1, d2 + 1, by go_num, by omega, Lib.hid (by rw [HW2.out]; first | rfl | exact World.drewN_drewN ..)⟩
              case measure => simp [intOf]; omega
            · go_wp2_with fail
              go_roundw
              case rel => exact ⟨j + 1, d2, by go_num, by omega, HW2⟩
              case measure => simp [intOf]; omega
        · have hw := HW.out
          go_wp2_with fail
          go_ret
          exact ⟨rfl, below_drewN LF.out d⟩
end paritySums
end Go.Proofs.Ytgljeeblkcmlmaa
