/-
  What the walks of parity's laws want of single operations. No conditions beyond those that each theorem types.
-/
import Derived.Test.YtoabhbmhjelplaaParGrow
import Derived.Test.YtoabhbmhjelplaaDrawSeqM
import Derived.Test.YtoabhbmhjelplaaStrBM
namespace Go.Proofs.Ytoabhbmhjelplaa
open Go Go.RowKit
set_option maxRecDepth 100000
set_option linter.unusedVariables false
theorem len_rows (ty : TypeId) (A : Option Addr) (n c : Nat) (w : World) : (Builtin.len_ #[22] ty #[.slice A n c]).run Try.prog w = .ok (.int .i64 (n : Int)) w := by
  simp [Builtin.len_, Builtin.lenOf, goInt, run_underlying Try.underlying22]
theorem neq_int_t (a b : Nat) (h : a ≠ b) (w : World) : (binOp .neq 3 (.int .i64 (a : Int)) (.int .i64 (b : Int))).run Try.prog w = .ok (.bool true) w := by
  have e : (!((a : Int) == (b : Int))) = true := by
    rw [Bool.not_eq_true', beq_eq_false_iff_ne]; omega
  have h : (binOp .neq 3 (.int .i64 (a : Int)) (.int .i64 (b : Int))).run Try.prog w = .ok (.bool (!((a : Int) == (b : Int)))) w := by kernel_rfl
  rw [h, e]
theorem neq_int_f (a : Nat) (w : World) : (binOp .neq 3 (.int .i64 (a : Int)) (.int .i64 (a : Int))).run Try.prog w = .ok (.bool false) w := by
  have h : (binOp .neq 3 (.int .i64 (a : Int)) (.int .i64 (a : Int))).run Try.prog w = .ok (.bool (!((a : Int) == (a : Int)))) w := by kernel_rfl
  rw [h, beq_self_eq_true]
  rfl
theorem neq_int_same {a b : Nat} (h : a = b) (w : World) : (binOp .neq 3 (.int .i64 (a : Int)) (.int .i64 (b : Int))).run Try.prog w = .ok (.bool false) w := by
  subst h
  exact neq_int_f a w
theorem neq_u8_same {a b : Nat} (h : a = b) (w : World) : (binOp .neq 5 (.int .u8 (a : Int)) (.int .u8 (b : Int))).run Try.prog w = .ok (.bool false) w := by
  subst h
  have h : (binOp .neq 5 (.int .u8 (a : Int)) (.int .u8 (a : Int))).run Try.prog w = .ok (.bool (!((a : Int) == (a : Int)))) w := by kernel_rfl
  rw [h, beq_self_eq_true]
  rfl
theorem index_rows (b o n c i : Nat) (h : i < n) (w : World) : (Instr.indexAt 22 (.slice (some ⟨b, o, none⟩) n c) (.int .i64 (i : Int))).run Try.prog w = .ok (.pointer (some ⟨b, o + i, none⟩)) w :=
  index_slice (P := Try.prog) (t := 22) (e := 31) Try.underlying22 (by kernel_rfl) b o n c i h w
theorem index_rows_zero (b n c i : Nat) (h : i < n) (w : World) : (Instr.indexAt 22 (.slice (some ⟨b, 0, none⟩) n c) (.int .i64 (i : Int))).run Try.prog w = .ok (.pointer (some ⟨b, i, none⟩)) w := by
  have h := index_rows b 0 n c i h w
  rw [Nat.zero_add] at h
  exact h
theorem index_bytes (b o n c i : Nat) (h : i < n) (w : World) : (Instr.indexAt 31 (.slice (some ⟨b, o, none⟩) n c) (.int .i64 (i : Int))).run Try.prog w = .ok (.pointer (some ⟨b, o + i, none⟩)) w :=
  index_slice (P := Try.prog) (t := 31) (e := 5) Try.underlying31 size_u8 b o n c i h w
theorem RdR.head {w : World} {B n i b o : Nat} {ra : Nat → Option Addr} {rl rc : Nat → Nat} {x : Nat → Nat → Nat} (h : RdR w B (some ⟨b, o, none⟩) n ra rl rc x) (hi : i < n) : b < B ∧ w.cell? ⟨b, o + i, none⟩ = some (.slice (ra i) (rl i) (rc i)) ∧ RdB w B (ra i) (rl i) (x i) := by
  obtain ⟨b', o', q, h1, h2, h3⟩ := h i hi
  injection q with q
  injection q with q1 q2
  subst q1; subst q2
  exact ⟨h1, h2, h3⟩
theorem RdB.at_ {w : World} {B n j b o : Nat} {x : Nat → Nat} (h : RdB w B (some ⟨b, o, none⟩) n x) (hj : j < n) : b < B ∧ w.cell? ⟨b, o + j, none⟩ = some (.int .u8 ((x j : Nat) : Int)) ∧ x j < 256 := by
  obtain ⟨b', o', q, h1, h2, h3⟩ := h j hj
  injection q with q
  injection q with q1 q2
  subst q1; subst q2
  exact ⟨h1, h2, h3⟩
theorem below_drew {B : Nat} {a w : World} (h : Below B a w) : Below B a w.drew := ⟨h.os, h.tape, h.output, h.size, h.block⟩
theorem RdR.of_par {w : World} {h n B : Nat} {R : Nat → Nat} {x : Nat → Nat → Nat} (hp : RdR w B (some ⟨h, 0, none⟩) 3 (fun i => some ⟨R i, 0, none⟩) (fun _ => n) (fun _ => n) x) {j v : Nat} (hj : j < 3) (hv : v < n) :
    w.cell? ⟨h, j, none⟩ = some (.slice (some ⟨R j, 0, none⟩) n n) ∧ w.cell? ⟨R j, v, none⟩ = some (.int .u8 ((x j v : Nat) : Int)) := by
  obtain ⟨_, h1, h2⟩ := hp.head hj
  obtain ⟨_, h3, _⟩ := h2.at_ hv
  rw [Nat.zero_add] at h1 h3
  exact ⟨h1, h3⟩
end Go.Proofs.Ytoabhbmhjelplaa
