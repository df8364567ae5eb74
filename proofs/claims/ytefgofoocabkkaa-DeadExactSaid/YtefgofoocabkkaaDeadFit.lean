/-
  What the document's calls answer has room; the law's small comparisons. No conditions beyond those that each theorem types.
-/
import Derived.Test.YtefgofoocabkkaaDeadDocDesM
import Derived.Test.YtefgofoocabkkaaDeadDestroy
import Derived.Test.YtefgofoocabkkaaDeadOf
import Derived.Test.YtefgofoocabkkaaDeadArgs
import Derived.Test.YtefgofoocabkkaaDeadKnown
namespace Go.Proofs.Ytefgofoocabkkaa
open Go Go.RowKit
set_option maxRecDepth 100000
set_option linter.unusedVariables false
namespace Dd
theorem tyP : TyP Try.prog 26 36 := ⟨Try.underlying26, ⟨_, _, _, _, Try.underlying36, by kernel_rfl, Try.underlying3, Try.underlying3, Try.underlying3, Try.underlying9⟩, by kernel_rfl, by kernel_rfl⟩
theorem fit_zero : Fit lnZero := fit0
theorem fit_kill {L : Ln} (hf : Fit L) (ht : Tight L) (p : Pt) (hp : Z64 p.birth) : Fit (killS L p).1 := by
  unfold killS
  by_cases h : rightL L = true
  · rw [if_pos h]
    by_cases h2 : aheadL L L.snaps.length < p.birth
    · rw [if_pos h2]; exact hf
    · rw [if_neg h2]
      refine ⟨hf.rs, ?_, hf.rp, hf.zb, hf.zt, fun q hq => ?_, hf.zs⟩
      · show (L.dead ++ [p]).length * 40 ≤ room
        have := ht.1
        unfold room
        rw [List.length_append, List.length_singleton]
        omega
      · rcases List.mem_append.1 hq with hq | hq
        · exact hf.zp q hq
        · rw [List.mem_singleton.1 hq]; exact hp
  · rw [if_neg h]; exact fit0
theorem fit_snap {L : Ln} (hf : Fit L) (ht : Tight L) (t : Int) (hz : Z64 t) : Fit (snapS L t).1 := by
  unfold snapS
  by_cases h : rightL L = true
  · rw [if_pos h]
    by_cases h2 : t ≤ aheadL L L.snaps.length
    · rw [if_pos h2]; exact fit0
    · rw [if_neg h2]
      have h1 : (L.snaps ++ [(⟨t, L.dead⟩ : Sn)]).length * 32 ≤ room := by
        have := ht.2
        unfold room
        rw [List.length_append, List.length_singleton]
        omega
      have h3 : ([] : List Pt).length * 40 ≤ room := by unfold room; decide
      have h4 : ∀ s ∈ L.snaps ++ [(⟨t, L.dead⟩ : Sn)], s.dead.length * 40 ≤ room ∧ Z64 s.txg ∧ ∀ q ∈ s.dead, Z64 q.birth := fun s hs => by
        rcases List.mem_append.1 hs with hs | hs
        · exact ⟨hf.rp s hs, hf.zt s hs, hf.zs s hs⟩
        · rw [List.mem_singleton.1 hs]; exact ⟨hf.rd, hz, hf.zp⟩
      exact ⟨h1, h3, fun s hs => (h4 s hs).1, hf.zb, fun s hs => (h4 s hs).2.1, (fun q hq => by cases hq), fun s hs => (h4 s hs).2.2⟩
  · rw [if_neg h]; exact fit0
theorem eq_ck (R : Bool) (W : World) : (binOp .eql 32 (.int .i64 (if R then 0 else 2)) (.int .i64 0)).run Try.prog W = .ok (.bool R) W := by cases R <;> rfl
theorem eq_ck2 {R : Bool} {c : Int} (h : c = if R then 0 else 2) (W : World) : (binOp .eql 32 (.int .i64 c) (.int .i64 0)).run Try.prog W = .ok (.bool R) W := by rw [h]; exact eq_ck R W
theorem neq_bb (R : Bool) (W : World) : (binOp .neq 4 (.bool R) (.bool R)).run Try.prog W = .ok (.bool false) W := by cases R <;> rfl
theorem not_t (W : World) : (Op.unary .not (.bool true)).run Try.prog W = .ok (.bool false) W := rfl
theorem neq_er (a : Int) (W : World) : (binOp .neq 32 (.int .i64 a) (.int .i64 a)).run Try.prog W = .ok (.bool false) W := by
  have h : (binOp .neq 32 (.int .i64 a) (.int .i64 a)).run Try.prog W = .ok (.bool (a != a)) W := rfl
  rw [h]
  simp
theorem eql_er (a : Int) (W : World) : (binOp .eql 32 (.int .i64 a) (.int .i64 a)).run Try.prog W = .ok (.bool true) W := by
  have h : (binOp .eql 32 (.int .i64 a) (.int .i64 a)).run Try.prog W = .ok (.bool (a == a)) W := rfl
  rw [h]
  simp
theorem eqG_bool (op : BinOp) (t : TypeId) (x y : Operand) (a b : Bool) (P : Program) (w : World) : (eqGuard op t x y (.bool a) (.bool b)).run P w = .ok () w := by
  unfold eqGuard
  cases op <;> rfl
theorem wp_st {P : Program} {o : Oper} {a : Act} {w w' : World} {K : Act → World → Prop} {Q : Exit → Act → World → Prop} (hl : (execOp a.eval o).run P w = .ok .skip w') (h : K (a.put o.dst undef) w') : o.wp P a w K Q := by
  unfold Oper.wp
  rw [hl]
  exact h
end Dd
end Go.Proofs.Ytefgofoocabkkaa
