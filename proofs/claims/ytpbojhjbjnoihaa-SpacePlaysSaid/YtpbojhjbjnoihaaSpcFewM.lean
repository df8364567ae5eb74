/-
  The calls of no space at all. No conditions.
-/
import Derived.Test.YtpbojhjbjnoihaaSpcGive
import Derived.Test.YtpbojhjbjnoihaaIntRowM
namespace Go.Proofs.Ytpbojhjbjnoihaa
open Go Go.RowKit
set_option maxRecDepth 100000
set_option linter.unusedVariables false
namespace Sp
theorem nobody_at (w : World) : Calls Try.prog 7 #[] w fun e w' => e = .returned (.pointer none) ∧ Below w.heap.size w w' := by
  go_enter Try.func7, Try.ntmps7
  go_wp2_with fail
  go_ret
  exact ⟨rfl, Below.refl _ _⟩
theorem none_nil (w : World) : Calls Try.prog 26 #[.pointer none] w fun e w' => e = .returned (.bool true) ∧ w' = w := by
  go_enter Try.func26, Try.ntmps26
  go_wp2_with fail
  go_ret
  exact ⟨rfl, rfl⟩
theorem free_nil (w : World) : Calls Try.prog 8 #[.pointer none] w fun e w' => e = .returned (.int .i64 0) ∧ Below w.heap.size w w' := by
  have HN := Lib.hid (none_nil w)
  go_enter Try.func8, Try.ntmps8
  go_wp2_with fail
  refine HN.out.mono ?_
  rintro e w2 ⟨rfl, hw⟩
  have hw := hw.symm
  subst hw
  go_wp2_with fail
  go_ret
  exact ⟨rfl, Below.refl _ _⟩
theorem settle_nil (w : World) : Calls Try.prog 11 #[.pointer none] w fun e w' => e = .returned (.int .i64 0) ∧ Below w.heap.size w w' := by
  have HN := Lib.hid (none_nil w)
  go_enter Try.func11, Try.ntmps11
  go_wp2_with fail
  refine HN.out.mono ?_
  rintro e w2 ⟨rfl, hw⟩
  have hw := hw.symm
  subst hw
  go_wp2_with fail
  go_ret
  exact ⟨rfl, Below.refl _ _⟩
theorem copy_nil (w : World) : Calls Try.prog 10 #[.pointer none] w fun e w' => e = .returned (.pointer none) ∧ Below w.heap.size w w' := by
  go_enter Try.func10, Try.ntmps10
  go_wp2_with fail
  go_ret
  exact ⟨rfl, Below.refl _ _⟩
theorem span_nil (w : World) : Calls Try.prog 27 #[.pointer none, .int .i64 0, .int .i64 1] w fun e w' => e = .returned (.tuple #[.agg #[.int .i64 0, .int .i64 0], .bool false]) ∧ Below w.heap.size w w' := by
  obtain ⟨W, hW⟩ : ∃ W, W = w.alloc (.cells #[.int .i64 0, .int .i64 0] 34) := ⟨_, rfl⟩
  have hb : Below w.heap.size w W := by rw [hW]; exact (Below.refl _ _).alloc (Nat.le_refl _) _
  have X5 : Blk W w.heap.size 34 #[.int .i64 0, .int .i64 0] := by rw [hW]; exact Blk.new _ _ _
  have hn := Lib.hid (none_nil W)
  obtain ⟨r5, hr5⟩ : ∃ r5, r5 = w.heap.size := ⟨_, rfl⟩
  rw [← hr5] at X5
  have HR5 := Lib.hid hr5
  have L1 := Lib.hid hb
  have B5 := Lib.hid X5
  have d0 : W.cell? ⟨r5, 0, none⟩ = some (.int .i64 0) := X5.cell 0
  have d1 : W.cell? ⟨r5, 1, none⟩ = some (.int .i64 0) := X5.cell 1
  have f0 : W.frozen? ⟨r5, 0, none⟩ = false := X5.frozen 0
  have f1 : W.frozen? ⟨r5, 1, none⟩ = false := X5.frozen 1
  clear hb X5
  go_enter Try.func27, Try.ntmps27
  go_upto_region 1 with (fail)
  rw [← hW, ← HR5.out]
  clear hW hr5
  go_wp2_with fail
  refine hn.out.mono ?_
  rintro e w' ⟨rfl, rfl⟩
  have T5 := (B5.out.set_ 0 (.int .i64 0)).set_ 1 (.int .i64 0)
  have L5 : Below w.heap.size w ((w'.setCell ⟨r5, 0, none⟩ (.int .i64 0)).setCell ⟨r5, 1, none⟩ (.int .i64 0)) := (L1.out.setCell (p := ⟨r5, 0, none⟩) (by rw [HR5.out]; exact Nat.le_refl _) _).setCell (p := ⟨r5, 1, none⟩) (by rw [HR5.out]; exact Nat.le_refl _) _
  have HT5 := Lib.hid T5
  have HL5 := Lib.hid L5
  clear T5 L5
  go_wp2_with fail
  refine bodyPost_ret (results_cell2 rfl rfl (loadVar_blk HT5.out Try.underlying34 rfl size_range) rfl) rfl ⟨rfl, HL5.out⟩
theorem give_nil (w : World) : Calls Try.prog 9 #[.pointer none, .int .i64 0, .int .i64 1] w fun e w' => e = .returned (.int .i64 1) ∧ Below w.heap.size w w' := by
  have HN := Lib.hid (span_nil w)
  go_enter Try.func9, Try.ntmps9
  go_wp2_with fail
  refine HN.out.mono ?_
  rintro e w2 ⟨rfl, b2⟩
  have L2 : Hid (Below w.heap.size w (w2.alloc (.cells #[.int .i64 0, .int .i64 0] 34))) := Lib.hid (b2.alloc b2.size _)
  clear b2
  go_wp2_with fail
  go_ret
  exact ⟨rfl, L2.out⟩
end Sp
end Go.Proofs.Ytpbojhjbjnoihaa
namespace Go.Proofs.Ytpbojhjbjnoihaa
open Go Go.RowKit
set_option maxRecDepth 100000
set_option linter.unusedVariables false
namespace Sp
def fewZ (C : Int) : Int := if 80 < C ∧ C ≤ 40000 then 80 else C
theorem few_at (w : World) (C : Int) (h : (Lit.int .i64 C).wf = true) : Calls Try.prog 12 #[.int .i64 C] w fun e w' => e = .returned (.int .i64 (fewZ C)) ∧ w' = w := by
  clear h
  by_cases h1 : 80 < C
  · by_cases h2 : C ≤ 40000
    · have e : fewZ C = 80 := if_pos ⟨h1, h2⟩
      rw [e]
      clear e
      go_enter Try.func12, Try.ntmps12
      go_wp2_with fail
      go_ret
      exact ⟨rfl, rfl⟩
    · have e : fewZ C = C := if_neg fun h => h2 h.2
      rw [e]
      clear e
      go_enter Try.func12, Try.ntmps12
      go_wp2_with fail
      go_ret
      exact ⟨rfl, rfl⟩
  · have e : fewZ C = C := if_neg fun h => h1 h.1
    rw [e]
    clear e
    go_enter Try.func12, Try.ntmps12
    go_wp2_with fail
    go_ret
    exact ⟨rfl, rfl⟩
end Sp
end Go.Proofs.Ytpbojhjbjnoihaa
