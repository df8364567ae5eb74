/-
  'hoardlaw.ParityApart' answers true at every input whose bulk is at most 2^20, and each argument reads behind the call as it read before: the statement as it is given (its '..UptoSaid' form), with no further condition.
-/
import Derived.Test.YtoabhbmhjelplaaParityApartWalk
import Derived.Test.YtoabhbmhjelplaaParArgsM
import Derived.JoinedCond
import Derived.Test.YtoabhbmhjelplaaRows
import Derived.Test.YtoabhbmhjelplaaChecked
import Derived.ProofKit
import Derived.OpenShut
import Derived.ShutString
import Derived.ChangeOld
import Derived.Below
namespace Go.Proofs.Ytoabhbmhjelplaa.parityApart
open Go.ChangeShapes Go.WideShapes Go.ChangeAt Go.RowKit
set_option linter.unusedVariables false

theorem own : ownKnob Try.prog.godebug = none := by kernel_rfl
theorem laidOut : laidOutB Try.prog = true := by kernel_rfl

set_option maxRecDepth 100000 in
theorem lifted (os : Os) (started : os.Started) (H : Type) (enc : TypeId × Value → H) (F : Stop.Interp) :
    ReturnsInHanded {} Try.checked os 4 .any ((Rows.OpenSpec.upto Rows.parityApartSpec).pre6 enc Try.prog Try.f4 Rows.parityApartUptoRow.domain false) (((Rows.OpenSpec.upto Rows.parityApartSpec).at F).post enc Try.prog Try.f4 false true false false) := by
  refine returnsInHanded_of_cond (C := Try.checked) (s := Rows.OpenSpec.upto Rows.parityApartSpec) (k := Rows.uptoSmall) rfl own started (by kernel_rfl) Try.func4
    (OpenSpec.witness (enc := enc) (C := Try.checked) (s := Rows.OpenSpec.upto Rows.parityApartSpec) (k := Rows.uptoSmall) rfl false ⟨#[], #[.slice none 0 0, .slice none 0 0], []⟩ 8 (by kernel_rfl) (by kernel_rfl) (by kernel_rfl)
      (x := (([.nil, .nil] : List (DataW H)), ([] : List (DataW H)), ([] : List MemPlace))) (by kernel_rfl) (by kernel_rfl) (by kernel_rfl)) ?_
  intro W base args ds gs before hval0 hW hcnd hkk _
  have hval : ∀ (j : Nat) t v, Try.f4.params[j]? = some t → args[j]? = some v → Value.okWide Try.prog W .any base t v := hval0
  have hW' := hW
  obtain ⟨p, q, hA0, hV, rfl, hfz, hnd⟩ := hW
  have hA : DataW.TrodAll enc Try.prog W 0 (fun _ => true) true Try.f4.params.toList args.toList ds p := hA0
  rw [Try.params4] at hA hval
  obtain ⟨v0, vs0, d0, ds0, p0, q0, hargs, rfl, rfl, h0, r0⟩ := trodAll_cons hA
  obtain ⟨v1, vs1, d1, ds1, p1, q1, rfl, rfl, rfl, h1, r1⟩ := trodAll_cons r0
  obtain ⟨rfl, rfl, rfl⟩ := trodAll_nil r1
  obtain rfl : args = #[v0, v1] := by cases args; simp_all
  obtain ⟨rfl, rfl⟩ := trodVars_none hV
  obtain ⟨a0, len0, cap0, rfl⟩ := okWide_slice Try.underlying22 (hval 0 22 v0 rfl rfl)
  have k0 := h0
  have lt0 : ∀ x ∈ p0, x.block < W.heap.size := by obtain ⟨m, hm⟩ := k0; exact DataW.trod_lt m _ _ _ hm
  have hbulk : Rows.uptoBulkAll ([d0, d1] ++ []) ≤ 1048576 := of_decide_eq_true hkk
  have hbd0 := bulk_mem ([d0, d1] ++ []) d0 (by simp)
  have hbd1 := bulk_mem ([d0, d1] ++ []) d1 (by simp)
  obtain ⟨ra0, rl0, rc0, y0, hy0, hl0, hm0, hc0, hb0⟩ : ∃ ra rl rc y, RdR W W.heap.size a0 len0 ra rl rc y ∧ len0 ≤ cap0 ∧ cap0 ≤ maxLen ∧ (∀ i, i < len0 → rl i ≤ rc i ∧ rc i ≤ maxLen ∧ (ra i = none → rc i = 0)) ∧ ∀ i, i < len0 → rl i ≤ Rows.uptoBulk d0 := by
    obtain ⟨fuel, hf⟩ := h0
    exact rdr_upto Try.underlying22 Try.underlying31 Try.underlying5 (by kernel_rfl) (by kernel_rfl) hf
  have hbn : len0 ≤ Rows.uptoBulk d0 := by
    obtain ⟨fuel, hf⟩ := h0
    exact len_upto Try.underlying22 hf
  obtain ⟨a1, len1, cap1, rfl⟩ := okWide_slice Try.underlying23 (hval 1 23 v1 rfl rfl)
  have k1 := h1
  have lt1 : ∀ x ∈ p1, x.block < W.heap.size := by obtain ⟨m, hm⟩ := k1; exact DataW.trod_lt m _ _ _ hm
  obtain ⟨y1, hy1, hl1, hm1, hn1⟩ : ∃ y, RdZ W W.heap.size a1 len1 y ∧ len1 ≤ cap1 ∧ cap1 ≤ maxLen ∧ (a1 = none → cap1 = 0) := by
    obtain ⟨fuel, hf⟩ := h1
    exact rdz_of_trodZ Try.underlying23 Try.underlying3 (by kernel_rfl) hf
  have hb1 : len1 ≤ Rows.uptoBulk d1 := by
    obtain ⟨fuel, hf⟩ := h1
    exact len_upto Try.underlying23 hf
  clear hA0 hval0
  refine (walk a0 len0 cap0 ra0 rl0 rc0 y0 a1 len1 cap1 y1 W hy0 hl0 hm0 hc0 (fun i hi => by have := hb0 i hi; omega) (by omega) hy1 hl1 hm1 hn1 (by omega)).mono fun e W' ⟨he, bel⟩ => ?_
  subst he
  exact ⟨_, rfl, _, _, _, [], _, [], hW', trodAll_mk1 (shut_bool Try.underlying4 _), (trodAll_cons_mk (Below.trod laidOut (by kernel_rfl) (of_decide_eq_true (by kernel_rfl)) k0 bel lt0) (trodAll_cons_mk (Below.trod laidOut (by kernel_rfl) (of_decide_eq_true (by kernel_rfl)) k1 bel lt1) trodAll_mk0)), rfl, bel.frame _, fun h => by cases h⟩

theorem over : Rows.parityApartUptoRow.holds Try.pinned (Rows.OpenSpec.upto Rows.parityApartSpec) :=
  OpenClaim.holds_of_cond 4 Try.f4 rfl rfl rfl rfl rfl rfl rfl ⟨rfl, rfl, rfl, rfl, rfl⟩ rfl rfl rfl rfl rfl (by kernel_rfl) Try.func4 (by kernel_rfl)
    (of_decide_eq_true (by kernel_rfl)) (by unfold Func.isWrapper; first | (rw [if_pos (by decide +kernel)]; kernel_rfl) | (rw [if_neg (by decide +kernel)]; exact ⟨rfl, rfl⟩))
    (fun os started H enc _ F => lifted os started H enc F)

theorem proved : Rows.ParityApartUptoSaid := over
#print axioms proved
end Go.Proofs.Ytoabhbmhjelplaa.parityApart
