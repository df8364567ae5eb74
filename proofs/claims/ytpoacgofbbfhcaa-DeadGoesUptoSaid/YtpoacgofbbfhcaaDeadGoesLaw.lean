/-
  'hoardlaw.DeadGoes' answers true at every input whose bulk is at most 2^20, and each argument reads behind the call as it read before: the statement as it is given (its '..UptoSaid' form), with no further condition.
-/
import Derived.Test.YtpoacgofbbfhcaaDeadGoesWalk
import Derived.Test.YtpoacgofbbfhcaaRows
import Derived.Test.YtpoacgofbbfhcaaChecked
import Derived.ProofKit
import Derived.OpenShut
import Derived.ShutString
import Derived.ChangeOld
import Derived.Below
import Derived.SizedLaws
import Derived.JoinedCond
namespace Go.Proofs.Ytpoacgofbbfhcaa.deadGoes
open Go.ChangeShapes Go.WideShapes Go.ChangeAt Go.RowKit
set_option maxRecDepth 100000
set_option linter.unusedVariables false

theorem own : ownKnob Try.prog.godebug = none := by kernel_rfl
theorem laidOut : laidOutB Try.prog = true := by kernel_rfl

set_option maxRecDepth 100000 in
theorem lifted (os : Os) (started : os.Started) (H : Type) (enc : TypeId × Value → H) (F : Stop.Interp) :
    ReturnsInHanded {} Try.checked os 4 .any ((Rows.OpenSpec.upto Rows.deadGoesSpec).pre6 enc Try.prog Try.f4 Rows.deadGoesUptoRow.domain false) (((Rows.OpenSpec.upto Rows.deadGoesSpec).at F).post enc Try.prog Try.f4 false true false false) := by
  refine returnsInHanded_of_cond (C := Try.checked) (s := Rows.OpenSpec.upto Rows.deadGoesSpec) (k := Rows.uptoSmall) rfl own started (by kernel_rfl) Try.func4
    (OpenSpec.witness (enc := enc) (C := Try.checked) (s := Rows.OpenSpec.upto Rows.deadGoesSpec) (k := Rows.uptoSmall) rfl false ⟨#[], #[.agg #[.int .i64 0, .slice none 0 0, .slice none 0 0], .int .i64 0], []⟩ 8 (by kernel_rfl) (by kernel_rfl) (by kernel_rfl)
      (x := (([.agg [.lit (.int .i64 0), .nil, .nil], .lit (.int .i64 0)] : List (DataW H)), ([] : List (DataW H)), ([] : List MemPlace))) (by kernel_rfl) (by kernel_rfl) (by kernel_rfl)) ?_
  intro W base args ds gs before hval0 hW hcnd hkk _
  have hval : ∀ (j : Nat) t v, Try.f4.params[j]? = some t → args[j]? = some v → Value.okWide Try.prog W .any base t v := hval0
  have hW' := hW
  obtain ⟨p, q, hA0, hV, rfl, hfz, hnd⟩ := hW
  have hA : DataW.TrodAll enc Try.prog W 0 (fun _ => true) true Try.f4.params.toList args.toList ds p := hA0
  rw [Try.params4] at hA hval
  obtain ⟨v0, vs0, d0, ds0, p0, q0, hargs, rfl, rfl, h0, r0⟩ := trodAll_cons hA
  obtain ⟨v1, vs1, d1, ds1, p1, q1, rfl, rfl, rfl, h1, r1⟩ := trodAll_cons r0
  obtain ⟨rfl, rfl, rfl⟩ := trodAll_nil r1
  obtain rfl : args = #[v0, v1] := by cases args; simp_all
  obtain ⟨rfl, rfl⟩ := trodVars_none hV
  have hbulk : Rows.uptoBulkAll ([d0, d1] ++ []) ≤ 1048576 := of_decide_eq_true hkk
  have k0 := h0
  have lt0 : ∀ x ∈ p0, x.block < W.heap.size := by obtain ⟨m, hm⟩ := k0; exact DataW.trod_lt m _ _ _ hm
  have hK0 : Dd.KOk Try.prog true 25 d0 := ⟨fun h => (by cases h), fun h => (Nat.le_trans (Dd.bulk_mem _ d0 (by simp)) hbulk)⟩
  obtain ⟨L0, a0, b0, c0, e0, rfl, y0, n0, x0, m0, f0, t0, s0⟩ : ∃ (L : Dd.Ln) (A A' : Option Addr) (c c' : Nat), v0 = .agg #[.int .i64 L.base, .slice A L.snaps.length c, .slice A' L.dead.length c'] ∧ Dd.RdS W A L.snaps ∧ (A = none → c = 0) ∧ Dd.RdP W A' L.dead ∧ (A' = none → c' = 0) ∧ Dd.Fit L ∧ Dd.Tight L ∧ (true = true → Dd.Small L) := by
    obtain ⟨L, A, A', c, c', g1, g2, g3, g4, g5, g6, g7, g8⟩ := Dd.line_of (P := Try.prog) true Try.underlying25 (by kernel_rfl) (by kernel_rfl) Try.underlying3 rfl rfl Dd.tys hK0 (hval 0 25 v0 rfl rfl) h0
    exact ⟨L, A, A', c, c', g1, g2, g4, g3, g5, g6, g7, g8⟩
  obtain ⟨a1, rfl, rfl, rfl, w1⟩ := open_int Try.underlying3 (hval 1 3 v1 rfl rfl) h1
  clear hA0 hval0
  refine (walk L0 a0 b0 c0 e0 a1 W f0 t0 y0 n0 x0 m0 (s0 rfl) w1).mono fun e W' ⟨he, bel⟩ => ?_
  subst he
  exact ⟨_, rfl, _, _, _, [], _, [], hW', trodAll_mk1 (shut_bool Try.underlying4 _), (trodAll_cons_mk (Below.trod laidOut (by kernel_rfl) (of_decide_eq_true (by kernel_rfl)) k0 bel lt0) (trodAll_cons_mk (shut_int Try.underlying3 w1) trodAll_mk0)), rfl, bel.frame _, fun h => by cases h⟩

theorem over : Rows.deadGoesUptoRow.holds Try.pinned (Rows.OpenSpec.upto Rows.deadGoesSpec) :=
  OpenClaim.holds_of_cond 4 Try.f4 rfl rfl rfl rfl rfl rfl rfl ⟨rfl, rfl, rfl, rfl, rfl⟩ rfl rfl rfl rfl rfl (by kernel_rfl) Try.func4 (by kernel_rfl)
    (of_decide_eq_true (by kernel_rfl)) (by unfold Func.isWrapper; first | (rw [if_pos (by decide +kernel)]; kernel_rfl) | (rw [if_neg (by decide +kernel)]; exact ⟨rfl, rfl⟩))
    (fun os started H enc _ F => lifted os started H enc F)

theorem proved : Rows.DeadGoesUptoSaid := over
#print axioms proved
end Go.Proofs.Ytpoacgofbbfhcaa.deadGoes
