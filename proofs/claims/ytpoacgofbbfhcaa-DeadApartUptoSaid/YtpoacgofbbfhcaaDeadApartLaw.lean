/-
  'hoardlaw.DeadApart' answers true at every input whose bulk is at most 2^20, and each argument reads behind the call as it read before: the statement as it is given (its '..UptoSaid' form), with no further condition.
-/
import Derived.Test.YtpoacgofbbfhcaaDeadApartWalk
import Derived.Test.YtpoacgofbbfhcaaRows
import Derived.Test.YtpoacgofbbfhcaaChecked
import Derived.ProofKit
import Derived.OpenShut
import Derived.ShutString
import Derived.ChangeOld
import Derived.Below
import Derived.SizedLaws
import Derived.JoinedCond
import Derived.Lib.SmallJoins
namespace Go.Proofs.Ytpoacgofbbfhcaa.deadApart
open Go.ChangeShapes Go.WideShapes Go.ChangeAt Go.RowKit
set_option maxRecDepth 100000
set_option linter.unusedVariables false

theorem own : ownKnob Try.prog.godebug = none := by kernel_rfl
theorem laidOut : laidOutB Try.prog = true := by kernel_rfl

set_option maxRecDepth 100000 in
theorem lifted (os : Os) (started : os.Started) (H : Type) (enc : TypeId × Value → H) (F : Stop.Interp) :
    ReturnsInHanded {} Try.checked os 6 .any ((Rows.OpenSpec.upto Rows.deadApartSpec).pre6 enc Try.prog Try.f6 Rows.deadApartUptoRow.domain false) (((Rows.OpenSpec.upto Rows.deadApartSpec).at F).post enc Try.prog Try.f6 false true false false) := by
  refine returnsInHanded_of_cond (C := Try.checked) (s := Rows.OpenSpec.upto Rows.deadApartSpec) (k := Rows.uptoSmall) rfl own started (by kernel_rfl) Try.func6
    (OpenSpec.witness (enc := enc) (C := Try.checked) (s := Rows.OpenSpec.upto Rows.deadApartSpec) (k := Rows.uptoSmall) rfl false ⟨#[], #[.agg #[.int .i64 0, .slice none 0 0, .slice none 0 0], .agg #[.int .i64 0, .int .i64 0, .int .i64 0, .string ⟨#[]⟩], .int .i64 0], []⟩ 8 (by kernel_rfl) (by kernel_rfl) (by kernel_rfl)
      (x := (([.agg [.lit (.int .i64 0), .nil, .nil], .agg [.lit (.int .i64 0), .lit (.int .i64 0), .lit (.int .i64 0), .lit (.string [])], .lit (.int .i64 0)] : List (DataW H)), ([] : List (DataW H)), ([] : List MemPlace))) (by kernel_rfl) (by kernel_rfl) (by kernel_rfl)) ?_
  intro W base args ds gs before hval0 hW hcnd hkk _
  have hval : ∀ (j : Nat) t v, Try.f6.params[j]? = some t → args[j]? = some v → Value.okWide Try.prog W .any base t v := hval0
  have hW' := hW
  obtain ⟨p, q, hA0, hV, rfl, hfz, hnd⟩ := hW
  have hA : DataW.TrodAll enc Try.prog W 0 (fun _ => true) true Try.f6.params.toList args.toList ds p := hA0
  rw [Try.params6] at hA hval
  obtain ⟨v0, vs0, d0, ds0, p0, q0, hargs, rfl, rfl, h0, r0⟩ := trodAll_cons hA
  obtain ⟨v1, vs1, d1, ds1, p1, q1, rfl, rfl, rfl, h1, r1⟩ := trodAll_cons r0
  obtain ⟨v2, vs2, d2, ds2, p2, q2, rfl, rfl, rfl, h2, r2⟩ := trodAll_cons r1
  obtain ⟨rfl, rfl, rfl⟩ := trodAll_nil r2
  obtain rfl : args = #[v0, v1, v2] := by cases args; simp_all
  obtain ⟨rfl, rfl⟩ := trodVars_none hV
  have hbulk : Rows.uptoBulkAll ([d0, d1, d2] ++ []) ≤ 1048576 := of_decide_eq_true hkk
  have k0 := h0
  have lt0 : ∀ x ∈ p0, x.block < W.heap.size := by obtain ⟨m, hm⟩ := k0; exact DataW.trod_lt m _ _ _ hm
  have hK0 : Dd.KOk Try.prog true 25 d0 := ⟨fun h => (by cases h), fun h => (Nat.le_trans (Dd.bulk_mem _ d0 (by simp)) hbulk)⟩
  obtain ⟨L0, a0, b0, c0, e0, rfl, y0, n0, x0, m0, f0, t0, s0⟩ : ∃ (L : Dd.Ln) (A A' : Option Addr) (c c' : Nat), v0 = .agg #[.int .i64 L.base, .slice A L.snaps.length c, .slice A' L.dead.length c'] ∧ Dd.RdS W A L.snaps ∧ (A = none → c = 0) ∧ Dd.RdP W A' L.dead ∧ (A' = none → c' = 0) ∧ Dd.Fit L ∧ Dd.Tight L ∧ (true = true → Dd.Small L) := by
    obtain ⟨L, A, A', c, c', g1, g2, g3, g4, g5, g6, g7, g8⟩ := Dd.line_of (P := Try.prog) true Try.underlying25 (by kernel_rfl) (by kernel_rfl) Try.underlying3 rfl rfl Dd.tys hK0 (hval 0 25 v0 rfl rfl) h0
    exact ⟨L, A, A', c, c', g1, g2, g4, g3, g5, g6, g7, g8⟩
  have k1 := h1
  have lt1 : ∀ x ∈ p1, x.block < W.heap.size := by obtain ⟨m, hm⟩ := k1; exact DataW.trod_lt m _ _ _ hm
  obtain ⟨u10, u11, u12, u13, y10, y11, y12, y13, n1, rfl, _, _, t10, t11, t12, t13⟩ := Go.Joins.open_agg4 Try.underlying27 (by kernel_rfl) (by kernel_rfl) (hval 1 27 v1 rfl rfl) h1
  obtain ⟨a10, e10, _, w10⟩ := DataW.trod_int Try.underlying3 t10
  obtain rfl : u10 = .int .i64 a10 := by simpa using e10
  obtain ⟨a11, e11, _, w11⟩ := DataW.trod_int Try.underlying3 t11
  obtain rfl : u11 = .int .i64 a11 := by simpa using e11
  obtain ⟨a12, e12, _, w12⟩ := DataW.trod_int Try.underlying3 t12
  obtain rfl : u12 = .int .i64 a12 := by simpa using e12
  obtain ⟨a13, e13, _, z13⟩ := DataW.trod_string Try.underlying9 t13
  obtain rfl : u13 = .string a13 := by simpa using e13
  obtain ⟨a2, rfl, rfl, rfl, w2⟩ := open_int Try.underlying3 (hval 2 3 v2 rfl rfl) h2
  clear hA0 hval0
  refine (walk L0 a0 b0 c0 e0 a10 a11 a12 a13 a2 W f0 t0 y0 n0 x0 m0 (s0 rfl) w10 w11 w12 z13 w2).mono fun e W' ⟨he, bel⟩ => ?_
  subst he
  exact ⟨_, rfl, _, _, _, [], _, [], hW', trodAll_mk1 (shut_bool Try.underlying4 _), (trodAll_cons_mk (Below.trod laidOut (by kernel_rfl) (of_decide_eq_true (by kernel_rfl)) k0 bel lt0) (trodAll_cons_mk (Below.trod laidOut (by kernel_rfl) (of_decide_eq_true (by kernel_rfl)) k1 bel lt1) (trodAll_cons_mk (shut_int Try.underlying3 w2) trodAll_mk0))), rfl, bel.frame _, fun h => by cases h⟩

theorem over : Rows.deadApartUptoRow.holds Try.pinned (Rows.OpenSpec.upto Rows.deadApartSpec) :=
  OpenClaim.holds_of_cond 6 Try.f6 rfl rfl rfl rfl rfl rfl rfl ⟨rfl, rfl, rfl, rfl, rfl⟩ rfl rfl rfl rfl rfl (by kernel_rfl) Try.func6 (by kernel_rfl)
    (of_decide_eq_true (by kernel_rfl)) (by unfold Func.isWrapper; first | (rw [if_pos (by decide +kernel)]; kernel_rfl) | (rw [if_neg (by decide +kernel)]; exact ⟨rfl, rfl⟩))
    (fun os started H enc _ F => lifted os started H enc F)

theorem proved : Rows.DeadApartUptoSaid := over
#print axioms proved
end Go.Proofs.Ytpoacgofbbfhcaa.deadApart
