/-
  'hoardlaw.DeadPlays' answers true at every input, and each argument reads behind the call as it read before: the statement as it is given, with no further condition.
-/
import Derived.Test.YtpoacgofbbfhcaaDeadPlaysWalk
import Derived.Test.YtpoacgofbbfhcaaRows
import Derived.Test.YtpoacgofbbfhcaaChecked
import Derived.ProofKit
import Derived.OpenShut
import Derived.ShutString
import Derived.ChangeOld
import Derived.Below
import Derived.SizedLaws
import Derived.Lib.SmallJoins
namespace Go.Proofs.Ytpoacgofbbfhcaa.deadPlays
open Go.ChangeShapes Go.WideShapes Go.ChangeAt Go.RowKit
set_option maxRecDepth 100000
set_option linter.unusedVariables false

theorem own : ownKnob Try.prog.godebug = none := by kernel_rfl
theorem laidOut : laidOutB Try.prog = true := by kernel_rfl

set_option maxRecDepth 100000 in
theorem lifted (os : Os) (started : os.Started) (H : Type) (enc : TypeId × Value → H) :
    ReturnsInHanded {} Try.checked os 3 .any (Rows.deadPlaysSpec.pre6 enc Try.prog Try.f3 Rows.deadPlaysRow.domain false) (Rows.deadPlaysSpec.post enc Try.prog Try.f3 false true false false) := by
  refine returnsInHanded_of_change_sized (C := Try.checked) own started (by kernel_rfl) Try.func3
    (ChangeSpec.witness6 (enc := enc) (C := Try.checked) false ⟨#[], #[.agg #[.int .i64 0, .slice none 0 0, .slice none 0 0], .agg #[.int .i64 0, .int .i64 0, .int .i64 0, .string ⟨#[]⟩], .int .i64 0], []⟩ 8 (by kernel_rfl) (by kernel_rfl) (by kernel_rfl) (by kernel_rfl)) ?_
  intro W base args ds gs before hval0 hW hcnd hsz0 _
  have hval : ∀ (j : Nat) t v, Try.f3.params[j]? = some t → args[j]? = some v → Value.okWide Try.prog W .any base t v := hval0
  have hW' := hW
  obtain ⟨p, q, hA0, hV, rfl, hfz, hnd⟩ := hW
  have hA : DataW.TrodAll enc Try.prog W 0 (fun _ => true) true Try.f3.params.toList args.toList ds p := hA0
  have hsz : (DataW.weightsEach Try.prog (Try.f3.params.toList ++ Rows.deadPlaysSpec.plain.varTypes Try.prog) (ds ++ gs)).all (· ≤ reachBytes) = true := hsz0
  rw [Try.params3] at hA hval hsz
  obtain ⟨v0, vs0, d0, ds0, p0, q0, hargs, rfl, rfl, h0, r0⟩ := trodAll_cons hA
  obtain ⟨v1, vs1, d1, ds1, p1, q1, rfl, rfl, rfl, h1, r1⟩ := trodAll_cons r0
  obtain ⟨v2, vs2, d2, ds2, p2, q2, rfl, rfl, rfl, h2, r2⟩ := trodAll_cons r1
  obtain ⟨rfl, rfl, rfl⟩ := trodAll_nil r2
  obtain rfl : args = #[v0, v1, v2] := by cases args; simp_all
  obtain ⟨rfl, rfl⟩ := trodVars_none hV
  have k0 := h0
  have lt0 : ∀ x ∈ p0, x.block < W.heap.size := by obtain ⟨m, hm⟩ := k0; exact DataW.trod_lt m _ _ _ hm
  have hK0 : Dd.KOk Try.prog false 25 d0 := ⟨fun n hn => of_decide_eq_true (List.all_eq_true.1 hsz _ (DataW.weights_mem_each (j := 0) rfl rfl n hn)), fun h => by cases h⟩
  obtain ⟨L0, a0, b0, c0, e0, rfl, y0, n0, x0, m0, f0, t0, s0⟩ : ∃ (L : Dd.Ln) (A A' : Option Addr) (c c' : Nat), v0 = .agg #[.int .i64 L.base, .slice A L.snaps.length c, .slice A' L.dead.length c'] ∧ Dd.RdS W A L.snaps ∧ (A = none → c = 0) ∧ Dd.RdP W A' L.dead ∧ (A' = none → c' = 0) ∧ Dd.Fit L ∧ Dd.Tight L ∧ (false = true → Dd.Small L) := by
    obtain ⟨L, A, A', c, c', g1, g2, g3, g4, g5, g6, g7, g8⟩ := Dd.line_of (P := Try.prog) false Try.underlying25 (by kernel_rfl) (by kernel_rfl) Try.underlying3 rfl rfl Dd.tys hK0 (hval 0 25 v0 rfl rfl) h0
    exact ⟨L, A, A', c, c', g1, g2, g4, g3, g5, g6, g7, g8⟩
  have k1 := h1
  have lt1 : ∀ x ∈ p1, x.block < W.heap.size := by obtain ⟨m, hm⟩ := k1; exact DataW.trod_lt m _ _ _ hm
  obtain ⟨u10, u11, u12, u13, y10, y11, y12, y13, n1, rfl, _, _, t10, t11, t12, t13⟩ := Go.Joins.open_agg4 Try.underlying27 (by kernel_rfl) (by kernel_rfl) (hval 1 27 v1 rfl rfl) h1
  obtain ⟨a10, e10, _, w10⟩ := DataW.trod_int Try.underlying3 t10
  obtain rfl : u10 = .int .i64 a10 := by simpa using e10
  obtain ⟨a11, e11, _, w11⟩ := DataW.trod_int Try.underlying3 t11
  obtain rfl : u11 = .int .i64 a11 := by simpa using e11
  obtain ⟨a12, e12, _, w12⟩ := DataW.trod_int Try.underlying3 t12
  obtain rfl : u12 = .int .i64 a12 := by simpa using e12
  obtain ⟨a13, e13, _, z13⟩ := DataW.trod_string Try.underlying9 t13
  obtain rfl : u13 = .string a13 := by simpa using e13
  obtain ⟨a2, rfl, rfl, rfl, w2⟩ := open_int Try.underlying3 (hval 2 3 v2 rfl rfl) h2
  clear hA0 hval0
  refine (walk L0 a0 b0 c0 e0 a10 a11 a12 a13 a2 W f0 t0 y0 n0 x0 m0 w10 w11 w12 z13 w2).mono fun e W' ⟨he, bel⟩ => ?_
  subst he
  exact ⟨_, rfl, _, _, _, [], _, [], hW', trodAll_mk1 (shut_bool Try.underlying4 _), (trodAll_cons_mk (Below.trod laidOut (by kernel_rfl) (of_decide_eq_true (by kernel_rfl)) k0 bel lt0) (trodAll_cons_mk (Below.trod laidOut (by kernel_rfl) (of_decide_eq_true (by kernel_rfl)) k1 bel lt1) (trodAll_cons_mk (shut_int Try.underlying3 w2) trodAll_mk0))), rfl, bel.frame _, fun h => by cases h⟩

theorem over : Rows.deadPlaysRow.holds Try.pinned (OpenSpec.ofChange Rows.deadPlaysSpec) :=
  OpenClaim.holds_of_wide 3 Try.f3 rfl rfl rfl rfl rfl rfl rfl ⟨rfl, rfl, rfl, rfl, rfl⟩ rfl rfl rfl rfl rfl (by kernel_rfl) Try.func3 (by kernel_rfl)
    (of_decide_eq_true (by kernel_rfl)) (by unfold Func.isWrapper; first | (rw [if_pos (by decide +kernel)]; kernel_rfl) | (rw [if_neg (by decide +kernel)]; exact ⟨rfl, rfl⟩))
    (fun os started H enc _ => lifted os started H enc)

theorem proved : Rows.DeadPlaysSaid := over
#print axioms proved
end Go.Proofs.Ytpoacgofbbfhcaa.deadPlays
