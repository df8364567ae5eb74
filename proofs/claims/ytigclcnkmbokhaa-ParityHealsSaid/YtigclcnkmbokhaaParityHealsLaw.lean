/-
  'hoardlaw.ParityHeals' answers true at every input, and each argument reads behind the call as it read before: the statement as it is given, with no further condition.
-/
import Derived.Test.YtigclcnkmbokhaaParityHealsWalk
import Derived.Test.YtigclcnkmbokhaaRows
import Derived.Test.YtigclcnkmbokhaaChecked
import Derived.ProofKit
import Derived.OpenShut
import Derived.ShutString
import Derived.ChangeOld
import Derived.Below
import Derived.Lib.SmallJoins
namespace Go.Proofs.Ytigclcnkmbokhaa.parityHeals
open Go.ChangeShapes Go.WideShapes Go.ChangeAt Go.RowKit
set_option linter.unusedVariables false

theorem rdz_of_trod {H : Type} {enc : TypeId × Value → H} {P : Program} {W : World} {base : Nat} {held : Bool} {t e : TypeId} {fuel : Nat} {v : Value} {x : DataW H × List MemPlace} (ht : P.underlying t = some (.slice e)) (he : P.underlying e = some (.int .i64)) (hc : P.cellsOf e = 1)
    (h : DataW.trod enc P W base (fun _ => true) held fuel t [v] = some x) : ∃ a len cap y, v = .slice a len cap ∧ RdZ W W.heap.size a len y ∧ len ≤ cap ∧ cap ≤ maxLen := by
  rcases open_ints ht he hc h with ⟨hcs, _⟩ | ⟨a, l, c, zs, hcs, _, hl, hm, hz, _, hcell, hwz⟩
  · simp at hcs
    exact ⟨_, _, _, fun _ => 0, hcs, fun i hi => absurd hi (by omega), by omega, by simp [maxLen]⟩
  · simp at hcs hz
    refine ⟨_, _, _, fun i => zs.getD i 0, hcs, fun i hi => ?_, hl, hm⟩
    obtain ⟨b, o, sp⟩ := a
    have h0 := hcell i (by omega)
    have hsp : sp = none := by
      have h1 := hcell 0 (by omega)
      have h2 := World.cell?_spot h1
      simpa [Addr.add] using h2
    subst hsp
    rw [add_plain] at h0
    exact ⟨b, o, rfl, block_lt_of_cell h0, h0⟩
theorem own : ownKnob Try.prog.godebug = none := by kernel_rfl
theorem laidOut : laidOutB Try.prog = true := by kernel_rfl

set_option maxRecDepth 100000 in
theorem lifted (os : Os) (started : os.Started) (H : Type) (enc : TypeId × Value → H) :
    ReturnsInHanded {} Try.checked os 5 .any (Rows.parityHealsSpec.pre6 enc Try.prog Try.f5 Rows.parityHealsRow.domain false) (Rows.parityHealsSpec.post enc Try.prog Try.f5 false true false false) := by
  refine returnsInHanded_of_change (C := Try.checked) own started (by kernel_rfl) Try.func5
    (ChangeSpec.witness6 (enc := enc) (C := Try.checked) false ⟨#[], #[.agg #[.slice none 0 0, .slice none 0 0, .slice none 0 0]], []⟩ 8 (by kernel_rfl) (by kernel_rfl) (by kernel_rfl) (by kernel_rfl)) ?_
  intro W base args ds gs before hval0 hW hcnd _
  have hval : ∀ (j : Nat) t v, Try.f5.params[j]? = some t → args[j]? = some v → Value.okWide Try.prog W .any base t v := hval0
  have hW' := hW
  obtain ⟨p, q, hA0, hV, rfl, hfz, hnd⟩ := hW
  have hA : DataW.TrodAll enc Try.prog W 0 (fun _ => true) true Try.f5.params.toList args.toList ds p := hA0
  rw [Try.params5] at hA hval
  obtain ⟨v0, vs0, d0, ds0, p0, q0, hargs, rfl, rfl, h0, r0⟩ := trodAll_cons hA
  obtain ⟨rfl, rfl, rfl⟩ := trodAll_nil r0
  obtain rfl : args = #[v0] := by cases args; simp_all
  obtain ⟨rfl, rfl⟩ := trodVars_none hV
  have k0 := h0
  have lt0 : ∀ x ∈ p0, x.block < W.heap.size := by obtain ⟨m, hm⟩ := k0; exact DataW.trod_lt m _ _ _ hm
  obtain ⟨u0, u1, u2, z0, z1, z2, nf, rfl, _, _, t0, t1, t2⟩ := Go.Joins.open_agg3 Try.underlying36 (by kernel_rfl) (by kernel_rfl) (hval 0 36 v0 rfl rfl) h0
  obtain ⟨a0, len0, cap0, rfl⟩ : ∃ a l c, u0 = .slice a l c := by
    rcases Go.Deep.open_int_rows Try.underlying22 Try.underlying34 Try.underlying5 (by kernel_rfl) (by kernel_rfl) t0 with ⟨hcs, _⟩ | ⟨x, l, c, _, _, _, _, hcs, _⟩
    · simp at hcs; exact ⟨_, _, _, hcs⟩
    · simp at hcs; exact ⟨_, _, _, hcs⟩
  obtain ⟨ra0, rl0, rc0, y0, hy0, hl0, hm0, hc0⟩ := rdr_of_trod Try.underlying22 Try.underlying34 Try.underlying5 (by kernel_rfl) (by kernel_rfl) (show DataW.trod enc Try.prog W 0 (fun _ => true) true nf 22 (Value.slice a0 len0 cap0).cells.toList = some z0 from t0)
  obtain ⟨a1, len1, cap1, y1, rfl, hy1, hl1, hm1⟩ := rdz_of_trod Try.underlying31 Try.underlying3 (by kernel_rfl) t1
  obtain ⟨a2, len2, cap2, rfl⟩ : ∃ a l c, u2 = .slice a l c := by
    rcases open_ints Try.underlying34 Try.underlying5 (by kernel_rfl) t2 with ⟨hcs, _⟩ | ⟨x, l, c, _, hcs, _⟩
    · simp at hcs; exact ⟨_, _, _, hcs⟩
    · simp at hcs; exact ⟨_, _, _, hcs⟩
  obtain ⟨y2, hy2, hl2, hm2⟩ := rdb_of_trod Try.underlying34 Try.underlying5 (by kernel_rfl) (show DataW.trod enc Try.prog W 0 (fun _ => true) true nf 34 (Value.slice a2 len2 cap2).cells.toList = some z2 from t2)
  clear hA0 hval0
  refine (walk a0 len0 cap0 ra0 rl0 rc0 y0 a1 len1 cap1 y1 a2 len2 cap2 y2 W hy0 hl0 hm0 hy1 hl1 hm1 hy2).mono fun e W' ⟨he, bel⟩ => ?_
  subst he
  exact ⟨_, rfl, _, _, _, [], _, [], hW', trodAll_mk1 (shut_bool Try.underlying4 _), (trodAll_cons_mk (Below.trod laidOut (by kernel_rfl) (of_decide_eq_true (by kernel_rfl)) k0 bel lt0) trodAll_mk0), rfl, bel.frame _, fun h => by cases h⟩

theorem over : Rows.parityHealsRow.holds Try.pinned (OpenSpec.ofChange Rows.parityHealsSpec) :=
  OpenClaim.holds_of_wide 5 Try.f5 rfl rfl rfl rfl rfl rfl rfl ⟨rfl, rfl, rfl, rfl, rfl⟩ rfl rfl rfl rfl rfl (by kernel_rfl) Try.func5 (by kernel_rfl)
    (of_decide_eq_true (by kernel_rfl)) (by unfold Func.isWrapper; first | (rw [if_pos (by decide +kernel)]; kernel_rfl) | (rw [if_neg (by decide +kernel)]; exact ⟨rfl, rfl⟩))
    (fun os started H enc _ => lifted os started H enc)

theorem proved : Rows.ParityHealsSaid := over
#print axioms proved
end Go.Proofs.Ytigclcnkmbokhaa.parityHeals
