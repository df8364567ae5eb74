/-
  A region that draws its order: what the last operation waits for by others' waiting may be taken first as well. Conditions: the closed facts that each theorem asks of the region.
-/
import Derived.Test.YtlbmeaioiiflkaaDrawMore
namespace Go.Proofs.Ytlbmeaioiiflkaa
open Go Go.RowKit

section
variable {P : Program} {md : Region.Mode} {ops : Array Oper} {Q : Exit → Act → World → Prop} {S : World → Prop} {z : Nat}
/-- z waits for i, or for what does -/
inductive Deep (md : Region.Mode) (ops : Array Oper) : Nat → Nat → Prop
  | one {z i : Nat} : Region.waitsFor md ops z i = true → Deep md ops z i
  | step {z k i : Nat} : Region.waitsFor md ops z k = true → Deep md ops k i → Deep md ops z i
def deepB (md : Region.Mode) (ops : Array Oper) : Nat → Nat → Nat → Bool
  | 0, _, _ => false
  | f + 1, z, i => Region.waitsFor md ops z i || (List.range ops.size).any fun k => Region.waitsFor md ops z k && deepB md ops f k i
theorem deepB_spec : ∀ {f z i : Nat}, deepB md ops f z i = true → Deep md ops z i
  | 0, _, _, h => by cases h
  | f + 1, z, i, h => by
    unfold deepB at h
    rw [Bool.or_eq_true] at h
    rcases h with h | h
    · exact .one h
    · obtain ⟨k, _, hk⟩ := List.any_eq_true.1 h
      rw [Bool.and_eq_true] at hk
      exact .step hk.1 (deepB_spec hk.2)
/-- what stands before what is listed is listed -/
def Closed (md : Region.Mode) (ops : Array Oper) (listed : Array Bool) : Prop :=
  ∀ j oj, ops[j]? = some oj → listed.getD j false = true → ∀ e ∈ oj.after, Region.binds md e = true → listed.getD e.on false = true
def closedB (md : Region.Mode) (ops : Array Oper) (listed : Array Bool) : Bool :=
  (List.range ops.size).all fun j => !listed.getD j false || match ops[j]? with
    | some oj => oj.after.all fun e => !Region.binds md e || listed.getD e.on false
    | none => true
theorem closedB_spec {listed : Array Bool} (h : closedB md ops listed = true) : Closed md ops listed := by
  intro j oj hj hl e he hb
  have h1 := List.all_eq_true.1 h j (List.mem_range.2 (Array.getElem?_eq_some_iff.1 hj).1)
  simp only [hl, hj, Bool.not_true, Bool.false_or] at h1
  have h2 := Array.all_eq_true_iff_forall_mem.1 h1 e he
  simpa [hb] using h2
theorem Closed.set {listed : Array Bool} {i : Nat} (h : Closed md ops listed) (hi : i ∈ Region.ready md ops listed) : Closed md ops (listed.setIfInBounds i true) := by
  obtain ⟨_, oi, hoi, hall⟩ := mem_ready.1 hi
  intro j oj hj hl e he hb
  by_cases hij : i = j
  · subst hij
    have : oj = oi := Option.some.inj (hj.symm.trans hoi)
    subst this
    exact getD_set_true (hall e he hb)
  · rw [getD_set_ne false hij] at hl
    exact getD_set_true (h j oj hj hl e he hb)
theorem Deep.unlisted {listed : Array Bool} (hc : Closed md ops listed) {z i : Nat} (h : Deep md ops z i) (hi : listed.getD i false = false) : listed.getD z false = false := by
  induction h with
  | one h =>
    obtain ⟨o, ho, e, he, hb, hon⟩ := Region.waitsFor_spec h
    cases hz : listed.getD _ false with
    | false => rfl
    | true =>
      have := hc _ o ho hz e he hb
      rw [hon, hi] at this
      cases this
  | step h _ ih =>
    obtain ⟨o, ho, e, he, hb, hon⟩ := Region.waitsFor_spec h
    have hk := ih hi
    cases hz : listed.getD _ false with
    | false => rfl
    | true =>
      have := hc _ o ho hz e he hb
      rw [hon, hk] at this
      cases this
theorem Deep.not_ready {listed : Array Bool} (hc : Closed md ops listed) {z i : Nat} (h : Deep md ops z i) (hi : listed.getD i false = false) : z ∉ Region.ready md ops listed := by
  intro hr
  obtain ⟨_, o, ho, hall⟩ := mem_ready.1 hr
  cases h with
  | one h =>
    obtain ⟨o', ho', e, he, hb, hon⟩ := Region.waitsFor_spec h
    rw [ho] at ho'
    injection ho' with ho'
    subst ho'
    have := hall e he hb
    rw [hon, hi] at this
    cases this
  | step h h2 =>
    obtain ⟨o', ho', e, he, hb, hon⟩ := Region.waitsFor_spec h
    rw [ho] at ho'
    injection ho' with ho'
    subst ho'
    have := hall e he hb
    rw [hon, h2.unlisted hc hi] at this
    cases this

theorem AnyZ.firstC {i : Nat} {oi : Oper} {v : Value} (hi : ops[i]? = some oi) (hsel : ∀ (j : Nat) (o : Oper) cs b, ops[j]? = some o → o.op ≠ .select cs b)
    (hQ : ∀ c a w, Q (.panic c) (a.put oi.dst v) w → Q (.panic c) a w) (hz : Deep md ops z i) :
    ∀ (n : Nat) (listed : Array Bool) (a : Act) (w : World), Closed md ops listed →
      (∀ j oj, ops[j]? = some oj → j ≠ i → listed.getD j true = false → (∀ e ∈ oj.after, Region.binds md e = true → e.on ≠ i) → oi.apart ops oj = true) →
      i ∈ Region.ready md ops listed → YieldsIf P ops S oi v a → S w →
      AnyZ P md ops Q S z n (listed.setIfInBounds i true) (a.put oi.dst v) w → AnyZ P md ops Q S z (n + 1) listed a w := by
  intro n
  induction n with
  | zero =>
    intro listed a w _ _ hr hy hS H
    refine ⟨fun h => (by rw [h] at hr; cases hr), fun j hj => ?_⟩
    by_cases hji : j = i
    · subst hji
      exact hy.wpOp hi hS ⟨fun _ => hS, H⟩
    · have h0 := ready_mono hj hji
      rw [H.1] at h0
      cases h0
  | succ n ih =>
    intro listed a w hcl hfree hr hy hS H
    refine ⟨fun h => (by rw [h] at hr; cases hr), fun j hj => ?_⟩
    by_cases hji : j = i
    · subst hji
      exact hy.wpOp hi hS ⟨fun _ => hS, H⟩
    · have h1 := H.2 j (ready_mono hj hji)
      have hun := (mem_ready.1 hr).1
      obtain ⟨hjun, oj, hoj, hall⟩ := mem_ready.1 hj
      have hnot : ∀ e ∈ oj.after, Region.binds md e = true → e.on ≠ i := fun e he hb heq => by
        have h4 := hall e he hb
        rw [heq, getD_both hun] at h4
        cases h4
      have hjz : j ≠ z := by
        rintro rfl
        exact hz.not_ready hcl (getD_both hun) hj
      have h2 := wpOp_putIf hoj (hfree j oj hoj hji hjun hnot) (fun cs b => hsel i oi cs b hi) (fun cs b => hsel j oj cs b hoj) hQ hy h1
      refine wpOp_mono (fun a' w' h3 => ⟨fun _ => h3.2.1 hjz, ih (listed.setIfInBounds j true) a' w' (hcl.set hj) (fun k ok hk hki hunk hno => ?_) (ready_mono hr (Ne.symm hji)) h3.1 (h3.2.1 hjz) ?_⟩) h2
      · refine hfree k ok hk hki ?_ hno
        by_cases hjk : j = k
        · subst hjk
          exact hjun
        · rw [getD_set_ne true hjk] at hunk
          exact hunk
      · rw [Array.setIfInBounds_comm _ _ hji]
        exact h3.2.2
def takeDB (md : Region.Mode) (ops : Array Oper) (z : Nat) (listed : Array Bool) (i : Nat) : Bool :=
  Region.noSelect ops && Region.free md ops listed i && (Region.ready md ops listed).contains i && closedB md ops listed && deepB md ops 3 z i
/-- as takeG, where the last operation waits by others' waiting -/
theorem takeD {n : Nat} {listed : Array Bool} {a : Act} {w : World} (i : Nat) (op : Op) (d : Option Tmp) (g : Option (Nat × Bool)) (v : Value) (ho : isOp ops i = some (op, d, g)) (hw : wantG g (yielded ops a.tmps) = true) (hB : takeDB md ops z listed i = true)
    (hQ : ∀ c a w, Q (.panic c) (a.put d v) w → Q (.panic c) a w) (hy : ∀ (o : Oper) w, o.op = op → S w → (execOp a.eval o).run P w = .ok (.value v) w) (hS : S w)
    (h : AnyZ P md ops Q S z n (listed.setIfInBounds i true) (a.put d v) w) : AnyZ P md ops Q S z (n + 1) listed a w := by
  obtain ⟨o, h1, h2, rfl, h4⟩ := isOpG_spec ho
  simp only [takeDB, Bool.and_eq_true] at hB
  exact AnyZ.firstC h1 (Region.noSelect_spec hB.1.1.1.1) hQ (deepB_spec hB.2) n listed a w (closedB_spec hB.1.2) (Region.free_spec h1 hB.1.1.1.2) (by simpa using hB.1.1.2) (.inl ⟨want_of h4 hw, fun w hw => hy o w h2 hw⟩) hS h
end
end Go.Proofs.Ytlbmeaioiiflkaa
