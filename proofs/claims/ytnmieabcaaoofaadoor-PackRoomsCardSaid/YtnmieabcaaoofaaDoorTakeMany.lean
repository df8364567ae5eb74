/-
  A region that draws its order, whose operations from number z on wait for what is taken first: S is asked only until these come up. Conditions: the closed facts that each theorem asks of the region.
-/
import Derived.Test.YtnmieabcaaoofaaDoorDrawMore
namespace Go.Proofs.YtnmieabcaaoofaaDoor
open Go Go.RowKit
set_option maxRecDepth 100000
set_option linter.unusedVariables false

section
variable {P : Program} {md : Region.Mode} {ops : Array Oper} {Q : Exit → Act → World → Prop} {S : World → Prop} {z : Nat}
/-- whatever order is picked from here on; S holds behind every operation ahead of z -/
def AnyT (P : Program) (md : Region.Mode) (ops : Array Oper) (Q : Exit → Act → World → Prop) (S : World → Prop) (z : Nat) : Nat → Array Bool → Act → World → Prop
  | 0, listed, a, w => Region.ready md ops listed = [] ∧ Q .normal a w
  | n + 1, listed, a, w => (Region.ready md ops listed = [] → Q .normal a w) ∧
    ∀ i ∈ Region.ready md ops listed, wpOp P ops Q i (fun a' w' => (i < z → S w') ∧ AnyT P md ops Q S z n (listed.setIfInBounds i true) a' w') a w
theorem AnyT.any : ∀ (n : Nat) (listed : Array Bool) (a : Act) (w : World), AnyT P md ops Q S z n listed a w → wpAny P md ops Q n listed a w
  | 0, _, _, _, h => h
  | n + 1, _, _, _, h => ⟨h.1, fun i hi => wpOp_mono (fun a' w' h' => AnyT.any n _ a' w' h'.2) (h.2 i hi)⟩
/-- j waits for i, at once or by others -/
def waitsB (md : Region.Mode) (ops : Array Oper) : Nat → Nat → Nat → Bool
  | 0, _, _ => false
  | f + 1, j, i => match ops[j]? with
    | some oj => oj.after.any fun e => Region.binds md e && (e.on == i || waitsB md ops f e.on i)
    | none => false
/-- what is listed has all listed that it waits for -/
def Shut (md : Region.Mode) (ops : Array Oper) (listed : Array Bool) : Prop := ∀ (j : Nat) (o : Oper), ops[j]? = some o → listed.getD j false = true → ∀ e ∈ o.after, Region.binds md e = true → listed.getD e.on false = true
def shutB (md : Region.Mode) (ops : Array Oper) (listed : Array Bool) : Bool :=
  (List.range ops.size).all fun j => !listed.getD j false || ((ops[j]?).map (·.after.all fun e => !Region.binds md e || listed.getD e.on false)).getD true
theorem shut_of {listed : Array Bool} (h : shutB md ops listed = true) : Shut md ops listed := by
  intro j o ho hl e he hb
  have hj := (Array.getElem?_eq_some_iff.1 ho).1
  have h1 := List.all_eq_true.1 h j (by simpa using hj)
  rw [hl, ho] at h1
  simp only [Bool.not_true, Bool.false_or, Option.map_some, Option.getD_some] at h1
  obtain ⟨k, hk, rfl⟩ := Array.mem_iff_getElem.1 he
  have h2 := Array.all_eq_true.1 h1 k hk
  rw [hb] at h2
  simpa using h2
theorem listed_of_waits {listed : Array Bool} (hs : Shut md ops listed) {i : Nat} : ∀ (f j : Nat) (o : Oper), ops[j]? = some o → (∀ e ∈ o.after, Region.binds md e = true → listed.getD e.on false = true) → waitsB md ops f j i = true → listed.getD i false = true
  | 0, _, _, _, _, h => by cases h
  | f + 1, j, o, ho, hall, h => by
    unfold waitsB at h
    rw [ho] at h
    obtain ⟨k, hk, h1⟩ := Array.any_eq_true.1 h
    rw [Bool.and_eq_true, Bool.or_eq_true] at h1
    have h2 := hall _ (Array.getElem_mem hk) h1.1
    rcases h1.2 with h3 | h3
    · rw [beq_iff_eq] at h3
      rw [← h3]
      exact h2
    · cases ho2 : ops[(o.after[k]).on]? with
      | none =>
        cases f with
        | zero => cases h3
        | succ f =>
          unfold waitsB at h3
          rw [ho2] at h3
          cases h3
      | some o2 => exact listed_of_waits hs f _ o2 ho2 (fun e he hb => hs _ o2 ho2 h2 e he hb) h3
theorem shut_set {listed : Array Bool} {j : Nat} (hs : Shut md ops listed) (hj : j ∈ Region.ready md ops listed) : Shut md ops (listed.setIfInBounds j true) := by
  obtain ⟨_, oj, hoj, hall⟩ := mem_ready.1 hj
  intro k o ho hl e he hb
  by_cases hk : j = k
  · subst hk
    rw [hoj] at ho
    injection ho with ho
    subst ho
    exact getD_set_true (hall e he hb)
  · rw [getD_set_ne false hk] at hl
    exact getD_set_true (hs k o ho hl e he hb)
/-- all operations from z on wait for i -/
def lateB (md : Region.Mode) (ops : Array Oper) (z i : Nat) : Bool := (List.range (ops.size - z)).all fun k => waitsB md ops ops.size (z + k) i
theorem AnyT.first {i : Nat} {oi : Oper} {v : Value} (hi : ops[i]? = some oi) (hsel : ∀ (j : Nat) (o : Oper) cs b, ops[j]? = some o → o.op ≠ .select cs b)
    (hQ : ∀ c a w, Q (.panic c) (a.put oi.dst v) w → Q (.panic c) a w) (hz : lateB md ops z i = true) :
    ∀ (n : Nat) (listed : Array Bool) (a : Act) (w : World),
      Shut md ops listed →
      (∀ j oj, ops[j]? = some oj → j ≠ i → listed.getD j true = false → (∀ e ∈ oj.after, Region.binds md e = true → e.on ≠ i) → oi.apart ops oj = true) →
      i ∈ Region.ready md ops listed → YieldsIf P ops S oi v a → S w →
      AnyT P md ops Q S z n (listed.setIfInBounds i true) (a.put oi.dst v) w → AnyT P md ops Q S z (n + 1) listed a w := by
  intro n
  induction n with
  | zero =>
    intro listed a w _ _ hr hy hS H
    refine ⟨fun h => (by rw [h] at hr; cases hr), fun j hj => ?_⟩
    by_cases hji : j = i
    · subst hji
      exact hy.wpOp hi hS ⟨fun _ => hS, H⟩
    · have h0 := ready_mono hj hji
      rw [H.1] at h0
      cases h0
  | succ n ih =>
    intro listed a w hshut hfree hr hy hS H
    refine ⟨fun h => (by rw [h] at hr; cases hr), fun j hj => ?_⟩
    by_cases hji : j = i
    · subst hji
      exact hy.wpOp hi hS ⟨fun _ => hS, H⟩
    · have h1 := H.2 j (ready_mono hj hji)
      have hun := (mem_ready.1 hr).1
      obtain ⟨hjun, oj, hoj, hall⟩ := mem_ready.1 hj
      have hnot : ∀ e ∈ oj.after, Region.binds md e = true → e.on ≠ i := fun e he hb heq => by
        have h4 := hall e he hb
        rw [heq, getD_both hun] at h4
        cases h4
      have hjz : j < z := by
        rcases Nat.lt_or_ge j z with h | h
        · exact h
        · have hsz := (Array.getElem?_eq_some_iff.1 hoj).1
          have hw := List.all_eq_true.1 hz (j - z) (by simp; omega)
          rw [show z + (j - z) = j by omega] at hw
          have h5 := listed_of_waits hshut _ j oj hoj hall hw
          rw [getD_both hun] at h5
          cases h5
      have h2 := wpOp_putIf hoj (hfree j oj hoj hji hjun hnot) (fun cs b => hsel i oi cs b hi) (fun cs b => hsel j oj cs b hoj) hQ hy h1
      refine wpOp_mono (fun a' w' h3 => ⟨fun _ => h3.2.1 hjz, ih (listed.setIfInBounds j true) a' w' (shut_set hshut hj) (fun k ok hk hki hunk hno => ?_) (ready_mono hr (Ne.symm hji)) h3.1 (h3.2.1 hjz) ?_⟩) h2
      · refine hfree k ok hk hki ?_ hno
        by_cases hjk : j = k
        · subst hjk
          exact hjun
        · rw [getD_set_ne true hjk] at hunk
          exact hunk
      · rw [Array.setIfInBounds_comm _ _ hji]
        exact h3.2.2
theorem AnyT.one {i : Nat} {n : Nat} {listed : Array Bool} {a : Act} {w : World} (hr : Region.ready md ops listed = [i])
    (h : wpOp P ops Q i (fun a' w' => (i < z → S w') ∧ AnyT P md ops Q S z n (listed.setIfInBounds i true) a' w') a w) : AnyT P md ops Q S z (n + 1) listed a w :=
  ⟨fun h0 => (by rw [hr] at h0; cases h0), fun j hj => by
    rw [hr] at hj
    simp at hj
    subst hj
    exact h⟩
theorem AnyT.done {n : Nat} {listed : Array Bool} {a : Act} {w : World} (hr : Region.ready md ops listed = []) (h : Q .normal a w) : AnyT P md ops Q S z n listed a w := by
  cases n with
  | zero => exact ⟨hr, h⟩
  | succ n => exact ⟨fun _ => h, fun i hi => (by rw [hr] at hi; cases hi)⟩
theorem region_anyT (S : World → Prop) (z : Nat) {id : Nat} {a : Act} {w : World} (hm : P.follows .mixedOrders = true) (h : AnyT P .any ops Q S z ops.size (Array.replicate ops.size false) a w.drew) : (Code.region id ops true).wp P Q a w :=
  wp_region_any hm (AnyT.any _ _ _ _ h)
def takeTB (md : Region.Mode) (ops : Array Oper) (z : Nat) (listed : Array Bool) (i : Nat) : Bool :=
  Region.noSelect ops && Region.free md ops listed i && (Region.ready md ops listed).contains i && lateB md ops z i && shutB md ops listed
variable {n : Nat} {listed : Array Bool} {a : Act} {w : World}
theorem takeT (i : Nat) (op : Op) (d : Option Tmp) (g : Option (Nat × Bool)) (v : Value) (ho : isOp ops i = some (op, d, g)) (hw : wantG g (yielded ops a.tmps) = true) (hB : takeTB md ops z listed i = true)
    (hQ : ∀ c a w, Q (.panic c) (a.put d v) w → Q (.panic c) a w) (hy : ∀ (o : Oper) w, o.op = op → S w → (execOp a.eval o).run P w = .ok (.value v) w) (hS : S w)
    (h : AnyT P md ops Q S z n (listed.setIfInBounds i true) (a.put d v) w) : AnyT P md ops Q S z (n + 1) listed a w := by
  obtain ⟨o, h1, h2, rfl, h4⟩ := isOpG_spec ho
  simp only [takeTB, Bool.and_eq_true] at hB
  exact AnyT.first h1 (Region.noSelect_spec hB.1.1.1.1) hQ hB.1.2 n listed a w (shut_of hB.2) (Region.free_spec h1 hB.1.1.1.2) (by simpa using hB.1.1.2) (.inl ⟨want_of h4 hw, fun w hw => hy o w h2 hw⟩) hS h
theorem loneT (i : Nat) (op : Op) (d : Option Tmp) (g : Option (Nat × Bool)) (ho : isOp ops i = some (op, d, g)) (hw : wantG g (yielded ops a.tmps) = true) (hr : Region.ready md ops listed = [i])
    (h : ∀ o : Oper, o.op = op → o.dst = d → o.wp P a w (fun a' w' => (i < z → S w') ∧ AnyT P md ops Q S z n (listed.setIfInBounds i true) a' w') Q) : AnyT P md ops Q S z (n + 1) listed a w := by
  obtain ⟨o, h1, h2, h3, h4⟩ := isOpG_spec ho
  refine AnyT.one hr ?_
  unfold wpOp
  simp only [h1, want_of h4 hw, if_true]
  exact .inl (h o h2 h3)
theorem lastT (i : Nat) (op : Op) (d : Option Tmp) (v : Value) (ho : isOp ops i = some (op, d, none)) (hr : Region.ready md ops listed = [i]) (hd : Region.ready md ops (listed.setIfInBounds i true) = []) (hz : z ≤ i)
    (hy : ∀ (o : Oper), o.op = op → (execOp a.eval o).run P w = .ok (.value v) w) (h : Q .normal (a.put d v) w) : AnyT P md ops Q S z (n + 1) listed a w := by
  obtain ⟨o, h1, h2, h3, h4⟩ := isOp_spec ho
  refine AnyT.one hr (wpOp_op h1 h4 (wp_val (hy o h2) ⟨fun h => absurd h (by omega), AnyT.done hd ?_⟩))
  rw [h3]
  exact h
end
end Go.Proofs.YtnmieabcaaoofaaDoor
