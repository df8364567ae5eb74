/-
  Two chains of two operations each that come up in any order (a region that draws its order): one walk for the six orders. No conditions beyond those that each theorem types.
-/
import Derived.Test.YtikenhcglbfgpaaDoorDrawMoreM
namespace Go.Proofs.YtikenhcglbfgpaaDoor
open Go Go.RowKit
set_option maxRecDepth 100000
set_option linter.unusedVariables false

section
variable {P : Program} {md : Region.Mode} {ops : Array Oper} {Q : Exit → Act → World → Prop} {S : World → Prop} {z : Nat}
/-- one of two may come up -/
theorem AnyZ.two {i j n : Nat} {listed : Array Bool} {a : Act} {w : World} (hr : Region.ready md ops listed = [i, j])
    (h1 : wpOp P ops Q i (fun a' w' => (i ≠ z → S w') ∧ AnyZ P md ops Q S z n (listed.setIfInBounds i true) a' w') a w)
    (h2 : wpOp P ops Q j (fun a' w' => (j ≠ z → S w') ∧ AnyZ P md ops Q S z n (listed.setIfInBounds j true) a' w') a w) : AnyZ P md ops Q S z (n + 1) listed a w :=
  ⟨fun h0 => (by rw [hr] at h0; cases h0), fun k hk => by
    rw [hr] at hk
    simp at hk
    rcases hk with rfl | rfl
    · exact h1
    · exact h2⟩
def putO (d : Tmp) (a : Act) : Option Value → Act
  | none => a
  | some v => a.put (some d) v
def setO (i : Nat) (l : Array Bool) (b : Bool) : Array Bool := if b then l.setIfInBounds i true else l
theorem putO_comm {d e : Tmp} (h : d ≠ e) (a : Act) (x y : Option Value) : putO e (putO d a x) y = putO d (putO e a y) x := by
  cases x <;> cases y <;> try rfl
  rename_i v u
  show { a with tmps := (a.tmps.setIfInBounds d v).setIfInBounds e u } = { a with tmps := (a.tmps.setIfInBounds e u).setIfInBounds d v }
  rw [Array.setIfInBounds_comm _ _ h]
theorem setO_comm {i j : Nat} (h : i ≠ j) (l : Array Bool) (b c : Bool) : setO j (setO i l b) c = setO i (setO j l c) b := by
  cases b <;> cases c <;> try rfl
  exact Array.setIfInBounds_comm _ _ h
def fr (d1 d2 e1 e2 : Tmp) (a : Act) (x1 x2 y1 y2 : Option Value) : Act := putO e2 (putO e1 (putO d2 (putO d1 a x1) x2) y1) y2
def ls (i1 i2 j1 j2 : Nat) (l : Array Bool) (b1 b2 c1 c2 : Bool) : Array Bool := setO j2 (setO j1 (setO i2 (setO i1 l b1) b2) c1) c2

theorem diamond {d1 d2 e1 e2 : Tmp} {i1 i2 j1 j2 n : Nat} {op1 op2 oq1 oq2 : Op} {listed : Array Bool} {a : Act} {w : World} (Φ : Option Value → Option Value → Option Value → Option Value → World → Prop)
    (ho1 : isOp ops i1 = some (op1, some d1, none)) (ho2 : isOp ops i2 = some (op2, some d2, none)) (hq1 : isOp ops j1 = some (oq1, some e1, none)) (hq2 : isOp ops j2 = some (oq2, some e2, none))
    (hd : decide (d1 ≠ d2 ∧ d1 ≠ e1 ∧ d1 ≠ e2 ∧ d2 ≠ e1 ∧ d2 ≠ e2 ∧ e1 ≠ e2) = true) (hi : decide (i1 ≠ i2 ∧ i1 ≠ j1 ∧ i1 ≠ j2 ∧ i2 ≠ j1 ∧ i2 ≠ j2 ∧ j1 ≠ j2) = true)
    (r0 : Region.ready md ops (ls i1 i2 j1 j2 listed false false false false) = [i1, j1]) (r1 : Region.ready md ops (ls i1 i2 j1 j2 listed true false false false) = [i2, j1]) (r2 : Region.ready md ops (ls i1 i2 j1 j2 listed false false true false) = [i1, j2])
    (r3 : Region.ready md ops (ls i1 i2 j1 j2 listed true true false false) = [j1]) (r4 : Region.ready md ops (ls i1 i2 j1 j2 listed true false true false) = [i2, j2]) (r5 : Region.ready md ops (ls i1 i2 j1 j2 listed false false true true) = [i1])
    (r6 : Region.ready md ops (ls i1 i2 j1 j2 listed true true true false) = [j2]) (r7 : Region.ready md ops (ls i1 i2 j1 j2 listed true false true true) = [i2])
    (hS : ∀ x1 x2 y1 y2 w, Φ x1 x2 y1 y2 w → S w)
    (s1 : ∀ y1 y2 w (K : Act → World → Prop), Φ none none y1 y2 w → (∀ v w', Φ (some v) none y1 y2 w' → K ((fr d1 d2 e1 e2 a none none y1 y2).put (some d1) v) w') → ∀ o : Oper, o.op = op1 → o.dst = some d1 → o.wp P (fr d1 d2 e1 e2 a none none y1 y2) w K Q)
    (s2 : ∀ v y1 y2 w (K : Act → World → Prop), Φ (some v) none y1 y2 w → (∀ u w', Φ (some v) (some u) y1 y2 w' → K ((fr d1 d2 e1 e2 a (some v) none y1 y2).put (some d2) u) w') → ∀ o : Oper, o.op = op2 → o.dst = some d2 → o.wp P (fr d1 d2 e1 e2 a (some v) none y1 y2) w K Q)
    (t1 : ∀ x1 x2 w (K : Act → World → Prop), Φ x1 x2 none none w → (∀ v w', Φ x1 x2 (some v) none w' → K ((fr d1 d2 e1 e2 a x1 x2 none none).put (some e1) v) w') → ∀ o : Oper, o.op = oq1 → o.dst = some e1 → o.wp P (fr d1 d2 e1 e2 a x1 x2 none none) w K Q)
    (t2 : ∀ v x1 x2 w (K : Act → World → Prop), Φ x1 x2 (some v) none w → (∀ u w', Φ x1 x2 (some v) (some u) w' → K ((fr d1 d2 e1 e2 a x1 x2 (some v) none).put (some e2) u) w') → ∀ o : Oper, o.op = oq2 → o.dst = some e2 → o.wp P (fr d1 d2 e1 e2 a x1 x2 (some v) none) w K Q)
    (h0 : Φ none none none none w)
    (tail : ∀ v u v' u' w, Φ (some v) (some u) (some v') (some u') w → AnyZ P md ops Q S z n (ls i1 i2 j1 j2 listed true true true true) (fr d1 d2 e1 e2 a (some v) (some u) (some v') (some u')) w) :
    AnyZ P md ops Q S z (n + 1 + 1 + 1 + 1) listed a w := by
  obtain ⟨a1, a2, a3, a4, a5, a6⟩ := of_decide_eq_true hd
  obtain ⟨b1, b2, b3, b4, b5, b6⟩ := of_decide_eq_true hi
  -- the frame and the list, whatever comes first
  have F1 : ∀ y1 y2 v, (fr d1 d2 e1 e2 a none none y1 y2).put (some d1) v = fr d1 d2 e1 e2 a (some v) none y1 y2 := fun y1 y2 v => by
    show putO d1 (putO e2 (putO e1 a y1) y2) (some v) = putO e2 (putO e1 (putO d1 a (some v)) y1) y2
    rw [putO_comm a3.symm, putO_comm a2.symm]
  have F2 : ∀ x1 y1 y2 v, (fr d1 d2 e1 e2 a x1 none y1 y2).put (some d2) v = fr d1 d2 e1 e2 a x1 (some v) y1 y2 := fun x1 y1 y2 v => by
    show putO d2 (putO e2 (putO e1 (putO d1 a x1) y1) y2) (some v) = putO e2 (putO e1 (putO d2 (putO d1 a x1) (some v)) y1) y2
    rw [putO_comm a5.symm, putO_comm a4.symm]
  have F3 : ∀ x1 x2 v, (fr d1 d2 e1 e2 a x1 x2 none none).put (some e1) v = fr d1 d2 e1 e2 a x1 x2 (some v) none := fun _ _ _ => rfl
  have F4 : ∀ x1 x2 y1 v, (fr d1 d2 e1 e2 a x1 x2 y1 none).put (some e2) v = fr d1 d2 e1 e2 a x1 x2 y1 (some v) := fun _ _ _ _ => rfl
  have L1 : ∀ c1 c2, (ls i1 i2 j1 j2 listed false false c1 c2).setIfInBounds i1 true = ls i1 i2 j1 j2 listed true false c1 c2 := fun c1 c2 => by
    show setO i1 (setO j2 (setO j1 listed c1) c2) true = setO j2 (setO j1 (setO i1 listed true) c1) c2
    rw [setO_comm b3.symm, setO_comm b2.symm]
  have L2 : ∀ b c1 c2, (ls i1 i2 j1 j2 listed b false c1 c2).setIfInBounds i2 true = ls i1 i2 j1 j2 listed b true c1 c2 := fun b c1 c2 => by
    show setO i2 (setO j2 (setO j1 (setO i1 listed b) c1) c2) true = setO j2 (setO j1 (setO i2 (setO i1 listed b) true) c1) c2
    rw [setO_comm b5.symm, setO_comm b4.symm]
  have L3 : ∀ b c, (ls i1 i2 j1 j2 listed b c false false).setIfInBounds j1 true = ls i1 i2 j1 j2 listed b c true false := fun _ _ => rfl
  have L4 : ∀ b c d, (ls i1 i2 j1 j2 listed b c d false).setIfInBounds j2 true = ls i1 i2 j1 j2 listed b c d true := fun _ _ _ => rfl
  have W1 : ∀ {m c1 c2 y1 y2 w}, Φ none none y1 y2 w → (∀ v w', Φ (some v) none y1 y2 w' → AnyZ P md ops Q S z m (ls i1 i2 j1 j2 listed true false c1 c2) (fr d1 d2 e1 e2 a (some v) none y1 y2) w') →
      wpOp P ops Q i1 (fun a' w' => (i1 ≠ z → S w') ∧ AnyZ P md ops Q S z m ((ls i1 i2 j1 j2 listed false false c1 c2).setIfInBounds i1 true) a' w') (fr d1 d2 e1 e2 a none none y1 y2) w := fun {m c1 c2 y1 y2 w} hp hk => by
    obtain ⟨o, h1, h2, h3, h4⟩ := isOp_spec ho1
    refine wpOp_op h1 h4 (s1 y1 y2 w _ hp (fun v w' hv => ?_) o h2 h3)
    rw [F1, L1]
    exact ⟨fun _ => hS _ _ _ _ _ hv, hk v w' hv⟩
  have W2 : ∀ {m c1 c2 v y1 y2 w}, Φ (some v) none y1 y2 w → (∀ u w', Φ (some v) (some u) y1 y2 w' → AnyZ P md ops Q S z m (ls i1 i2 j1 j2 listed true true c1 c2) (fr d1 d2 e1 e2 a (some v) (some u) y1 y2) w') →
      wpOp P ops Q i2 (fun a' w' => (i2 ≠ z → S w') ∧ AnyZ P md ops Q S z m ((ls i1 i2 j1 j2 listed true false c1 c2).setIfInBounds i2 true) a' w') (fr d1 d2 e1 e2 a (some v) none y1 y2) w := fun {m c1 c2 v y1 y2 w} hp hk => by
    obtain ⟨o, h1, h2, h3, h4⟩ := isOp_spec ho2
    refine wpOp_op h1 h4 (s2 v y1 y2 w _ hp (fun u w' hv => ?_) o h2 h3)
    rw [F2, L2]
    exact ⟨fun _ => hS _ _ _ _ _ hv, hk u w' hv⟩
  have W3 : ∀ {m b c x1 x2 w}, Φ x1 x2 none none w → (∀ v w', Φ x1 x2 (some v) none w' → AnyZ P md ops Q S z m (ls i1 i2 j1 j2 listed b c true false) (fr d1 d2 e1 e2 a x1 x2 (some v) none) w') →
      wpOp P ops Q j1 (fun a' w' => (j1 ≠ z → S w') ∧ AnyZ P md ops Q S z m ((ls i1 i2 j1 j2 listed b c false false).setIfInBounds j1 true) a' w') (fr d1 d2 e1 e2 a x1 x2 none none) w := fun {m b c x1 x2 w} hp hk => by
    obtain ⟨o, h1, h2, h3, h4⟩ := isOp_spec hq1
    refine wpOp_op h1 h4 (t1 x1 x2 w _ hp (fun v w' hv => ?_) o h2 h3)
    rw [F3, L3]
    exact ⟨fun _ => hS _ _ _ _ _ hv, hk v w' hv⟩
  have W4 : ∀ {m b c v x1 x2 w}, Φ x1 x2 (some v) none w → (∀ u w', Φ x1 x2 (some v) (some u) w' → AnyZ P md ops Q S z m (ls i1 i2 j1 j2 listed b c true true) (fr d1 d2 e1 e2 a x1 x2 (some v) (some u)) w') →
      wpOp P ops Q j2 (fun a' w' => (j2 ≠ z → S w') ∧ AnyZ P md ops Q S z m ((ls i1 i2 j1 j2 listed b c true false).setIfInBounds j2 true) a' w') (fr d1 d2 e1 e2 a x1 x2 (some v) none) w := fun {m b c v x1 x2 w} hp hk => by
    obtain ⟨o, h1, h2, h3, h4⟩ := isOp_spec hq2
    refine wpOp_op h1 h4 (t2 v x1 x2 w _ hp (fun u w' hv => ?_) o h2 h3)
    rw [F4, L4]
    exact ⟨fun _ => hS _ _ _ _ _ hv, hk u w' hv⟩
  have g3a : ∀ v u v' w, Φ (some v) (some u) (some v') none w → AnyZ P md ops Q S z (n + 1) (ls i1 i2 j1 j2 listed true true true false) (fr d1 d2 e1 e2 a (some v) (some u) (some v') none) w :=
    fun v u v' w hp => AnyZ.one r6 (W4 hp fun u' w' h => tail v u v' u' w' h)
  have g3b : ∀ v v' u' w, Φ (some v) none (some v') (some u') w → AnyZ P md ops Q S z (n + 1) (ls i1 i2 j1 j2 listed true false true true) (fr d1 d2 e1 e2 a (some v) none (some v') (some u')) w :=
    fun v v' u' w hp => AnyZ.one r7 (W2 hp fun u w' h => tail v u v' u' w' h)
  have g2a : ∀ v u w, Φ (some v) (some u) none none w → AnyZ P md ops Q S z (n + 1 + 1) (ls i1 i2 j1 j2 listed true true false false) (fr d1 d2 e1 e2 a (some v) (some u) none none) w :=
    fun v u w hp => AnyZ.one r3 (W3 hp fun v' w' h => g3a v u v' w' h)
  have g2b : ∀ v v' w, Φ (some v) none (some v') none w → AnyZ P md ops Q S z (n + 1 + 1) (ls i1 i2 j1 j2 listed true false true false) (fr d1 d2 e1 e2 a (some v) none (some v') none) w :=
    fun v v' w hp => AnyZ.two r4 (W2 hp fun u w' h => g3a v u v' w' h) (W4 hp fun u' w' h => g3b v v' u' w' h)
  have g2c : ∀ v' u' w, Φ none none (some v') (some u') w → AnyZ P md ops Q S z (n + 1 + 1) (ls i1 i2 j1 j2 listed false false true true) (fr d1 d2 e1 e2 a none none (some v') (some u')) w :=
    fun v' u' w hp => AnyZ.one r5 (W1 hp fun v w' h => g3b v v' u' w' h)
  have g1a : ∀ v w, Φ (some v) none none none w → AnyZ P md ops Q S z (n + 1 + 1 + 1) (ls i1 i2 j1 j2 listed true false false false) (fr d1 d2 e1 e2 a (some v) none none none) w :=
    fun v w hp => AnyZ.two r1 (W2 hp fun u w' h => g2a v u w' h) (W3 hp fun v' w' h => g2b v v' w' h)
  have g1b : ∀ v' w, Φ none none (some v') none w → AnyZ P md ops Q S z (n + 1 + 1 + 1) (ls i1 i2 j1 j2 listed false false true false) (fr d1 d2 e1 e2 a none none (some v') none) w :=
    fun v' w hp => AnyZ.two r2 (W1 hp fun v w' h => g2b v v' w' h) (W4 hp fun u' w' h => g2c v' u' w' h)
  exact AnyZ.two (listed := ls i1 i2 j1 j2 listed false false false false) (a := fr d1 d2 e1 e2 a none none none none) r0 (W1 h0 fun v w' h => g1a v w' h) (W3 h0 fun v' w' h => g1b v' w' h)
end
end Go.Proofs.YtikenhcglbfgpaaDoor
namespace Go.Proofs.YtikenhcglbfgpaaDoor
open Go Go.RowKit
set_option maxRecDepth 100000
set_option linter.unusedVariables false
section
variable {P : Program} {md : Region.Mode} {ops : Array Oper} {Q : Exit → Act → World → Prop} {S S' : World → Prop} {z : Nat}
theorem AnyZ.more (hS : ∀ w, S' w → S w) : ∀ (n : Nat) (listed : Array Bool) (a : Act) (w : World), AnyZ P md ops Q S' z n listed a w → AnyZ P md ops Q S z n listed a w
  | 0, _, _, _, h => h
  | n + 1, _, _, _, h => ⟨h.1, fun i hi => wpOp_mono (fun a' w' h' => ⟨fun hz => hS _ (h'.1 hz), AnyZ.more hS n _ a' w' h'.2⟩) (h.2 i hi)⟩
theorem twoG {i j n : Nat} {op1 op2 : Op} {d1 d2 : Option Tmp} {listed : Array Bool} {a : Act} {w : World} (ho1 : isOp ops i = some (op1, d1, none)) (ho2 : isOp ops j = some (op2, d2, none)) (hr : Region.ready md ops listed = [i, j])
    (h1 : ∀ o : Oper, o.op = op1 → o.dst = d1 → o.wp P a w (fun a' w' => (i ≠ z → S w') ∧ AnyZ P md ops Q S z n (listed.setIfInBounds i true) a' w') Q)
    (h2 : ∀ o : Oper, o.op = op2 → o.dst = d2 → o.wp P a w (fun a' w' => (j ≠ z → S w') ∧ AnyZ P md ops Q S z n (listed.setIfInBounds j true) a' w') Q) : AnyZ P md ops Q S z (n + 1) listed a w := by
  obtain ⟨o1, a1, a2, a3, a4⟩ := isOp_spec ho1
  obtain ⟨o2, b1, b2, b3, b4⟩ := isOp_spec ho2
  exact AnyZ.two hr (wpOp_op a1 a4 (h1 o1 a2 a3)) (wpOp_op b1 b4 (h2 o2 b2 b3))
end
end Go.Proofs.YtikenhcglbfgpaaDoor
