/-
  slices.Clone of a row of snapshots. No conditions beyond those that each theorem types.
-/
import Derived.Test.YtefgofoocabkkaaDeadSnaps
import Derived.Test.YtefgofoocabkkaaDeadRowsM
namespace Go.Proofs.Ytefgofoocabkkaa
open Go Go.RowKit
set_option maxRecDepth 100000
set_option linter.unusedVariables false
namespace Dd
/-- what can be read as snapshots can be read as their cells -/
theorem sv_of_rds {w : World} {A : Option Addr} {S : List Sn} (h : RdS w A S) : ∃ vs : List SV, Holds w vs S ∧ Gr.RdG 2 csV w A vs := by
  have key : ∀ k : Nat, k ≤ S.length → ∃ vs : List SV, Holds w vs (S.take k) ∧ ∀ (i : Nat) (x : SV), vs[i]? = some x → ∃ b o, A = some ⟨b, o, none⟩ ∧ b < w.heap.size ∧ ∀ j u, (csV x)[j]? = some u → w.cell? ⟨b, o + i * 2 + j, none⟩ = some u := by
    intro k
    induction k with
    | zero => intro _; exact ⟨[], Holds.nil w, fun i x hx => by cases hx⟩
    | succ k ih =>
      intro hk
      obtain ⟨vs, h1, h2⟩ := ih (by omega)
      have hs := List.getElem?_eq_getElem (show k < S.length by omega)
      obtain ⟨b, o, A', c, e1, e2, e3, e4, e5, e6⟩ := h k _ hs
      have hl : vs.length = k := by rw [h1.1, List.length_take]; omega
      refine ⟨vs ++ [⟨S[k].txg, A', S[k].dead.length, c⟩], ?_, fun i x hx => ?_⟩
      · rw [List.take_succ_eq_append_getElem (by omega)]
        exact h1.snoc rfl rfl e5 e6
      · by_cases hi : i < k
        · rw [List.getElem?_append_left (by omega)] at hx
          exact h2 i x hx
        · rw [List.getElem?_append_right (by omega), hl] at hx
          have e : i - k = 0 := by
            have := (List.getElem?_eq_some_iff.1 hx).1
            simp at this
            omega
          rw [e] at hx
          injection hx with hx
          subst hx
          have ei : i = k := by omega
          subst ei
          refine ⟨b, o, e1, e2, fun j u hj => ?_⟩
          match j, hj with
          | 0, hj => injection hj with hj; subst hj; exact e3
          | 1, hj => injection hj with hj; subst hj; exact e4
          | j + 2, hj => simp [csV] at hj
  obtain ⟨vs, h1, h2⟩ := key S.length (Nat.le_refl _)
  rw [List.take_length] at h1
  exact ⟨vs, h1, h2⟩
theorem append_svm {w : World} {base : Nat} {v : Value} {l : List SV} (h : Gr.OwnG 51 2 csV w base v l) (m : List SV) {ad : Addr} {c n : Nat} (hn : n = m.length) (hm : Gr.RdG 2 csV w (some ad) m) (hby : (l.length + m.length) * 32 ≤ 140737488355328) (hb : base ≤ w.heap.size) (ty : TypeId) :
    ∃ v' w', (Builtin.append_ #[25, 25] ty #[v, .slice (some ad) n c]).run Try.prog w = .ok v' w' ∧ Gr.OwnG 51 2 csV w' base v' (l ++ m) ∧ Below base w w' := by
  subst hn
  have hr : ∀ j u, (m.flatMap csV)[j]? = some u → w.cell? (ad.add j) = some u := by
    cases m with
    | nil => intro j u hj; simp at hj
    | cons x m' =>
      obtain ⟨b, o, e, _⟩ := hm 0 x rfl
      injection e with e
      subst e
      exact Gr.rd_flat (k := 2) (cs := csV) (fun _ => rfl) (by decide) hm
  obtain ⟨v', w', e1, e2, e3, e4⟩ := Gr.run_append_b (E := 51) (k := 2) (cs := csV) (z := .agg #[.int .i64 0, .slice none 0 0]) (bytes := 32) (m := m) (c := c) (fun _ => rfl) csV_one Try.underlying25 info_ds rfl (by omega) ty h hr (by omega) hby hb
  exact ⟨v', w', e1, e2, ⟨e3.os, e3.tape, e3.output, e3.size, fun g hg => e3.block g (by omega) (fun e => by have := (h.lt e.symm).2; omega)⟩⟩
theorem wpList_appS {w : World} {ops : Array Oper} {rest : List Oper} {o : Oper} {a : Act} {Q : Exit → Act → World → Prop} {base : Nat} {v : Value} {l : List SV} (m : List SV) {ad : Addr} {c n : Nat} (hgd : o.guard = none) (s t : Operand) (ho : o.op = .call { callee := .builtin .append, args := #[s, t], argTypes := #[25, 25] })
    (hs : a.eval s = v) (hy : a.eval t = .slice (some ad) n c) (h : Gr.OwnG 51 2 csV w base v l) (hn : n = m.length) (hm : Gr.RdG 2 csV w (some ad) m) (hby : (l.length + m.length) * 32 ≤ 140737488355328) (hb : base ≤ w.heap.size)
    (hK : ∀ v' w', Gr.OwnG 51 2 csV w' base v' (l ++ m) → Below base w w' → wpList Try.prog ops Q rest (a.put o.dst v') w') :
    wpList Try.prog ops Q (o :: rest) a w := by
  refine wpList_plain hgd fun K hK' => ?_
  obtain ⟨v', w', hrun, ho2, hb2⟩ := append_svm h m hn hm hby hb o.type
  exact Gr.wp_append 25 s t ho hs hy hrun (hK' _ _ (hK v' w' ho2 hb2))
def ClonedS (w : World) (vs : List SV) (e : Ending) (w' : World) : Prop := ∃ v, e = .returned v ∧ Gr.OwnG 51 2 csV w' w.heap.size v vs ∧ Below w.heap.size w w'
set_option maxHeartbeats 1600000 in
theorem clone_s (w : World) (vs : List SV) (A : Option Addr) (c n : Nat) (hn : n = vs.length) (hrd : Gr.RdG 2 csV w A vs) (hA : A = none → c = 0) (hby : vs.length * 32 ≤ 140737488355328) :
    Calls Try.prog 19 #[.slice A n c] w fun e w' => ClonedS w vs e w' := by
  cases A with
  | none =>
    have e1 : vs = [] := by
      cases vs with
      | nil => rfl
      | cons x m => obtain ⟨b, o, e, _⟩ := hrd 0 x rfl; cases e
    subst e1
    have hc0 := hA rfl
    subst hc0 hn
    have he : ∀ w : World, (binOp .eql 25 (.slice none 0 0) (.slice none 0 0)).run Try.prog w = .ok (.bool true) w := by
      intro w
      simp only [binOp]
      simp [Op.equal, Op.maxDepth, Lib.run_equalIn_slice_nil w 9999 25 _ _ 0 0 0 0 Try.underlying25]
    go_enter Try.func19, Try.ntmps19
    go_wp2_with fail
    go_ret
    exact ⟨_, rfl, Gr.OwnG.nil _ _, Below.refl _ _⟩
  | some ad =>
    have he : ∀ w : World, (binOp .eql 25 (.slice (some ad) n c) (.slice none 0 0)).run Try.prog w = .ok (.bool false) w := by
      intro w
      simp only [binOp]
      simp [Op.equal, Op.maxDepth, Lib.run_equalIn_slice_nil w 9999 25 _ _ n c 0 0 Try.underlying25]
    have L1 : Below w.heap.size w (w.alloc (.cells #[] 51)) := (Below.refl _ _).alloc (Nat.le_refl _) _
    have HOE : Hid (Gr.OwnG 51 2 csV (w.alloc (.cells #[] 51)) w.heap.size (.slice (some ⟨w.heap.size, 0, none⟩) 0 0) []) := Lib.hid (World.ownsRow_lit w #[] 0 (Nat.le_refl _) (by unfold maxLen; omega) rfl)
    have HRD := Lib.hid (hrd.below L1)
    have HNE := Lib.hid hn
    have HBY : Hid ((([] : List SV).length + vs.length) * 32 ≤ 140737488355328) := Lib.hid (by simpa using hby)
    have HL := Lib.hid L1
    clear hrd hA hby L1 hn
    go_enter Try.func19, Try.ntmps19
    go_wp2_with (at_builtin; refine wpList_appS (v := .slice (some ⟨w.heap.size, 0, none⟩) 0 0) (ad := ad) (n := n) (c := c) vs rfl (.tmp 5) (.tmp 6) rfl rfl rfl HOE.out HNE.out HRD.out HBY.out HL.out.size ?_; intro v' w' ho hb; refine of_hid ?_)
    refine Lib.hid ?_
    have O := Lib.hid (⟨ho, hb⟩ : _ ∧ _)
    clear ho hb
    go_wp2_with fail
    go_ret
    exact ⟨_, rfl, O.out.1, HL.out.trans O.out.2⟩
end Dd
end Go.Proofs.Ytefgofoocabkkaa
namespace Go.Proofs.Ytefgofoocabkkaa
open Go Go.RowKit
set_option maxRecDepth 100000
set_option linter.unusedVariables false
namespace Gr
section
variable {α : Type} {E : TypeId} {k : Nat} {cs : α → List Value}
theorem flat_set (hk : ∀ x, (cs x).length = k) {j : Nat} {u : Value} (hj : j < k) : ∀ {l : List α} {i : Nat} {x y : α}, l[i]? = some x → cs y = (cs x).set j u → (l.set i y).flatMap cs = (l.flatMap cs).set (i * k + j) u
  | [], i, x, y, h, _ => by simp at h
  | z :: l, 0, x, y, h, hy => by
    simp at h
    subst h
    rw [List.set_cons_zero, List.flatMap_cons, List.flatMap_cons, Nat.zero_mul, Nat.zero_add, hy, List.set_append_left _ _ (by rw [hk]; exact hj)]
  | z :: l, i + 1, x, y, h, hy => by
    rw [List.getElem?_cons_succ] at h
    rw [List.set_cons_succ, List.flatMap_cons, List.flatMap_cons, flat_set hk hj h hy, List.set_append_right _ _ (by rw [hk, Nat.succ_mul]; omega), hk, show (i + 1) * k + j - k = i * k + j by rw [Nat.succ_mul]; omega]
theorem OwnG.setAt {w : World} {base g n c i j : Nat} {l : List α} {x y : α} {u : Value} (h : OwnG E k cs w base (.slice (some ⟨g, 0, none⟩) n c) l) (hk : ∀ x, (cs x).length = k) (hx : l[i]? = some x) (hj : j < k) (hy : cs y = (cs x).set j u) :
    OwnG E k cs (w.setCell ⟨g, i * k + j, none⟩ u) base (.slice (some ⟨g, 0, none⟩) n c) (l.set i y) := by
  refine ⟨by rw [List.length_set]; rw [flat_length hk, List.length_set], ?_⟩
  rcases h.2 with ⟨h1, _⟩ | ⟨g', cap, cur, h1, h2, h3, h4, h5, h6, h7⟩
  · cases h1
  · injection h1 with h1 h8 h9
    injection h1 with h1
    injection h1 with h1
    subst h1 h9
    have hi := (List.getElem?_eq_some_iff.1 hx).1
    have hb : i * k + j < l.length * k := by
      have : (i + 1) * k ≤ l.length * k := Nat.mul_le_mul_right k hi
      rw [Nat.succ_mul] at this
      omega
    refine .inr ⟨g, c, cur.setIfInBounds (i * k + j) u, by rw [List.length_set, h8], h2, ?_, by rw [List.length_set]; exact h4, h5, by simp [h6], ?_⟩
    · have : Blk w g E cur := h3
      exact this.set_ _ _
    · rw [List.length_set, flat_set hk hj hx hy, ← h7, Array.toList_setIfInBounds, List.take_set]
end
end Gr
end Go.Proofs.Ytefgofoocabkkaa
