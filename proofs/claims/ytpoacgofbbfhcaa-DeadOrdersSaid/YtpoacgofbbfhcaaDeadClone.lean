/-
  slices.Clone of a row of snapshots. No conditions beyond those that each theorem types.
-/
import Derived.Test.YtpoacgofbbfhcaaDeadSnaps
namespace Go.Proofs.Ytpoacgofbbfhcaa
open Go Go.RowKit
set_option maxRecDepth 100000
set_option linter.unusedVariables false
namespace Dd
/-- what can be read as snapshots can be read as their cells -/
theorem sv_of_rds {w : World} {A : Option Addr} {S : List Sn} (h : RdS w A S) : ∃ vs : List SV, Holds w vs S ∧ Gr.RdG 2 csV w A vs := by
  have key : ∀ k : Nat, k ≤ S.length → ∃ vs : List SV, Holds w vs (S.take k) ∧ ∀ (i : Nat) (x : SV), vs[i]? = some x → ∃ b o, A = some ⟨b, o, none⟩ ∧ b < w.heap.size ∧ ∀ j u, (csV x)[j]? = some u → w.cell? ⟨b, o + i * 2 + j, none⟩ = some u := by
    intro k
    induction k with
    | zero => intro _; exact ⟨[], Holds.nil w, fun i x hx => by cases hx⟩
    | succ k ih =>
      intro hk
      obtain ⟨vs, h1, h2⟩ := ih (by omega)
      have hs := List.getElem?_eq_getElem (show k < S.length by omega)
      obtain ⟨b, o, A', c, e1, e2, e3, e4, e5, e6⟩ := h k _ hs
      have hl : vs.length = k := by rw [h1.1, List.length_take]; omega
      refine ⟨vs ++ [⟨S[k].txg, A', S[k].dead.length, c⟩], ?_, fun i x hx => ?_⟩
      · rw [List.take_succ_eq_append_getElem (by omega)]
        exact h1.snoc rfl rfl e5 e6
      · by_cases hi : i < k
        · rw [List.getElem?_append_left (by omega)] at hx
          exact h2 i x hx
        · rw [List.getElem?_append_right (by omega), hl] at hx
          have e : i - k = 0 := by
            have := (List.getElem?_eq_some_iff.1 hx).1
            simp at this
            omega
          rw [e] at hx
          injection hx with hx
          subst hx
          have ei : i = k := by omega
          subst ei
          refine ⟨b, o, e1, e2, fun j u hj => ?_⟩
          match j, hj with
          | 0, hj => injection hj with hj; subst hj; exact e3
          | 1, hj => injection hj with hj; subst hj; exact e4
          | j + 2, hj => simp [csV] at hj
  obtain ⟨vs, h1, h2⟩ := key S.length (Nat.le_refl _)
  rw [List.take_length] at h1
  exact ⟨vs, h1, h2⟩
theorem append_svm {w : World} {base : Nat} {v : Value} {l : List SV} (h : Gr.OwnG 65 2 csV w base v l) (m : List SV) {ad : Addr} {c n : Nat} (hn : n = m.length) (hm : Gr.RdG 2 csV w (some ad) m) (hby : (l.length + m.length) * 32 ≤ 140737488355328) (hb : base ≤ w.heap.size) (ty : TypeId) :
    ∃ v' w', (Builtin.append_ #[31, 31] ty #[v, .slice (some ad) n c]).run Try.prog w = .ok v' w' ∧ Gr.OwnG 65 2 csV w' base v' (l ++ m) ∧ Below base w w' := by
  subst hn
  have hr : ∀ j u, (m.flatMap csV)[j]? = some u → w.cell? (ad.add j) = some u := by
    cases m with
    | nil => intro j u hj; simp at hj
    | cons x m' =>
      obtain ⟨b, o, e, _⟩ := hm 0 x rfl
      injection e with e
      subst e
      exact Gr.rd_flat (k := 2) (cs := csV) (fun _ => rfl) (by decide) hm
  obtain ⟨v', w', e1, e2, e3, e4⟩ := Gr.run_append_b (E := 65) (k := 2) (cs := csV) (z := .agg #[.int .i64 0, .slice none 0 0]) (bytes := 32) (m := m) (c := c) (fun _ => rfl) csV_one Try.underlying31 info_ds rfl (by omega) ty h hr (by omega) hby hb
  exact ⟨v', w', e1, e2, ⟨e3.os, e3.tape, e3.output, e3.size, fun g hg => e3.block g (by omega) (fun e => by have := (h.lt e.symm).2; omega)⟩⟩
theorem wpList_appS {w : World} {ops : Array Oper} {rest : List Oper} {o : Oper} {a : Act} {Q : Exit → Act → World → Prop} {base : Nat} {v : Value} {l : List SV} (m : List SV) {ad : Addr} {c n : Nat} (hgd : o.guard = none) (s t : Operand) (ho : o.op = .call { callee := .builtin .append, args := #[s, t], argTypes := #[31, 31] })
    (hs : a.eval s = v) (hy : a.eval t = .slice (some ad) n c) (h : Gr.OwnG 65 2 csV w base v l) (hn : n = m.length) (hm : Gr.RdG 2 csV w (some ad) m) (hby : (l.length + m.length) * 32 ≤ 140737488355328) (hb : base ≤ w.heap.size)
    (hK : ∀ v' w', Gr.OwnG 65 2 csV w' base v' (l ++ m) → Below base w w' → wpList Try.prog ops Q rest (a.put o.dst v') w') :
    wpList Try.prog ops Q (o :: rest) a w := by
  refine wpList_plain hgd fun K hK' => ?_
  obtain ⟨v', w', hrun, ho2, hb2⟩ := append_svm h m hn hm hby hb o.type
  exact Gr.wp_append 31 s t ho hs hy hrun (hK' _ _ (hK v' w' ho2 hb2))
def ClonedS (w : World) (vs : List SV) (e : Ending) (w' : World) : Prop := ∃ v, e = .returned v ∧ Gr.OwnG 65 2 csV w' w.heap.size v vs ∧ Below w.heap.size w w'
set_option maxHeartbeats 1600000 in
theorem clone_s (w : World) (vs : List SV) (A : Option Addr) (c n : Nat) (hn : n = vs.length) (hrd : Gr.RdG 2 csV w A vs) (hA : A = none → c = 0) (hby : vs.length * 32 ≤ 140737488355328) :
    Calls Try.prog 35 #[.slice A n c] w fun e w' => ClonedS w vs e w' := by
  cases A with
  | none =>
    have e1 : vs = [] := by
      cases vs with
      | nil => rfl
      | cons x m => obtain ⟨b, o, e, _⟩ := hrd 0 x rfl; cases e
    subst e1
    have hc0 := hA rfl
    subst hc0 hn
    have he : ∀ w : World, (binOp .eql 31 (.slice none 0 0) (.slice none 0 0)).run Try.prog w = .ok (.bool true) w := by
      intro w
      simp only [binOp]
      simp [Op.equal, Op.maxDepth, Lib.run_equalIn_slice_nil w 9999 31 _ _ 0 0 0 0 Try.underlying31]
    go_enter Try.func35, Try.ntmps35
    go_wp2_with fail
    go_ret
    exact ⟨_, rfl, Gr.OwnG.nil _ _, Below.refl _ _⟩
  | some ad =>
    have he : ∀ w : World, (binOp .eql 31 (.slice (some ad) n c) (.slice none 0 0)).run Try.prog w = .ok (.bool false) w := by
      intro w
      simp only [binOp]
      simp [Op.equal, Op.maxDepth, Lib.run_equalIn_slice_nil w 9999 31 _ _ n c 0 0 Try.underlying31]
    have L1 : Below w.heap.size w (w.alloc (.cells #[] 65)) := (Below.refl _ _).alloc (Nat.le_refl _) _
    have HOE : Hid (Gr.OwnG 65 2 csV (w.alloc (.cells #[] 65)) w.heap.size (.slice (some ⟨w.heap.size, 0, none⟩) 0 0) []) := Lib.hid (World.ownsRow_lit w #[] 0 (Nat.le_refl _) (by unfold maxLen; omega) rfl)
    have HRD := Lib.hid (hrd.below L1)
    have HNE := Lib.hid hn
    have HBY : Hid ((([] : List SV).length + vs.length) * 32 ≤ 140737488355328) := Lib.hid (by simpa using hby)
    have HL := Lib.hid L1
    clear hrd hA hby L1 hn
    go_enter Try.func35, Try.ntmps35
    go_wp2_with (at_builtin; refine wpList_appS (v := .slice (some ⟨w.heap.size, 0, none⟩) 0 0) (ad := ad) (n := n) (c := c) vs rfl (.tmp 5) (.tmp 6) rfl rfl rfl HOE.out HNE.out HRD.out HBY.out HL.out.size ?_; intro v' w' ho hb; refine of_hid ?_)
    refine Lib.hid ?_
    have O := Lib.hid (⟨ho, hb⟩ : _ ∧ _)
    clear ho hb
    go_wp2_with fail
    go_ret
    exact ⟨_, rfl, O.out.1, HL.out.trans O.out.2⟩
end Dd
end Go.Proofs.Ytpoacgofbbfhcaa
