/-
  'append' onto a call's own row of structs, bounded by its bytes alone. No conditions beyond those that each theorem types.
-/
import Derived.Test.YtefgofoocabkkaaGenRow
import Derived.Test.YtefgofoocabkkaaDeadFind
import Derived.Laws.OwnMore
import Derived.Lib.SliceRun
namespace Go.Proofs.Ytefgofoocabkkaa
open Go Go.RowKit
set_option maxRecDepth 100000
set_option linter.unusedVariables false
namespace Gr
theorem run_append_b {α : Type} {E : TypeId} {k : Nat} {cs : α → List Value} {w : World} {base : Nat} {v : Value} {l m : List α} {T : TypeId} {z : Value} {bytes : Nat} (hk : ∀ x, (cs x).length = k) (hone : ∀ x, ∀ u ∈ cs x, u.oneCell' = true) (hu : Try.prog.underlying T = some (.slice E)) (hi : (Try.prog.info? E).map (fun i => (i.zero, i.size, i.bytes)) = some (some z, k, bytes)) (hzs : z.cells.size = k) (hk0 : 0 < k)
    (ty : TypeId) (h : OwnG E k cs w base v l) {ad : Addr} {c : Nat} (hr : ∀ j u, (m.flatMap cs)[j]? = some u → w.cell? (ad.add j) = some u) (hl : l.length + m.length ≤ 4611686018427387904) (hby : (l.length + m.length) * bytes ≤ 140737488355328) (hb : base ≤ w.heap.size) :
    ∃ v' w', (Builtin.append_ #[T, T] ty #[v, .slice (some ad) m.length c]).run Try.prog w = .ok v' w' ∧ OwnG E k cs w' base v' (l ++ m) ∧ w.grownBy w' v.ownBlock ∧ (v'.ownBlock = v.ownBlock ∨ v'.ownBlock = some w.heap.size) := by
  obtain ⟨i0, hi', hz0, hz1, hz2⟩ : ∃ i0, Try.prog.info? E = some i0 ∧ i0.zero = some z ∧ i0.size = k ∧ i0.bytes = bytes := by
    cases hE : Try.prog.info? E with
    | none => rw [hE] at hi; simp at hi
    | some i => rw [hE] at hi; simp at hi; exact ⟨i, rfl, hi.1, hi.2.1, hi.2.2⟩
  obtain ⟨v', w', e1, e2, e3, e4, e5⟩ := run_append_own_at (P := Try.prog) w base T ty E i0 z k bytes hu hi' hz0 hz1 hz2 hzs hk0 v l.length (l.flatMap cs) h ad m.length c (m.flatMap cs) (flat_length hk m) hr
    (fun u hu => by obtain ⟨x, _, hx⟩ := List.mem_flatMap.1 hu; exact hone x u hx) (by unfold maxLen; omega) hby hb
  refine ⟨v', w', e1, ?_, e3, e5⟩
  unfold OwnG
  rw [List.length_append, List.flatMap_append]
  exact e2
end Gr
end Go.Proofs.Ytefgofoocabkkaa
namespace Go.Proofs.Ytefgofoocabkkaa
open Go Go.RowKit
set_option maxRecDepth 100000
set_option linter.unusedVariables false
namespace Gr
/-- what can be read, cell by cell -/
theorem rd_flat {α : Type} {k : Nat} {cs : α → List Value} (hk : ∀ x, (cs x).length = k) (hk0 : 0 < k) {w : World} {b o : Nat} {l : List α} (h : RdG k cs w (some ⟨b, o, none⟩) l) :
    ∀ j u, (l.flatMap cs)[j]? = some u → w.cell? ((⟨b, o, none⟩ : Addr).add j) = some u := by
  intro j u hj
  have hlt : j < l.length * k := by have := (List.getElem?_eq_some_iff.1 hj).1; rw [flat_length hk] at this; exact this
  have hi : j / k < l.length := Nat.div_lt_of_lt_mul (by rw [Nat.mul_comm]; exact hlt)
  have hx := List.getElem?_eq_getElem hi
  obtain ⟨b', o', e, _, hc⟩ := h _ _ hx
  injection e with e
  injection e with e1 e2
  subst e1 e2
  have hdm : j / k * k + j % k = j := Nat.div_add_mod' j k
  have hf := flat_get hk hx (j % k) (Nat.mod_lt _ hk0)
  rw [hdm, hj] at hf
  have := hc (j % k) u hf.symm
  rw [add_plain, ← hdm, ← Nat.add_assoc]
  exact this
end Gr
namespace Dd
abbrev OwnP (w : World) (base : Nat) (v : Value) (l : List Pt) : Prop := Gr.OwnG 36 4 csP w base v l
theorem infoP : (Try.prog.info? 36).map (fun i => (i.zero, i.size, i.bytes)) = some (some (.agg #[.int .i64 0, .int .i64 0, .int .i64 0, .string ⟨#[]⟩]), 4, 40) := by kernel_rfl
theorem csP_one (x : Pt) : ∀ u ∈ csP x, u.oneCell' = true := fun u hu => by simp [csP] at hu; rcases hu with rfl | rfl | rfl | rfl <;> rfl
/-- only the row's own block, and what is new, may have changed -/
def RowChg (v v' : Value) (w w' : World) : Prop := w.heap.size ≤ w'.heap.size ∧ (∀ g, g < w.heap.size → v.ownBlock ≠ some g → w'.heap[g]? = w.heap[g]?) ∧ (v'.ownBlock = v.ownBlock ∨ v'.ownBlock = some w.heap.size)
theorem append_pts {w : World} {base : Nat} {v : Value} {l : List Pt} (h : OwnP w base v l) (m : List Pt) {A : Option Addr} {c n : Nat} (hn : n = m.length) (hm : RdP w A m) (hA : A = none → c = 0) (hby : (l.length + m.length) * 40 ≤ 140737488355328) (hb : base ≤ w.heap.size) (ty : TypeId) :
    ∃ v' w', (Builtin.append_ #[26, 26] ty #[v, .slice A n c]).run Try.prog w = .ok v' w' ∧ OwnP w' base v' (l ++ m) ∧ Below base w w' ∧ RowChg v v' w w' := by
  subst hn
  cases A with
  | none =>
    have e1 : m = [] := by
      cases m with
      | nil => rfl
      | cons x m => obtain ⟨b, o, e, _⟩ := hm 0 x rfl; cases e
    subst e1
    rw [hA rfl]
    obtain ⟨i0, hi'⟩ : ∃ i0, Try.prog.info? 36 = some i0 := by
      have h1 := infoP
      cases hE : Try.prog.info? 36 with
      | none => rw [hE] at h1; simp at h1
      | some i => exact ⟨i, rfl⟩
    refine ⟨v, w, run_append_owned_none w base 26 ty 36 i0 4 Try.underlying26 hi' v _ _ h, ?_, Below.refl _ _, Nat.le_refl _, fun _ _ _ => rfl, .inl rfl⟩
    rw [List.append_nil]
    exact h
  | some ad =>
    have hr : ∀ j u, (m.flatMap csP)[j]? = some u → w.cell? (ad.add j) = some u := by
      cases m with
      | nil => intro j u hj; simp at hj
      | cons x m' =>
        obtain ⟨b, o, e, _⟩ := hm 0 x rfl
        injection e with e
        subst e
        exact Gr.rd_flat (k := 4) (cs := csP) (fun _ => rfl) (by decide) hm
    obtain ⟨v', w', e1, e2, e3, e4⟩ := Gr.run_append_b (E := 36) (k := 4) (cs := csP) (z := .agg #[.int .i64 0, .int .i64 0, .int .i64 0, .string ⟨#[]⟩]) (bytes := 40) (m := m) (c := c) (fun _ => rfl) csP_one Try.underlying26 infoP rfl (by omega) ty h hr (by omega) hby hb
    exact ⟨v', w', e1, e2, ⟨e3.os, e3.tape, e3.output, e3.size, fun g hg => e3.block g (by omega) (fun e => by have := (h.lt e.symm).2; omega)⟩, e3.size, fun g hg hne => e3.block g hg (fun e => hne e.symm), e4⟩
theorem wpList_appP {w : World} {ops : Array Oper} {rest : List Oper} {o : Oper} {a : Act} {Q : Exit → Act → World → Prop} {base : Nat} {v : Value} {l : List Pt} (m : List Pt) {A : Option Addr} {c n : Nat} (hgd : o.guard = none) (s t : Operand) (ho : o.op = .call { callee := .builtin .append, args := #[s, t], argTypes := #[26, 26] })
    (hs : a.eval s = v) (hy : a.eval t = .slice A n c) (h : OwnP w base v l) (hn : n = m.length) (hm : RdP w A m) (hA : A = none → c = 0) (hby : (l.length + m.length) * 40 ≤ 140737488355328) (hb : base ≤ w.heap.size)
    (hK : ∀ v' w', OwnP w' base v' (l ++ m) → Below base w w' → RowChg v v' w w' → wpList Try.prog ops Q rest (a.put o.dst v') w') :
    wpList Try.prog ops Q (o :: rest) a w := by
  refine wpList_plain hgd fun K hK' => ?_
  obtain ⟨v', w', hrun, ho2, hb2, hc2⟩ := append_pts h m hn hm hA hby hb o.type
  exact Gr.wp_append 26 s t ho hs hy hrun (hK' _ _ (hK v' w' ho2 hb2 hc2))
theorem own_empty (w : World) : OwnP (w.alloc (.cells #[] 36)) w.heap.size (.slice (some ⟨w.heap.size, 0, none⟩) 0 0) [] :=
  World.ownsRow_lit w #[] 0 (Nat.le_refl _) (by unfold maxLen; omega) rfl
def Cloned (w : World) (D : List Pt) (e : Ending) (w' : World) : Prop := ∃ v, e = .returned v ∧ OwnP w' w.heap.size v D ∧ Below w.heap.size w w'
set_option maxHeartbeats 1600000 in
theorem clone_p (w : World) (D : List Pt) (A : Option Addr) (c n : Nat) (hn : n = D.length) (hrd : RdP w A D) (hA : A = none → c = 0) (hby : D.length * 40 ≤ 140737488355328) :
    Calls Try.prog 20 #[.slice A n c] w fun e w' => Cloned w D e w' := by
  cases A with
  | none =>
    have e1 : D = [] := by
      cases D with
      | nil => rfl
      | cons x m => obtain ⟨b, o, e, _⟩ := hrd 0 x rfl; cases e
    subst e1
    have hc0 := hA rfl
    subst hc0 hn
    have he : ∀ w : World, (binOp .eql 26 (.slice none 0 0) (.slice none 0 0)).run Try.prog w = .ok (.bool true) w := by
      intro w
      simp only [binOp]
      simp [Op.equal, Op.maxDepth, Lib.run_equalIn_slice_nil w 9999 26 _ _ 0 0 0 0 Try.underlying26]
    go_enter Try.func20, Try.ntmps20
    go_wp2_with fail
    go_ret
    exact ⟨_, rfl, Gr.OwnG.nil _ _, Below.refl _ _⟩
  | some ad =>
    have he : ∀ w : World, (binOp .eql 26 (.slice (some ad) n c) (.slice none 0 0)).run Try.prog w = .ok (.bool false) w := by
      intro w
      simp only [binOp]
      simp [Op.equal, Op.maxDepth, Lib.run_equalIn_slice_nil w 9999 26 _ _ n c 0 0 Try.underlying26]
    have L1 : Below w.heap.size w (w.alloc (.cells #[] 36)) := (Below.refl _ _).alloc (Nat.le_refl _) _
    have HOE := Lib.hid (own_empty w)
    have HRD := Lib.hid (hrd.below L1)
    have HNE := Lib.hid hn
    have HBY : Hid ((([] : List Pt).length + D.length) * 40 ≤ 140737488355328) := Lib.hid (by simpa using hby)
    have HL := Lib.hid L1
    clear hrd hA hby L1 hn
    go_enter Try.func20, Try.ntmps20
    go_wp2_with (at_builtin; refine wpList_appP (v := .slice (some ⟨w.heap.size, 0, none⟩) 0 0) (A := some ad) (n := n) (c := c) D rfl (.tmp 5) (.tmp 6) rfl rfl rfl HOE.out HNE.out HRD.out (fun e => by cases e) HBY.out HL.out.size ?_; intro v' w' ho hb _; refine of_hid ?_)
    refine Lib.hid ?_
    have O := Lib.hid (⟨ho, hb⟩ : _ ∧ _)
    clear ho hb
    go_wp2_with fail
    go_ret
    exact ⟨_, rfl, O.out.1, HL.out.trans O.out.2⟩
end Dd
end Go.Proofs.Ytefgofoocabkkaa
