/-
  A region that draws its order, where two operations may come up: either is walked, and what is asked of the world may be made more behind it. No conditions beyond those that each theorem types.
-/
import Derived.Test.YtefgofoocabkkaaDrawTwo
import Derived.Test.YtefgofoocabkkaaDeadOwn
import Derived.Test.YtefgofoocabkkaaDeadBack
import Derived.Deep.DeepCutAuto
import Derived.Test.YtefgofoocabkkaaDeadSameM
namespace Go.Proofs.Ytefgofoocabkkaa
open Go Go.RowKit
set_option maxRecDepth 100000
set_option linter.unusedVariables false
section
variable {P : Program} {md : Region.Mode} {ops : Array Oper} {Q : Exit → Act → World → Prop} {S S' : World → Prop} {z : Nat}
theorem AnyZ.more (hS : ∀ w, S' w → S w) : ∀ (n : Nat) (listed : Array Bool) (a : Act) (w : World), AnyZ P md ops Q S' z n listed a w → AnyZ P md ops Q S z n listed a w
  | 0, _, _, _, h => h
  | n + 1, _, _, _, h => ⟨h.1, fun i hi => wpOp_mono (fun a' w' h' => ⟨fun hz => hS _ (h'.1 hz), AnyZ.more hS n _ a' w' h'.2⟩) (h.2 i hi)⟩
theorem twoG {i j n : Nat} {op1 op2 : Op} {d1 d2 : Option Tmp} {listed : Array Bool} {a : Act} {w : World} (ho1 : isOp ops i = some (op1, d1, none)) (ho2 : isOp ops j = some (op2, d2, none)) (hr : Region.ready md ops listed = [i, j])
    (h1 : ∀ o : Oper, o.op = op1 → o.dst = d1 → o.wp P a w (fun a' w' => (i ≠ z → S w') ∧ AnyZ P md ops Q S z n (listed.setIfInBounds i true) a' w') Q)
    (h2 : ∀ o : Oper, o.op = op2 → o.dst = d2 → o.wp P a w (fun a' w' => (j ≠ z → S w') ∧ AnyZ P md ops Q S z n (listed.setIfInBounds j true) a' w') Q) : AnyZ P md ops Q S z (n + 1) listed a w := by
  obtain ⟨o1, a1, a2, a3, a4⟩ := isOp_spec ho1
  obtain ⟨o2, b1, b2, b3, b4⟩ := isOp_spec ho2
  exact AnyZ.two hr (wpOp_op a1 a4 (h1 o1 a2 a3)) (wpOp_op b1 b4 (h2 o2 b2 b3))
end
end Go.Proofs.Ytefgofoocabkkaa
namespace Go.Proofs.Ytefgofoocabkkaa
open Go Go.RowKit
set_option maxRecDepth 100000
set_option linter.unusedVariables false
namespace Dd
/-- a whole line is stored -/
theorem store3 {w : World} {g : Nat} {T : TypeId} {x0 x1 x2 a b c : Value} (hsz : (Try.prog.info? T).map (·.size) = some 3) (h : Blk w g T #[a, b, c]) (h0 : x0.oneCell' = true) (h1 : x1.oneCell' = true) (h2 : x2.oneCell' = true) :
    ∃ w4, (Instr.storeAt T (.pointer (some ⟨g, 0, none⟩)) (.agg #[x0, x1, x2])).run Try.prog w = .ok () w4 ∧ Blk w4 g T #[x0, x1, x2] ∧ (∀ g', g' ≠ g → w4.heap[g']? = w.heap[g']?) ∧ w4.heap.size = w.heap.size ∧ Only g w w4 := by
  refine ⟨_, run_storeAt_mid w g 0 T #[x0, x1, x2] (fun j hj => ⟨by
    rw [Nat.zero_add, h.cell]
    have hj' : j < 3 := hj
    rw [Array.getElem?_eq_getElem (by simpa using hj')]
    rfl, h.frozen _⟩) (by simpa using hsz) (by simp [h0, h1, h2]), ?_, ?_, ?_, ?_⟩
  · exact ((h.set_ 0 x0).set_ 1 x1).set_ 2 x2
  · intro g' hg'
    exact ((Below.heap_setCell _ ⟨g, 0 + 1 + 1, none⟩ _ g' hg').trans (Below.heap_setCell _ ⟨g, 0 + 1, none⟩ _ g' hg')).trans (Below.heap_setCell _ ⟨g, 0, none⟩ _ g' hg')
  · simp [World.setCells, World.setCell]
  · exact (((Only.refl g w).setCell 0 x0).setCell (0 + 1) x1).setCell (0 + 1 + 1) x2
theorem exec_alloc {P : Program} {w w' : World} {o : Oper} {a : Act} {ty : TypeId} {v : Value} (ho : o.op = .alloc ty) (hl : (Instr.alloc ty true (.tuple #[])).run P w = .ok v w') : (execOp a.eval o).run P w = .ok (.value v) w' := by
  unfold execOp
  simp [ho, hl, Sem.run_bind, Sem.run_pure]
theorem alloc_ln (w : World) : (Instr.alloc 28 true (.tuple #[])).run Try.prog w = .ok (.pointer (some ⟨w.heap.size, 0, none⟩)) (w.alloc (.cells #[.int .i64 0, .slice none 0 0, .slice none 0 0] 28)) := by kernel_rfl
theorem size_sld : (Try.prog.info? 25).map (·.size) = some 1 := by kernel_rfl
/-- what lies in rows stays where one block alone changes that holds a line -/
theorem LnO.notline {E T : TypeId} {w w' : World} {B : Nat} {A A' : Option Addr} {c c' : Nat} {vs : List SV} {L : Ln} {g : Nat} {cur : Array Value} (h : LnO E w B A c A' c' vs L) (hg : Blk w g T cur) (hE : E ≠ T) (hP : 36 ≠ T) (hk : ∀ g', g' ≠ g → w'.heap[g']? = w.heap[g']?) : LnO E w' B A c A' c' vs L :=
  ⟨h.oS.keep fun g' hg' => by obtain ⟨cu, h1⟩ := h.oS.blk_of hg'; exact hk g' (Blk.ne_ h1 hg hE), ⟨h.oH.1, fun i s hs => by
    obtain ⟨x, e1, e2, e3, e4⟩ := h.oH.2 i s hs
    exact ⟨x, e1, e2, e3, e4.keep fun g' hg' => by obtain ⟨cu, h1⟩ := e4.blk_of hg'; exact hk g' (Blk.ne_ h1 hg hP)⟩⟩, h.oD.keep fun g' hg' => by obtain ⟨cu, h1⟩ := h.oD.blk_of hg'; exact hk g' (Blk.ne_ h1 hg hP), h.ap, h.ad⟩
theorem app_copy {w : World} {base b : Nat} {A : Option Addr} {n c : Nat} (h : OwnP w base (.slice (some ⟨b, 0, none⟩) 0 0) []) (D : List Pt) (hn : n = D.length) (hm : RdP w A D) (hA : A = none → c = 0) (hby : D.length * 40 ≤ 140737488355328) (hb : base ≤ w.heap.size) (ty : TypeId) :
    ∃ v' w', (Builtin.append_ #[26, 26] ty #[.slice (some ⟨b, 0, none⟩) 0 0, .slice A n c]).run Try.prog w = .ok v' w' ∧ OwnP w' base v' D ∧ Below base w w' ∧ (∀ g, g < w.heap.size → (Value.slice (some ⟨b, 0, none⟩) 0 0).ownBlock ≠ some g → w'.heap[g]? = w.heap[g]?) ∧ True := by
  obtain ⟨v', w', h1, h2, h3, h4⟩ := append_pts h D hn hm hA (by simpa using hby) hb ty
  exact ⟨v', w', h1, by simpa using h2, h3, h4.2.1, trivial⟩

end Dd
end Go.Proofs.Ytefgofoocabkkaa
