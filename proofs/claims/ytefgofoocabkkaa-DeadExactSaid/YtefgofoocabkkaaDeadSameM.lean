/-
  Is a line in form? The document's answer by a contract. The conditions: the line can be read, its lengths are ints.
-/
import Derived.Test.YtefgofoocabkkaaDeadReadM
import Derived.Test.YtefgofoocabkkaaDeadRowsM
namespace Go.Proofs.Ytefgofoocabkkaa
open Go Go.RowKit
set_option maxRecDepth 100000
set_option linter.unusedVariables false
namespace Dd
theorem leq_is (a b : Int) (r : Bool) (h : decide (a ≤ b) = r) (W : World) : (binOp .leq 3 (.int .i64 a) (.int .i64 b)).run Try.prog W = .ok (.bool r) W := by rw [← h]; rfl
end Dd
end Go.Proofs.Ytefgofoocabkkaa
namespace Go.Proofs.Ytefgofoocabkkaa
open Go Go.RowKit
set_option maxRecDepth 100000
set_option linter.unusedVariables false
namespace Dd
def Cell4 (w : World) (g o : Nat) (p : Pt) : Prop := w.cell? ⟨g, o, none⟩ = some (.int .i64 p.addr) ∧ w.cell? ⟨g, o + 1, none⟩ = some (.int .i64 p.size) ∧ w.cell? ⟨g, o + 2, none⟩ = some (.int .i64 p.birth) ∧ w.cell? ⟨g, o + 3, none⟩ = some (.string p.sum)
theorem cell4_of {w : World} {g o : Nat} {p : Pt} (h : ∀ j u, (csP p)[j]? = some u → w.cell? ⟨g, o + j, none⟩ = some u) : Cell4 w g o p :=
  ⟨by have := h 0 _ rfl; rw [Nat.add_zero] at this; exact this, h 1 _ rfl, h 2 _ rfl, h 3 _ rfl⟩
theorem load_pt {w : World} {g o : Nat} {p : Pt} (h : Cell4 w g o p) : (Instr.loadAt 36 (.pointer (some ⟨g, o, none⟩))).run Try.prog w = .ok (.agg #[.int .i64 p.addr, .int .i64 p.size, .int .i64 p.birth, .string p.sum]) w := by
  have := run_loadAt_mid (P := Try.prog) w g o 36 [.int .i64 p.addr, .int .i64 p.size, .int .i64 p.birth, .string p.sum] _ (fun j v hj => by
    match j, hj with
    | 0, hj => injection hj with hj; subst hj; exact h.1
    | 1, hj => injection hj with hj; subst hj; exact h.2.1
    | 2, hj => injection hj with hj; subst hj; exact h.2.2.1
    | 3, hj => injection hj with hj; subst hj; exact h.2.2.2
    | j + 4, hj => simp at hj) Try.underlying36 rfl (by kernel_rfl)
  exact this
theorem eqG_agg {P : Program} (op : BinOp) (t : TypeId) (x y : Operand) (a b : Array Value) (h : (!P.eqGuardType P.depth t) = true) (w : World) : (eqGuard op t x y (.agg a) (.agg b)).run P w = .ok () w := by
  have h2 : P.eqGuardType P.depth t = false := by simpa using h
  unfold eqGuard
  cases op <;> simp [Sem.run_bind, run_program, h2]
theorem neq_pt (p : Pt) (W : World) : (binOp .neq 36 (.agg #[.int .i64 p.addr, .int .i64 p.size, .int .i64 p.birth, .string p.sum]) (.agg #[.int .i64 p.addr, .int .i64 p.size, .int .i64 p.birth, .string p.sum])).run Try.prog W = .ok (.bool false) W := by
  simp [go_sem, run_neq_struct]
theorem index_pt (b o n c i : Nat) (h : i < n) (w : World) : (Instr.indexAt 26 (.slice (some ⟨b, o, none⟩) n c) (.int .i64 (i : Int))).run Try.prog w = .ok (.pointer (some ⟨b, o + i * 4, none⟩)) w :=
  Gr.index_gen Try.underlying26 (by kernel_rfl) b o n c i h w
theorem neq_int (a : Int) (W : World) : (binOp .neq 3 (.int .i64 a) (.int .i64 a)).run Try.prog W = .ok (.bool false) W := by
  rw [show binOp .neq 3 (.int .i64 a) (.int .i64 a) = pure (.bool (a != a)) from rfl]
  simp
set_option maxHeartbeats 3200000 in
theorem same_at (w : World) (D : List Pt) (A1 A2 : Option Addr) (c1 c2 n : Nat) (hn : n = D.length) (hL : n ≤ big) (h1 : RdP w A1 D) (h2 : RdP w A2 D) :
    Calls Try.prog 11 #[.slice A1 n c1, .slice A2 n c2] w fun e w' => e = .returned (.bool true) ∧ Below w.heap.size w w' := by
  have HN := Lib.hid hn
  have H1 := Lib.hid h1
  have H2 := Lib.hid h2
  have L0 : Hid (Below w.heap.size w w) := Lib.hid (Below.refl _ _)
  unfold big at hL
  clear hn h1 h2
  go_enter Try.func11, Try.ntmps11
  go_wp2_with fail
  go_loopw [5] (fun y wr => ∃ i : Nat, i ≤ n ∧ y = .int .i64 (i : Int) ∧ Hid (Below w.heap.size w wr)) (fun y _ => n - (intOf y).toNat)
  case atStart => exact ⟨0, by omega, rfl, L0⟩
  case round =>
    clear L0
    obtain ⟨i, hi, rfl, L0⟩ := hrel
    by_cases hlt : i < n
    · have i1 : (i : Int) < (n : Int) := by omega
      have hil : i < D.length := by have := HN.out; omega
      obtain ⟨p, hp⟩ : ∃ p, p = D[i] := ⟨_, rfl⟩
      have hpi : D[i]? = some p := by rw [hp]; exact List.getElem?_eq_getElem hil
      obtain ⟨g, o, hA1, _, k1⟩ := (H1.out.below L0.out) i p hpi
      obtain ⟨g2, o2, hA2, _, k2⟩ := (H2.out.below L0.out) i p hpi
      subst hA1 hA2
      have HS := Lib.hid (show Cell4 wr.drew g (o + i * 4) p ∧ Cell4 wr.drew g2 (o2 + i * 4) p from ⟨cell4_of k1, cell4_of k2⟩)
      have L1 : Hid (Below w.heap.size w wr.drew) := Lib.hid L0.out.drew
      clear hpi hp hil k1 k2 L0
      go_upto_region 6 with (fail)
      refine region_anyZ (fun w' => Cell4 w' g (o + i * 4) p ∧ Cell4 w' g2 (o2 + i * 4) p) 9 (by kernel_rfl) ?_
      refine takeG 0 (.move (.tmp 0)) (some 17) none (.slice (some ⟨g, o, none⟩) n c1) (by kernel_rfl) (by kernel_rfl) (by kernel_rfl) (fun _ _ _ h => h) (fun o' wq e hS => exec_move wq e (by kernel_rfl)) HS.out ?_
      refine takeG 1 (.move (.tmp 5)) (some 18) none (.int .i64 (i : Int)) (by kernel_rfl) (by kernel_rfl) (by kernel_rfl) (fun _ _ _ h => h) (fun o' wq e hS => exec_move wq e (by kernel_rfl)) HS.out ?_
      refine takeG 2 (.indexAddr 26 (.tmp 17) (.tmp 18)) (some 19) none (.pointer (some ⟨g, o + i * 4, none⟩)) (by kernel_rfl) (by kernel_rfl) (by kernel_rfl) (fun _ _ _ h => h) (fun o' wq e hS => exec_index (u1 := .slice (some ⟨g, o, none⟩) n c1) (u2 := .int .i64 (i : Int)) wq e (by kernel_rfl) (by kernel_rfl) (index_pt g o n c1 i hlt _)) HS.out ?_
      refine takeG 3 (.load 36 (.tmp 19)) (some 20) none (.agg #[.int .i64 p.addr, .int .i64 p.size, .int .i64 p.birth, .string p.sum]) (by kernel_rfl) (by kernel_rfl) (by kernel_rfl) (fun _ _ _ h => h) (fun o' wq e hS => exec_load (x := (.tmp 19)) e (by kernel_rfl) (load_pt hS.1)) HS.out ?_
      refine takeG 4 (.move (.tmp 1)) (some 21) none (.slice (some ⟨g2, o2, none⟩) n c2) (by kernel_rfl) (by kernel_rfl) (by kernel_rfl) (fun _ _ _ h => h) (fun o' wq e hS => exec_move wq e (by kernel_rfl)) HS.out ?_
      refine takeG 5 (.move (.tmp 5)) (some 22) none (.int .i64 (i : Int)) (by kernel_rfl) (by kernel_rfl) (by kernel_rfl) (fun _ _ _ h => h) (fun o' wq e hS => exec_move wq e (by kernel_rfl)) HS.out ?_
      refine takeG 6 (.indexAddr 26 (.tmp 21) (.tmp 22)) (some 23) none (.pointer (some ⟨g2, o2 + i * 4, none⟩)) (by kernel_rfl) (by kernel_rfl) (by kernel_rfl) (fun _ _ _ h => h) (fun o' wq e hS => exec_index (u1 := .slice (some ⟨g2, o2, none⟩) n c2) (u2 := .int .i64 (i : Int)) wq e (by kernel_rfl) (by kernel_rfl) (index_pt g2 o2 n c2 i hlt _)) HS.out ?_
      refine takeG 7 (.load 36 (.tmp 23)) (some 24) none (.agg #[.int .i64 p.addr, .int .i64 p.size, .int .i64 p.birth, .string p.sum]) (by kernel_rfl) (by kernel_rfl) (by kernel_rfl) (fun _ _ _ h => h) (fun o' wq e hS => exec_load (x := (.tmp 23)) e (by kernel_rfl) (load_pt hS.2)) HS.out ?_
      refine lastS 8 (.binOp .neq 36 (.tmp 20) (.tmp 24) 36) (some 25) (.bool false) (by kernel_rfl) (by kernel_rfl) (by kernel_rfl) HS.out (fun o' e => exec_bin (u1 := .agg #[.int .i64 p.addr, .int .i64 p.size, .int .i64 p.birth, .string p.sum]) (u2 := .agg #[.int .i64 p.addr, .int .i64 p.size, .int .i64 p.birth, .string p.sum]) _ e (by kernel_rfl) (by kernel_rfl) (eqG_agg _ _ _ _ _ _ (by kernel_rfl) _) (neq_pt p _)) ?_
      simp only [put_some, put_none, List.setIfInBounds_toArray, List.set_cons_succ, List.set_cons_zero]
      clear HS
      go_wp2_with fail
      go_roundw
      case rel => exact ⟨i + 1, by omega, by go_num, L1⟩
      case measure => simp [intOf]; omega
    · have i1 : ¬ ((i : Int) < (n : Int)) := by omega
      clear hlt
      go_wp2_with fail
      go_ret
      exact ⟨rfl, L0.out⟩
end Dd
end Go.Proofs.Ytefgofoocabkkaa
