/-
  'pack.Unptr' and the document's by contracts. Conditions: a text.
-/
import Derived.Test.YtiflkjjjncagfaaPackPtr
namespace Go.Proofs.Ytiflkjjjncagfaa
open Go Go.RowKit
set_option linter.unusedVariables false

namespace K
def zeroP : Pt := ⟨0, 0, 0, ⟨#[]⟩⟩
def ofIts : List It → Option Pt
  | [x0, x1, x2, x3] => if x0.k = 1 ∧ x2.k = 1 ∧ okP ⟨x0.n, x1.n, x2.n, x3.s⟩ = true then some ⟨x0.n, x1.n, x2.n, x3.s⟩ else none
  | _ => none
/-- the pointer of bytes -/
def unP (L : List Nat) : Option Pt := (decs 2000 L).bind ofIts
theorem ofIts_short {l : List It} (h : l.length ≠ 4) : ofIts l = none := by
  match l, h with
  | [], _ => rfl
  | [_], _ => rfl
  | [_, _], _ => rfl
  | [_, _, _], _ => rfl
  | [_, _, _, _], h => exact absurd rfl h
  | _ :: _ :: _ :: _ :: _ :: _, _ => rfl
theorem its_eq {x0 x1 x2 x3 : It} (r0 : Right x0) (r1 : Right x1) (r2 : Right x2) (r3 : Right x3) (h : okP ⟨x0.n, x1.n, x2.n, x3.s⟩ = true) : itsP ⟨x0.n, x1.n, x2.n, x3.s⟩ = [x0, x1, x2, x3] ↔ x0.k = 1 ∧ x2.k = 1 := by
  unfold okP at h
  have h := of_decide_eq_true h
  dsimp only at h
  constructor
  · intro e
    unfold itsP at e
    injection e with e0 e
    injection e with e1 e
    injection e with e2 e
    exact ⟨by rw [← e0], by rw [← e2]⟩
  · rintro ⟨h0, h2⟩
    obtain ⟨k0, n0, s0⟩ := x0
    obtain ⟨k1, n1, s1⟩ := x1
    obtain ⟨k2, n2, s2⟩ := x2
    obtain ⟨k3, n3, s3⟩ := x3
    dsimp only at h0 h2 h
    have c0 := r0.cases
    have c1 := r1.cases
    have c2 := r2.cases
    have c3 := r3.cases
    dsimp only at c0 c1 c2 c3
    have q0 : s0 = ⟨#[]⟩ := by rcases c0 with c | c; exact c.2; omega
    have q1 : k1 = 1 ∧ s1 = ⟨#[]⟩ := by rcases c1 with c | c; exact c; omega
    have q2 : s2 = ⟨#[]⟩ := by rcases c2 with c | c; exact c.2; omega
    have q3 : k3 = 2 ∧ n3 = 0 := by
      rcases c3 with c | c
      · rw [c.2] at h
        have : (⟨#[]⟩ : ByteArray).size = 0 := rfl
        omega
      · exact ⟨c.1, c.2.1⟩
    obtain ⟨q1, q1'⟩ := q1
    obtain ⟨q3, q3'⟩ := q3
    subst h0 h2 q0 q1 q1' q2 q3 q3'
    rfl
end K
/-- what the texts' readers answer -/
def UnOut (L : List Nat) (e : Ending) : Prop :=
  (K.unP L = none ∧ e = .returned (.tuple #[.agg (ptA K.zeroP), .int .i64 2])) ∨ ∃ p, K.unP L = some p ∧ K.FitP p ∧ K.okP p = true ∧ e = .returned (.tuple #[.agg (ptA p), .int .i64 0])
theorem results_cell2 {fn : Func} {t s : Tmp} {ty : TypeId} (h : fn.results = #[.cell t ty, .tmp s]) {tmps : Array Value} {g : Nat} {v v1 : Value} {w : World} (hp : tmps.getD t undef = .pointer (some ⟨g, 0, none⟩)) (hl : (loadVar ty ⟨g, 0, none⟩).run Try.prog w = .ok v w) (h1 : tmps.getD s undef = v1) :
    (results fn tmps).run Try.prog w = .ok (.tuple #[v, v1]) w := by
  have hp2 : tmps[t]?.getD undef = .pointer (some ⟨g, 0, none⟩) := by rw [← hp]; simp
  have h12 : tmps[s]?.getD undef = v1 := by rw [← h1]; simp
  simp [results, h]
  rw [hp2]
  simp [asAddr, hl, h12]
theorem wpList_conv_s {w : World} {ops : Array Oper} {rest : List Oper} {o : Oper} {a : Act} {Q : Exit → Act → World → Prop} (hgd : o.guard = none) (x : Operand) (ho : o.op = .convert 9 23 x) {s : ByteArray} (hx : a.eval x = .string s) (hn : s.size ≤ maxLen)
    (h : ∀ A c w', RdB w' w'.heap.size A (K.sb s).length (lst (K.sb s)) → (K.sb s).length ≤ c → c ≤ maxLen → Below w.heap.size w w' → wpList Try.prog ops Q rest (a.put o.dst (.slice A (K.sb s).length c)) w') : wpList Try.prog ops Q (o :: rest) a w := by
  have hx2 : a.eval x = .string (strB s.size (lst (K.sb s))) := by rw [str_is]; exact hx
  refine wpList_conv_str hgd x ho hx2 (fun j _ => lst_lt (K.sb_lt s) j) hn fun c w' h1 h2 => ?_
  have hl := K.sb_length s
  obtain ⟨A, c', e, hr, hlc, hcm, _, _⟩ := h1.shape (fun j _ => lst_lt (K.sb_lt s) j)
  injection e with e1 e2 e3
  subst e3
  rw [e1]
  rw [← hl] at hr hlc ⊢
  exact h A c w' hr hlc hcm h2
end Go.Proofs.Ytiflkjjjncagfaa
