/-
  A snapshot goes: what is left. No conditions beyond those that each theorem types.
-/
import Derived.Test.YtefgofoocabkkaaDeadPart
import Derived.Test.YtefgofoocabkkaaDeadDelete
import Derived.Test.YtefgofoocabkkaaDeadDoc
namespace Go.Proofs.Ytefgofoocabkkaa
open Go Go.RowKit
set_option maxRecDepth 100000
set_option linter.unusedVariables false
namespace Dd
def nextL (L : Ln) (i : Nat) : List Pt := match L.snaps[i + 1]? with | some s => s.dead | none => L.dead
def keepL (L : Ln) (i : Nat) : List Pt := match L.snaps[i]? with | some s => s.dead ++ olderL (aheadL L i) (nextL L i) | none => []
def desL (L : Ln) (i : Nat) (K : List Pt) : Ln := match L.snaps[i + 1]? with
  | some s1 => ⟨L.base, (L.snaps.set (i + 1) ⟨s1.txg, K⟩).eraseIdx i, L.dead⟩
  | none => ⟨L.base, L.snaps.eraseIdx i, K⟩
def desS (L : Ln) (k : Int) : Ln × List Pt × Int :=
  if rightL L then (if k < 0 ∨ (L.snaps.length : Int) ≤ k then (lnZero, [], 1) else (desL L k.toNat (keepL L k.toNat), laterL (aheadL L k.toNat) (nextL L k.toNat), 0)) else (lnZero, [], 2)
def Small (L : Ln) : Prop := L.snaps.length ≤ 4194304 ∧ L.dead.length ≤ 4194304 ∧ ∀ s ∈ L.snaps, s.dead.length ≤ 4194304
theorem nextL_mid {L : Ln} {i : Nat} {s : Sn} (h : L.snaps[i + 1]? = some s) : nextL L i = s.dead := by unfold nextL; rw [h]
theorem nextL_last {L : Ln} {i : Nat} (h : L.snaps[i + 1]? = none) : nextL L i = L.dead := by unfold nextL; rw [h]
theorem keepL_eq {L : Ln} {i : Nat} {s : Sn} (h : L.snaps[i]? = some s) : keepL L i = s.dead ++ olderL (aheadL L i) (nextL L i) := by unfold keepL; rw [h]
theorem desL_mid {L : Ln} {i : Nat} {s : Sn} {K : List Pt} (h : L.snaps[i + 1]? = some s) : desL L i K = ⟨L.base, (L.snaps.set (i + 1) ⟨s.txg, K⟩).eraseIdx i, L.dead⟩ := by unfold desL; rw [h]
theorem desL_last {L : Ln} {i : Nat} {K : List Pt} (h : L.snaps[i + 1]? = none) : desL L i K = ⟨L.base, L.snaps.eraseIdx i, K⟩ := by unfold desL; rw [h]
theorem Small.next {L : Ln} (h : Small L) (i : Nat) : (nextL L i).length ≤ 4194304 := by
  unfold nextL
  cases hq : L.snaps[i + 1]? with
  | none => exact h.2.1
  | some s => exact h.2.2 s (List.mem_of_getElem? hq)
theorem older_len (t : Int) (D : List Pt) : (olderL t D).length ≤ D.length := List.length_filter_le _ _
/-- where the places above i move down by one -/
def up (i j : Nat) : Nat := if j < i then j else j + 1
theorem get_erase {α : Type} (l : List α) (i j : Nat) : (l.eraseIdx i)[j]? = l[up i j]? := by
  rw [List.getElem?_eraseIdx]
  unfold up
  by_cases h : j < i
  · rw [if_pos h, if_pos h]
  · rw [if_neg h, if_neg h]
theorem up_ne (i j : Nat) : up i j ≠ i := by unfold up; split <;> omega
theorem up_lt {i j k : Nat} (h : j < k) : up i j < up i k := by unfold up; split <;> split <;> omega
theorem lno_cut {E : TypeId} {w : World} {B : Nat} {A2 A' : Option Addr} {c2 c' i n1 : Nat} {vs : List SV} {S : List Sn} {D : List Pt} {bs : Int} (oS : Gr.OwnG E 2 csV w B (.slice A2 n1 c2) (vs.eraseIdx i)) (hn1 : n1 = S.length - 1) (hlen : vs.length = S.length) (hi : i < S.length)
    (hr : ∀ (j : Nat) (s : Sn), j ≠ i → S[j]? = some s → ∃ x, vs[j]? = some x ∧ x.txg = s.txg ∧ x.n = s.dead.length ∧ OwnP w B (.slice x.A x.n x.c) s.dead)
    (hap : ∀ (j k : Nat) (x y : SV), j < k → j ≠ i → k ≠ i → vs[j]? = some x → vs[k]? = some y → ∀ g, x.row.ownBlock = some g → y.row.ownBlock ≠ some g)
    (oD : OwnP w B (.slice A' D.length c') D)
    (had : ∀ (j : Nat) (x : SV), j ≠ i → vs[j]? = some x → ∀ g, x.row.ownBlock = some g → (Value.slice A' D.length c').ownBlock ≠ some g) :
    LnV E w B (.agg #[.int .i64 bs, .slice A2 n1 c2, .slice A' D.length c']) ⟨bs, S.eraseIdx i, D⟩ := by
  have hl : (S.eraseIdx i).length = n1 := by rw [List.length_eraseIdx, if_pos hi, hn1]
  refine ⟨A2, c2, A', c', vs.eraseIdx i, by rw [hl], ?_, ⟨by rw [List.length_eraseIdx, List.length_eraseIdx, hlen], fun j s hs => ?_⟩, oD, fun j k x y hjk hk hx hy g hg => ?_, fun j x hx g hg => ?_⟩
  · rw [hl]; exact oS
  · rw [get_erase] at hs ⊢
    exact hr _ s (up_ne i j) hs
  · rw [get_erase] at hx hy
    exact hap _ _ x y (up_lt hjk) (up_ne i j) (up_ne i k) hx hy g hg
  · rw [get_erase] at hx
    exact had _ x (up_ne i j) hx g hg
end Dd
end Go.Proofs.Ytefgofoocabkkaa
namespace Go.Proofs.Ytefgofoocabkkaa
open Go Go.RowKit
set_option maxRecDepth 100000
set_option linter.unusedVariables false
theorem take_erase_at {α : Type} (l : List α) (j : Nat) (h : j < l.length) : (l.take (j + 1)).eraseIdx j = (l.take j).eraseIdx j := by
  have h1 : (l.take j).eraseIdx j = l.take j := List.eraseIdx_of_length_le (by rw [List.length_take]; omega)
  rw [h1, List.eraseIdx_eq_take_drop_succ, List.take_take, List.drop_of_length_le (by rw [List.length_take]; omega), List.append_nil, show min j (j + 1) = j by omega]
theorem take_erase_ne {α : Type} (l : List α) (i j : Nat) (y : α) (h : l[j]? = some y) (hne : j ≠ i) : (l.take (j + 1)).eraseIdx i = (l.take j).eraseIdx i ++ [y] := by
  obtain ⟨hl, he⟩ := List.getElem?_eq_some_iff.1 h
  rw [List.take_succ_eq_append_getElem hl, he]
  rcases Nat.lt_or_ge i j with hi | hi
  · rw [List.eraseIdx_append_of_lt_length (by rw [List.length_take]; omega)]
  · rw [List.eraseIdx_of_length_le (by rw [List.length_append, List.length_take]; simp; omega), List.eraseIdx_of_length_le (by rw [List.length_take]; omega)]
namespace Dd
theorem _root_.Go.Proofs.Ytefgofoocabkkaa.Gr.OwnG.slen {α : Type} {E : TypeId} {k : Nat} {cs : α → List Value} {w : World} {base n c : Nat} {A : Option Addr} {l : List α} (h : Gr.OwnG E k cs w base (.slice A n c) l) : n = l.length := by
  rcases h.2 with ⟨h1, h2⟩ | ⟨g', cap, cur, h1, _⟩
  · injection h1 with _ h1; omega
  · injection h1
def DocDesPost (w : World) (r : Ln × List Pt × Int) (e : Ending) (w' : World) : Prop := ∃ v f, e = .returned (.tuple #[v, f, .int .i64 r.2.2]) ∧ RdLn w' v r.1 ∧ OwnP w' w.heap.size f r.2.1 ∧ Below w.heap.size w w'
theorem rd_zero (w : World) : RdLn w (.agg #[.int .i64 0, .slice none 0 0, .slice none 0 0]) lnZero :=
  ⟨none, 0, none, 0, rfl, (fun (i : Nat) (s : Sn) h => by simp [lnZero] at h), (fun (i : Nat) (x : Pt) h => by simp [lnZero] at h), fun _ => rfl, fun _ => rfl⟩
end Dd
end Go.Proofs.Ytefgofoocabkkaa
