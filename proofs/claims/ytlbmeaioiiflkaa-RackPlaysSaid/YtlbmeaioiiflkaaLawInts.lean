/-
  'append([]int{}, picks...)': the ints again, in new memory. Conditions: what the reading of an argument gives; the ints take less than 2^47 bytes.
-/
import Derived.Test.YtlbmeaioiiflkaaLawArgsM
import Derived.Maps.AppendAt
import Derived.Laws.OwnMore
import Derived.SizedLaws
namespace Go.Proofs.Ytlbmeaioiiflkaa
open Go Go.RowKit Go.ChangeShapes Go.WideShapes Go.ChangeAt
set_option linter.unusedVariables false

theorem info_int : (Try.prog.info? 3).map (fun i => (i.zero, i.size, i.bytes)) = some (some (.int .i64 0), 1, 8) := by kernel_rfl
def intL (n : Nat) (x : Nat → Int) : List Value := (List.range n).map fun j => Value.int .i64 (x j)
theorem intL_length (n : Nat) (x : Nat → Int) : (intL n x).length = n := by simp [intL]
theorem intL_get {n j : Nat} (x : Nat → Int) (h : j < n) : (intL n x)[j]? = some (.int .i64 (x j)) := by simp [intL, h]

theorem run_append_ints {w0 : World} {B : Nat} {A : Option Addr} {n c : Nat} {x : Nat → Int} (ty : TypeId) (hr : RdI w0 B A n x) (hB : B ≤ w0.heap.size) (h8 : n * 8 ≤ 140737488355328) (h0 : A = none → c = 0) (hnc : n ≤ c) :
    ∃ A' c' w', (Builtin.append_ #[37, 37] ty #[.slice (some ⟨w0.heap.size, 0, none⟩) 0 0, .slice A n c]).run Try.prog (w0.alloc (.cells #[] 3)) = .ok (.slice A' n c') w' ∧ Ints w' A' n x ∧ Below w0.heap.size w0 w' := by
  obtain ⟨i0, hi, hz0, hz1, hz2⟩ := info_parts info_int
  have hown : (w0.alloc (.cells #[] 3)).ownsRow w0.heap.size 3 1 (.slice (some ⟨w0.heap.size, 0, none⟩) 0 0) 0 [] :=
    ⟨rfl, .inr ⟨w0.heap.size, 0, #[], rfl, Nat.le_refl _, (Blk.new w0 3 #[]), Nat.le_refl _, by simp [maxLen], rfl, rfl⟩⟩
  have b0 : Below w0.heap.size w0 (w0.alloc (.cells #[] 3)) := (Below.refl _ _).alloc (Nat.le_refl _) _
  cases A with
  | none =>
    have hc := h0 rfl
    subst hc
    obtain rfl : n = 0 := by omega
    have h := run_append_owned_none (P := Try.prog) (w0.alloc (.cells #[] 3)) w0.heap.size 37 ty 3 i0 1 Try.underlying37 hi _ _ _ hown
    exact ⟨_, _, _, h, ⟨fun i hi => absurd hi (Nat.not_lt_zero _), by simp [maxLen], .inl rfl⟩, b0⟩
  | some ad =>
    obtain ⟨v', w', e1, e2, e3, e4, e5⟩ := run_append_own_at (P := Try.prog) (w0.alloc (.cells #[] 3)) w0.heap.size 37 ty 3 i0 (.int .i64 0) 1 8 Try.underlying37 hi hz0 hz1 hz2 rfl (by decide) _ 0 [] hown ad n c (intL n x) (by rw [intL_length, Nat.mul_one])
      (fun j u hj => by
        have hjn : j < n := by have := (List.getElem?_eq_some_iff.1 hj).1; rw [intL_length] at this; exact this
        rw [intL_get x hjn] at hj
        injection hj with hj
        subst hj
        obtain ⟨b, o, h1, h2, h3, _⟩ := hr j hjn
        injection h1 with h1
        subst h1
        rw [add_plain]
        exact (b0.cell (p := ⟨b, o + j, none⟩) (show b < w0.heap.size by omega)).trans h3)
      (fun u hu => by
        simp only [intL, List.mem_map] at hu
        obtain ⟨j, _, rfl⟩ := hu
        rfl) (by simp only [maxLen]; omega) (by omega) (by simp)
    have hbel : Below w0.heap.size w0 w' := b0.trans ⟨e3.os, e3.tape, e3.output, e3.size, fun k hk => e3.block k (by simp; omega) (fun e => by simp [Value.ownBlock] at e; omega)⟩
    rw [Nat.zero_add, List.nil_append] at e2
    have hbd : ∀ i, i < n → -9223372036854775808 ≤ x i ∧ x i ≤ 9223372036854775807 := fun i hi => by obtain ⟨_, _, _, _, _, h4⟩ := hr i hi; exact h4
    have hml : n ≤ maxLen := by simp only [maxLen]; omega
    rcases e2.2 with ⟨rfl, hn0⟩ | ⟨g, cap, cur, rfl, f1, f2, f3, f4, f5, f6⟩
    · exact ⟨_, _, _, by rw [hn0]; rw [hn0] at e1; exact e1, ⟨hbd, hml, .inl hn0⟩, hbel⟩
    · refine ⟨_, _, _, e1, ⟨hbd, hml, .inr ⟨g, 0, _, cur, rfl, f2, rfl, fun i hi => ?_⟩⟩, hbel⟩
      have h1 := intL_get x hi
      rw [← f6, List.getElem?_take_of_lt (by omega), Array.getElem?_toList] at h1
      rw [Nat.zero_add]
      exact h1
section
variable {H : Type} {enc : TypeId × Value → H} {P : Program} {W : World} {base : Nat} {held : Bool}
theorem rdi_of_trod2 {t e : TypeId} {fuel len cap : Nat} {a : Option Addr} {x : DataW H × List MemPlace} (ht : P.underlying t = some (.slice e)) (he : P.underlying e = some (.int .i64)) (hc : P.cellsOf e = 1)
    (h : DataW.trod enc P W base (fun _ => true) held fuel t (Value.slice a len cap).cells.toList = some x) : ∃ y, RdI W W.heap.size a len y ∧ len ≤ cap ∧ cap ≤ maxLen ∧ (a = none → cap = 0) ∧ (cap = 0 ∨ ∃ es sp, x.1 = .slice es sp ∧ es.length + sp.length = cap) := by
  rcases open_ints ht he hc h with ⟨hcs, _⟩ | ⟨x, l, c, zs, hcs, _, hl, hm, hz, hx, hcell, hwz⟩
  · simp [Value.cells] at hcs
    obtain ⟨rfl, rfl, rfl⟩ := hcs
    exact ⟨fun _ => 0, fun j hj => absurd hj (by omega), by omega, by omega, fun _ => rfl, .inl rfl⟩
  · simp [Value.cells] at hcs
    obtain ⟨rfl, rfl, rfl⟩ := hcs
    simp at hz
    refine ⟨_, rdi_of_cells (by omega) hcell hwz, hl, hm, fun e => (by cases e), .inr ⟨_, _, by rw [hx], ?_⟩⟩
    simp [lits, hz]
    omega
theorem reach_ints {ts : List TypeId} {ds : List (DataW H)} {j : Nat} {t e : TypeId} {d : DataW H} {cap : Nat} (hsz : (DataW.weightsEach P ts ds).all (· ≤ reachBytes) = true) (ht : ts[j]? = some t) (hd : ds[j]? = some d) (hu : P.underlying t = some (.slice e)) (hb : P.bytesOf e = 8)
    (hor : cap = 0 ∨ ∃ es sp, d = .slice es sp ∧ es.length + sp.length = cap) : cap * 8 ≤ 140737488351232 := by
  rcases hor with rfl | ⟨es, sp, rfl, rfl⟩
  · omega
  · have := sized_slice hsz ht hd hu
    rw [hb] at this
    simpa [reachBytes] using this
end
theorem wpList_append_ints {w0 : World} {ops : Array Oper} {rest : List Oper} {o : Oper} {a : Act} {Q : Exit → Act → World → Prop} (hgd : o.guard = none) (s x : Operand)
    (ho : o.op = .call { callee := .builtin .append, args := #[s, x], argTypes := #[37, 37] }) {B : Nat} {A : Option Addr} {n c : Nat} {y : Nat → Int} (hs : a.eval s = .slice (some ⟨w0.heap.size, 0, none⟩) 0 0) (hx : a.eval x = .slice A n c)
    (hr : RdI w0 B A n y) (hB : B ≤ w0.heap.size) (h8 : n * 8 ≤ 140737488355328) (h0 : A = none → c = 0) (hnc : n ≤ c)
    (h : ∀ A' c' w', Ints w' A' n y → Below w0.heap.size w0 w' → wpList Try.prog ops Q rest (a.put o.dst (.slice A' n c')) w') : wpList Try.prog ops Q (o :: rest) a (w0.alloc (.cells #[] 3)) := by
  refine wpList_plain hgd fun K hK => ?_
  obtain ⟨A', c', w', hrun, h1, h2⟩ := run_append_ints (c := c) o.type hr hB h8 h0 hnc
  unfold Oper.wp execOp
  simp only [ho, resolve, invoke, builtin, Sem.run_bind, Sem.run_pure, Result.andThen_ok, List.map_toArray, List.map_cons, List.map_nil, hs, hx, hrun]
  exact hK _ _ (h A' c' w' h1 h2)
end Go.Proofs.Ytlbmeaioiiflkaa
