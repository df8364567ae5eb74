/-
  A row of items with room: what 'make' and 'append' make of it; 'Encode' and 'Decode' by what they leave. No conditions beyond those that each theorem types.
-/
import Derived.Test.YtllglgkphlkopaaDoorPackUns
import Derived.Laws.MakeOwn
namespace Go.Proofs.YtllglgkphlkopaaDoor
open Go Go.RowKit
set_option maxRecDepth 100000
set_option linter.unusedVariables false
theorem make_items (N : Nat) (hN : N * 32 ≤ 281474976710656) (w : World) (l : Int) (hl : l = (N : Int)) :
    ∃ cs : Array Value, cs.size = N * 3 ∧ (Instr.makeSlice 23 (.int .i64 0) (.int .i64 l)).run Tryd.prog w = .ok (.slice (some ⟨w.heap.size, 0, none⟩) 0 N) (w.alloc (.cells cs 31)) := by
  subst hl
  obtain ⟨i0, hi, hz0, hz1, hz2⟩ := info_parts3 info_item
  have h := run_make (P := Tryd.prog) (w := w) 23 31 i0 _ Tryd.underlying23 hi hz0 .i64 .i64 (0 : Int) (N : Int) (by omega) (by omega) (by rw [hz2]; omega) (by omega)
  refine ⟨_, ?_, h⟩
  rw [hz1, Int.toNat_natCast, size_madeCells]
theorem append_items {w : World} {g cap c B : Nat} {A : Option Addr} {l : List K.It} {cs : Array Value} (ty : TypeId) (hb : Blk w g 31 cs) (hs : cs.size = cap * 3) (hx : RdI w B A l) (h0 : A = none → c = 0) (hlc : l.length ≤ c) (hr : l.length ≤ cap) :
    ∃ w', (Builtin.append_ #[23, 23] ty #[.slice (some ⟨g, 0, none⟩) 0 cap, .slice A l.length c]).run Tryd.prog w = .ok (.slice (some ⟨g, 0, none⟩) l.length cap) w' ∧ RdI w' (g + 1) (some ⟨g, 0, none⟩) l ∧ Only g w w' ∧ w'.heap.size = w.heap.size := by
  obtain ⟨i0, hi, hz0, hz1, hz2⟩ := info_parts3 info_item
  by_cases hl : l = []
  · subst hl
    refine ⟨w, ?_, fun j x hj => by simp at hj, Only.refl _ _, rfl⟩
    have h1 : (sizeOf 31).run Tryd.prog w = .ok 3 w := size_item w
    have hf : (Builtin.firstCells 3 0 (.slice A 0 c)).run Tryd.prog w = .ok #[] w := by
      cases A with
      | none => exact run_firstCells_none w 3 0 0 c
      | some ad => exact run_firstCells_some (P := Tryd.prog) w 3 0 ad 0 c [] rfl (fun j u h => by simp at h)
    simp [Builtin.append_, run_underlying Tryd.underlying23, h1, Builtin.lenOf, hf, storeCells]
  · have hpos : 0 < l.length := by cases l with | nil => exact absurd rfl hl | cons a t => simp
    obtain ⟨b, o, rfl, _⟩ := hx 0 _ (List.getElem?_eq_getElem hpos)
    have hil := icells_length l
    have e1 := run_append_room (P := Tryd.prog) w 23 ty 31 i0 Tryd.underlying23 hi g 0 cap cs hb ⟨b, o, none⟩ l.length c (icells l) (by rw [hil, hz1])
      (fun j u hj => by
        have hjl : j < l.length * 3 := by have := (List.getElem?_eq_some_iff.1 hj).1; omega
        obtain ⟨q, r, hr3, rfl⟩ : ∃ q r, r < 3 ∧ j = q * 3 + r := ⟨j / 3, j % 3, Nat.mod_lt _ (by omega), by omega⟩
        have hq : q < l.length := by omega
        have hxq := List.getElem?_eq_getElem hq
        obtain ⟨b', o', e, _, c0, c1, c2⟩ := hx q _ hxq
        injection e with e
        injection e with ea eb
        subst ea; subst eb
        obtain ⟨d0, d1, d2⟩ := icells_get l q _ hxq
        rw [add_plain]
        rcases r with _ | _ | _ | r
        · rw [Nat.add_zero] at hj ⊢
          rw [d0] at hj
          rw [← hj]
          exact c0
        · rw [d1] at hj
          rw [← hj]
          exact c1
        · rw [d2] at hj
          rw [← hj]
          exact c2
        · omega) (icells_mem l) (by omega) (by rw [hil]; omega)
    rw [Nat.zero_add, Nat.zero_mul, Nat.zero_add, List.take_zero, List.nil_append] at e1
    refine ⟨_, e1, fun j x hj => ?_, ⟨rfl, rfl, rfl, by simp [World.setRow], fun k hk hne => setRow_other w g k _ (fun e => hne (by rw [e]))⟩, by simp [World.setRow]⟩
    have hB2 : Blk (w.setRow g (icells l ++ cs.toList.drop (icells l).length).toArray) g 31 (icells l ++ cs.toList.drop (icells l).length).toArray := setRow_heap w g cs _ _ (0, 0) hb
    obtain ⟨d0, d1, d2⟩ := icells_get l j x hj
    have d : ∀ i u, (icells l)[i]? = some u → (w.setRow g (icells l ++ cs.toList.drop (icells l).length).toArray).cell? ⟨g, i, none⟩ = some u := fun i u hu => by
      rw [hB2.cell, List.getElem?_toArray, List.getElem?_append_left (List.getElem?_eq_some_iff.1 hu).1]
      exact hu
    exact ⟨g, 0, rfl, by omega, by rw [Nat.zero_add]; exact d _ _ d0, by rw [Nat.zero_add]; exact d _ _ d1, by rw [Nat.zero_add]; exact d _ _ d2⟩
theorem wpList_append_items {w : World} {ops : Array Oper} {rest : List Oper} {o : Oper} {a : Act} {Q : Exit → Act → World → Prop} (hgd : o.guard = none) (s y : Operand)
    (ho : o.op = .call { callee := .builtin .append, args := #[s, y], argTypes := #[23, 23] }) {g cap c B : Nat} {A : Option Addr} {l : List K.It} {cs : Array Value} (hs : a.eval s = .slice (some ⟨g, 0, none⟩) 0 cap) (hy : a.eval y = .slice A l.length c)
    (hb : Blk w g 31 cs) (hsz : cs.size = cap * 3) (hx : RdI w B A l) (h0 : A = none → c = 0) (hlc : l.length ≤ c) (hr : l.length ≤ cap)
    (h : ∀ w', RdI w' (g + 1) (some ⟨g, 0, none⟩) l → Only g w w' → w'.heap.size = w.heap.size → wpList Tryd.prog ops Q rest (a.put o.dst (.slice (some ⟨g, 0, none⟩) l.length cap)) w') : wpList Tryd.prog ops Q (o :: rest) a w := by
  refine wpList_plain hgd fun K hK => ?_
  obtain ⟨w', hrun, h1, h2, h3⟩ := append_items (c := c) o.type hb hsz hx h0 hlc hr
  unfold Oper.wp execOp
  simp only [ho, resolve, invoke, builtin, Sem.run_bind, Sem.run_pure, Result.andThen_ok, List.map_toArray, List.map_cons, List.map_nil, hs, hy, hrun]
  exact hK _ _ (h w' h1 h2 h3)
def outX (l : List K.It) : List Nat := if K.fault l = 0 then K.encs l else []
theorem outX_lt (l : List K.It) : ∀ b ∈ outX l, b < 256 := by
  unfold outX
  split
  · exact K.encs_lt l
  · intro b hb; cases hb
theorem encode_own (A : Option Addr) (l : List K.It) (c B : Nat) (w : World) (hx : RdI w B A l) (hB : B ≤ w.heap.size) (hg : ∀ x ∈ l, Good x) (hlc : l.length ≤ c) (hcm : c ≤ maxLen) :
    Calls Tryd.prog 5 #[.slice A l.length c] w fun e w' => (∃ v, e = .returned (.tuple #[v, .int .i64 (K.fault l)]) ∧ OwnL w' w.heap.size v (outX l)) ∧ Below w.heap.size w w' := by
  unfold outX
  by_cases hf : K.fault l = 0
  · rw [if_pos hf, hf]
    refine (encode_ok A l c B w hx hB hg hlc hcm hf).mono ?_
    rintro e w' ⟨v, rfl, ho, hl⟩
    exact ⟨⟨v, rfl, ho⟩, hl⟩
  · rw [if_neg hf]
    refine (encode_bad A l c B w hx hB hg hlc hcm hf).mono ?_
    rintro e w' ⟨rfl, hl⟩
    exact ⟨⟨_, rfl, Own8.nil _ _ _⟩, hl⟩
theorem DecOut.own {L : List Nat} {base : Nat} {e : Ending} {w' : World} (h : DecOut L base e w') : ∃ v, e = .returned (.tuple #[v, .int .i64 (outE L)]) ∧ OwnI w' base v (outL L) := by
  unfold outL outE
  rcases h with ⟨h, rfl⟩ | ⟨l, v, h, rfl, ho⟩
  · rw [h]
    exact ⟨_, rfl, OwnI.nil _ _⟩
  · rw [h]
    exact ⟨v, rfl, ho⟩
end Go.Proofs.YtllglgkphlkopaaDoor
