/-
  Rows of structs: a call's own, and those that can be read, whatever the struct's cells. No conditions beyond those that each theorem types.
-/
import Derived.Test.YthioanenljpclaaGreatDoorBytesM
import Derived.Maps.AppendAt
import Derived.Laws.AppendOwnNone
import Derived.Test.YthioanenljpclaaGreatDoorRackMapM
import Derived.Test.YthioanenljpclaaGreatDoorRefLookM
import Derived.Test.YthioanenljpclaaGreatDoorRefTotM
namespace Go.Proofs.YthioanenljpclaaGreatDoor
open Go Go.RowKit
set_option maxRecDepth 100000
set_option linter.unusedVariables false
namespace Gr
section
variable {α : Type} {E : TypeId} {k : Nat} {cs : α → List Value}
theorem flat_length (hk : ∀ x, (cs x).length = k) : ∀ l : List α, (l.flatMap cs).length = l.length * k
  | [] => by simp
  | x :: l => by rw [List.flatMap_cons, List.length_append, hk, flat_length hk l, List.length_cons, Nat.succ_mul]; omega
theorem flat_get (hk : ∀ x, (cs x).length = k) : ∀ {l : List α} {i : Nat} {x : α}, l[i]? = some x → ∀ j, j < k → (l.flatMap cs)[i * k + j]? = (cs x)[j]?
  | [], i, x, h, _, _ => by simp at h
  | y :: l, 0, x, h, j, hj => by
    simp at h
    subst h
    rw [List.flatMap_cons, Nat.zero_mul, Nat.zero_add, List.getElem?_append_left (by rw [hk]; exact hj)]
  | y :: l, i + 1, x, h, j, hj => by
    rw [List.getElem?_cons_succ] at h
    rw [List.flatMap_cons, List.getElem?_append_right (by rw [hk, Nat.succ_mul]; omega), hk, show (i + 1) * k + j - k = i * k + j by rw [Nat.succ_mul]; omega]
    exact flat_get hk h j hj
def OwnG (E : TypeId) (k : Nat) (cs : α → List Value) (w : World) (base : Nat) (v : Value) (l : List α) : Prop := w.ownsRow base E k v l.length (l.flatMap cs)
def RdG (k : Nat) (cs : α → List Value) (w : World) (A : Option Addr) (l : List α) : Prop := ∀ i x, l[i]? = some x → ∃ b o, A = some ⟨b, o, none⟩ ∧ b < w.heap.size ∧ ∀ j u, (cs x)[j]? = some u → w.cell? ⟨b, o + i * k + j, none⟩ = some u
variable {w w' : World} {base : Nat} {v : Value} {l m : List α} {A : Option Addr}
theorem OwnG.nil (w : World) (base : Nat) : OwnG E k cs w base (.slice none 0 0) ([] : List α) := World.ownsRow_nil w base _ k
theorem RdG.below (h : RdG k cs w A l) (hb : Below w.heap.size w w') : RdG k cs w' A l := fun i x hx => by
  obtain ⟨b, o, h1, h2, h3⟩ := h i x hx
  exact ⟨b, o, h1, Nat.lt_of_lt_of_le h2 hb.size, fun j u hu => (hb.cell (p := ⟨b, o + i * k + j, none⟩) h2).trans (h3 j u hu)⟩
theorem RdG.keep (h : RdG k cs w A l) (hz : w.heap.size ≤ w'.heap.size) (hf : ∀ b o s, A = some ⟨b, o, s⟩ → w'.heap[b]? = w.heap[b]?) : RdG k cs w' A l := fun i x hx => by
  obtain ⟨b, o, h1, h2, h3⟩ := h i x hx
  refine ⟨b, o, h1, Nat.lt_of_lt_of_le h2 hz, fun j u hu => ?_⟩
  have h4 := h3 j u hu
  have h5 := hf b o none h1
  unfold World.cell? at h4 ⊢
  rw [h5]
  exact h4
theorem OwnG.shape (h : OwnG E k cs w base v l) (hk : ∀ x, (cs x).length = k) : ∃ A c, v = .slice A l.length c ∧ RdG k cs w A l ∧ l.length ≤ c ∧ c ≤ maxLen ∧ (A = none → c = 0) ∧ (∀ b o s, A = some ⟨b, o, s⟩ → base ≤ b ∧ b < w.heap.size) := by
  rcases h.2 with ⟨h1, h2⟩ | ⟨g, cap, cur, h1, h2, h3, h4, h5, h6, h7⟩
  · refine ⟨none, 0, by rw [h1, h2], fun i x hx => ?_, by omega, by unfold maxLen; omega, (fun _ => rfl), (fun b o s e => by cases e)⟩
    have := (List.getElem?_eq_some_iff.1 hx).1; omega
  · have hlt := (Array.getElem?_eq_some_iff.1 h3).1
    refine ⟨_, cap, h1, fun i x hx => ?_, h4, h5, (fun e => by cases e), (fun b o s e => by injection e with e; injection e with e; subst e; exact ⟨h2, hlt⟩)⟩
    have hi := (List.getElem?_eq_some_iff.1 hx).1
    refine ⟨g, 0, rfl, hlt, fun j u hu => ?_⟩
    have hj : j < k := by have := (List.getElem?_eq_some_iff.1 hu).1; rw [hk] at this; exact this
    have hb : i * k + j < l.length * k := by
      have : (i + 1) * k ≤ l.length * k := Nat.mul_le_mul_right k hi
      rw [Nat.succ_mul] at this
      omega
    rw [Nat.zero_add, cell_of_row w g _ cur E (0, 0) h3]
    have h8 := flat_get hk hx j hj
    rw [hu, ← h7, List.getElem?_take_of_lt hb] at h8
    rw [← h8]
    simp
theorem OwnG.lt (h : OwnG E k cs w base v l) {g : Nat} (hg : v.ownBlock = some g) : g < w.heap.size ∧ base ≤ g := by
  rcases h.2 with ⟨h1, h2⟩ | ⟨g', cap, cur, h1, h2, h3, _⟩
  · rw [h1] at hg; cases hg
  · rw [h1] at hg; injection hg with hg; subst hg; exact ⟨(Array.getElem?_eq_some_iff.1 h3).1, h2⟩
theorem OwnG.keep (h : OwnG E k cs w base v l) (hf : ∀ g, v.ownBlock = some g → w'.heap[g]? = w.heap[g]?) : OwnG E k cs w' base v l := by
  refine ⟨h.1, ?_⟩
  rcases h.2 with h1 | ⟨g', cap, cur, h1, h2, h3, h4⟩
  · exact .inl h1
  · exact .inr ⟨g', cap, cur, h1, h2, (hf g' (by rw [h1]; rfl)).trans h3, h4⟩
theorem OwnG.below {B : Nat} (h : OwnG E k cs w base v l) (hb : Below B w w') (hB : w.heap.size ≤ B) : OwnG E k cs w' base v l := h.keep fun g hg => hb.block g (by have := (h.lt hg).1; omega)
theorem OwnG.grown {row : Option Nat} (h : OwnG E k cs w base v l) (hb : w.grownBy w' row) (hne : ∀ g, v.ownBlock = some g → some g ≠ row) : OwnG E k cs w' base v l := h.keep fun g hg => hb.block g (h.lt hg).1 (hne g hg)
/-- what lies in a block of its own, as a row of one -/
theorem one_cells (x : α) (W : World) (t : TypeId) : ∀ j u, (([x] : List α).flatMap cs)[j]? = some u → (W.alloc (.cells (cs x).toArray t)).cell? ((⟨W.heap.size, 0, none⟩ : Addr).add j) = some u := by
  intro j u hj
  rw [add_plain, Nat.zero_add, (Blk.new W t _).cell]
  simpa using hj
end
/-- 'xs[i]' of elements of so many cells -/
theorem index_gen {P : Program} {t e : TypeId} {k : Nat} (ht : P.underlying t = some (.slice e)) (hi : (P.info? e).map (·.size) = some k) (b o n c i : Nat) (hlt : i < n) (w : World) :
    (Instr.indexAt t (.slice (some ⟨b, o, none⟩) n c) (.int .i64 (i : Int))).run P w = .ok (.pointer (some ⟨b, o + i * k, none⟩)) w := by
  cases hq : P.info? e with
  | none => simp [hq] at hi
  | some inf =>
    have hs : inf.size = k := by simpa [hq] using hi
    have h2 : (i : Int) < (n : Int) := by omega
    unfold Instr.indexAt asIntOf
    simp [run_underlying ht, Sem.run_bind, sizeOf, typeInfo, hq, hs, hlt, add_plain]
theorem wp_append {w : World} {o : Oper} {a : Act} {K : Act → World → Prop} {Q : Exit → Act → World → Prop} (T : TypeId) (s x : Operand) (ho : o.op = .call { callee := .builtin .append, args := #[s, x], argTypes := #[T, T] })
    {v y v' : Value} {w' : World} (hs : a.eval s = v) (hx : a.eval x = y) (hrun : (Builtin.append_ #[T, T] o.type #[v, y]).run Tryz.prog w = .ok v' w') (h : K (a.put o.dst v') w') : o.wp Tryz.prog a w K Q := by
  unfold Oper.wp execOp
  simp only [ho, resolve, invoke, builtin, Sem.run_bind, Sem.run_pure, Result.andThen_ok, List.map_toArray, List.map_cons, List.map_nil, hs, hx, hrun]
  exact h
end Gr
end Go.Proofs.YthioanenljpclaaGreatDoor
namespace Go.Proofs.YthioanenljpclaaGreatDoor
open Go Go.RowKit
set_option maxRecDepth 100000
set_option linter.unusedVariables false
namespace Gr
theorem run_append_b {α : Type} {E : TypeId} {k : Nat} {cs : α → List Value} {w : World} {base : Nat} {v : Value} {l m : List α} {T : TypeId} {z : Value} {bytes : Nat} (hk : ∀ x, (cs x).length = k) (hone : ∀ x, ∀ u ∈ cs x, u.oneCell' = true) (hu : Tryz.prog.underlying T = some (.slice E)) (hi : (Tryz.prog.info? E).map (fun i => (i.zero, i.size, i.bytes)) = some (some z, k, bytes)) (hzs : z.cells.size = k) (hk0 : 0 < k)
    (ty : TypeId) (h : OwnG E k cs w base v l) {ad : Addr} {c : Nat} (hr : ∀ j u, (m.flatMap cs)[j]? = some u → w.cell? (ad.add j) = some u) (hl : l.length + m.length ≤ 4611686018427387904) (hby : (l.length + m.length) * bytes ≤ 140737488355328) (hb : base ≤ w.heap.size) :
    ∃ v' w', (Builtin.append_ #[T, T] ty #[v, .slice (some ad) m.length c]).run Tryz.prog w = .ok v' w' ∧ OwnG E k cs w' base v' (l ++ m) ∧ w.grownBy w' v.ownBlock ∧ (v'.ownBlock = v.ownBlock ∨ v'.ownBlock = some w.heap.size) := by
  obtain ⟨i0, hi', hz0, hz1, hz2⟩ : ∃ i0, Tryz.prog.info? E = some i0 ∧ i0.zero = some z ∧ i0.size = k ∧ i0.bytes = bytes := by
    cases hE : Tryz.prog.info? E with
    | none => rw [hE] at hi; simp at hi
    | some i => rw [hE] at hi; simp at hi; exact ⟨i, rfl, hi.1, hi.2.1, hi.2.2⟩
  obtain ⟨v', w', e1, e2, e3, e4, e5⟩ := run_append_own_at (P := Tryz.prog) w base T ty E i0 z k bytes hu hi' hz0 hz1 hz2 hzs hk0 v l.length (l.flatMap cs) h ad m.length c (m.flatMap cs) (flat_length hk m) hr
    (fun u hu => by obtain ⟨x, _, hx⟩ := List.mem_flatMap.1 hu; exact hone x u hx) (by unfold maxLen; omega) hby hb
  refine ⟨v', w', e1, ?_, e3, e5⟩
  unfold OwnG
  rw [List.length_append, List.flatMap_append]
  exact e2
end Gr
end Go.Proofs.YthioanenljpclaaGreatDoor
namespace Go.Proofs.YthioanenljpclaaGreatDoor
open Go Go.RowKit refRack
set_option maxRecDepth 100000
set_option linter.unusedVariables false
namespace Lab
theorem wp_app_gL {w : World} {o : Oper} {a : Act} {K : Act → World → Prop} {Q : Exit → Act → World → Prop} (T : TypeId) (s x : Operand) (ho : o.op = .call { callee := .builtin .append, args := #[s, x], argTypes := #[T, T] })
    {v y : Value} {R : Value → World → Prop} (hs : a.eval s = v) (hx : a.eval x = y) (hrun : ∀ ty, ∃ v' w', (Builtin.append_ #[T, T] ty #[v, y]).run Tryz.prog w = .ok v' w' ∧ R v' w') (h : ∀ v' w', R v' w' → K (a.put o.dst v') w') : o.wp Tryz.prog a w K Q := by
  obtain ⟨v', w', h1, h2⟩ := hrun o.type
  exact Gr.wp_append T s x ho hs hx h1 (h v' w' h2)
theorem wpList_app_gL {w : World} {ops : Array Oper} {rest : List Oper} {o : Oper} {a : Act} {Q : Exit → Act → World → Prop} (hgd : o.guard = none) (T : TypeId) (s x : Operand) (ho : o.op = .call { callee := .builtin .append, args := #[s, x], argTypes := #[T, T] })
    {v y : Value} {R : Value → World → Prop} (hs : a.eval s = v) (hx : a.eval x = y) (hrun : ∀ ty, ∃ v' w', (Builtin.append_ #[T, T] ty #[v, y]).run Tryz.prog w = .ok v' w' ∧ R v' w') (h : ∀ v' w', R v' w' → wpList Tryz.prog ops Q rest (a.put o.dst v') w') : wpList Tryz.prog ops Q (o :: rest) a w :=
  wpList_plain hgd fun K hK' => wp_app_gL T s x ho hs hx hrun fun v' w' h' => hK' _ _ (h v' w' h')
section
variable {B : Nat}
theorem right_k (w : World) (g : Nat) (t : RS) (h : TAt B w g t) (h1 : 0 < t.nd) :
    Calls Tryz.prog 36 #[.pointer (some ⟨g, 0, none⟩)] w fun e w' => e = .returned (.bool (decide (8 < t.ns))) ∧ w' = w := by
  obtain ⟨vL, vG, vW, H, C, hk⟩ := h
  have c0 := hk.c0
  obtain ⟨l, c, e, h2, _⟩ := hk.head h1
  subst e
  have t0 : (0 : Int) < (t.nd : Int) := by omega
  have hn : 0 < t.nd := h1
  by_cases h8 : 8 < t.ns
  · have t8 : (8 : Int) < (t.ns : Int) := by omega
    rw [decide_eq_true h8]
    clear hk h8 h1
    go_enter Tryz.func36, Tryz.ntmps36
    go_wp2_with fail
    go_ret
    first | exact ⟨rfl, rfl⟩ | (simp [t8])
  · have t8 : ¬ ((8 : Int) < (t.ns : Int)) := by omega
    rw [decide_eq_false h8]
    clear hk h8 h1
    go_enter Tryz.func36, Tryz.ntmps36
    go_wp2_with fail
    go_ret
    first | exact ⟨rfl, rfl⟩ | (simp [t8])
def csU (u : U) : List Value := [.int .i64 u.t, .int .i64 u.p.a, .int .i64 u.p.z, .int .i64 u.p.b, .string u.p.s]
theorem csU_one (u : U) : ∀ x ∈ csU u, x.oneCell' = true := fun x hx => by
  simp [csU] at hx
  rcases hx with rfl | rfl | rfl | rfl | rfl <;> rfl
theorem info_uR : (Tryz.prog.info? 43).map (fun i => (i.zero, i.size, i.bytes)) = some (some (.agg #[.int .i64 0, .int .i64 0, .int .i64 0, .int .i64 0, .string ⟨#[]⟩]), 5, 48) := by kernel_rfl
abbrev OwnU (w : World) (base : Nat) (v : Value) (l : List U) : Prop := Gr.OwnG 43 5 csU w base v l
theorem appU {w : World} {base : Nat} {v : Value} {l : List U} (h : OwnU w base v l) (x : U) (hl : l.length ≤ 1000) (hb : base ≤ w.heap.size) (ty : TypeId) :
    ∃ v' w', (Builtin.append_ #[107, 107] ty #[v, .slice (some ⟨w.heap.size, 0, none⟩) 1 1]).run Tryz.prog (w.alloc (.cells #[.int .i64 x.t, .int .i64 x.p.a, .int .i64 x.p.z, .int .i64 x.p.b, .string x.p.s] 43)) = .ok v' w' ∧ OwnU w' base v' (l ++ [x]) ∧ Below base w w' := by
  have hB : Below base w (w.alloc (.cells (csU x).toArray 43)) := (Below.refl _ _).alloc hb _
  have hB2 : Below w.heap.size w (w.alloc (.cells (csU x).toArray 43)) := (Below.refl _ _).alloc (Nat.le_refl _) _
  have hs : (w.alloc (.cells (csU x).toArray 43)).heap.size = w.heap.size + 1 := by simp
  obtain ⟨v', w', e1, e2, e3, e4⟩ := Gr.run_append_b (m := [x]) (c := 1) (k := 5) (cs := csU) (fun _ => rfl) csU_one Tryz.underlying107 info_uR rfl (by omega) ty (h.below hB2 (Nat.le_refl _)) (ad := ⟨w.heap.size, 0, none⟩) (Gr.one_cells x w 43) (by simp; omega) (by
      have h1 : ([x] : List U).length = 1 := rfl
      rw [h1]
      omega) (by rw [hs]; omega)
  exact ⟨v', w', e1, e2, hB.trans ⟨e3.os, e3.tape, e3.output, e3.size, fun g hg => e3.block g (by omega) (fun e => by have := (h.lt e.symm).2; omega)⟩⟩
theorem bs_uR (x0 x1 x2 x3 : Int) (s : ByteArray) (w : World) : (Instr.buildSlice 107 1 #[(0, .agg #[.int .i64 x0, .int .i64 x1, .int .i64 x2, .int .i64 x3, .string s])]).run Tryz.prog w = .ok (.slice (some ⟨w.heap.size, 0, none⟩) 1 1) (w.alloc (.cells #[.int .i64 x0, .int .i64 x1, .int .i64 x2, .int .i64 x3, .string s] 43)) := by kernel_rfl
theorem uberR_facts {w : World} {g : Nat} {x0 x1 x2 x3 x4 : Value} (h : Blk w g 43 #[x0, x1, x2, x3, x4]) : (w.cell? ⟨g, 0, none⟩ = some x0 ∧ w.cell? ⟨g, 1, none⟩ = some x1 ∧ w.cell? ⟨g, 2, none⟩ = some x2 ∧ w.cell? ⟨g, 3, none⟩ = some x3 ∧ w.cell? ⟨g, 4, none⟩ = some x4) ∧ w.frozen? ⟨g, 0, none⟩ = false ∧ w.frozen? ⟨g, 1, none⟩ = false ∧ w.frozen? ⟨g, 2, none⟩ = false ∧ w.frozen? ⟨g, 3, none⟩ = false ∧ w.frozen? ⟨g, 4, none⟩ = false :=
  ⟨⟨h.cell 0, h.cell 1, h.cell 2, h.cell 3, h.cell 4⟩, h.frozen 0, h.frozen 1, h.frozen 2, h.frozen 3, h.frozen 4⟩
/-- what the document has of a slot -/
noncomputable def wslot (t : RS) (d a : Nat) : U := (found t d a).getD ⟨-1, K.zeroP⟩
theorem said_sec (t : RS) (d a : Nat) : strB 128 (t.holds d a) = K.txt (sec t d a) := by
  rw [← strB_lst, sec_length]
  exact strB_congr fun j hj => (sec_lst t d a j hj).symm
set_option maxHeartbeats 800000 in
theorem whole_no (w : World) (g : Nat) (t : RS) (d : Nat) (h : TAt B w g t) (hy : t.deny (d : Int) 0 ≠ 0) :
    Calls Tryz.prog 53 #[.pointer (some ⟨g, 0, none⟩), .int .i64 (d : Int)] w fun e w' => e = .returned (.tuple #[.slice none 0 0, .int .i64 (t.deny (d : Int) 0)]) ∧ w' = w := by
  have HR := Lib.hid (read_tot_k w g t (d : Int) 0 h)
  obtain ⟨y, hyy⟩ : ∃ y, y = t.deny (d : Int) 0 := ⟨_, rfl⟩
  obtain ⟨s, hs⟩ : ∃ s, s = strB (rdN t (d : Int) 0) (t.holds (d : Int).toNat (0 : Int).toNat) := ⟨_, rfl⟩
  rw [← hyy] at hy HR ⊢
  rw [← hs] at HR
  clear hyy hs h
  go_enter Tryz.func53, Tryz.ntmps53
  go_wp2_with fail
  go_loopw [6, 7] (fun x z wr => x = .slice none 0 0 ∧ z = .int .i64 0 ∧ wr = w) (fun _ _ _ => 0)
  case atStart => exact ⟨rfl, rfl, rfl⟩
  case round =>
    obtain ⟨rfl, rfl, hw⟩ := hrel
    rw [hw]
    clear hw
    go_wp2_with fail
    refine HR.out.mono ?_
    rintro e w5 ⟨rfl, hw⟩
    rw [hw]
    clear hw
    go_wp2_with fail
    go_ret2
    exact ⟨rfl, rfl⟩
end
end Lab
end Go.Proofs.YthioanenljpclaaGreatDoor
namespace Go.Proofs.YthioanenljpclaaGreatDoor
open Go Go.RowKit refRack
set_option maxRecDepth 100000
set_option linter.unusedVariables false
namespace Lab
theorem tmod8 (t : Int) : -8 < t.tmod 8 ∧ t.tmod 8 < 8 := by
  have h2 := Int.emod_nonneg t (show (8 : Int) ≠ 0 by omega)
  rcases Int.le_total 0 t with h | h
  · rw [Int.tmod_eq_emod_of_nonneg h]; omega
  · have e : t.tmod 8 = -((-t).tmod 8) := by rw [Int.neg_tmod]; omega
    rw [e, Int.tmod_eq_emod_of_nonneg (by omega)]
    omega
theorem wrap8 (t : Int) : wrap64 (t.tmod 8) = t.tmod 8 := by
  have h := tmod8 t
  generalize t.tmod 8 = y at *
  unfold wrap64
  omega
theorem wslot_yes {t : RS} {d a : Nat} {u : U} (hu : Is (sec t d a) u) (hq : u.t.tmod 8 = (a : Int)) : wslot t d a = u := by
  unfold wslot
  rw [found_some ⟨hu, hq⟩]
  rfl
theorem wslot_off {t : RS} {d a : Nat} {u : U} (hu : Is (sec t d a) u) (hq : u.t.tmod 8 ≠ (a : Int)) : wslot t d a = ⟨-1, K.zeroP⟩ := by
  unfold wslot
  rw [found_none fun v hv => by
    have := hv.1.one hu
    subst this
    exact hq hv.2]
  rfl
theorem wslot_no {t : RS} {d a : Nat} (hno : ∀ u, ¬ Is (sec t d a) u) : wslot t d a = ⟨-1, K.zeroP⟩ := by
  unfold wslot
  rw [found_none fun v hv => hno v hv.1]
  rfl
section
variable {B : Nat}
set_option maxHeartbeats 3200000 in
theorem whole_yes (w : World) (g : Nat) (t : RS) (d : Nat) (h : TAt B w g t) (h8 : 8 < t.ns) (hy : t.deny (d : Int) 0 = 0) (hX : ∀ a j, j < 128 → t.holds d a j < 256) :
    Calls Tryz.prog 53 #[.pointer (some ⟨g, 0, none⟩), .int .i64 (d : Int)] w fun e w' => (∃ v, e = .returned (.tuple #[v, .int .i64 0]) ∧ OwnU w' w.heap.size v ((List.range 8).map (wslot t d))) ∧ Below w.heap.size w w' := by
  have HT := Lib.hid h
  have HDN : Hid (∀ a : Nat, a < 8 → t.deny (d : Int) (a : Int) = 0) := Lib.hid fun a ha => (deny_ind (d := d) (a := a) (by omega) (by omega)).trans hy
  have HX := Lib.hid hX
  clear h hy hX h8
  go_enter Tryz.func53, Tryz.ntmps53
  go_wp2_with fail
  go_loopw [6, 7] (fun ov iv wr => ∃ a : Nat, a ≤ 8 ∧ iv = .int .i64 (a : Int) ∧ Hid (OwnU wr w.heap.size ov ((List.range a).map (wslot t d)) ∧ Below w.heap.size w wr)) (fun _ iv _ => 8 - (intOf iv).toNat)
  case atStart => exact ⟨0, by omega, rfl, Lib.hid ⟨Gr.OwnG.nil _ _, Below.refl _ _⟩⟩
  case round =>
    obtain ⟨a, ha, rfl, HI⟩ := hrel
    by_cases hlt : a < 8
    · have t1 : (a : Int) < 8 := by omega
      have HR : Hid (Calls Tryz.prog 66 #[.pointer (some ⟨g, 0, none⟩), .int .i64 (d : Int), .int .i64 (a : Int)] wr fun e w' => e = .returned (.tuple #[.string (K.txt (sec t d a)), .int .i64 0]) ∧ w' = wr) := Lib.hid (by
        have h := read_tot_k wr g t (d : Int) (a : Int) (HT.out.below HI.out.2)
        have hN : rdN t (d : Int) (a : Int) = 128 := by unfold rdN; rw [if_pos (HDN.out a hlt)]
        rw [HDN.out a hlt, hN, Int.toNat_natCast, Int.toNat_natCast, said_sec] at h
        exact h)
      have HDC := Lib.hid (docDecode_lab (sec t d a) wr (fun b hb => by
        unfold sec at hb
        rw [List.mem_map] at hb
        obtain ⟨j, hj, rfl⟩ := hb
        exact HX.out a j (by simpa using hj)) (by rw [sec_length]; omega))
      obtain ⟨TX, hTX⟩ : ∃ TX, TX = K.txt (sec t d a) := ⟨_, rfl⟩
      rw [← hTX] at HR HDC
      clear hTX
      have HLE : Hid (((List.range a).map (wslot t d)).length ≤ 1000) := Lib.hid (by rw [List.length_map, List.length_range]; omega)
      go_wp2_with fail
      refine HR.out.mono ?_
      rintro e w2 ⟨rfl, hw⟩
      rw [hw]
      clear hw HR
      go_wp2_with fail
      refine HDC.out.mono ?_
      rintro e w3 ⟨hd3, b3⟩
      have B3 := Lib.hid b3
      clear b3 HDC
      have hnew := Blk.new w3 43 #[.int .i64 0, .int .i64 0, .int .i64 0, .int .i64 0, .string ⟨#[]⟩]
      obtain ⟨⟨d0, d1, d2, d3, d4⟩, z0, z1, z2, z3, z4⟩ := uberR_facts hnew
      clear hnew
      rcases hd3 with ⟨u, hu, rfl⟩ | ⟨hno, rfl⟩
      · obtain ⟨ut, ⟨pa, pz, pb, ps⟩⟩ := u
        simp only [uA]
        have hw8 := wrap8 ut
        by_cases hq : ut.tmod 8 = (a : Int)
        · have HV : Hid ((⟨ut, ⟨pa, pz, pb, ps⟩⟩ : U) = wslot t d a) := Lib.hid (wslot_yes hu hq).symm
          clear hu
          go_upto_region 11 with (fail)
          clear d0 d1 d2 d3 d4 z0 z1 z2 z3 z4
          obtain ⟨pb_, hpb⟩ : ∃ p, p = w3.heap.size := ⟨_, rfl⟩
          obtain ⟨w4, hw4⟩ : ∃ w4, w4 = w3.alloc (.cells #[.int .i64 ut, .int .i64 pa, .int .i64 pz, .int .i64 pb, .string ps] 43) := ⟨_, rfl⟩
          have hb4 : Blk w4 pb_ 43 #[.int .i64 ut, .int .i64 pa, .int .i64 pz, .int .i64 pb, .string ps] := by rw [hw4, hpb]; exact Blk.new _ _ _
          have hbe : Below w3.heap.size w3 w4 := by rw [hw4]; exact (Below.refl _ _).alloc (Nat.le_refl _) _
          rw [← hw4, ← hpb]
          obtain ⟨⟨d0, d1, d2, d3, d4⟩, _, _, _, _, _⟩ := uberR_facts hb4
          have hbs := bs_uR (ut) (pa) (pz) (pb) (ps) w4
          have HO4 : Hid (OwnU w4 w.heap.size u6 ((List.range a).map (wslot t d)) ∧ Below w.heap.size w w4) := Lib.hid (by
            have b34 := B3.out.trans (hbe.mono B3.out.size)
            exact ⟨HI.out.1.below b34 (Nat.le_refl _), HI.out.2.trans (b34.mono HI.out.2.size)⟩)
          clear hb4 hbe hw4 hpb
          go_wp2_with (at_builtin; refine wpList_app_gL rfl 107 (.tmp 40) (.tmp 42) rfl rfl rfl (fun ty => appU HO4.out.1 ⟨ut, ⟨pa, pz, pb, ps⟩⟩ HLE.out HO4.out.2.size ty) ?_; intro v5 W5 h5; refine of_hid ?_)
          refine Lib.hid ?_
          have H5 : Hid (OwnU W5 w.heap.size v5 ((List.range (a + 1)).map (wslot t d)) ∧ Below w.heap.size w W5) := Lib.hid (by
            rw [List.range_succ, List.map_append, List.map_cons, List.map_nil, ← HV.out]
            exact ⟨h5.1, HO4.out.2.trans h5.2⟩)
          clear h5 hbs d0 d1 d2 d3 d4 HO4
          go_wp2_with fail
          go_roundw
          case rel => exact ⟨a + 1, by omega, by go_num, H5⟩
          case measure => simp [intOf]; omega
        · have HV : Hid ((⟨-1, K.zeroP⟩ : U) = wslot t d a) := Lib.hid (wslot_off hu hq).symm
          clear hu
          go_upto_region 11 with (fail)
          clear d0 d1 d2 d3 d4 z0 z1 z2 z3 z4
          obtain ⟨pb_, hpb⟩ : ∃ p, p = w3.heap.size := ⟨_, rfl⟩
          obtain ⟨w4, hw4⟩ : ∃ w4, w4 = w3.alloc (.cells #[.int .i64 (-1), .int .i64 0, .int .i64 0, .int .i64 0, .string ⟨#[]⟩] 43) := ⟨_, rfl⟩
          have hb4 : Blk w4 pb_ 43 #[.int .i64 (-1), .int .i64 0, .int .i64 0, .int .i64 0, .string ⟨#[]⟩] := by rw [hw4, hpb]; exact Blk.new _ _ _
          have hbe : Below w3.heap.size w3 w4 := by rw [hw4]; exact (Below.refl _ _).alloc (Nat.le_refl _) _
          rw [← hw4, ← hpb]
          obtain ⟨⟨d0, d1, d2, d3, d4⟩, _, _, _, _, _⟩ := uberR_facts hb4
          have hbs := bs_uR ((-1)) (0) (0) (0) (⟨#[]⟩) w4
          have HO4 : Hid (OwnU w4 w.heap.size u6 ((List.range a).map (wslot t d)) ∧ Below w.heap.size w w4) := Lib.hid (by
            have b34 := B3.out.trans (hbe.mono B3.out.size)
            exact ⟨HI.out.1.below b34 (Nat.le_refl _), HI.out.2.trans (b34.mono HI.out.2.size)⟩)
          clear hb4 hbe hw4 hpb
          go_wp2_with (at_builtin; refine wpList_app_gL rfl 107 (.tmp 40) (.tmp 42) rfl rfl rfl (fun ty => appU HO4.out.1 ⟨-1, K.zeroP⟩ HLE.out HO4.out.2.size ty) ?_; intro v5 W5 h5; refine of_hid ?_)
          refine Lib.hid ?_
          have H5 : Hid (OwnU W5 w.heap.size v5 ((List.range (a + 1)).map (wslot t d)) ∧ Below w.heap.size w W5) := Lib.hid (by
            rw [List.range_succ, List.map_append, List.map_cons, List.map_nil, ← HV.out]
            exact ⟨h5.1, HO4.out.2.trans h5.2⟩)
          clear h5 hbs d0 d1 d2 d3 d4 HO4
          go_wp2_with fail
          go_roundw
          case rel => exact ⟨a + 1, by omega, by go_num, H5⟩
          case measure => simp [intOf]; omega
      · have HV : Hid ((⟨-1, K.zeroP⟩ : U) = wslot t d a) := Lib.hid (wslot_no hno).symm
        clear hno
        go_upto_region 11 with (fail)
        clear d0 d1 d2 d3 d4 z0 z1 z2 z3 z4
        obtain ⟨pb_, hpb⟩ : ∃ p, p = w3.heap.size := ⟨_, rfl⟩
        obtain ⟨w4, hw4⟩ : ∃ w4, w4 = w3.alloc (.cells #[.int .i64 (-1), .int .i64 0, .int .i64 0, .int .i64 0, .string ⟨#[]⟩] 43) := ⟨_, rfl⟩
        have hb4 : Blk w4 pb_ 43 #[.int .i64 (-1), .int .i64 0, .int .i64 0, .int .i64 0, .string ⟨#[]⟩] := by rw [hw4, hpb]; exact Blk.new _ _ _
        have hbe : Below w3.heap.size w3 w4 := by rw [hw4]; exact (Below.refl _ _).alloc (Nat.le_refl _) _
        rw [← hw4, ← hpb]
        obtain ⟨⟨d0, d1, d2, d3, d4⟩, _, _, _, _, _⟩ := uberR_facts hb4
        have hbs := bs_uR ((-1)) (0) (0) (0) (⟨#[]⟩) w4
        have HO4 : Hid (OwnU w4 w.heap.size u6 ((List.range a).map (wslot t d)) ∧ Below w.heap.size w w4) := Lib.hid (by
          have b34 := B3.out.trans (hbe.mono B3.out.size)
          exact ⟨HI.out.1.below b34 (Nat.le_refl _), HI.out.2.trans (b34.mono HI.out.2.size)⟩)
        clear hb4 hbe hw4 hpb
        go_wp2_with (at_builtin; refine wpList_app_gL rfl 107 (.tmp 40) (.tmp 42) rfl rfl rfl (fun ty => appU HO4.out.1 ⟨-1, K.zeroP⟩ HLE.out HO4.out.2.size ty) ?_; intro v5 W5 h5; refine of_hid ?_)
        refine Lib.hid ?_
        have H5 : Hid (OwnU W5 w.heap.size v5 ((List.range (a + 1)).map (wslot t d)) ∧ Below w.heap.size w W5) := Lib.hid (by
          rw [List.range_succ, List.map_append, List.map_cons, List.map_nil, ← HV.out]
          exact ⟨h5.1, HO4.out.2.trans h5.2⟩)
        clear h5 hbs d0 d1 d2 d3 d4 HO4
        go_wp2_with fail
        go_roundw
        case rel => exact ⟨a + 1, by omega, by go_num, H5⟩
        case measure => simp [intOf]; omega
    · obtain rfl : a = 8 := by omega
      have t1 : ¬ (((8 : Nat) : Int) < 8) := by omega
      go_wp2_with fail
      go_ret2
      exact ⟨⟨_, rfl, HI.out.1⟩, HI.out.2⟩
end
end Lab
end Go.Proofs.YthioanenljpclaaGreatDoor
