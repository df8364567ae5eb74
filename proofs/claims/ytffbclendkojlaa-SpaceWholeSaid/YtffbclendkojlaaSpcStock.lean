/-
  A space beside two rows of numbers: what was taken, and how many cells. No conditions beyond those that each theorem types.
-/
import Derived.Test.YtffbclendkojlaaSpcHeld
import Derived.Test.YtffbclendkojlaaNatRow
namespace Go.Proofs.Ytffbclendkojlaa
open Go Go.RowKit
set_option maxRecDepth 100000
set_option linter.unusedVariables false
namespace Sp
/-- what is held: ranges that are apart -/
structure Stock (s : SS) (P : List (Nat × Nat)) : Prop where
  iff : ∀ c, mem (s.S 1) c ↔ ∃ p ∈ P, p.1 ≤ c ∧ c < p.1 + p.2
  apart : P.Pairwise (fun p q => ∀ c, p.1 ≤ c → c < p.1 + p.2 → q.1 ≤ c → c < q.1 + q.2 → False)
  sz : ∀ p ∈ P, 1 ≤ p.2 ∧ p.2 ≤ 9 ∧ p.1 + p.2 ≤ s.cells
section
variable {s : SS} {P : List (Nat × Nat)}
theorem Stock.start (C : Nat) : Stock (allFree C) [] := ⟨fun c => ⟨fun h => absurd ((allFree_mem C c).1 h).1 (by omega), fun ⟨p, hp, _⟩ => by cases hp⟩, .nil, fun p hp => by cases hp⟩
theorem Stock.take (h : Stock s P) (hg : Sp.Good s) {n x : Nat} (hn : 1 ≤ n) (hn9 : n ≤ 9) (hr : rowL n (s.S 0) = some x) : Stock (s.mv 0 1 x (x + n)) (P ++ [(x, n)]) := by
  obtain ⟨hh, hc⟩ := row_has hg hn hr
  have hM := hg.mv_mem (f := 0) (t := 1) (by omega) (by omega) (by omega) (show x < x + n by omega) hh 1 (by omega)
  have hin := (Ris.has (show x < x + n by omega) (hg.ris 0 (by omega))).1 hh
  refine ⟨fun c => ?_, ?_, fun p hp => ?_⟩
  · rw [hM]
    by_cases e : x ≤ c ∧ c < x + n
    · rw [if_pos e]
      exact ⟨fun _ => ⟨(x, n), by simp, e⟩, fun _ => rfl⟩
    · rw [if_neg e, h.iff]
      constructor
      · rintro ⟨p, hp, h1⟩; exact ⟨p, by simp [hp], h1⟩
      · rintro ⟨p, hp, h1⟩
        rcases List.mem_append.1 hp with hp | hp
        · exact ⟨p, hp, h1⟩
        · simp at hp; subst hp; exact absurd h1 e
  · refine List.pairwise_append.2 ⟨h.apart, List.pairwise_singleton _ _, fun p hp q hq c h1 h2 h3 h4 => ?_⟩
    simp at hq
    subst hq
    have h5 := (h.iff c).2 ⟨p, hp, h1, h2⟩
    exact absurd (hg.one 1 0 c (by omega) (by omega) h5 (hin c h3 h4)) (by omega)
  · rcases List.mem_append.1 hp with hp | hp
    · exact h.sz p hp
    · simp at hp; subst hp; exact ⟨hn, hn9, hc⟩
theorem Stock.give (h : Stock s P) (hg : Sp.Good s) {k : Nat} {p : Nat × Nat} (hp : P[k]? = some p) :
    hasL p.1 (p.1 + p.2) (s.S 1) = true ∧ Stock (s.mv 1 2 p.1 (p.1 + p.2)) (P.take k ++ P.drop (k + 1)) ∧ hasL p.1 (p.1 + p.2) ((s.mv 1 2 p.1 (p.1 + p.2)).S 1) = false ∧ 1 ≤ p.2 ∧ p.2 ≤ 9 ∧ p.1 + p.2 ≤ s.cells := by
  obtain ⟨hi, he⟩ := List.getElem?_eq_some_iff.1 hp
  have hmem : p ∈ P := List.mem_of_getElem? hp
  have hsz := h.sz p hmem
  have hpq : p.1 < p.1 + p.2 := by omega
  have hh : hasL p.1 (p.1 + p.2) (s.S 1) = true := (Ris.has hpq (hg.ris 1 (by omega))).2 fun c h1 h2 => (h.iff c).2 ⟨p, hmem, h1, h2⟩
  have hM := hg.mv_mem (f := 1) (t := 2) (by omega) (by omega) (by omega) hpq hh 1 (by omega)
  have hg2 := hg.mv (f := 1) (t := 2) (by omega) (by omega) (by omega) hpq hh
  have hsplit : P = P.take k ++ p :: P.drop (k + 1) := by
    rw [← he, List.getElem_cons_drop, List.take_append_drop]
  have hap := h.apart
  rw [hsplit] at hap
  obtain ⟨a1, a2, a3⟩ := List.pairwise_append.1 hap
  obtain ⟨a4, a5⟩ := List.pairwise_cons.1 a2
  have hno : ∀ q ∈ P.take k ++ P.drop (k + 1), ∀ c, p.1 ≤ c → c < p.1 + p.2 → q.1 ≤ c → c < q.1 + q.2 → False := fun q hq c h1 h2 h3 h4 => by
    rcases List.mem_append.1 hq with hq | hq
    · exact a3 q hq p (by simp) c h3 h4 h1 h2
    · exact a4 q hq c h1 h2 h3 h4
  have hsub : ∀ q ∈ P.take k ++ P.drop (k + 1), q ∈ P := fun q hq => by
    rcases List.mem_append.1 hq with hq | hq
    · exact List.mem_of_mem_take hq
    · exact List.mem_of_mem_drop hq
  refine ⟨hh, ⟨fun c => ?_, ?_, fun q hq => h.sz q (hsub q hq)⟩, ?_, hsz⟩
  · rw [hM]
    by_cases e : p.1 ≤ c ∧ c < p.1 + p.2
    · rw [if_pos e]
      exact ⟨fun h => absurd h (by omega), fun ⟨q, hq, h1, h2⟩ => (hno q hq c e.1 e.2 h1 h2).elim⟩
    · rw [if_neg e, h.iff]
      constructor
      · rintro ⟨q, hq, h1⟩
        rw [hsplit] at hq
        rcases List.mem_append.1 hq with hq | hq
        · exact ⟨q, List.mem_append.2 (.inl hq), h1⟩
        · rcases List.mem_cons.1 hq with rfl | hq
          · exact absurd h1 e
          · exact ⟨q, List.mem_append.2 (.inr hq), h1⟩
      · rintro ⟨q, hq, h1⟩
        exact ⟨q, hsub q hq, h1⟩
  · exact List.pairwise_append.2 ⟨a1, a5, fun q hq r hr => a3 q hq r (by simp [hr])⟩
  · cases hh2 : hasL p.1 (p.1 + p.2) ((s.mv 1 2 p.1 (p.1 + p.2)).S 1) with
    | false => rfl
    | true =>
      have := (Ris.has hpq (hg2.ris 1 (by omega))).1 hh2 p.1 (by omega) hpq
      rw [hM, if_pos ⟨by omega, hpq⟩] at this
      omega
theorem Stock.done (h : Stock s []) (hg : Sp.Good s) : s.settled.S 0 = [(0, s.cells)] ∧ s.settled.S 1 = [] ∧ cnt (s.settled.S 0) = s.cells := by
  have hno : ∀ c, ¬ mem (s.S 1) c := fun c hc => by obtain ⟨p, hp, _⟩ := (h.iff c).1 hc; cases hp
  have h1 : s.S 1 = [] := Ris.uniq (lo' := 0) (hg.ris 1 (by omega)) (m := []) trivial fun c => ⟨fun hc => absurd hc (hno c), fun hc => absurd hc (mem_nil c)⟩
  have hM := hg.settled_all.1 0 (by omega)
  have hr := hg.settled_all.2.2
  have h0 : s.settled.S 0 = [(0, s.cells)] := Ris.uniq (lo' := 0) hr (m := [(0, s.cells)]) ⟨Nat.le_refl _, hg.hc.1, trivial⟩ fun c => by
    rw [hM, if_pos rfl, mem_one]
    constructor
    · rintro (h2 | h2)
      · exact ⟨Nat.zero_le _, hg.in_ 0 (by omega) c h2⟩
      · exact ⟨Nat.zero_le _, hg.in_ 2 (by omega) c h2⟩
    · rintro ⟨_, h2⟩
      obtain ⟨k, hk, h3⟩ := hg.all c h2
      obtain rfl | rfl | rfl : k = 0 ∨ k = 1 ∨ k = 2 := by omega
      · exact .inl h3
      · exact absurd h3 (hno c)
      · exact .inr h3
  refine ⟨h0, by rw [settled_S, if_neg (by omega), if_neg (by omega)]; exact h1, ?_⟩
  rw [h0]
  show s.cells - 0 + 0 = s.cells
  omega
end
open Nr in
/-- a space, and two rows of numbers beside it -/
structure Two2 (O : Nat → Prop) (w : World) (B b m : Nat) (vf vc : Value) (F N : List Nat) (s : SS) : Prop where
  sp : SpO O w b m s
  f : OwnN w B vf F
  c : OwnN w B vc N
  sep : (∀ g, vf.ownBlock = some g → ¬ O g ∧ vc.ownBlock ≠ some g) ∧ (∀ g, vc.ownBlock = some g → ¬ O g)
  ob : (∀ g, O g → B ≤ g) ∧ B ≤ w.heap.size
section
open Nr
variable {O : Nat → Prop} {w w' : World} {B b m : Nat} {vf vc v' : Value} {F N F' N' : List Nat} {s s' : SS}
theorem Two2.space (h : Two2 O w B b m vf vc F N s) (hs : SpO (More O w w') w' b m s') (hf : Frm O w w') : Two2 (More O w w') w' B b m vf vc F N s' := by
  refine ⟨hs, h.f.keep fun g hg => hf.block g (h.f.lt hg).1 (h.sep.1 g hg).1, h.c.keep fun g hg => hf.block g (h.c.lt hg).1 (h.sep.2 g hg), ⟨fun g hg => ⟨More.not (h.sep.1 g hg).1 (h.f.lt hg).1, (h.sep.1 g hg).2⟩, fun g hg => More.not (h.sep.2 g hg) (h.c.lt hg).1⟩, fun g hg => ?_, Nat.le_trans h.ob.2 hf.size⟩
  rcases hg with hg | hg
  · exact h.ob.1 g hg
  · exact Nat.le_trans h.ob.2 hg.1
theorem Two2.below (h : Two2 O w B b m vf vc F N s) (hb : Below w.heap.size w w') : Two2 O w' B b m vf vc F N s :=
  ⟨h.sp.keep hb.size fun g hg => hb.block g (h.sp.1 g hg), h.f.below hb (Nat.le_refl _), h.c.below hb (Nat.le_refl _), h.sep, h.ob.1, Nat.le_trans h.ob.2 hb.size⟩
theorem Two2.setF (h : Two2 O w B b m vf vc F N s) (ho : OwnN w' B v' F') (hg : w.grownBy w' vf.ownBlock) (hv : v'.ownBlock = vf.ownBlock ∨ v'.ownBlock = some w.heap.size) : Two2 O w' B b m v' vc F' N s := by
  refine ⟨h.sp.keep hg.size fun g ho => hg.block g (h.sp.1 g ho) (fun e => (h.sep.1 g e.symm).1 ho), ho, h.c.grown hg (fun g h1 e => (h.sep.1 g e.symm).2 h1), ⟨fun g h1 => ?_, h.sep.2⟩, h.ob.1, Nat.le_trans h.ob.2 hg.size⟩
  rcases hv with hv | hv
  · exact h.sep.1 g (hv ▸ h1)
  · rw [hv] at h1
    injection h1 with h1
    subst h1
    exact ⟨fun ho => by have := h.sp.1 _ ho; omega, fun e => by have := (h.c.lt e).1; omega⟩
theorem Two2.setC (h : Two2 O w B b m vf vc F N s) (ho : OwnN w' B v' N') (hg : w.grownBy w' vc.ownBlock) (hv : v'.ownBlock = vc.ownBlock ∨ v'.ownBlock = some w.heap.size) : Two2 O w' B b m vf v' F N' s := by
  refine ⟨h.sp.keep hg.size fun g ho => hg.block g (h.sp.1 g ho) (fun e => h.sep.2 g e.symm ho), h.f.grown hg (fun g h1 e => (h.sep.1 g h1).2 e.symm), ho, ⟨fun g h1 => ⟨(h.sep.1 g h1).1, fun e => ?_⟩, fun g h1 => ?_⟩, h.ob.1, Nat.le_trans h.ob.2 hg.size⟩
  · rcases hv with hv | hv
    · exact (h.sep.1 g h1).2 (hv ▸ e)
    · rw [hv] at e
      injection e with e
      have := (h.f.lt h1).1
      omega
  · rcases hv with hv | hv
    · exact h.sep.2 g (hv ▸ h1)
    · rw [hv] at h1
      injection h1 with h1
      subst h1
      exact fun ho => by have := h.sp.1 _ ho; omega
/-- a row in memory of its own in the place of one -/
theorem Two2.newF (h : Two2 O w B b m vf vc F N s) (hb : Below w.heap.size w w') (ho : OwnN w' w.heap.size v' F') : Two2 O w' B b m v' vc F' N s := by
  have h1 := h.below hb
  have h2 : OwnN w' B v' F' := by
    refine ⟨ho.1, ho.2.imp id fun ⟨g, cap, cur, e1, e2, e3⟩ => ⟨g, cap, cur, e1, Nat.le_trans h.ob.2 e2, e3⟩⟩
  refine ⟨h1.sp, h2, h1.c, ⟨fun g hg => ?_, h.sep.2⟩, h1.ob⟩
  have := (ho.lt hg).2
  exact ⟨fun ho => by have := h.sp.1 g ho; omega, fun e => by have := (h.c.lt e).1; omega⟩
theorem Two2.newC (h : Two2 O w B b m vf vc F N s) (hb : Below w.heap.size w w') (ho : OwnN w' w.heap.size v' N') : Two2 O w' B b m vf v' F N' s := by
  have h1 := h.below hb
  have h2 : OwnN w' B v' N' := by
    refine ⟨ho.1, ho.2.imp id fun ⟨g, cap, cur, e1, e2, e3⟩ => ⟨g, cap, cur, e1, Nat.le_trans h.ob.2 e2, e3⟩⟩
  refine ⟨h1.sp, h1.f, h2, ⟨fun g hg => ⟨(h.sep.1 g hg).1, fun e => ?_⟩, fun g hg => ?_⟩, h1.ob⟩
  · have := (ho.lt e).2
    have := (h.f.lt hg).1
    omega
  · have := (ho.lt hg).2
    exact fun ho => by have := h.sp.1 g ho; omega
theorem wpList_app1 {w : World} {ops : Array Oper} {rest : List Oper} {o : Oper} {a : Act} {Q : Exit → Act → World → Prop} {B : Nat} {v : Value} {l : List Nat} {x : Nat} (hgd : o.guard = none) (s y : Operand) (ho : o.op = .call { callee := .builtin .append, args := #[s, y], argTypes := #[60, 60] })
    (hs : a.eval s = v) (hy : a.eval y = .slice (some ⟨w.heap.size, 0, none⟩) 1 1) (h : OwnN w B v l) (hl : l.length ≤ 1000) (hb : B ≤ w.heap.size)
    (hK : ∀ v' w', OwnN w' B v' (l ++ [x]) → (w.alloc (.cells #[.int .i64 (x : Int)] 3)).grownBy w' v.ownBlock → (v'.ownBlock = v.ownBlock ∨ v'.ownBlock = some (w.alloc (.cells #[.int .i64 (x : Int)] 3)).heap.size) → wpList Try.prog ops Q rest (a.put o.dst v') w') :
    wpList Try.prog ops Q (o :: rest) a (w.alloc (.cells #[.int .i64 (x : Int)] 3)) := by
  refine wpList_plain hgd fun K hK' => ?_
  have hb1 : Below w.heap.size w (w.alloc (.cells #[.int .i64 (x : Int)] 3)) := (Below.refl _ _).alloc (Nat.le_refl _) _
  obtain ⟨v', w', hrun, h1, h2, h3⟩ := run_app o.type (h.below hb1 (Nat.le_refl _)) (m := [x]) (b := w.heap.size) (o := 0) (n := 1) (c := 1) rfl (fun j y hj => by
    match j, hj with
    | 0, hj => injection hj with hj; subst hj; exact (Blk.new w _ _).cell 0
    | j + 1, hj => simp at hj) (by simp; omega) (Nat.le_trans hb hb1.size)
  exact Gr.wp_append 60 s y ho hs hy hrun (hK' _ _ (hK v' w' h1 h2 h3))
end
end Sp
end Go.Proofs.Ytffbclendkojlaa
