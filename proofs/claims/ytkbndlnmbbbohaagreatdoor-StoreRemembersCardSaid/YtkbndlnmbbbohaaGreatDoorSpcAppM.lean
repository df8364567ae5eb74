/-
 Rising ranges of cells, as plain mathematics: what is in them, what is added, taken out, looked for. No conditions beyond those that each theorem types.
-/
import Derived.KernelRfl
import Derived.Test.YtkbndlnmbbbohaaGreatDoorRackMapM
import Derived.Laws.IdiomCopy
import Derived.Deep.AppendSrc
import Derived.Lib.AppendZerosOnto
import Derived.Lib.Overlaps
namespace Go.Proofs.YtkbndlnmbbbohaaGreatDoor.Sp
set_option maxRecDepth 100000
set_option linter.unusedVariables false
abbrev Rg := Nat × Nat
def Ris : Nat → List Rg → Prop
 | _, [] => True
 | lo, r :: l => lo ≤ r.1 ∧ r.1 < r.2 ∧ Ris (r.2 + 1) l
def mem (l : List Rg) (c : Nat) : Prop := ∃ r ∈ l, r.1 ≤ c ∧ c < r.2
theorem mem_nil (c : Nat) : ¬ mem [] c := fun ⟨r, h, _⟩ => by cases h
theorem mem_cons (r : Rg) (l : List Rg) (c : Nat) : mem (r :: l) c ↔ (r.1 ≤ c ∧ c < r.2) ∨ mem l c := by
 constructor
 ·rintro ⟨q, hq, h⟩
  rcases List.mem_cons.1 hq with rfl | hq
  ·exact .inl h
  ·exact .inr ⟨q, hq, h⟩
 ·rintro (h | ⟨q, hq, h⟩)
  ·exact ⟨r, by simp, h⟩
  ·exact ⟨q, by simp [hq], h⟩
theorem Ris.mono {lo lo' : Nat} : ∀ {l}, Ris lo l → lo' ≤ lo → Ris lo' l
 | [], _, _ => trivial
 | _ :: _, h, e => ⟨Nat.le_trans e h.1, h.2⟩
theorem Ris.ge {lo : Nat} : ∀ {l}, Ris lo l → ∀ {c}, mem l c → lo ≤ c
 | [], _, _, h => absurd h (mem_nil _)
 | r :: l, h, c, hm => by
  rcases (mem_cons r l c).1 hm with h1 | h1
  ·exact Nat.le_trans h.1 h1.1
  ·have := Ris.ge h.2.2 h1
   have h0 := h.1
   have h2 := h.2.1
   omega
theorem Ris.uniq {lo lo' : Nat} : ∀ {l m : List Rg}, Ris lo l → Ris lo' m → (∀ c, mem l c ↔ mem m c) → l = m
 | [], [], _, _, _ => rfl
 | [], r :: m, _, h, e => absurd ((e r.1).2 ((mem_cons r m r.1).2 (.inl ⟨Nat.le_refl _, h.2.1⟩))) (mem_nil _)
 | r :: l, [], h, _, e => absurd ((e r.1).1 ((mem_cons r l r.1).2 (.inl ⟨Nat.le_refl _, h.2.1⟩))) (mem_nil _)
 | r :: l, q :: m, h, k, e => by
  have key : ∀ {a b : Nat × Nat} {l m : List Rg}, Ris (a.2 + 1) l → a.1 < a.2 → Ris (b.2 + 1) m → b.1 < b.2 → (∀ c, mem (a :: l) c → mem (b :: m) c) → b.1 ≤ a.1 := fun {a b l m} h1 h2 h3 h4 he => by
   rcases (mem_cons b m a.1).1 (he a.1 ((mem_cons a l a.1).2 (.inl ⟨Nat.le_refl _, h2⟩))) with h | h
   ·exact h.1
   ·have := h3.ge h; omega
  have e1 : r.1 = q.1 := Nat.le_antisymm (key k.2.2 k.2.1 h.2.2 h.2.1 fun c hc => (e c).2 hc) (key h.2.2 h.2.1 k.2.2 k.2.1 fun c hc => (e c).1 hc)
  have key2 : ∀ {a b : Nat × Nat} {l m : List Rg}, a.1 = b.1 → Ris (a.2 + 1) l → a.1 < a.2 → Ris (b.2 + 1) m → b.1 < b.2 → (∀ c, mem (a :: l) c → mem (b :: m) c) → a.2 ≤ b.2 := fun {a b l m} h0 h1 h2 h3 h4 he => by
   by_cases hlt : b.2 < a.2
   ·rcases (mem_cons b m b.2).1 (he b.2 ((mem_cons a l b.2).2 (.inl ⟨by omega, hlt⟩))) with h | h
    ·omega
    ·have := h3.ge h; omega
   ·omega
  have e2 : r.2 = q.2 := Nat.le_antisymm (key2 e1 h.2.2 h.2.1 k.2.2 k.2.1 fun c hc => (e c).1 hc) (key2 e1.symm k.2.2 k.2.1 h.2.2 h.2.1 fun c hc => (e c).2 hc)
  have er : r = q := Prod.ext e1 e2
  subst er
  refine congrArg (r :: ·) (Ris.uniq h.2.2 k.2.2 fun c => ?_)
  constructor
  ·intro hc
   have := h.2.2.ge hc
   rcases (mem_cons r m c).1 ((e c).1 ((mem_cons r l c).2 (.inr hc))) with h1 | h1
   ·omega
   ·exact h1
  ·intro hc
   have := k.2.2.ge hc
   rcases (mem_cons r l c).1 ((e c).2 ((mem_cons r m c).2 (.inr hc))) with h1 | h1
   ·omega
   ·exact h1
def pos (x : Nat) : List Rg → Nat
 | [] => 0
 | r :: l => if x ≤ r.2 then 0 else pos x l + 1
theorem pos_le (x : Nat) : ∀ l, pos x l ≤ l.length
 | [] => Nat.le_refl _
 | r :: l => by
  unfold pos
  split
  ·exact Nat.zero_le _
  ·have := pos_le x l
   rw [List.length_cons]
   omega
theorem Ris.ends {lo : Nat} : ∀ {l}, Ris lo l → ∀ r ∈ l, lo < r.2
 | [], _, r, h => by cases h
 | q :: l, h, r, hr => by
  have h1 := h.1
  have h2 := h.2.1
  rcases List.mem_cons.1 hr with rfl | hr
  ·omega
  ·have := h.2.2.ends r hr
   omega
theorem Ris.pos_eq {lo x : Nat} : ∀ {l}, Ris lo l → ∀ i, (∃ r, l[i]? = some r ∧ decide (x ≤ r.2) = true) ↔ (i < l.length ∧ pos x l ≤ i)
 | [], _, i => by simp
 | q :: l, h, i => by
  unfold pos
  match i with
  | 0 =>
   by_cases hx : x ≤ q.2
   ·simp [hx]
   ·simp [hx]
  | i + 1 =>
   have ih := h.2.2.pos_eq (x := x) i
   rw [List.getElem?_cons_succ, ih, List.length_cons]
   by_cases hx : x ≤ q.2
   ·rw [if_pos hx]
    constructor
    ·rintro ⟨h1, h2⟩; exact ⟨by omega, Nat.zero_le _⟩
    ·rintro ⟨h1, _⟩
     have hi : i < l.length := by omega
     refine ih.1 ⟨l[i], List.getElem?_eq_getElem hi, decide_eq_true ?_⟩
     have := h.2.2.ends l[i] (List.getElem_mem hi)
     omega
   ·rw [if_neg hx]
    omega
def hasL (a b : Nat) (l : List Rg) : Bool := match l[pos b l]? with | some r => decide (r.1 ≤ a) | none => false
theorem Ris.has {lo a b : Nat} (hab : a < b) : ∀ {l}, Ris lo l → (hasL a b l = true ↔ ∀ c, a ≤ c → c < b → mem l c)
 | [], _ => by
  constructor
  ·intro h; cases h
  ·intro h; exact absurd (h a (Nat.le_refl _) hab) (mem_nil _)
 | q :: l, h => by
  have h2 := h.2.1
  have ih := h.2.2.has hab
  by_cases hx : b ≤ q.2
  ·have e : hasL a b (q :: l) = decide (q.1 ≤ a) := by unfold hasL pos; rw [if_pos hx]; rfl
   rw [e, decide_eq_true_iff]
   constructor
   ·intro h1 c hc1 hc2
    exact (mem_cons q l c).2 (.inl ⟨by omega, by omega⟩)
   ·intro h1
    rcases (mem_cons q l a).1 (h1 a (Nat.le_refl _) hab) with h3 | h3
    ·exact h3.1
    ·have := h.2.2.ge h3; omega
  ·have e : hasL a b (q :: l) = hasL a b l := by
    have hp : pos b (q :: l) = pos b l + 1 := if_neg hx
    unfold hasL
    rw [hp, List.getElem?_cons_succ]
   rw [e, ih]
   constructor
   ·intro h1 c hc1 hc2
    exact (mem_cons q l c).2 (.inr (h1 c hc1 hc2))
   ·intro h1 c hc1 hc2
    rcases (mem_cons q l c).1 (h1 c hc1 hc2) with h3 | h3
    ·have h4 : mem (q :: l) q.2 := h1 q.2 (by omega) (by omega)
     rcases (mem_cons q l q.2).1 h4 with h5 | h5
     ·omega
     ·have := h.2.2.ge h5; omega
    ·exact h3
def cnt : List Rg → Nat
 | [] => 0
 | r :: l => (r.2 - r.1) + cnt l
def rowL (n : Nat) : List Rg → Option Nat
 | [] => none
 | r :: l => if n ≤ r.2 - r.1 then some r.1 else rowL n l
theorem Ris.row_some {lo n a : Nat} (hn : 0 < n) : ∀ {l}, Ris lo l → rowL n l = some a → (∀ c, a ≤ c → c < a + n → mem l c) ∧ ∀ a', (∀ c, a' ≤ c → c < a' + n → mem l c) → a ≤ a'
 | [], _, h => by cases h
 | q :: l, h, hr => by
  have h2 := h.2.1
  have step : ∀ a', (∀ c, a' ≤ c → c < a' + n → mem (q :: l) c) → (q.1 ≤ a' ∧ a' + n ≤ q.2) ∨ (∀ c, a' ≤ c → c < a' + n → mem l c) := fun a' hall => by
   by_cases hin : q.1 ≤ a' ∧ a' < q.2
   ·refine .inl ⟨hin.1, ?_⟩
    by_cases hle : a' + n ≤ q.2
    ·exact hle
    ·rcases (mem_cons q l q.2).1 (hall q.2 (by omega) (by omega)) with h5 | h5
     ·omega
     ·have := h.2.2.ge h5; omega
   ·refine .inr fun c hc1 hc2 => ?_
    have h0 : mem l a' := by
     rcases (mem_cons q l a').1 (hall a' (Nat.le_refl _) (by omega)) with h5 | h5
     ·exact absurd h5 hin
     ·exact h5
    have h6 := h.2.2.ge h0
    rcases (mem_cons q l c).1 (hall c hc1 hc2) with h5 | h5
    ·omega
    ·exact h5
  unfold rowL at hr
  by_cases hx : n ≤ q.2 - q.1
  ·rw [if_pos hx] at hr
   injection hr with hr
   subst hr
   refine ⟨fun c h3 h4 => (mem_cons q l c).2 (.inl ⟨h3, by omega⟩), fun a' hall => ?_⟩
   exact Ris.ge (lo := q.1) (l := q :: l) ⟨Nat.le_refl _, h.2⟩ (hall a' (Nat.le_refl _) (by omega))
  ·rw [if_neg hx] at hr
   obtain ⟨g1, g2⟩ := h.2.2.row_some hn hr
   refine ⟨fun c h3 h4 => (mem_cons q l c).2 (.inr (g1 c h3 h4)), fun a' hall => ?_⟩
   rcases step a' hall with h5 | h5
   ·omega
   ·exact g2 a' h5
/-! ### a range more -/
def leftL (a i : Nat) (l : List Rg) : Nat × Nat := match l[i]? with | some r => if r.2 = a then (r.1, i + 1) else (a, i) | none => (a, i)
def rightL (b j : Nat) (l : List Rg) : Nat × Nat := match l[j]? with | some r => if r.1 = b then (r.2, j + 1) else (b, j) | none => (b, j)
def withL (a b : Nat) (l : List Rg) : List Rg :=
 l.take (pos a l) ++ ((leftL a (pos a l) l).1, (rightL b (leftL a (pos a l) l).2 l).1) :: l.drop (rightL b (leftL a (pos a l) l).2 l).2
theorem leftL_succ (a i : Nat) (q : Rg) (l : List Rg) : leftL a (i + 1) (q :: l) = ((leftL a i l).1, (leftL a i l).2 + 1) := by
 unfold leftL
 rw [List.getElem?_cons_succ]
 cases l[i]? with
 | none => rfl
 | some r =>
  dsimp only
  split <;> rfl
theorem rightL_succ (b j : Nat) (q : Rg) (l : List Rg) : rightL b (j + 1) (q :: l) = ((rightL b j l).1, (rightL b j l).2 + 1) := by
 unfold rightL
 rw [List.getElem?_cons_succ]
 cases l[j]? with
 | none => rfl
 | some r =>
  dsimp only
  split <;> rfl
theorem withL_cons {a b : Nat} {q : Rg} {l : List Rg} (h : ¬ a ≤ q.2) : withL a b (q :: l) = q :: withL a b l := by
 have hp : pos a (q :: l) = pos a l + 1 := if_neg h
 unfold withL
 rw [hp, leftL_succ, rightL_succ]
 rfl
theorem Ris.with_ {lo a b : Nat} (hab : a < b) : ∀ {l}, Ris lo l → lo ≤ a → (∀ c, a ≤ c → c < b → ¬ mem l c) → Ris lo (withL a b l) ∧ (∀ c, mem (withL a b l) c ↔ mem l c ∨ (a ≤ c ∧ c < b)) ∧ cnt (withL a b l) = cnt l + (b - a)
 | [], _, hlo, _ => by
  refine ⟨⟨hlo, hab, trivial⟩, fun c => ?_, ?_⟩
  ·show mem [(a, b)] c ↔ _
   rw [mem_cons]
   constructor
   ·rintro (h | h)
    ·exact .inr h
    ·exact .inl h
   ·rintro (h | h)
    ·exact .inr h
    ·exact .inl h
  ·show b - a + 0 = 0 + (b - a)
   omega
 | q :: l, h, hlo, hn => by
  have h1 := h.1
  have h2 := h.2.1
  by_cases hx : a ≤ q.2
  ·have hp : pos a (q :: l) = 0 := if_pos hx
   have hright : ∀ (m : List Rg), Ris (b + 1) m ∨ (∃ r m', m = r :: m' ∧ b ≤ r.1 ∧ Ris (r.1) (r :: m')) → ∀ a0, a0 < b → ∃ B m2, ((a0, (rightL b 0 m).1) :: m.drop (rightL b 0 m).2) = (a0, B) :: m2 ∧ b ≤ B ∧ Ris (B + 1) m2 ∧ (∀ c, (a0 ≤ c ∧ c < B) ∨ mem m2 c ↔ (a0 ≤ c ∧ c < b) ∨ mem m c) ∧ (B - a0) + cnt m2 = (b - a0) + cnt m := fun m hm a0 ha0 => by
    match m, hm with
    | [], _ => exact ⟨b, [], rfl, Nat.le_refl _, trivial, fun c => Iff.rfl, rfl⟩
    | r :: m', hm =>
     have hr : b ≤ r.1 ∧ r.1 < r.2 ∧ Ris (r.2 + 1) m' := by
      rcases hm with hm | ⟨r', m'', e, hb, hm⟩
      ·exact ⟨by have := hm.1; omega, hm.2⟩
      ·injection e with e1 e2
       subst e1 e2
       exact ⟨hb, hm.2⟩
     by_cases e : r.1 = b
     ·have er : rightL b 0 (r :: m') = (r.2, 1) := by unfold rightL; simp [e]
      rw [er]
      refine ⟨r.2, m', rfl, by omega, hr.2.2, fun c => ?_, ?_⟩
      ·rw [mem_cons]
       constructor
       ·rintro (h | h)
        ·by_cases hc : c < b
         ·exact .inl ⟨h.1, hc⟩
         ·exact .inr (.inl ⟨by omega, h.2⟩)
        ·exact .inr (.inr h)
       ·rintro (h | h | h)
        ·exact .inl ⟨h.1, by omega⟩
        ·exact .inl ⟨by omega, h.2⟩
        ·exact .inr h
      ·show _ = _ + ((r.2 - r.1) + cnt m')
       omega
     ·have er : rightL b 0 (r :: m') = (b, 0) := by unfold rightL; simp [e]
      rw [er]
      exact ⟨b, r :: m', rfl, Nat.le_refl _, ⟨by omega, hr.2⟩, fun c => Iff.rfl, rfl⟩
   by_cases e : q.2 = a
   ·have el : leftL a 0 (q :: l) = (q.1, 1) := by unfold leftL; simp [e]
    have hw : withL a b (q :: l) = (q.1, (rightL b 0 l).1) :: l.drop (rightL b 0 l).2 := by
     unfold withL
     rw [hp, el, rightL_succ]
     rfl
    have hl : Ris (b + 1) l ∨ (∃ r m', l = r :: m' ∧ b ≤ r.1 ∧ Ris (r.1) (r :: m')) := by
     match l, h, hn with
     | [], _, _ => exact .inl trivial
     | r :: m', h, hn =>
      have hr := h.2.2
      refine .inr ⟨r, m', rfl, ?_, Nat.le_refl _, hr.2⟩
      by_cases hle : b ≤ r.1
      ·exact hle
      ·exact absurd ((mem_cons q _ r.1).2 (.inr ((mem_cons r m' r.1).2 (.inl ⟨Nat.le_refl _, hr.2.1⟩)))) (hn r.1 (by have := hr.1; omega) (by omega))
    obtain ⟨B, m2, g1, g2, g3, g4, g5⟩ := hright l hl q.1 (by omega)
    rw [hw, g1]
    refine ⟨⟨h1, by show q.1 < B; omega, g3⟩, fun c => ?_, ?_⟩
    ·rw [mem_cons, mem_cons]
     show (q.1 ≤ c ∧ c < B) ∨ mem m2 c ↔ _
     rw [g4]
     constructor
     ·rintro (hc | hc)
      ·by_cases hq : c < q.2
       ·exact .inl (.inl ⟨hc.1, hq⟩)
       ·exact .inr ⟨by omega, hc.2⟩
      ·exact .inl (.inr hc)
     ·rintro ((hc | hc) | hc)
      ·exact .inl ⟨hc.1, by omega⟩
      ·exact .inr hc
      ·exact .inl ⟨by omega, hc.2⟩
    ·show (B - q.1) + cnt m2 = ((q.2 - q.1) + cnt l) + (b - a)
     omega
   ·have el : leftL a 0 (q :: l) = (a, 0) := by unfold leftL; simp [e]
    have hw : withL a b (q :: l) = (a, (rightL b 0 (q :: l)).1) :: (q :: l).drop (rightL b 0 (q :: l)).2 := by
     unfold withL
     rw [hp, el]
     rfl
    have hbq : b ≤ q.1 := by
     by_cases hle : b ≤ q.1
     ·exact hle
     ·by_cases haq : a ≤ q.1
      ·exact absurd ((mem_cons q l q.1).2 (.inl ⟨Nat.le_refl _, h2⟩)) (hn q.1 haq (by omega))
      ·exact absurd ((mem_cons q l a).2 (.inl ⟨by omega, by omega⟩)) (hn a (Nat.le_refl _) hab)
    obtain ⟨B, m2, g1, g2, g3, g4, g5⟩ := hright (q :: l) (.inr ⟨q, l, rfl, hbq, Nat.le_refl _, h.2⟩) a hab
    rw [hw, g1]
    refine ⟨⟨hlo, by show a < B; omega, g3⟩, fun c => ?_, ?_⟩
    ·rw [mem_cons]
     show (a ≤ c ∧ c < B) ∨ mem m2 c ↔ _
     rw [g4]
     exact Or.comm
    ·show (B - a) + cnt m2 = cnt (q :: l) + (b - a)
     omega
  ·rw [withL_cons hx]
   obtain ⟨g1, g2, g3⟩ := Ris.with_ hab h.2.2 (by omega) fun c hc1 hc2 hm => hn c hc1 hc2 ((mem_cons q l c).2 (.inr hm))
   refine ⟨⟨h1, h2, g1⟩, fun c => ?_, ?_⟩
   ·rw [mem_cons, mem_cons, g2]
    exact or_assoc.symm
   ·show (q.2 - q.1) + cnt (withL a b l) = ((q.2 - q.1) + cnt l) + (b - a)
    omega
/-! ### a range less -/
def restL (p q a b : Nat) : List Rg := (if p < a then [(p, a)] else []) ++ (if b < q then [(b, q)] else [])
def outL (a b : Nat) (l : List Rg) : List Rg := match l[pos b l]? with | some r => l.take (pos b l) ++ (restL r.1 r.2 a b ++ l.drop (pos b l + 1)) | none => l
theorem outL_cons {a b : Nat} {q : Rg} {l : List Rg} (h : ¬ b ≤ q.2) : outL a b (q :: l) = q :: outL a b l := by
 have hp : pos b (q :: l) = pos b l + 1 := if_neg h
 unfold outL
 rw [hp, List.getElem?_cons_succ]
 cases l[pos b l]? with
 | none => rfl
 | some r => rfl
theorem Ris.out_ {lo a b : Nat} (hab : a < b) : ∀ {l}, Ris lo l → hasL a b l = true → Ris lo (outL a b l) ∧ (∀ c, mem (outL a b l) c ↔ mem l c ∧ ¬ (a ≤ c ∧ c < b)) ∧ cnt (outL a b l) + (b - a) = cnt l
 | [], _, h => by cases h
 | q :: l, h, hh => by
  have h1 := h.1
  have h2 := h.2.1
  by_cases hx : b ≤ q.2
  ·have hp : pos b (q :: l) = 0 := if_pos hx
   have ha : q.1 ≤ a := by
    unfold hasL at hh
    rw [hp] at hh
    simpa using hh
   have hw : outL a b (q :: l) = restL q.1 q.2 a b ++ l := by
    unfold outL
    rw [hp]
    rfl
   rw [hw]
   have hl : ∀ c, mem l c → q.2 < c := fun c hc => h.2.2.ge hc
   unfold restL
   by_cases e1 : q.1 < a
   ·rw [if_pos e1]
    by_cases e2 : b < q.2
    ·rw [if_pos e2]
     refine ⟨⟨h1, e1, by show a + 1 ≤ b; omega, e2, h.2.2⟩, fun c => ?_, ?_⟩
     ·show mem ((q.1, a) :: (b, q.2) :: l) c ↔ _
      rw [mem_cons, mem_cons, mem_cons]
      constructor
      ·rintro (hc | hc | hc)
       ·exact ⟨.inl ⟨hc.1, by have := hc.2; dsimp only at this; omega⟩, fun x => by have := hc.2; dsimp only at this; omega⟩
       ·exact ⟨.inl ⟨by have := hc.1; dsimp only at this; omega, hc.2⟩, fun x => by have := hc.1; dsimp only at this; omega⟩
       ·exact ⟨.inr hc, fun x => by have := hl c hc; omega⟩
      ·rintro ⟨hc | hc, hn⟩
       ·by_cases hca : c < a
        ·exact .inl ⟨hc.1, hca⟩
        ·exact .inr (.inl ⟨by show b ≤ c; omega, hc.2⟩)
       ·exact .inr (.inr hc)
     ·show (a - q.1) + ((q.2 - b) + cnt l) + (b - a) = (q.2 - q.1) + cnt l
      omega
    ·rw [if_neg e2]
     refine ⟨⟨h1, e1, h.2.2.mono (by show a + 1 ≤ q.2 + 1; omega)⟩, fun c => ?_, ?_⟩
     ·show mem ((q.1, a) :: l) c ↔ _
      rw [mem_cons, mem_cons]
      constructor
      ·rintro (hc | hc)
       ·exact ⟨.inl ⟨hc.1, by have := hc.2; dsimp only at this; omega⟩, fun x => by have := hc.2; dsimp only at this; omega⟩
       ·exact ⟨.inr hc, fun x => by have := hl c hc; omega⟩
      ·rintro ⟨hc | hc, hn⟩
       ·exact .inl ⟨hc.1, by show c < a; omega⟩
       ·exact .inr hc
     ·show (a - q.1) + cnt l + (b - a) = (q.2 - q.1) + cnt l
      omega
   ·rw [if_neg e1]
    by_cases e2 : b < q.2
    ·rw [if_pos e2]
     refine ⟨⟨by show lo ≤ b; omega, e2, h.2.2⟩, fun c => ?_, ?_⟩
     ·show mem ((b, q.2) :: l) c ↔ _
      rw [mem_cons, mem_cons]
      constructor
      ·rintro (hc | hc)
       ·exact ⟨.inl ⟨by have := hc.1; dsimp only at this; omega, hc.2⟩, fun x => by have := hc.1; dsimp only at this; omega⟩
       ·exact ⟨.inr hc, fun x => by have := hl c hc; omega⟩
      ·rintro ⟨hc | hc, hn⟩
       ·exact .inl ⟨by show b ≤ c; omega, hc.2⟩
       ·exact .inr hc
     ·show (q.2 - b) + cnt l + (b - a) = (q.2 - q.1) + cnt l
      omega
    ·rw [if_neg e2]
     refine ⟨h.2.2.mono (by omega), fun c => ?_, ?_⟩
     ·show mem l c ↔ _
      rw [mem_cons]
      constructor
      ·intro hc
       exact ⟨.inr hc, fun x => by have := hl c hc; omega⟩
      ·rintro ⟨hc | hc, hn⟩
       ·exact absurd ⟨by omega, by omega⟩ hn
       ·exact hc
     ·show cnt l + (b - a) = (q.2 - q.1) + cnt l
      omega
  ·rw [outL_cons hx]
   have hp : pos b (q :: l) = pos b l + 1 := if_neg hx
   have hh' : hasL a b l = true := by
    unfold hasL at hh ⊢
    rw [hp, List.getElem?_cons_succ] at hh
    exact hh
   obtain ⟨g1, g2, g3⟩ := Ris.out_ hab h.2.2 hh'
   have hge := (h.2.2.has hab).1 hh' a (Nat.le_refl _) hab
   have := h.2.2.ge hge
   refine ⟨⟨h1, h2, g1⟩, fun c => ?_, ?_⟩
   ·rw [mem_cons, mem_cons, g2]
    constructor
    ·rintro (hc | ⟨hc, hn⟩)
     ·exact ⟨.inl hc, fun x => by omega⟩
     ·exact ⟨.inr hc, hn⟩
    ·rintro ⟨hc | hc, hn⟩
     ·exact .inl hc
     ·exact .inr ⟨hc, hn⟩
   ·show (q.2 - q.1) + cnt (outL a b l) + (b - a) = (q.2 - q.1) + cnt l
    omega
theorem Ris.len {lo : Nat} : ∀ {l}, Ris lo l → ∀ {N}, (∀ c, mem l c → c < N) → l.length ≤ N + 1 - lo
 | [], _, N, _ => by simp
 | q :: l, h, N, hN => by
  have h1 := h.1
  have h2 := h.2.1
  have h3 := hN q.1 ((mem_cons q l q.1).2 (.inl ⟨Nat.le_refl _, h2⟩))
  have h4 := hN (q.2 - 1) ((mem_cons q l (q.2 - 1)).2 (.inl ⟨by omega, by omega⟩))
  have ih := h.2.2.len (N := N) fun c hc => hN c ((mem_cons q l c).2 (.inr hc))
  rw [List.length_cons]
  omega
theorem Ris.cnt_le {lo : Nat} : ∀ {l}, Ris lo l → ∀ {N}, (∀ c, mem l c → c < N) → cnt l ≤ N - lo
 | [], _, N, _ => by simp [cnt]
 | q :: l, h, N, hN => by
  have h1 := h.1
  have h2 := h.2.1
  have h4 := hN (q.2 - 1) ((mem_cons q l (q.2 - 1)).2 (.inl ⟨by omega, by omega⟩))
  have ih := h.2.2.cnt_le (N := N) fun c hc => hN c ((mem_cons q l c).2 (.inr hc))
  show (q.2 - q.1) + cnt l ≤ _
  omega
end Go.Proofs.YtkbndlnmbbbohaaGreatDoor.Sp
namespace Go.Proofs.YtkbndlnmbbbohaaGreatDoor
open Go Go.RowKit
set_option maxRecDepth 100000
set_option linter.unusedVariables false
namespace Sp
theorem infoR : (Tryz.prog.info? 115).map (fun i => (i.zero, i.size, i.bytes)) = some (some (.agg #[.int .i64 0, .int .i64 0]), 2, 16) := by kernel_rfl
theorem sizeR (w : World) : (sizeOf 115).run Tryz.prog w = .ok 2 w := by
 obtain ⟨i0, hi, hz0, hz1, hz2⟩ := info_parts infoR
 simp [sizeOf, typeInfo, hi, hz1]
theorem zeroR (w : World) : (zeroValue 115).run Tryz.prog w = .ok (.agg #[.int .i64 0, .int .i64 0]) w := by
 obtain ⟨i0, hi, hz0, hz1, hz2⟩ := info_parts infoR
 simp [zeroValue, typeInfo, hi, hz0]
def rcells : List Rg → List Value
 | [] => []
 | r :: l => .int .i64 (r.1 : Int) :: .int .i64 (r.2 : Int) :: rcells l
theorem rcells_length : ∀ l, (rcells l).length = l.length * 2
 | [] => rfl
 | r :: l => by
  show (rcells l).length + 1 + 1 = (l.length + 1) * 2
  rw [rcells_length l]
  omega
theorem rcells_append : ∀ l m, rcells (l ++ m) = rcells l ++ rcells m
 | [], m => rfl
 | r :: l, m => by
  show _ :: _ :: rcells (l ++ m) = _ :: _ :: (rcells l ++ rcells m)
  rw [rcells_append l m]
theorem rcells_take : ∀ (l : List Rg) (i : Nat), rcells (l.take i) = (rcells l).take (i * 2)
 | [], i => by simp [rcells]
 | r :: l, 0 => rfl
 | r :: l, i + 1 => by
  rw [show (i + 1) * 2 = i * 2 + 1 + 1 by omega]
  show _ :: _ :: rcells (l.take i) = _ :: _ :: (rcells l).take (i * 2)
  rw [rcells_take l i]
theorem rcells_drop : ∀ (l : List Rg) (i : Nat), rcells (l.drop i) = (rcells l).drop (i * 2)
 | [], i => by simp [rcells]
 | r :: l, 0 => rfl
 | r :: l, i + 1 => by
  rw [show (i + 1) * 2 = i * 2 + 1 + 1 by omega]
  show rcells (l.drop i) = (rcells l).drop (i * 2)
  exact rcells_drop l i
theorem rcells_get : ∀ {l : List Rg} {i : Nat} {r : Rg}, l[i]? = some r → (rcells l)[i * 2]? = some (.int .i64 (r.1 : Int)) ∧ (rcells l)[i * 2 + 1]? = some (.int .i64 (r.2 : Int))
 | q :: l, 0, r, h => by
  injection h with h
  subst h
  exact ⟨rfl, rfl⟩
 | q :: l, i + 1, r, h => by
  obtain ⟨h1, h2⟩ := rcells_get (l := l) (i := i) h
  rw [show (i + 1) * 2 = i * 2 + 1 + 1 by omega]
  exact ⟨h1, h2⟩
theorem rcells_one : ∀ (l : List Rg), ∀ v ∈ rcells l, v.oneCell' = true
 | [], v, h => by cases h
 | r :: l, v, h => by
  rcases List.mem_cons.1 h with rfl | h
  ·rfl
  ·rcases List.mem_cons.1 h with rfl | h
   ·rfl
   ·exact rcells_one l v h
def setAll (cs : Array Value) : Nat → List Value → Array Value
 | _, [] => cs
 | o, v :: r => setAll (cs.setIfInBounds o v) (o + 1) r
theorem setAll_size : ∀ (vs : List Value) (cs : Array Value) (o : Nat), (setAll cs o vs).size = cs.size
 | [], _, _ => rfl
 | v :: r, cs, o => by
  unfold setAll
  rw [setAll_size r, Array.size_setIfInBounds]
theorem setAll_get : ∀ (vs : List Value) (cs : Array Value) (o p : Nat), p < cs.size → (setAll cs o vs)[p]? = if o ≤ p ∧ p < o + vs.length then vs[p - o]? else cs[p]?
 | [], cs, o, p, h => by
  rw [if_neg (fun x => by have h1 := x.1; have h2 : p < o + 0 := x.2; omega)]
  rfl
 | v :: r, cs, o, p, h => by
  unfold setAll
  rw [setAll_get r _ _ _ (by rw [Array.size_setIfInBounds]; exact h)]
  by_cases h1 : o + 1 ≤ p ∧ p < o + 1 + r.length
  ·rw [if_pos h1, if_pos (by simp; omega), show p - o = (p - (o + 1)) + 1 by omega, List.getElem?_cons_succ]
  ·rw [if_neg h1]
   by_cases h2 : p = o
   ·subst h2
    rw [if_pos ⟨Nat.le_refl _, by simp⟩, Nat.sub_self, Array.getElem?_setIfInBounds_self_of_lt h]
    rfl
   ·rw [if_neg (by simp; omega), Array.getElem?_setIfInBounds_ne (by omega)]
theorem Blk_setCells {g : Nat} {t : TypeId} : ∀ (vs : List Value) (o : Nat) {w : World} {cs : Array Value}, Blk w g t cs → Blk (w.setCells g o vs) g t (setAll cs o vs)
 | [], _, _, _, h => h
 | v :: r, o, _, _, h => Blk_setCells r (o + 1) (h.set_ o v)
theorem grown_set (w : World) (g i : Nat) (u : Value) : w.grownBy (w.setCell ⟨g, i, none⟩ u) (some g) :=
 ⟨rfl, rfl, rfl, by simp [World.setCell], fun k hk hne => Below.heap_setCell w ⟨g, i, none⟩ u k (fun e => hne (by rw [e]))⟩
theorem grown_setCells (g : Nat) : ∀ (vs : List Value) (o : Nat) (w : World), w.grownBy (w.setCells g o vs) (some g)
 | [], _, w => World.grownBy.refl w _
 | v :: r, o, w => by
  have h1 := grown_set w g o v
  have h2 := grown_setCells g r (o + 1) (w.setCell ⟨g, o, none⟩ v)
  exact ⟨h2.os.trans h1.os, h2.tape.trans h1.tape, h2.output.trans h1.output, Nat.le_trans h1.size h2.size, fun i hi hne => (h2.block i (Nat.lt_of_lt_of_le hi h1.size) hne).trans (h1.block i hi hne)⟩
theorem grown_tr {a b c : World} {g : Nat} (h : a.grownBy b (some g)) (k : b.grownBy c (some g)) : a.grownBy c (some g) :=
 ⟨k.os.trans h.os, k.tape.trans h.tape, k.output.trans h.output, Nat.le_trans h.size k.size, fun i hi hne => (k.block i (Nat.lt_of_lt_of_le hi h.size) hne).trans (h.block i hi hne)⟩
/-! ### what the builtins do -/
theorem run_copy2 (w : World) (ty : TypeId) (b o dLen dCap : Nat) (a : Addr) (sLen sCap : Nat) (cs : List Value) (hn : cs.length = Nat.min sLen dLen * 2)
  (hsrc : ∀ j v, cs[j]? = some v → w.cell? (a.add j) = some v) (hc : ∀ j, j < cs.length → (w.cell? ⟨b, o + j, none⟩).isSome = true) (hf : ∀ j, j < cs.length → w.frozen? ⟨b, o + j, none⟩ = false) (h1 : ∀ v ∈ cs, v.oneCell' = true) :
  (Builtin.copy_ #[46, 46] ty #[.slice (some ⟨b, o, none⟩) dLen dCap, .slice (some a) sLen sCap]).run Tryz.prog w = .ok (goInt (Nat.min sLen dLen)) (w.setCells b o cs) := by
 have hl := run_loadCells_list (P := Tryz.prog) w a cs hsrc
 have hst := run_storeCells_cells (P := Tryz.prog) b o cs 0 w (by simpa using hc) (by simpa using hf) h1
 have hz := sizeR w
 rw [hn] at hl
 simp only [Nat.add_zero] at hst
 simp [Builtin.copy_, run_underlying Tryz.underlying46, Builtin.lenOf, Builtin.firstCells, hz, hl, hst]
theorem run_copy2_none (w : World) (ty : TypeId) (d : Option Addr) (dLen dCap : Nat) : (Builtin.copy_ #[46, 46] ty #[.slice d dLen dCap, .slice none 0 0]).run Tryz.prog w = .ok (goInt 0) w := by
 have hz := sizeR w
 cases d <;> simp [Builtin.copy_, run_underlying Tryz.underlying46, Builtin.lenOf, Builtin.firstCells, hz, storeCells]
theorem zcells (n : Nat) : (Builtin.zeroCells (Value.agg #[.int .i64 0, .int .i64 0]).cells n).toList = List.replicate (n * 2) (.int .i64 0) := by
 simp only [Value.cells, Builtin.zeroCells]
 apply List.ext_getElem
 ·simp
 ·intro i h1 h2
  simp at h1
  simp only [Array.getElem_toList, Array.getElem_ofFn, List.getElem_replicate]
  have : i % 2 = 0 ∨ i % 2 = 1 := by omega
  rcases this with e | e <;> simp [e]
theorem run_clear2 (w : World) (ty : TypeId) (b o n c : Nat) (hc : ∀ j, j < n * 2 → (w.cell? ⟨b, o + j, none⟩).isSome = true) (hf : ∀ j, j < n * 2 → w.frozen? ⟨b, o + j, none⟩ = false) :
  (Builtin.clear_ #[46] ty #[.slice (some ⟨b, o, none⟩) n c]).run Tryz.prog w = .ok (.tuple #[]) (w.setCells b o (List.replicate (n * 2) (.int .i64 0))) := by
 have hst := run_storeCells_cells (P := Tryz.prog) b o (List.replicate (n * 2) (Value.int .i64 0)) 0 w (by simpa using hc) (by simpa using hf) (by intro v hv'; rw [List.eq_of_mem_replicate hv']; rfl)
 have hz := zeroR w
 have hzc := zcells n
 simp only [Nat.add_zero] at hst
 cases n with
 | zero => simp [Builtin.clear_, run_underlying Tryz.underlying46, World.setCells]
 | succ m => simp [Builtin.clear_, run_underlying Tryz.underlying46, hz, hzc, hst]
/-! ### rows -/
def Own (w : World) (base : Nat) (v : Value) (l : List Rg) : Prop :=
 (v = .slice none 0 0 ∧ l = []) ∨ ∃ g cap cur, v = .slice (some ⟨g, 0, none⟩) l.length cap ∧ base ≤ g ∧ Blk w g 115 cur ∧ l.length ≤ cap ∧ cap ≤ maxLen ∧ cur.size = cap * 2 ∧ ∀ j, j < l.length * 2 → cur[j]? = (rcells l)[j]?
def Rd (w : World) (A : Option Addr) (l : List Rg) : Prop := l = [] ∨ ∃ b o, A = some ⟨b, o, none⟩ ∧ b < w.heap.size ∧ ∀ j v, (rcells l)[j]? = some v → w.cell? ⟨b, o + j, none⟩ = some v
section
variable {w w' : World} {base : Nat} {v : Value} {l : List Rg}
theorem Own.nil (w : World) (base : Nat) : Own w base (.slice none 0 0) [] := .inl ⟨rfl, rfl⟩
theorem Own.keep (h : Own w base v l) (hk : ∀ g, v.ownBlock = some g → w'.heap[g]? = w.heap[g]?) : Own w' base v l := by
 rcases h with h | ⟨g, cap, cur, rfl, hg, hb, h3⟩
 ·exact .inl h
 ·exact .inr ⟨g, cap, cur, rfl, hg, (hk g rfl).trans hb, h3⟩
theorem Own.lt (h : Own w base v l) {g : Nat} (hg : v.ownBlock = some g) : g < w.heap.size ∧ base ≤ g := by
 rcases h with ⟨rfl, _⟩ | ⟨g', cap, cur, rfl, hb, hblk, _⟩
 ·simp [Value.ownBlock] at hg
 ·simp [Value.ownBlock] at hg
  subst hg
  exact ⟨hblk.lt, hb⟩
theorem Own.below {B : Nat} (h : Own w base v l) (hk : Below B w w') (hB : w.heap.size ≤ B) : Own w' base v l := h.keep fun g hg => hk.block g (by have := (h.lt hg).1; omega)
theorem Own.grown {row : Option Nat} (h : Own w base v l) (hk : w.grownBy w' row) (hne : ∀ g, v.ownBlock = some g → some g ≠ row) : Own w' base v l := h.keep fun g hg => hk.block g (h.lt hg).1 (hne g hg)
theorem Own.base_ {base' : Nat} (h : Own w base v l) (hb : base' ≤ base) : Own w base' v l := by
 rcases h with h | ⟨g, cap, cur, rfl, hg, h3⟩
 ·exact .inl h
 ·exact .inr ⟨g, cap, cur, rfl, Nat.le_trans hb hg, h3⟩
theorem Own.shape (h : Own w base v l) : ∃ A c, v = .slice A l.length c ∧ Rd w A l ∧ l.length ≤ c ∧ c ≤ maxLen ∧ (A = none → c = 0) := by
 rcases h with ⟨rfl, rfl⟩ | ⟨g, cap, cur, rfl, hg, hb, h1, h2, h3, h4⟩
 ·exact ⟨none, 0, rfl, .inl rfl, Nat.le_refl _, by unfold maxLen; omega, fun _ => rfl⟩
 ·exact ⟨_, _, rfl, .inr ⟨g, 0, rfl, hb.lt, fun j u hj => by
   have hlt : j < l.length * 2 := by have := (List.getElem?_eq_some_iff.1 hj).1; rw [rcells_length] at this; exact this
   rw [Nat.zero_add, hb.cell, h4 j hlt]
   exact hj⟩, h1, h2, fun e => by cases e⟩
theorem Own.take {g n c : Nat} (h : Own w base (.slice (some ⟨g, 0, none⟩) n c) l) {i : Nat} (hi : i ≤ l.length) : Own w base (.slice (some ⟨g, 0, none⟩) i c) (l.take i) := by
 rcases h with ⟨e, _⟩ | ⟨g', cap, cur, e, hg, hb, h1, h2, h3, h4⟩
 ·cases e
 ·injection e with e1 e2 e3
  injection e1 with e1
  injection e1 with e1 _ _
  subst e1 e2 e3
  have hl : (l.take i).length = i := by rw [List.length_take]; omega
  refine .inr ⟨g, c, cur, by rw [hl], hg, hb, by omega, h2, h3, fun j hj => ?_⟩
  rw [hl] at hj
  rw [h4 j (by omega), rcells_take, List.getElem?_take_of_lt hj]
theorem Own.set {g n c : Nat} {m : List Rg} {vs : List Value} {o k : Nat} (h : Own w base (.slice (some ⟨g, 0, none⟩) n c) l) (hk : k = m.length) (hm : m.length ≤ c)
  (he : ∀ cur : Array Value, cur.size = c * 2 → (∀ j, j < l.length * 2 → cur[j]? = (rcells l)[j]?) → ∀ j, j < m.length * 2 → (if o ≤ j ∧ j < o + vs.length then vs[j - o]? else cur[j]?) = (rcells m)[j]?) :
  Own (w.setCells g o vs) base (.slice (some ⟨g, 0, none⟩) k c) m := by
 rcases h with ⟨e, _⟩ | ⟨g', cap, cur, e, hg, hb, h1, h2, h3, h4⟩
 ·cases e
 ·injection e with e1 e2 e3
  injection e1 with e1
  injection e1 with e1 _ _
  subst e1 e2 e3 hk
  refine .inr ⟨g, c, setAll cur o vs, rfl, hg, Blk_setCells vs o hb, hm, h2, by rw [setAll_size]; exact h3, fun j hj => ?_⟩
  rw [setAll_get vs cur o j (by omega)]
  exact he cur h3 h4 j hj
theorem Own.room {g n c : Nat} (h : Own w base (.slice (some ⟨g, 0, none⟩) n c) l) : (∀ j, j < c * 2 → (w.cell? ⟨g, j, none⟩).isSome = true) ∧ (∀ j, w.frozen? ⟨g, j, none⟩ = false) ∧ g < w.heap.size ∧ base ≤ g ∧ n = l.length ∧ n ≤ c ∧ c ≤ maxLen ∧ (∀ j v, (rcells l)[j]? = some v → w.cell? ⟨g, j, none⟩ = some v) ∧ ∃ k, w.shape? g = some (115, k) ∧ k = c * 2 := by
 rcases h with ⟨e, _⟩ | ⟨g', cap, cur, e, hg, hb, h1, h2, h3, h4⟩
 ·cases e
 ·injection e with e1 e2 e3
  injection e1 with e1
  injection e1 with e1 _ _
  subst e1 e2 e3
  refine ⟨fun j hj => by rw [hb.cell, Array.getElem?_eq_getElem (by omega)]; rfl, fun j => hb.frozen j, hb.lt, hg, rfl, h1, h2, fun j u hj => ?_, ?_⟩
  ·have hlt : j < l.length * 2 := by have := (List.getElem?_eq_some_iff.1 hj).1; rw [rcells_length] at this; exact this
   rw [hb.cell, h4 j hlt]
   exact hj
  ·refine ⟨cur.size, ?_, h3⟩
   unfold Blk at hb
   simp [World.shape?, hb]
end
end Sp
end Go.Proofs.YtkbndlnmbbbohaaGreatDoor
namespace Go.Proofs.YtkbndlnmbbbohaaGreatDoor
open Go Go.RowKit
set_option maxRecDepth 100000
set_option linter.unusedVariables false
namespace Sp
def Sr (w : World) (x : Value) (m : List Rg) : Prop := Src Tryz.prog 2 46 x m.length (rcells m) w
theorem Sr.nil (w : World) : Sr w (.slice none 0 0) [] := Src.ofNil w Tryz.underlying46 0
theorem Sr.of {w : World} {b o c : Nat} {m : List Rg} (h : ∀ j v, (rcells m)[j]? = some v → w.cell? ⟨b, o + j, none⟩ = some v) : Sr w (.slice (some ⟨b, o, none⟩) m.length c) m :=
 Src.ofSlice w Tryz.underlying46 ⟨b, o, none⟩ m.length c (rcells m) (rcells_length m) (fun j u hj => by rw [add_plain]; exact h j u hj) (rcells_one m)
theorem own_new {W : World} {l : List Rg} {k : Nat} {xs : Array Value} (hx : xs = (rcells l).toArray) (hm : l.length + k ≤ maxLen) :
  Own (W.alloc (.cells (xs ++ Builtin.zeroCells (Value.agg #[.int .i64 0, .int .i64 0]).cells k) 115)) W.heap.size (.slice (some ⟨W.heap.size, 0, none⟩) l.length (l.length + k)) l := by
 subst hx
 refine .inr ⟨W.heap.size, l.length + k, _, rfl, Nat.le_refl _, Blk.new W _ _, Nat.le_add_right _ _, hm, ?_, fun j hj => ?_⟩
 ·have hz1 : (Value.agg #[.int .i64 0, .int .i64 0]).cells.size = 2 := rfl
  simp only [Array.size_append, List.size_toArray, size_zeroCells, hz1, rcells_length]
  omega
 ·rw [Array.getElem?_append_left (by simp [rcells_length]; omega)]
  simp
theorem own_cat {n m : Nat} {l k : List Rg} {g c : Nat} {w : World} {base : Nat} (h : Own w base (.slice (some ⟨g, 0, none⟩) n c) l) (hm : l.length + k.length ≤ c) :
  Own (w.setCells g (l.length * 2) (rcells k)) base (.slice (some ⟨g, 0, none⟩) (l.length + k.length) c) (l ++ k) := by
 refine h.set (by rw [List.length_append]) (by rw [List.length_append]; exact hm) fun cur hs he j hj => ?_
 rw [List.length_append] at hj
 rw [rcells_append, rcells_length]
 by_cases h1 : j < l.length * 2
 ·rw [if_neg (by omega), he j h1, List.getElem?_append_left (by rw [rcells_length]; exact h1)]
 ·rw [if_pos ⟨by omega, by omega⟩, List.getElem?_append_right (by rw [rcells_length]; omega), rcells_length]
theorem run_append_rg {w : World} {base : Nat} {v x : Value} {l m : List Rg} (ty : TypeId) (h : Own w base v l) (hs : Sr w x m) (hl : l.length + m.length ≤ 1000000) (hb : base ≤ w.heap.size) :
  ∃ v' w', (Builtin.append_ #[46, 46] ty #[v, x]).run Tryz.prog w = .ok v' w' ∧ Own w' base v' (l ++ m) ∧ w.grownBy w' v.ownBlock ∧ (v'.ownBlock = v.ownBlock ∨ v'.ownBlock = some w.heap.size) := by
 obtain ⟨i0, hi, hz0, hz1, hz2⟩ := info_parts infoR
 have hgrow : ∀ (A : Option Addr) (n c : Nat), n = l.length → c ≤ maxLen → (Builtin.firstCells i0.size n (.slice A n c)).run Tryz.prog w.drew = .ok (rcells l).toArray w.drew → c < n + m.length →
   ∃ v' w', (Builtin.append_ #[46, 46] ty #[.slice A n c, x]).run Tryz.prog w = .ok v' w' ∧ Own w' base v' (l ++ m) ∧ w.grownBy w' (Value.slice A n c).ownBlock ∧ (v'.ownBlock = (Value.slice A n c).ownBlock ∨ v'.ownBlock = some w.heap.size) := fun A n c hn hcm hold hlt => by
  have hr := run_append_grow_src (P := Tryz.prog) w 46 46 ty 115 i0 _ Tryz.underlying46 hi hz0 A n c (rcells l) hold x m.length (rcells m) (by rw [hz1]; exact hs) hlt (by omega) (by rw [hz2]; exact growslice_fits hlt (by omega))
  have hge := grownCap_ge w (n + m.length) c 115
  have hle : grownCap w (n + m.length) c 115 ≤ maxLen := grownCap_le_maxLen w (n + m.length) c 115 (by unfold maxLen; omega)
  obtain ⟨k, hk⟩ : ∃ k, grownCap w (n + m.length) c 115 = n + m.length + k := ⟨_, (Nat.add_sub_cancel' hge).symm⟩
  rw [hk, show n + m.length + k - (n + m.length) = k by omega] at hr
  have hlen : (l ++ m).length = n + m.length := by rw [List.length_append, hn]
  have ho := own_new (W := w.drew) (l := l ++ m) (k := k) (xs := (rcells l ++ rcells m).toArray) (by rw [rcells_append]) (by rw [hlen]; omega)
  rw [hlen] at ho
  exact ⟨_, _, hr, ho.base_ hb, ⟨rfl, rfl, rfl, by simp, fun k hk _ => Below.heap_alloc w.drew _ k hk⟩, .inr rfl⟩
 rcases h with ⟨rfl, rfl⟩ | ⟨g, cap, cur, rfl, hg, hblk, h1, h2, h3, h4⟩
 ·by_cases hm : m = []
  ·subst hm
   refine ⟨.slice none 0 0, w, ?_, .inl ⟨rfl, rfl⟩, World.grownBy.refl w _, .inl rfl⟩
   have hz := sizeR w
   have hc := hs.cells
   have hc' : (Builtin.firstCells 2 0 x).run Tryz.prog w = .ok #[] w := hc
   simp [Builtin.append_, run_underlying Tryz.underlying46, hz, hs.len, hc']
  ·have hpos : 0 < m.length := List.length_pos_iff.2 hm
   exact hgrow none 0 0 rfl (by unfold maxLen; omega) (run_firstCells_none w.drew i0.size 0 0 0) (by omega)
 ·have hown : Own w base (.slice (some ⟨g, 0, none⟩) l.length cap) l := .inr ⟨g, cap, cur, rfl, hg, hblk, h1, h2, h3, h4⟩
  obtain ⟨r1, r2, r3, r4, _, _, _, r8, _⟩ := hown.room
  by_cases hroom : l.length + m.length ≤ cap
  ·have hr := run_append_room_src (P := Tryz.prog) w 46 46 ty 115 i0 Tryz.underlying46 hi g 0 l.length cap x m.length (rcells m) (by rw [hz1]; exact hs) hroom
    (fun j hj => by rw [hz1, Nat.zero_add]; rw [rcells_length] at hj; exact r1 _ (by omega)) (fun j _ => r2 _)
   rw [hz1, Nat.zero_add] at hr
   exact ⟨_, _, hr, own_cat (n := l.length) (m := 0) hown hroom, grown_setCells g _ _ w, .inl rfl⟩
  ·refine hgrow (some ⟨g, 0, none⟩) l.length cap rfl h2 ?_ (by omega)
   rw [hz1]
   exact run_firstCells_some (P := Tryz.prog) w.drew 2 l.length ⟨g, 0, none⟩ l.length cap (rcells l) (rcells_length l) (fun j u hj => by rw [add_plain, Nat.zero_add]; exact r8 j u hj)
theorem wpList_append_rg {w : World} {ops : Array Oper} {rest : List Oper} {o : Oper} {a : Act} {Q : Exit → Act → World → Prop} (hgd : o.guard = none) (s y : Operand)
  (ho : o.op = .call { callee := .builtin .append, args := #[s, y], argTypes := #[46, 46] }) {base : Nat} {v x : Value} {l m : List Rg} (hv : a.eval s = v) (hx : a.eval y = x)
  (h : Own w base v l) (hs : Sr w x m) (hl : l.length + m.length ≤ 1000000) (hb : base ≤ w.heap.size)
  (hK : ∀ v' w', Own w' base v' (l ++ m) → w.grownBy w' v.ownBlock → (v'.ownBlock = v.ownBlock ∨ v'.ownBlock = some w.heap.size) → wpList Tryz.prog ops Q rest (a.put o.dst v') w') : wpList Tryz.prog ops Q (o :: rest) a w := by
 refine wpList_plain hgd fun K hK' => ?_
 obtain ⟨v', w', hrun, h1, h2, h3⟩ := run_append_rg o.type h hs hl hb
 unfold Oper.wp execOp
 simp only [ho, resolve, invoke, builtin, Sem.run_bind, Sem.run_pure, Result.andThen_ok, List.map_toArray, List.map_cons, List.map_nil, hv, hx, hrun]
 exact hK' _ _ (hK v' w' h1 h2 h3)
theorem wpList_copy_rg (w : World) {ops : Array Oper} {rest : List Oper} {o : Oper} {a : Act} {Q : Exit → Act → World → Prop} (hgd : o.guard = none) (d s : Operand)
  (ho : o.op = .call { callee := .builtin .copy, args := #[d, s], argTypes := #[46, 46] }) (v u : Value) (hd : a.eval d = v) (hs : a.eval s = u) {v' : Value} {w' : World}
  (hr : (Builtin.copy_ #[46, 46] o.type #[v, u]).run Tryz.prog w = .ok v' w') (h : wpList Tryz.prog ops Q rest (a.put o.dst v') w') : wpList Tryz.prog ops Q (o :: rest) a w := by
 refine wpList_plain hgd fun K hK' => ?_
 unfold Oper.wp execOp
 simp only [ho, resolve, invoke, builtin, Sem.run_bind, Sem.run_pure, Result.andThen_ok, List.map_toArray, List.map_cons, List.map_nil, hd, hs, hr]
 exact hK' _ _ h
theorem wpList_clear_rg (w : World) {ops : Array Oper} {rest : List Oper} {o : Oper} {a : Act} {Q : Exit → Act → World → Prop} (hgd : o.guard = none) (d : Operand)
  (ho : o.op = .call { callee := .builtin .clear, args := #[d], argTypes := #[46] }) (v : Value) (hd : a.eval d = v) {v' : Value} {w' : World}
  (hr : (Builtin.clear_ #[46] o.type #[v]).run Tryz.prog w = .ok v' w') (h : wpList Tryz.prog ops Q rest (a.put o.dst v') w') : wpList Tryz.prog ops Q (o :: rest) a w := by
 refine wpList_plain hgd fun K hK' => ?_
 unfold Oper.wp execOp
 simp only [ho, resolve, invoke, builtin, Sem.run_bind, Sem.run_pure, Result.andThen_ok, List.map_toArray, List.map_cons, List.map_nil, hd, hr]
 exact hK' _ _ h
end Sp
end Go.Proofs.YtkbndlnmbbbohaaGreatDoor
