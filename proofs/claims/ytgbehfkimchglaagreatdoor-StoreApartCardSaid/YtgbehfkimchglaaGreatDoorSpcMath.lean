/-
 Rising ranges of cells, as plain mathematics: what is in them, what is added, taken out, looked for. No conditions beyond those that each theorem types.
-/
import Derived.KernelRfl
namespace Go.Proofs.YtgbehfkimchglaaGreatDoor.Sp
set_option maxRecDepth 100000
set_option linter.unusedVariables false
abbrev Rg := Nat × Nat
def Ris : Nat → List Rg → Prop
 | _, [] => True
 | lo, r :: l => lo ≤ r.1 ∧ r.1 < r.2 ∧ Ris (r.2 + 1) l
def mem (l : List Rg) (c : Nat) : Prop := ∃ r ∈ l, r.1 ≤ c ∧ c < r.2
theorem mem_nil (c : Nat) : ¬ mem [] c := fun ⟨r, h, _⟩ => by cases h
theorem mem_cons (r : Rg) (l : List Rg) (c : Nat) : mem (r :: l) c ↔ (r.1 ≤ c ∧ c < r.2) ∨ mem l c := by
 constructor
 ·rintro ⟨q, hq, h⟩
  rcases List.mem_cons.1 hq with rfl | hq
  ·exact .inl h
  ·exact .inr ⟨q, hq, h⟩
 ·rintro (h | ⟨q, hq, h⟩)
  ·exact ⟨r, by simp, h⟩
  ·exact ⟨q, by simp [hq], h⟩
theorem Ris.mono {lo lo' : Nat} : ∀ {l}, Ris lo l → lo' ≤ lo → Ris lo' l
 | [], _, _ => trivial
 | _ :: _, h, e => ⟨Nat.le_trans e h.1, h.2⟩
theorem Ris.ge {lo : Nat} : ∀ {l}, Ris lo l → ∀ {c}, mem l c → lo ≤ c
 | [], _, _, h => absurd h (mem_nil _)
 | r :: l, h, c, hm => by
  rcases (mem_cons r l c).1 hm with h1 | h1
  ·exact Nat.le_trans h.1 h1.1
  ·have := Ris.ge h.2.2 h1
   have h0 := h.1
   have h2 := h.2.1
   omega
theorem Ris.uniq {lo lo' : Nat} : ∀ {l m : List Rg}, Ris lo l → Ris lo' m → (∀ c, mem l c ↔ mem m c) → l = m
 | [], [], _, _, _ => rfl
 | [], r :: m, _, h, e => absurd ((e r.1).2 ((mem_cons r m r.1).2 (.inl ⟨Nat.le_refl _, h.2.1⟩))) (mem_nil _)
 | r :: l, [], h, _, e => absurd ((e r.1).1 ((mem_cons r l r.1).2 (.inl ⟨Nat.le_refl _, h.2.1⟩))) (mem_nil _)
 | r :: l, q :: m, h, k, e => by
  have key : ∀ {a b : Nat × Nat} {l m : List Rg}, Ris (a.2 + 1) l → a.1 < a.2 → Ris (b.2 + 1) m → b.1 < b.2 → (∀ c, mem (a :: l) c → mem (b :: m) c) → b.1 ≤ a.1 := fun {a b l m} h1 h2 h3 h4 he => by
   rcases (mem_cons b m a.1).1 (he a.1 ((mem_cons a l a.1).2 (.inl ⟨Nat.le_refl _, h2⟩))) with h | h
   ·exact h.1
   ·have := h3.ge h; omega
  have e1 : r.1 = q.1 := Nat.le_antisymm (key k.2.2 k.2.1 h.2.2 h.2.1 fun c hc => (e c).2 hc) (key h.2.2 h.2.1 k.2.2 k.2.1 fun c hc => (e c).1 hc)
  have key2 : ∀ {a b : Nat × Nat} {l m : List Rg}, a.1 = b.1 → Ris (a.2 + 1) l → a.1 < a.2 → Ris (b.2 + 1) m → b.1 < b.2 → (∀ c, mem (a :: l) c → mem (b :: m) c) → a.2 ≤ b.2 := fun {a b l m} h0 h1 h2 h3 h4 he => by
   by_cases hlt : b.2 < a.2
   ·rcases (mem_cons b m b.2).1 (he b.2 ((mem_cons a l b.2).2 (.inl ⟨by omega, hlt⟩))) with h | h
    ·omega
    ·have := h3.ge h; omega
   ·omega
  have e2 : r.2 = q.2 := Nat.le_antisymm (key2 e1 h.2.2 h.2.1 k.2.2 k.2.1 fun c hc => (e c).1 hc) (key2 e1.symm k.2.2 k.2.1 h.2.2 h.2.1 fun c hc => (e c).2 hc)
  have er : r = q := Prod.ext e1 e2
  subst er
  refine congrArg (r :: ·) (Ris.uniq h.2.2 k.2.2 fun c => ?_)
  constructor
  ·intro hc
   have := h.2.2.ge hc
   rcases (mem_cons r m c).1 ((e c).1 ((mem_cons r l c).2 (.inr hc))) with h1 | h1
   ·omega
   ·exact h1
  ·intro hc
   have := k.2.2.ge hc
   rcases (mem_cons r l c).1 ((e c).2 ((mem_cons r m c).2 (.inr hc))) with h1 | h1
   ·omega
   ·exact h1
def pos (x : Nat) : List Rg → Nat
 | [] => 0
 | r :: l => if x ≤ r.2 then 0 else pos x l + 1
theorem pos_le (x : Nat) : ∀ l, pos x l ≤ l.length
 | [] => Nat.le_refl _
 | r :: l => by
  unfold pos
  split
  ·exact Nat.zero_le _
  ·have := pos_le x l
   rw [List.length_cons]
   omega
theorem Ris.ends {lo : Nat} : ∀ {l}, Ris lo l → ∀ r ∈ l, lo < r.2
 | [], _, r, h => by cases h
 | q :: l, h, r, hr => by
  have h1 := h.1
  have h2 := h.2.1
  rcases List.mem_cons.1 hr with rfl | hr
  ·omega
  ·have := h.2.2.ends r hr
   omega
theorem Ris.pos_eq {lo x : Nat} : ∀ {l}, Ris lo l → ∀ i, (∃ r, l[i]? = some r ∧ decide (x ≤ r.2) = true) ↔ (i < l.length ∧ pos x l ≤ i)
 | [], _, i => by simp
 | q :: l, h, i => by
  unfold pos
  match i with
  | 0 =>
   by_cases hx : x ≤ q.2
   ·simp [hx]
   ·simp [hx]
  | i + 1 =>
   have ih := h.2.2.pos_eq (x := x) i
   rw [List.getElem?_cons_succ, ih, List.length_cons]
   by_cases hx : x ≤ q.2
   ·rw [if_pos hx]
    constructor
    ·rintro ⟨h1, h2⟩; exact ⟨by omega, Nat.zero_le _⟩
    ·rintro ⟨h1, _⟩
     have hi : i < l.length := by omega
     refine ih.1 ⟨l[i], List.getElem?_eq_getElem hi, decide_eq_true ?_⟩
     have := h.2.2.ends l[i] (List.getElem_mem hi)
     omega
   ·rw [if_neg hx]
    omega
def hasL (a b : Nat) (l : List Rg) : Bool := match l[pos b l]? with | some r => decide (r.1 ≤ a) | none => false
theorem Ris.has {lo a b : Nat} (hab : a < b) : ∀ {l}, Ris lo l → (hasL a b l = true ↔ ∀ c, a ≤ c → c < b → mem l c)
 | [], _ => by
  constructor
  ·intro h; cases h
  ·intro h; exact absurd (h a (Nat.le_refl _) hab) (mem_nil _)
 | q :: l, h => by
  have h2 := h.2.1
  have ih := h.2.2.has hab
  by_cases hx : b ≤ q.2
  ·have e : hasL a b (q :: l) = decide (q.1 ≤ a) := by unfold hasL pos; rw [if_pos hx]; rfl
   rw [e, decide_eq_true_iff]
   constructor
   ·intro h1 c hc1 hc2
    exact (mem_cons q l c).2 (.inl ⟨by omega, by omega⟩)
   ·intro h1
    rcases (mem_cons q l a).1 (h1 a (Nat.le_refl _) hab) with h3 | h3
    ·exact h3.1
    ·have := h.2.2.ge h3; omega
  ·have e : hasL a b (q :: l) = hasL a b l := by
    have hp : pos b (q :: l) = pos b l + 1 := if_neg hx
    unfold hasL
    rw [hp, List.getElem?_cons_succ]
   rw [e, ih]
   constructor
   ·intro h1 c hc1 hc2
    exact (mem_cons q l c).2 (.inr (h1 c hc1 hc2))
   ·intro h1 c hc1 hc2
    rcases (mem_cons q l c).1 (h1 c hc1 hc2) with h3 | h3
    ·have h4 : mem (q :: l) q.2 := h1 q.2 (by omega) (by omega)
     rcases (mem_cons q l q.2).1 h4 with h5 | h5
     ·omega
     ·have := h.2.2.ge h5; omega
    ·exact h3
def cnt : List Rg → Nat
 | [] => 0
 | r :: l => (r.2 - r.1) + cnt l
def rowL (n : Nat) : List Rg → Option Nat
 | [] => none
 | r :: l => if n ≤ r.2 - r.1 then some r.1 else rowL n l
theorem Ris.row_some {lo n a : Nat} (hn : 0 < n) : ∀ {l}, Ris lo l → rowL n l = some a → (∀ c, a ≤ c → c < a + n → mem l c) ∧ ∀ a', (∀ c, a' ≤ c → c < a' + n → mem l c) → a ≤ a'
 | [], _, h => by cases h
 | q :: l, h, hr => by
  have h2 := h.2.1
  have step : ∀ a', (∀ c, a' ≤ c → c < a' + n → mem (q :: l) c) → (q.1 ≤ a' ∧ a' + n ≤ q.2) ∨ (∀ c, a' ≤ c → c < a' + n → mem l c) := fun a' hall => by
   by_cases hin : q.1 ≤ a' ∧ a' < q.2
   ·refine .inl ⟨hin.1, ?_⟩
    by_cases hle : a' + n ≤ q.2
    ·exact hle
    ·rcases (mem_cons q l q.2).1 (hall q.2 (by omega) (by omega)) with h5 | h5
     ·omega
     ·have := h.2.2.ge h5; omega
   ·refine .inr fun c hc1 hc2 => ?_
    have h0 : mem l a' := by
     rcases (mem_cons q l a').1 (hall a' (Nat.le_refl _) (by omega)) with h5 | h5
     ·exact absurd h5 hin
     ·exact h5
    have h6 := h.2.2.ge h0
    rcases (mem_cons q l c).1 (hall c hc1 hc2) with h5 | h5
    ·omega
    ·exact h5
  unfold rowL at hr
  by_cases hx : n ≤ q.2 - q.1
  ·rw [if_pos hx] at hr
   injection hr with hr
   subst hr
   refine ⟨fun c h3 h4 => (mem_cons q l c).2 (.inl ⟨h3, by omega⟩), fun a' hall => ?_⟩
   exact Ris.ge (lo := q.1) (l := q :: l) ⟨Nat.le_refl _, h.2⟩ (hall a' (Nat.le_refl _) (by omega))
  ·rw [if_neg hx] at hr
   obtain ⟨g1, g2⟩ := h.2.2.row_some hn hr
   refine ⟨fun c h3 h4 => (mem_cons q l c).2 (.inr (g1 c h3 h4)), fun a' hall => ?_⟩
   rcases step a' hall with h5 | h5
   ·omega
   ·exact g2 a' h5
/-! ### a range more -/
def leftL (a i : Nat) (l : List Rg) : Nat × Nat := match l[i]? with | some r => if r.2 = a then (r.1, i + 1) else (a, i) | none => (a, i)
def rightL (b j : Nat) (l : List Rg) : Nat × Nat := match l[j]? with | some r => if r.1 = b then (r.2, j + 1) else (b, j) | none => (b, j)
def withL (a b : Nat) (l : List Rg) : List Rg :=
 l.take (pos a l) ++ ((leftL a (pos a l) l).1, (rightL b (leftL a (pos a l) l).2 l).1) :: l.drop (rightL b (leftL a (pos a l) l).2 l).2
theorem leftL_succ (a i : Nat) (q : Rg) (l : List Rg) : leftL a (i + 1) (q :: l) = ((leftL a i l).1, (leftL a i l).2 + 1) := by
 unfold leftL
 rw [List.getElem?_cons_succ]
 cases l[i]? with
 | none => rfl
 | some r =>
  dsimp only
  split <;> rfl
theorem rightL_succ (b j : Nat) (q : Rg) (l : List Rg) : rightL b (j + 1) (q :: l) = ((rightL b j l).1, (rightL b j l).2 + 1) := by
 unfold rightL
 rw [List.getElem?_cons_succ]
 cases l[j]? with
 | none => rfl
 | some r =>
  dsimp only
  split <;> rfl
theorem withL_cons {a b : Nat} {q : Rg} {l : List Rg} (h : ¬ a ≤ q.2) : withL a b (q :: l) = q :: withL a b l := by
 have hp : pos a (q :: l) = pos a l + 1 := if_neg h
 unfold withL
 rw [hp, leftL_succ, rightL_succ]
 rfl
theorem Ris.with_ {lo a b : Nat} (hab : a < b) : ∀ {l}, Ris lo l → lo ≤ a → (∀ c, a ≤ c → c < b → ¬ mem l c) → Ris lo (withL a b l) ∧ (∀ c, mem (withL a b l) c ↔ mem l c ∨ (a ≤ c ∧ c < b)) ∧ cnt (withL a b l) = cnt l + (b - a)
 | [], _, hlo, _ => by
  refine ⟨⟨hlo, hab, trivial⟩, fun c => ?_, ?_⟩
  ·show mem [(a, b)] c ↔ _
   rw [mem_cons]
   constructor
   ·rintro (h | h)
    ·exact .inr h
    ·exact .inl h
   ·rintro (h | h)
    ·exact .inr h
    ·exact .inl h
  ·show b - a + 0 = 0 + (b - a)
   omega
 | q :: l, h, hlo, hn => by
  have h1 := h.1
  have h2 := h.2.1
  by_cases hx : a ≤ q.2
  ·have hp : pos a (q :: l) = 0 := if_pos hx
   have hright : ∀ (m : List Rg), Ris (b + 1) m ∨ (∃ r m', m = r :: m' ∧ b ≤ r.1 ∧ Ris (r.1) (r :: m')) → ∀ a0, a0 < b → ∃ B m2, ((a0, (rightL b 0 m).1) :: m.drop (rightL b 0 m).2) = (a0, B) :: m2 ∧ b ≤ B ∧ Ris (B + 1) m2 ∧ (∀ c, (a0 ≤ c ∧ c < B) ∨ mem m2 c ↔ (a0 ≤ c ∧ c < b) ∨ mem m c) ∧ (B - a0) + cnt m2 = (b - a0) + cnt m := fun m hm a0 ha0 => by
    match m, hm with
    | [], _ => exact ⟨b, [], rfl, Nat.le_refl _, trivial, fun c => Iff.rfl, rfl⟩
    | r :: m', hm =>
     have hr : b ≤ r.1 ∧ r.1 < r.2 ∧ Ris (r.2 + 1) m' := by
      rcases hm with hm | ⟨r', m'', e, hb, hm⟩
      ·exact ⟨by have := hm.1; omega, hm.2⟩
      ·injection e with e1 e2
       subst e1 e2
       exact ⟨hb, hm.2⟩
     by_cases e : r.1 = b
     ·have er : rightL b 0 (r :: m') = (r.2, 1) := by unfold rightL; simp [e]
      rw [er]
      refine ⟨r.2, m', rfl, by omega, hr.2.2, fun c => ?_, ?_⟩
      ·rw [mem_cons]
       constructor
       ·rintro (h | h)
        ·by_cases hc : c < b
         ·exact .inl ⟨h.1, hc⟩
         ·exact .inr (.inl ⟨by omega, h.2⟩)
        ·exact .inr (.inr h)
       ·rintro (h | h | h)
        ·exact .inl ⟨h.1, by omega⟩
        ·exact .inl ⟨by omega, h.2⟩
        ·exact .inr h
      ·show _ = _ + ((r.2 - r.1) + cnt m')
       omega
     ·have er : rightL b 0 (r :: m') = (b, 0) := by unfold rightL; simp [e]
      rw [er]
      exact ⟨b, r :: m', rfl, Nat.le_refl _, ⟨by omega, hr.2⟩, fun c => Iff.rfl, rfl⟩
   by_cases e : q.2 = a
   ·have el : leftL a 0 (q :: l) = (q.1, 1) := by unfold leftL; simp [e]
    have hw : withL a b (q :: l) = (q.1, (rightL b 0 l).1) :: l.drop (rightL b 0 l).2 := by
     unfold withL
     rw [hp, el, rightL_succ]
     rfl
    have hl : Ris (b + 1) l ∨ (∃ r m', l = r :: m' ∧ b ≤ r.1 ∧ Ris (r.1) (r :: m')) := by
     match l, h, hn with
     | [], _, _ => exact .inl trivial
     | r :: m', h, hn =>
      have hr := h.2.2
      refine .inr ⟨r, m', rfl, ?_, Nat.le_refl _, hr.2⟩
      by_cases hle : b ≤ r.1
      ·exact hle
      ·exact absurd ((mem_cons q _ r.1).2 (.inr ((mem_cons r m' r.1).2 (.inl ⟨Nat.le_refl _, hr.2.1⟩)))) (hn r.1 (by have := hr.1; omega) (by omega))
    obtain ⟨B, m2, g1, g2, g3, g4, g5⟩ := hright l hl q.1 (by omega)
    rw [hw, g1]
    refine ⟨⟨h1, by show q.1 < B; omega, g3⟩, fun c => ?_, ?_⟩
    ·rw [mem_cons, mem_cons]
     show (q.1 ≤ c ∧ c < B) ∨ mem m2 c ↔ _
     rw [g4]
     constructor
     ·rintro (hc | hc)
      ·by_cases hq : c < q.2
       ·exact .inl (.inl ⟨hc.1, hq⟩)
       ·exact .inr ⟨by omega, hc.2⟩
      ·exact .inl (.inr hc)
     ·rintro ((hc | hc) | hc)
      ·exact .inl ⟨hc.1, by omega⟩
      ·exact .inr hc
      ·exact .inl ⟨by omega, hc.2⟩
    ·show (B - q.1) + cnt m2 = ((q.2 - q.1) + cnt l) + (b - a)
     omega
   ·have el : leftL a 0 (q :: l) = (a, 0) := by unfold leftL; simp [e]
    have hw : withL a b (q :: l) = (a, (rightL b 0 (q :: l)).1) :: (q :: l).drop (rightL b 0 (q :: l)).2 := by
     unfold withL
     rw [hp, el]
     rfl
    have hbq : b ≤ q.1 := by
     by_cases hle : b ≤ q.1
     ·exact hle
     ·by_cases haq : a ≤ q.1
      ·exact absurd ((mem_cons q l q.1).2 (.inl ⟨Nat.le_refl _, h2⟩)) (hn q.1 haq (by omega))
      ·exact absurd ((mem_cons q l a).2 (.inl ⟨by omega, by omega⟩)) (hn a (Nat.le_refl _) hab)
    obtain ⟨B, m2, g1, g2, g3, g4, g5⟩ := hright (q :: l) (.inr ⟨q, l, rfl, hbq, Nat.le_refl _, h.2⟩) a hab
    rw [hw, g1]
    refine ⟨⟨hlo, by show a < B; omega, g3⟩, fun c => ?_, ?_⟩
    ·rw [mem_cons]
     show (a ≤ c ∧ c < B) ∨ mem m2 c ↔ _
     rw [g4]
     exact Or.comm
    ·show (B - a) + cnt m2 = cnt (q :: l) + (b - a)
     omega
  ·rw [withL_cons hx]
   obtain ⟨g1, g2, g3⟩ := Ris.with_ hab h.2.2 (by omega) fun c hc1 hc2 hm => hn c hc1 hc2 ((mem_cons q l c).2 (.inr hm))
   refine ⟨⟨h1, h2, g1⟩, fun c => ?_, ?_⟩
   ·rw [mem_cons, mem_cons, g2]
    exact or_assoc.symm
   ·show (q.2 - q.1) + cnt (withL a b l) = ((q.2 - q.1) + cnt l) + (b - a)
    omega
/-! ### a range less -/
def restL (p q a b : Nat) : List Rg := (if p < a then [(p, a)] else []) ++ (if b < q then [(b, q)] else [])
def outL (a b : Nat) (l : List Rg) : List Rg := match l[pos b l]? with | some r => l.take (pos b l) ++ (restL r.1 r.2 a b ++ l.drop (pos b l + 1)) | none => l
theorem outL_cons {a b : Nat} {q : Rg} {l : List Rg} (h : ¬ b ≤ q.2) : outL a b (q :: l) = q :: outL a b l := by
 have hp : pos b (q :: l) = pos b l + 1 := if_neg h
 unfold outL
 rw [hp, List.getElem?_cons_succ]
 cases l[pos b l]? with
 | none => rfl
 | some r => rfl
theorem Ris.out_ {lo a b : Nat} (hab : a < b) : ∀ {l}, Ris lo l → hasL a b l = true → Ris lo (outL a b l) ∧ (∀ c, mem (outL a b l) c ↔ mem l c ∧ ¬ (a ≤ c ∧ c < b)) ∧ cnt (outL a b l) + (b - a) = cnt l
 | [], _, h => by cases h
 | q :: l, h, hh => by
  have h1 := h.1
  have h2 := h.2.1
  by_cases hx : b ≤ q.2
  ·have hp : pos b (q :: l) = 0 := if_pos hx
   have ha : q.1 ≤ a := by
    unfold hasL at hh
    rw [hp] at hh
    simpa using hh
   have hw : outL a b (q :: l) = restL q.1 q.2 a b ++ l := by
    unfold outL
    rw [hp]
    rfl
   rw [hw]
   have hl : ∀ c, mem l c → q.2 < c := fun c hc => h.2.2.ge hc
   unfold restL
   by_cases e1 : q.1 < a
   ·rw [if_pos e1]
    by_cases e2 : b < q.2
    ·rw [if_pos e2]
     refine ⟨⟨h1, e1, by show a + 1 ≤ b; omega, e2, h.2.2⟩, fun c => ?_, ?_⟩
     ·show mem ((q.1, a) :: (b, q.2) :: l) c ↔ _
      rw [mem_cons, mem_cons, mem_cons]
      constructor
      ·rintro (hc | hc | hc)
       ·exact ⟨.inl ⟨hc.1, by have := hc.2; dsimp only at this; omega⟩, fun x => by have := hc.2; dsimp only at this; omega⟩
       ·exact ⟨.inl ⟨by have := hc.1; dsimp only at this; omega, hc.2⟩, fun x => by have := hc.1; dsimp only at this; omega⟩
       ·exact ⟨.inr hc, fun x => by have := hl c hc; omega⟩
      ·rintro ⟨hc | hc, hn⟩
       ·by_cases hca : c < a
        ·exact .inl ⟨hc.1, hca⟩
        ·exact .inr (.inl ⟨by show b ≤ c; omega, hc.2⟩)
       ·exact .inr (.inr hc)
     ·show (a - q.1) + ((q.2 - b) + cnt l) + (b - a) = (q.2 - q.1) + cnt l
      omega
    ·rw [if_neg e2]
     refine ⟨⟨h1, e1, h.2.2.mono (by show a + 1 ≤ q.2 + 1; omega)⟩, fun c => ?_, ?_⟩
     ·show mem ((q.1, a) :: l) c ↔ _
      rw [mem_cons, mem_cons]
      constructor
      ·rintro (hc | hc)
       ·exact ⟨.inl ⟨hc.1, by have := hc.2; dsimp only at this; omega⟩, fun x => by have := hc.2; dsimp only at this; omega⟩
       ·exact ⟨.inr hc, fun x => by have := hl c hc; omega⟩
      ·rintro ⟨hc | hc, hn⟩
       ·exact .inl ⟨hc.1, by show c < a; omega⟩
       ·exact .inr hc
     ·show (a - q.1) + cnt l + (b - a) = (q.2 - q.1) + cnt l
      omega
   ·rw [if_neg e1]
    by_cases e2 : b < q.2
    ·rw [if_pos e2]
     refine ⟨⟨by show lo ≤ b; omega, e2, h.2.2⟩, fun c => ?_, ?_⟩
     ·show mem ((b, q.2) :: l) c ↔ _
      rw [mem_cons, mem_cons]
      constructor
      ·rintro (hc | hc)
       ·exact ⟨.inl ⟨by have := hc.1; dsimp only at this; omega, hc.2⟩, fun x => by have := hc.1; dsimp only at this; omega⟩
       ·exact ⟨.inr hc, fun x => by have := hl c hc; omega⟩
      ·rintro ⟨hc | hc, hn⟩
       ·exact .inl ⟨by show b ≤ c; omega, hc.2⟩
       ·exact .inr hc
     ·show (q.2 - b) + cnt l + (b - a) = (q.2 - q.1) + cnt l
      omega
    ·rw [if_neg e2]
     refine ⟨h.2.2.mono (by omega), fun c => ?_, ?_⟩
     ·show mem l c ↔ _
      rw [mem_cons]
      constructor
      ·intro hc
       exact ⟨.inr hc, fun x => by have := hl c hc; omega⟩
      ·rintro ⟨hc | hc, hn⟩
       ·exact absurd ⟨by omega, by omega⟩ hn
       ·exact hc
     ·show cnt l + (b - a) = (q.2 - q.1) + cnt l
      omega
  ·rw [outL_cons hx]
   have hp : pos b (q :: l) = pos b l + 1 := if_neg hx
   have hh' : hasL a b l = true := by
    unfold hasL at hh ⊢
    rw [hp, List.getElem?_cons_succ] at hh
    exact hh
   obtain ⟨g1, g2, g3⟩ := Ris.out_ hab h.2.2 hh'
   have hge := (h.2.2.has hab).1 hh' a (Nat.le_refl _) hab
   have := h.2.2.ge hge
   refine ⟨⟨h1, h2, g1⟩, fun c => ?_, ?_⟩
   ·rw [mem_cons, mem_cons, g2]
    constructor
    ·rintro (hc | ⟨hc, hn⟩)
     ·exact ⟨.inl hc, fun x => by omega⟩
     ·exact ⟨.inr hc, hn⟩
    ·rintro ⟨hc | hc, hn⟩
     ·exact .inl hc
     ·exact .inr ⟨hc, hn⟩
   ·show (q.2 - q.1) + cnt (outL a b l) + (b - a) = (q.2 - q.1) + cnt l
    omega
theorem Ris.len {lo : Nat} : ∀ {l}, Ris lo l → ∀ {N}, (∀ c, mem l c → c < N) → l.length ≤ N + 1 - lo
 | [], _, N, _ => by simp
 | q :: l, h, N, hN => by
  have h1 := h.1
  have h2 := h.2.1
  have h3 := hN q.1 ((mem_cons q l q.1).2 (.inl ⟨Nat.le_refl _, h2⟩))
  have h4 := hN (q.2 - 1) ((mem_cons q l (q.2 - 1)).2 (.inl ⟨by omega, by omega⟩))
  have ih := h.2.2.len (N := N) fun c hc => hN c ((mem_cons q l c).2 (.inr hc))
  rw [List.length_cons]
  omega
theorem Ris.cnt_le {lo : Nat} : ∀ {l}, Ris lo l → ∀ {N}, (∀ c, mem l c → c < N) → cnt l ≤ N - lo
 | [], _, N, _ => by simp [cnt]
 | q :: l, h, N, hN => by
  have h1 := h.1
  have h2 := h.2.1
  have h4 := hN (q.2 - 1) ((mem_cons q l (q.2 - 1)).2 (.inl ⟨by omega, by omega⟩))
  have ih := h.2.2.cnt_le (N := N) fun c hc => hN c ((mem_cons q l c).2 (.inr hc))
  show (q.2 - q.1) + cnt l ≤ _
  omega
end Go.Proofs.YtgbehfkimchglaaGreatDoor.Sp
