/-
  A condensed log leaves the same space: plain mathematics. No conditions beyond those that each theorem types.
-/
import Derived.Test.YtpbojhjbjnoihaaSpcCond
namespace Go.Proofs.Ytpbojhjbjnoihaa
open Go Go.RowKit
set_option maxRecDepth 100000
set_option linter.unusedVariables false
namespace Sp
/-- what a log leaves: nothing is on its way, nothing is kept back -/
theorem redoS_two (s : SS) (t : Bool) (a j : Int) : (redoS s t a j).2.S 2 = s.S 2 := by
  unfold redoS
  split
  · rfl
  · split
    · split <;> rfl
    · split <;> rfl
theorem redoS_good {s : SS} (h : Sp.Good s) (t : Bool) (a j : Int) : Sp.Good (redoS s t a j).2 := by
  unfold redoS
  split
  · exact h
  · rename_i hno
    split
    · split
      · rename_i hh
        exact h.mv (f := 0) (t := 1) (by omega) (by omega) (by omega) (by omega) hh
      · exact h
    · split
      · rename_i hh
        exact h.mv (f := 1) (t := 0) (by omega) (by omega) (by omega) (by omega) hh
      · exact h
theorem repAll_keeps : ∀ {l : List (Bool × Int × Int)} {s s' : SS}, Sp.Good s → repAll s l = some s' → Sp.Good s' ∧ s'.S 2 = s.S 2 ∧ s'.cells = s.cells ∧ s'.kept = s.kept
  | [], s, s', hg, h => by injection h with h; subst h; exact ⟨hg, rfl, rfl, rfl⟩
  | o :: l, s, s', hg, h => by
    have h1 : (if (redoS s o.1 o.2.1 o.2.2).1 then repAll (redoS s o.1 o.2.1 o.2.2).2 l else none) = some s' := h
    split at h1
    · obtain ⟨g1, g2, g3, g4⟩ := repAll_keeps (redoS_good hg _ _ _) h1
      obtain ⟨c1, c2⟩ := redoS_cells s o.1 o.2.1 o.2.2
      exact ⟨g1, g2.trans (redoS_two _ _ _ _), g3.trans c1, g4.trans c2⟩
    · cases h1
theorem repS_ok {C : Nat} {l : List (Bool × Int × Int)} {s : SS} (h : repS (C : Int) l = .ok s) : Sp.Good s ∧ s.S 2 = [] ∧ s.cells = C ∧ s.kept = 0 ∧ 1 ≤ C ∧ C ≤ 40000 := by
  unfold repS at h
  split at h
  · cases h
  · rename_i hC
    rw [Int.toNat_natCast] at h
    cases hr : repAll (allFree C) l with
    | none => rw [hr] at h; cases h
    | some s' =>
      rw [hr] at h
      injection h with h
      subst h
      obtain ⟨g1, g2, g3, g4⟩ := repAll_keeps (allFree_good (by omega) (by omega)) hr
      exact ⟨g1, g2, g3, g4, by omega, by omega⟩
/-- takes alone, of ranges that are apart -/
theorem repAll_takes {lo : Nat} : ∀ (L : List Rg) {s : SS}, Sp.Good s → s.S 2 = [] → Ris lo L → (∀ c, mem L c → c < s.cells) → (∀ c, mem L c → ¬ mem (s.S 1) c) →
    ∃ s', repAll s (L.map opOf) = some s' ∧ (∀ c, mem (s'.S 1) c ↔ mem (s.S 1) c ∨ mem L c)
  | [], s, _, _, _, _, _ => ⟨s, rfl, fun c => ⟨.inl, fun h => h.elim id fun h => absurd h (mem_nil c)⟩⟩
  | r :: L, s, hg, h2, hr, hC, hd => by
    have hrm := hr.2.1
    have hrc : r.2 ≤ s.cells := by
      have := hC (r.2 - 1) ((mem_cons r L _).2 (.inl ⟨by omega, by omega⟩))
      omega
    have hh : hasL r.1 r.2 (s.S 0) = true := (Ris.has hrm (hg.ris 0 (by omega))).2 fun c h3 h4 => by
      obtain ⟨k, hk, h5⟩ := hg.all c (by omega)
      obtain rfl | rfl | rfl : k = 0 ∨ k = 1 ∨ k = 2 := by omega
      · exact h5
      · exact absurd h5 (hd c ((mem_cons r L c).2 (.inl ⟨h3, h4⟩)))
      · rw [h2] at h5; exact absurd h5 (mem_nil c)
    have hre : redoS s true (r.1 : Int) ((r.2 : Int) - (r.1 : Int)) = (true, s.mv 0 1 r.1 r.2) := by
      unfold redoS
      rw [if_neg (by omega), if_pos rfl, Int.toNat_natCast, show r.1 + ((r.2 : Int) - (r.1 : Int)).toNat = r.2 by omega, if_pos hh]
    have hM := hg.mv_mem (f := 0) (t := 1) (by omega) (by omega) (by omega) hrm hh 1 (by omega)
    obtain ⟨s', h5, h6⟩ := repAll_takes L (s := s.mv 0 1 r.1 r.2) (hg.mv (by omega) (by omega) (by omega) hrm hh) h2 hr.2.2 (fun c hc => hC c ((mem_cons r L c).2 (.inr hc))) (fun c hc hx => by
      rw [hM] at hx
      have := hr.2.2.ge hc
      by_cases e : r.1 ≤ c ∧ c < r.2
      · omega
      · rw [if_neg e] at hx
        exact hd c ((mem_cons r L c).2 (.inr hc)) hx)
    refine ⟨s', ?_, fun c => ?_⟩
    · show (if (redoS s true (r.1 : Int) ((r.2 : Int) - (r.1 : Int))).1 then repAll (redoS s true (r.1 : Int) ((r.2 : Int) - (r.1 : Int))).2 (L.map opOf) else none) = _
      rw [hre]
      exact h5
    · rw [h6, hM, mem_cons]
      by_cases e : r.1 ≤ c ∧ c < r.2
      · rw [if_pos e]
        exact ⟨fun _ => .inr (.inl e), fun _ => .inl rfl⟩
      · rw [if_neg e]
        constructor
        · rintro (h | h)
          · exact .inl h
          · exact .inr (.inr h)
        · rintro (h | h | h)
          · exact .inl h
          · exact absurd h e
          · exact .inr h
theorem cond_again {C : Nat} {l : List (Bool × Int × Int)} {s : SS} (h : repS (C : Int) l = .ok s) : ∃ s', repS (C : Int) ((s.S 1).map opOf) = .ok s' ∧ s'.S 1 = s.S 1 ∧ cnt (s'.S 0) = cnt (s.S 0) ∧ s'.kept = 0 ∧ s.kept = 0 := by
  obtain ⟨g1, g2, g3, g4, g5, g6⟩ := repS_ok h
  obtain ⟨s', h1, h2⟩ := repAll_takes (s.S 1) (s := allFree C) (allFree_good g5 g6) rfl (g1.ris 1 (by omega)) (fun c hc => by have := g1.in_ 1 (by omega) c hc; rw [g3] at this; exact this) (fun c _ hx => mem_nil c hx)
  have h3 : repS (C : Int) ((s.S 1).map opOf) = .ok s' := by
    unfold repS
    rw [if_neg (by omega), Int.toNat_natCast, h1]
  obtain ⟨k1, k2, k3, k4, _, _⟩ := repS_ok h3
  have e1 : s'.S 1 = s.S 1 := Ris.uniq (k1.ris 1 (by omega)) (g1.ris 1 (by omega)) fun c => by
    rw [h2]
    exact ⟨fun h => h.elim (fun h => absurd h (mem_nil c)) id, .inr⟩
  have e0 : s'.S 0 = s.S 0 := Ris.uniq (k1.ris 0 (by omega)) (g1.ris 0 (by omega)) fun c => by
    have key : ∀ {a b : SS}, Sp.Good a → Sp.Good b → a.cells = b.cells → b.S 2 = [] → a.S 1 = b.S 1 → mem (a.S 0) c → mem (b.S 0) c := fun {a b} ha hb hab hb2 h11 hc => by
      obtain ⟨k, hk, h5⟩ := hb.all c (by rw [← hab]; exact ha.in_ 0 (by omega) c hc)
      obtain rfl | rfl | rfl : k = 0 ∨ k = 1 ∨ k = 2 := by omega
      · exact h5
      · rw [← h11] at h5; exact absurd (ha.one 0 1 c (by omega) (by omega) hc h5) (by omega)
      · rw [hb2] at h5; exact absurd h5 (mem_nil c)
    exact ⟨key k1 g1 (k3.trans g3.symm) g2 e1, key g1 k1 (g3.trans k3.symm) k2 e1.symm⟩
  exact ⟨s', h3, e1, by rw [e0], k4, g4⟩
theorem cond_nil {C : Nat} {s : SS} (h : repS (C : Int) [] = .ok s) : s.S 1 = [] := by
  unfold repS at h
  split at h
  · cases h
  · injection h with h
    subst h
    rfl
theorem rise_at {lo : Nat} : ∀ {l : List Rg}, Ris lo l → ∀ {i : Nat} {r q : Rg}, l[i]? = some r → l[i + 1]? = some q → r.2 < q.1
  | [], _, i, r, q, h, _ => by simp at h
  | [x], _, 0, r, q, _, h2 => by simp at h2
  | x :: y :: l, h, 0, r, q, h1, h2 => by
    simp at h1 h2
    subst h1 h2
    exact h.2.2.1
  | x :: l, h, i + 1, r, q, h1, h2 => by
    rw [List.getElem?_cons_succ] at h1 h2
    exact rise_at h.2.2 h1 h2
end Sp
end Go.Proofs.Ytpbojhjbjnoihaa
