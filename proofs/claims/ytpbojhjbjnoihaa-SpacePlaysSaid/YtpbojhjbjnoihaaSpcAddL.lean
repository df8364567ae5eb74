/-
  Rising ranges put into others one by one, as plain mathematics; the state of a space whose cells on their way are free. No conditions beyond those that each theorem types.
-/
import Derived.Test.YtpbojhjbjnoihaaSpcDup
namespace Go.Proofs.Ytpbojhjbjnoihaa
open Go Go.RowKit
set_option maxRecDepth 100000
set_option linter.unusedVariables false
namespace Sp
def addL (l0 m : List Rg) : List Rg := m.foldl (fun acc r => withL r.1 r.2 acc) l0
theorem addL_cons (l0 : List Rg) (r : Rg) (m : List Rg) : addL l0 (r :: m) = addL (withL r.1 r.2 l0) m := rfl
theorem addL_snoc (l0 m : List Rg) (r : Rg) : addL l0 (m ++ [r]) = withL r.1 r.2 (addL l0 m) := by
  unfold addL
  rw [List.foldl_append]
  rfl
theorem addL_ok {lo : Nat} : ∀ (m l0 : List Rg), Ris 0 l0 → Ris lo m → (∀ c, mem m c → ¬ mem l0 c) → Ris 0 (addL l0 m) ∧ (∀ c, mem (addL l0 m) c ↔ mem l0 c ∨ mem m c) ∧ cnt (addL l0 m) = cnt l0 + cnt m
  | [], l0, h0, _, _ => ⟨h0, fun c => ⟨.inl, fun h => h.elim id (fun h => absurd h (mem_nil c))⟩, rfl⟩
  | r :: m, l0, h0, hm, hd => by
    have hw := Ris.with_ hm.2.1 h0 (Nat.zero_le _) (fun c h1 h2 => hd c ((mem_cons r m c).2 (.inl ⟨h1, h2⟩)))
    obtain ⟨g1, g2, g3⟩ := addL_ok m (withL r.1 r.2 l0) hw.1 hm.2.2 (fun c hc hx => by
      rcases (hw.2.1 c).1 hx with h1 | h1
      · exact hd c ((mem_cons r m c).2 (.inr hc)) h1
      · have := hm.2.2.ge hc; omega)
    rw [addL_cons]
    refine ⟨g1, fun c => ?_, ?_⟩
    · rw [g2, hw.2.1, mem_cons]
      constructor
      · rintro ((h1 | h1) | h1)
        · exact .inl h1
        · exact .inr (.inl h1)
        · exact .inr (.inr h1)
      · rintro (h1 | h1 | h1)
        · exact .inl (.inl h1)
        · exact .inl (.inr h1)
        · exact .inr h1
    · rw [g3, hw.2.2]
      show _ = _ + ((r.2 - r.1) + cnt m)
      omega
theorem Ris.take_ {lo : Nat} : ∀ {l : List Rg}, Ris lo l → ∀ i, Ris lo (l.take i)
  | [], _, i => by simp [Ris]
  | q :: l, h, 0 => by simp [Ris]
  | q :: l, h, i + 1 => ⟨h.1, h.2.1, h.2.2.take_ i⟩
theorem mem_take {l : List Rg} {i c : Nat} (h : mem (l.take i) c) : mem l c := by
  obtain ⟨r, hr, h⟩ := h
  exact ⟨r, List.mem_of_mem_take hr, h⟩
theorem Ris.take_lt {lo : Nat} : ∀ {l : List Rg}, Ris lo l → ∀ {i c : Nat} {r : Rg}, l[i]? = some r → mem (l.take i) c → c < r.1
  | [], _, i, c, r, h, _ => by simp at h
  | q :: l, h, 0, c, r, _, hm => by simp at hm; exact absurd hm (mem_nil c)
  | q :: l, h, i + 1, c, r, hr, hm => by
    rw [List.getElem?_cons_succ] at hr
    have hge : q.2 + 1 ≤ r.1 := by
      have h1 : mem l r.1 := ⟨r, List.mem_of_getElem? hr, Nat.le_refl _, (h.2.2.lt_ r (List.mem_of_getElem? hr))⟩
      exact h.2.2.ge h1
    rw [List.take_succ_cons] at hm
    rcases (mem_cons q _ c).1 hm with h1 | h1
    · omega
    · exact h.2.2.take_lt hr h1
/-- the ranges so far put in; the next one isn't there yet -/
theorem addL_next {lo : Nat} {l0 l : List Rg} (h0 : Ris 0 l0) (hl : Ris lo l) (hd : ∀ c, mem l c → ¬ mem l0 c) {i : Nat} {r : Rg} (hr : l[i]? = some r) :
    Ris 0 (addL l0 (l.take i)) ∧ (∀ c, mem (addL l0 (l.take i)) c → mem l0 c ∨ mem l c) ∧ (∀ c, r.1 ≤ c → c < r.2 → ¬ mem (addL l0 (l.take i)) c) ∧ addL l0 (l.take (i + 1)) = withL r.1 r.2 (addL l0 (l.take i)) ∧ cnt (withL r.1 r.2 (addL l0 (l.take i))) = cnt (addL l0 (l.take i)) + (r.2 - r.1) := by
  obtain ⟨g1, g2, g3⟩ := addL_ok (l.take i) l0 h0 (hl.take_ i) (fun c hc => hd c (mem_take hc))
  have hrm : r.1 < r.2 := hl.lt_ r (List.mem_of_getElem? hr)
  have hno : ∀ c, r.1 ≤ c → c < r.2 → ¬ mem (addL l0 (l.take i)) c := fun c h1 h2 hx => by
    rcases (g2 c).1 hx with h3 | h3
    · exact hd c ⟨r, List.mem_of_getElem? hr, h1, h2⟩ h3
    · have := hl.take_lt hr h3; omega
  refine ⟨g1, fun c hc => ((g2 c).1 hc).imp id mem_take, hno, ?_, (Ris.with_ hrm g1 (Nat.zero_le _) hno).2.2⟩
  obtain ⟨hi, he⟩ := List.getElem?_eq_some_iff.1 hr
  rw [List.take_succ_eq_append_getElem hi, addL_snoc, he]
def SS.settled (s : SS) : SS := (s.upd 2 []).upd 0 (addL (s.S 0) (s.S 2))
theorem settled_S (s : SS) (k : Nat) : s.settled.S k = if k = 0 then addL (s.S 0) (s.S 2) else if k = 2 then [] else s.S k := rfl
theorem Good.settled_all {s : SS} (h : Good s) : (∀ k, k < 3 → ∀ c, mem (s.settled.S k) c ↔ if k = 0 then mem (s.S 0) c ∨ mem (s.S 2) c else if k = 2 then False else mem (s.S k) c) ∧ cnt (s.settled.S 0) = cnt (s.S 0) + cnt (s.S 2) ∧ Ris 0 (s.settled.S 0) := by
  obtain ⟨g1, g2, g3⟩ := addL_ok (s.S 2) (s.S 0) (h.ris 0 (by omega)) (h.ris 2 (by omega)) (fun c h1 h2 => absurd (h.one 2 0 c (by omega) (by omega) h1 h2) (by omega))
  refine ⟨fun k hk c => ?_, by rw [settled_S, if_pos rfl]; exact g3, by rw [settled_S, if_pos rfl]; exact g1⟩
  rw [settled_S]
  by_cases e0 : k = 0
  · rw [if_pos e0, if_pos e0]; exact g2 c
  · rw [if_neg e0, if_neg e0]
    by_cases e2 : k = 2
    · rw [if_pos e2, if_pos e2]; exact ⟨fun hx => mem_nil c hx, False.elim⟩
    · rw [if_neg e2, if_neg e2]
theorem Good.settled {s : SS} (h : Good s) : Good s.settled := by
  obtain ⟨hM, _, hR⟩ := h.settled_all
  refine ⟨h.hc, fun k hk => ?_, fun k hk c hc => ?_, fun k j c hk hj h1 h2 => ?_, fun c hc => ?_, h.kp⟩
  · by_cases e0 : k = 0
    · rw [e0]; exact hR
    · rw [settled_S, if_neg e0]
      by_cases e2 : k = 2
      · rw [if_pos e2]; trivial
      · rw [if_neg e2]; exact h.ris k hk
  · have h1 := (hM k hk c).1 hc
    by_cases e0 : k = 0
    · rw [if_pos e0] at h1
      exact h1.elim (h.in_ 0 (by omega) c) (h.in_ 2 (by omega) c)
    · rw [if_neg e0] at h1
      by_cases e2 : k = 2
      · rw [if_pos e2] at h1; exact h1.elim
      · rw [if_neg e2] at h1; exact h.in_ k hk c h1
  · have h3 := (hM k hk c).1 h1
    have h4 := (hM j hj c).1 h2
    have k02 : k = 0 ∨ k = 1 := by
      by_cases e2 : k = 2
      · subst e2; simp at h3
      · omega
    have j02 : j = 0 ∨ j = 1 := by
      by_cases e2 : j = 2
      · subst e2; simp at h4
      · omega
    rcases k02 with rfl | rfl <;> rcases j02 with rfl | rfl
    · rfl
    · simp at h3 h4
      rcases h3 with h3 | h3
      · exact h.one 0 1 c (by omega) (by omega) h3 h4
      · exact absurd (h.one 2 1 c (by omega) (by omega) h3 h4) (by omega)
    · simp at h3 h4
      rcases h4 with h4 | h4
      · exact h.one 1 0 c (by omega) (by omega) h3 h4
      · exact absurd (h.one 2 1 c (by omega) (by omega) h4 h3) (by omega)
    · rfl
  · obtain ⟨k, hk, h1⟩ := h.all c hc
    by_cases e2 : k = 2
    · subst e2
      exact ⟨0, by omega, (hM 0 (by omega) c).2 (by rw [if_pos rfl]; exact .inr h1)⟩
    · refine ⟨k, hk, (hM k hk c).2 ?_⟩
      by_cases e0 : k = 0
      · subst e0; rw [if_pos rfl]; exact .inl h1
      · rw [if_neg e0, if_neg e2]; exact h1
end Sp
end Go.Proofs.Ytpbojhjbjnoihaa
