/-
  'slices.Replace' as the parts use it, each by one contract. Conditions: the rows are short; what is put lies in a block of its own.
-/
import Derived.Test.YtpbojhjbjnoihaaSpcRep3
namespace Go.Proofs.Ytpbojhjbjnoihaa
open Go Go.RowKit
set_option maxRecDepth 100000
set_option linter.unusedVariables false
namespace Sp
theorem grown_any {a c : World} (h : a.grownBy c none) (row : Option Nat) : a.grownBy c row := ⟨h.os, h.tape, h.output, h.size, fun i hi _ => h.block i hi (by simp)⟩
/-- what Replace leaves -/
def RepPost (w : World) (base : Nat) (v : Value) (r : List Rg) (v' : Value) (w' : World) : Prop := Own w' base v' r ∧ w.grownBy w' v.ownBlock ∧ (v'.ownBlock = v.ownBlock ∨ v'.ownBlock = some w.heap.size)
theorem Put.of {w : World} {g vb m c : Nat} {d : List Rg} (h : Pl w vb d) (hne : vb ≠ g) (hm : m = d.length) : Put w g (.slice (some ⟨vb, 0, none⟩) m c) m d := ⟨hm, .inr ⟨vb, c, rfl, hne, h⟩⟩
/-- one range is put -/
theorem replace_one {w : World} {base : Nat} {v : Value} {l : List Rg} {r : Rg} {vb mc i j : Nat} (h : Own w base v l) (hb : base ≤ w.heap.size) (hl : l.length ≤ 100000) (hs : Pl w vb [r]) (hne : v.ownBlock ≠ some vb) (hij : i ≤ j) (hj : j ≤ l.length) :
    Calls Try.prog 47 #[v, .int .i64 (i : Int), .int .i64 (j : Int), .slice (some ⟨vb, 0, none⟩) 1 mc] w fun e w' => ∃ v', e = .returned v' ∧ RepPost w base v (l.take i ++ ([r] ++ l.drop j)) v' w' := by
  obtain ⟨A, c, hv, _, hlc, hcm, hA⟩ := h.shape
  by_cases e : i = j
  · subst e
    subst hv
    refine replace_ins (base := base) (R := RepPost w base (.slice A l.length c) (l.take i ++ ([r] ++ l.drop i))) hj hl hlc hcm hA ⟨_, _, rfl⟩ ?_
    by_cases e2 : i = l.length
    · subst e2
      rw [List.take_of_length_le (Nat.le_refl _), List.drop_of_length_le (Nat.le_refl _), List.append_nil]
      exact insert_end h hb hl hlc hcm (hs.sr (m := 1) rfl) rfl (by omega) (by omega)
    · have hlt : i < l.length := by omega
      rcases h with ⟨_, e3⟩ | ⟨g, cap, cur, e3, hrest⟩
      · rw [e3] at hlt; simp at hlt
      · injection e3 with e4 _ e5
        subst e4 e5
        have h' : Own w base (.slice (some ⟨g, 0, none⟩) l.length c) l := .inr ⟨g, c, cur, rfl, hrest⟩
        by_cases hc : c < l.length + 1
        · exact (insert_grow h' hb hl hs.cs (m := 1) rfl (by omega) (by omega) hlt hc).mono fun e w' ⟨v', h1, h2, h3, h4⟩ => ⟨v', h1, h2, grown_any h3 _, .inr h4⟩
        · exact (insert_shift h' hl hs (fun e => hne (congrArg some e.symm)) (m := 1) rfl (by omega) (by omega) (by omega)).mono fun e w' ⟨v', h1, h2, h3, h4⟩ => ⟨v', h1, h2, h3, .inl h4⟩
  · have hlt : i < l.length := by omega
    rcases h with ⟨_, e3⟩ | ⟨g, cap, cur, e3, hrest⟩
    · rw [e3] at hlt; simp at hlt
    · rw [hv] at e3
      injection e3 with e4 _ e5
      subst hv e4 e5
      have h' : Own w base (.slice (some ⟨g, 0, none⟩) l.length c) l := .inr ⟨g, c, cur, rfl, hrest⟩
      have hp : Put w g (.slice (some ⟨vb, 0, none⟩) 1 mc) 1 [r] := Put.of hs (fun e => hne (congrArg some e.symm)) rfl
      by_cases e2 : j = l.length
      · subst e2
        rw [List.drop_of_length_le (Nat.le_refl _), List.append_nil]
        by_cases hm : i + 1 < l.length
        · exact (replace_end_less h' hl hp hm).mono fun e w' ⟨v', h1, h2, h3, h4⟩ => ⟨v', h1, h2, h3, .inl h4⟩
        · exact (replace_end_more h' hb hl hp (by omega) hlt (by omega)).mono fun e w' ⟨v', h1, h2, h3, h4⟩ => ⟨v', h1, h2, h3, h4⟩
      · exact (replace_less h' hl hp (by omega) (by omega) (by omega)).mono fun e w' ⟨v', h1, h2, h3, h4⟩ => ⟨v', h1, h2, h3, .inl h4⟩
/-- one range is struck, at most two are put -/
theorem replace_out {w : World} {base : Nat} {v x : Value} {l d : List Rg} {m i : Nat} (h : Own w base v l) (hb : base ≤ w.heap.size) (hl : l.length ≤ 100000) (hx : ∀ g, v.ownBlock = some g → Put w g x m d) (hm2 : m ≤ 2) (hi : i < l.length) :
    Calls Try.prog 47 #[v, .int .i64 (i : Int), .int .i64 ((i + 1 : Nat) : Int), x] w fun e w' => ∃ v', e = .returned v' ∧ RepPost w base v (l.take i ++ (d ++ l.drop (i + 1))) v' w' := by
  rcases h with ⟨_, e3⟩ | ⟨g, c, cur, rfl, hrest⟩
  · rw [e3] at hi; simp at hi
  · have h' : Own w base (.slice (some ⟨g, 0, none⟩) l.length c) l := .inr ⟨g, c, cur, rfl, hrest⟩
    have hp := hx g rfl
    have hm := hp.1
    by_cases e2 : i + 1 = l.length
    · rw [List.drop_of_length_le (by omega), List.append_nil, e2]
      by_cases hm : i + m < l.length
      · exact (replace_end_less h' hl hp hm).mono fun e w' ⟨v', h1, h2, h3, h4⟩ => ⟨v', h1, h2, h3, .inl h4⟩
      · exact (replace_end_more h' hb hl hp hm2 hi (by omega)).mono fun e w' ⟨v', h1, h2, h3, h4⟩ => ⟨v', h1, h2, h3, h4⟩
    · by_cases h1m : m ≤ 1
      · exact (replace_less h' hl hp (by omega) (by omega) (by omega)).mono fun e w' ⟨v', h1, h2, h3, h4⟩ => ⟨v', h1, h2, h3, .inl h4⟩
      · obtain ⟨_, ⟨rfl, rfl⟩ | ⟨vb, mc, rfl, hne, hs⟩⟩ := hp
        · simp at hm; omega
        · by_cases hc : c < i + m + (l.length - (i + 1))
          · exact (replace_grow h' hb hl hs hm hm2 (by omega) (by omega) hc).mono fun e w' ⟨v', h1, h2, h3, h4⟩ => ⟨v', h1, h2, grown_any h3 _, .inr h4⟩
          · exact (replace_more h' hl hs hne hm (by omega) (by omega) (by omega) (by omega) (by omega)).mono fun e w' ⟨v', h1, h2, h3, h4⟩ => ⟨v', h1, h2, h3, .inl h4⟩
end Sp
end Go.Proofs.Ytpbojhjbjnoihaa
