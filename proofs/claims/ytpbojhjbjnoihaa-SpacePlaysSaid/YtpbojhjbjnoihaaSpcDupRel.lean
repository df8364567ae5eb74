/-
  What a copy of a space has come to, half way through the map: which parts are copied. No conditions beyond those that each theorem types.
-/
import Derived.Test.YtpbojhjbjnoihaaSpcNew
namespace Go.Proofs.Ytpbojhjbjnoihaa
open Go Go.RowKit
set_option maxRecDepth 100000
set_option linter.unusedVariables false
namespace Sp
def dn (F : Nat → Option Value) (left : Lit → Bool) (k : Nat) : Bool := (F k).isSome && !left (ilit k)
def dcnt (F : Nat → Option Value) (left : Lit → Bool) : Nat := (if dn F left 0 then 1 else 0) + (if dn F left 1 then 1 else 0) + (if dn F left 2 then 1 else 0)
theorem dcnt_le (F : Nat → Option Value) (left : Lit → Bool) : dcnt F left ≤ 3 := by
  unfold dcnt
  split <;> split <;> split <;> omega
structure DupRel (wr : World) (B m2 : Nat) (F : Nat → Option Value) (s : SS) (left : Lit → Bool) (G : Nat → Option Value) (V2 : Nat → Value) : Prop where
  map : MapI wr m2 (dcnt F left) G
  g : ∀ k, k < 3 → G k = if dn F left k then some (.agg #[V2 k, .int .i64 (cnt (s.S k) : Int)]) else none
  own : ∀ k, k < 3 → dn F left k = true → Own wr B (V2 k) (s.S k)
  nil : ∀ k, k < 3 → dn F left k = false → V2 k = .slice none 0 0
  apart : ∀ k j, k < 3 → j < 3 → k ≠ j → ∀ g, (V2 k).ownBlock = some g → (V2 j).ownBlock ≠ some g
theorem sameKey_ilit {j k : Nat} : (ilit j).sameKey (ilit k) = decide (j = k) := by
  by_cases e : j = k
  · subst e
    rw [decide_eq_true rfl]
    unfold ilit Lit.sameKey
    simp
  · rw [decide_eq_false e]
    exact Maps.sameKey_ne (fun x => e (ilit_inj x))
section
variable {wr w1 w2 : World} {B m2 : Nat} {F : Nat → Option Value} {s : SS} {left : Lit → Bool} {G : Nat → Option Value} {V2 : Nat → Value}
theorem DupRel.start (w : World) (hleft : ∀ k, k < 3 → dn F left k = false) (hm : MapI w m2 0 (fun _ => none)) : DupRel w B m2 F s left (fun _ => none) (fun _ => .slice none 0 0) := by
  refine ⟨?_, (fun k hk => by rw [hleft k hk]; rfl), (fun k hk h => by rw [hleft k hk] at h; cases h), fun k _ _ => rfl, (fun k j _ _ _ g h => by cases h)⟩
  have h0 := hleft 0 (by omega)
  have h1 := hleft 1 (by omega)
  have h2 := hleft 2 (by omega)
  have : dcnt F left = 0 := by unfold dcnt; rw [h0, h1, h2]; rfl
  rw [this]
  exact hm
theorem DupRel.keep (h : DupRel wr B m2 F s left G V2) (hb : Below wr.heap.size wr w1) : DupRel w1 B m2 F s left G V2 :=
  ⟨h.map.below hb h.map.lt, h.g, fun k hk hd => (h.own k hk hd).below hb (Nat.le_refl _), h.nil, h.apart⟩
theorem DupRel.grown {row : Nat} (h : DupRel wr B m2 F s left G V2) (hb : wr.grownBy w1 (some row)) (hm : m2 ≠ row) (ho : ∀ k, k < 3 → (V2 k).ownBlock ≠ some row) : DupRel w1 B m2 F s left G V2 :=
  ⟨h.map.grown hb (fun e => by injection e with e; exact hm e), h.g, fun k hk hd => (h.own k hk hd).grown hb (fun g hg e => by injection e with e; exact ho k hk (by rw [hg, e])), h.nil, h.apart⟩
theorem DupRel.lt (h : DupRel wr B m2 F s left G V2) {k g : Nat} (hk : k < 3) (hg : (V2 k).ownBlock = some g) : g < wr.heap.size ∧ B ≤ g := by
  cases hd : dn F left k with
  | true => exact (h.own k hk hd).lt hg
  | false => rw [h.nil k hk hd] at hg; cases hg
theorem DupRel.ne_map (h : DupRel wr B m2 F s left G V2) {k : Nat} (hk : k < 3) : (V2 k).ownBlock ≠ some m2 := by
  intro hg
  cases hd : dn F left k with
  | true =>
    obtain ⟨cur, h1⟩ := (h.own k hk hd).blk_of hg
    exact h.map.ne_blk h1 rfl
  | false => rw [h.nil k hk hd] at hg; cases hg
def strike (left : Lit → Bool) (k : Nat) : Lit → Bool := fun z => left z && !z.sameKey (ilit k)
theorem dn_strike_other {k j : Nat} (hj : j ≠ k) : dn F (strike left k) j = dn F left j := by
  unfold dn strike
  rw [sameKey_ilit, decide_eq_false hj]
  simp
theorem dn_strike_same {k : Nat} (hF : (F k).isSome = true) : dn F (strike left k) k = true := by
  unfold dn strike
  rw [sameKey_ilit, decide_eq_true rfl, hF]
  simp
theorem dcnt_strike {k : Nat} (hk : k < 3) (hF : (F k).isSome = true) (hl : left (ilit k) = true) : dcnt F (strike left k) = dcnt F left + 1 := by
  have h0 : dn F left k = false := by unfold dn; rw [hl]; simp
  have h1 := dn_strike_same (left := left) hF
  have ho := fun j (hj : j ≠ k) => dn_strike_other (F := F) (left := left) hj
  obtain rfl | rfl | rfl : k = 0 ∨ k = 1 ∨ k = 2 := by omega
  · unfold dcnt
    rw [ho 1 (by omega), ho 2 (by omega), h0, h1]
    simp
    omega
  · unfold dcnt
    rw [ho 0 (by omega), ho 2 (by omega), h0, h1]
    simp
    omega
  · unfold dcnt
    rw [ho 0 (by omega), ho 1 (by omega), h0, h1]
    simp
theorem DupRel.step {k : Nat} {v' : Value} (h : DupRel wr B m2 F s left G V2) (hk : k < 3) (hF : (F k).isSome = true) (hl : left (ilit k) = true) (hB : B ≤ wr.heap.size) (hb : Below wr.heap.size wr w1) (ho : Own w1 wr.heap.size v' (s.S k))
    (hm : MapI w2 m2 (dcnt F left + 1) (putI G k (.agg #[v', .int .i64 (cnt (s.S k) : Int)]))) (hg : w1.grownBy w2 (some m2)) :
    DupRel w2 B m2 F s (strike left k) (putI G k (.agg #[v', .int .i64 (cnt (s.S k) : Int)])) (updV V2 k v') := by
  have h1 := h.keep hb
  have hv' : ∀ g, v'.ownBlock = some g → g ≠ m2 := fun g hg e => by
    obtain ⟨cur, h3⟩ := ho.blk_of hg
    exact h1.map.ne_blk h3 e.symm
  refine ⟨by rw [dcnt_strike hk hF hl]; exact hm, fun j hj => ?_, fun j hj hd => ?_, fun j hj hd => ?_, fun i j hi hj hij g hgi hgj => ?_⟩
  · unfold putI updV
    by_cases e : j = k
    · rw [if_pos e, e, dn_strike_same hF, if_pos rfl, if_pos rfl]
    · rw [if_neg e, if_neg e, dn_strike_other e]; exact h.g j hj
  · unfold updV
    by_cases e : j = k
    · rw [if_pos e, e]
      exact (ho.base_ hB).grown hg (fun g hg' e' => by injection e' with e'; exact hv' g hg' e')
    · rw [if_neg e]
      rw [dn_strike_other e] at hd
      exact (h1.own j hj hd).grown hg (fun g hg' e' => by injection e' with e'; exact h.ne_map hj (by rw [hg', e']))
  · by_cases e : j = k
    · rw [e, dn_strike_same hF] at hd; cases hd
    · rw [dn_strike_other e] at hd
      unfold updV
      rw [if_neg e]
      exact h.nil j hj hd
  · unfold updV at hgi hgj
    have new : ∀ q, q < 3 → (V2 q).ownBlock = some g → v'.ownBlock = some g → False := fun q hq e1 e2 => by
      have a1 := (h.lt hq e1).1
      have a2 := (ho.lt e2).2
      omega
    by_cases e1 : i = k
    · rw [if_pos e1] at hgi
      by_cases e2 : j = k
      · exact hij (e1.trans e2.symm)
      · rw [if_neg e2] at hgj
        exact new j hj hgj hgi
    · rw [if_neg e1] at hgi
      by_cases e2 : j = k
      · rw [if_pos e2] at hgj
        exact new i hi hgi hgj
      · rw [if_neg e2] at hgj
        exact h.apart i j hi hj hij g hgi hgj
theorem DupRel.done {w : World} {base b m n b2 : Nat} {V : Nat → Value} (h : DupRel wr B m2 F s left G V2) (hl : ∀ l, left l = false) (h0 : Mem w base b m n F V s) (hb : Blk wr b2 63 #[.int .i64 (s.cells : Int), .int .i64 (s.kept : Int), .map (some m2)]) (hB : B ≤ b2 ∧ B ≤ m2) :
    Mem wr B b2 m2 3 G V2 s := by
  have hd : ∀ k, dn F left k = (F k).isSome := fun k => by unfold dn; rw [hl]; simp
  have hz : ∀ k, k < 3 → F k = none → V2 k = .slice none 0 0 ∧ cnt (s.S k) = 0 ∧ s.S k = [] := fun k hk e => by
    have h1 := h.nil k hk (by rw [hd, e]; rfl)
    have h2 := h0.val k hk
    rw [e] at h2
    simp only [Option.getD_none, zp] at h2
    injection h2 with h2
    simp at h2
    have h3 := h0.own k hk
    rw [← h2.1] at h3
    rcases h3 with ⟨_, h3⟩ | ⟨q, c, cur, h3, _⟩
    · exact ⟨h1, by rw [h3]; rfl, h3⟩
    · cases h3
  refine ⟨hb, h.map.mono (dcnt_le F left), fun k hk => ?_, fun k hk => ?_, h.apart, hB⟩
  · rw [h.g k hk, hd]
    cases hF : F k with
    | none =>
      obtain ⟨e1, e2, e3⟩ := hz k hk hF
      rw [e1, e2]; rfl
    | some v => rfl
  · cases hF : F k with
    | none =>
      obtain ⟨e1, e2, e3⟩ := hz k hk hF
      rw [e1, e3]; exact Own.nil _ _
    | some v => exact h.own k hk (by rw [hd, hF]; rfl)
end
end Sp
end Go.Proofs.Ytpbojhjbjnoihaa
