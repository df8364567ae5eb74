/-
  A state for each cell beside a space: what a take, a give, a settling make of it; how many cells are free. Plain mathematics. No conditions beyond those that each theorem types.
-/
import Derived.Test.YtpbojhjbjnoihaaIntRowM
namespace Go.Proofs.Ytpbojhjbjnoihaa
open Go Go.RowKit
set_option maxRecDepth 100000
set_option linter.unusedVariables false
namespace Sp
def memB (l : List Rg) (c : Nat) : Bool := l.any fun r => decide (r.1 ≤ c) && decide (c < r.2)
theorem memB_iff (l : List Rg) (c : Nat) : memB l c = true ↔ mem l c := by
  unfold memB mem
  rw [List.any_eq_true]
  constructor
  · rintro ⟨r, h1, h2⟩; simp at h2; exact ⟨r, h1, h2⟩
  · rintro ⟨r, h1, h2⟩; exact ⟨r, h1, by simp; exact h2⟩
def numB (p : Nat → Bool) : Nat → Nat
  | 0 => 0
  | n + 1 => numB p n + if p n then 1 else 0
theorem numB_congr {p q : Nat → Bool} : ∀ n, (∀ c, c < n → p c = q c) → numB p n = numB q n
  | 0, _ => rfl
  | n + 1, h => by
    show numB p n + _ = numB q n + _
    rw [numB_congr n (fun c hc => h c (by omega)), h n (by omega)]
theorem numB_le (p : Nat → Bool) : ∀ n, numB p n ≤ n
  | 0 => Nat.le_refl _
  | n + 1 => by
    have := numB_le p n
    show numB p n + (if p n then 1 else 0) ≤ n + 1
    split <;> omega
theorem numB_or {p q r : Nat → Bool} : ∀ n, (∀ c, c < n → r c = (p c || q c)) → (∀ c, c < n → p c = true → q c = false) → numB r n = numB p n + numB q n
  | 0, _, _ => rfl
  | n + 1, h1, h2 => by
    have ih := numB_or n (fun c hc => h1 c (by omega)) (fun c hc => h2 c (by omega))
    show numB r n + (if r n then 1 else 0) = (numB p n + if p n then 1 else 0) + (numB q n + if q n then 1 else 0)
    rw [ih, h1 n (by omega)]
    cases hp : p n with
    | true => rw [h2 n (by omega) hp]; simp; omega
    | false => cases q n <;> simp <;> omega
theorem numB_range (a b : Nat) (hab : a ≤ b) : ∀ n, numB (fun c => decide (a ≤ c) && decide (c < b)) n = min b n - min a n
  | 0 => by simp [numB]
  | n + 1 => by
    have ih := numB_range a b hab n
    show numB _ n + (if (decide (a ≤ n) && decide (n < b)) then 1 else 0) = _
    rw [ih]
    by_cases h1 : a ≤ n
    · by_cases h2 : n < b
      · simp [h1, h2]; omega
      · simp [h1, h2]; omega
    · simp [h1]; omega
theorem Ris.numB {lo N : Nat} : ∀ {l : List Rg}, Ris lo l → (∀ c, mem l c → c < N) → cnt l = Sp.numB (memB l) N
  | [], _, _ => by
    have : ∀ n, Sp.numB (memB []) n = 0 := fun n => by
      induction n with
      | zero => rfl
      | succ n ih => show Sp.numB (memB []) n + 0 = 0; omega
    rw [this]; rfl
  | r :: l, h, hN => by
    have ih := h.2.2.numB (N := N) (fun c hc => hN c ((mem_cons r l c).2 (.inr hc)))
    have hr := hN (r.2 - 1) ((mem_cons r l _).2 (.inl ⟨by have := h.2.1; omega, by have := h.2.1; omega⟩))
    have e1 := numB_or (p := fun c => decide (r.1 ≤ c) && decide (c < r.2)) (q := memB l) (r := memB (r :: l)) N (fun c _ => by unfold memB; rw [List.any_cons]) (fun c _ hp => by
      simp at hp
      cases hq : memB l c with
      | false => rfl
      | true =>
        have := h.2.2.ge ((memB_iff l c).1 hq)
        omega)
    rw [e1, numB_range r.1 r.2 (Nat.le_of_lt h.2.1), ← ih]
    show (r.2 - r.1) + cnt l = _
    have := h.2.1
    omega
/-- f tells of each cell in which of the three it is -/
def Tells (f : Nat → Int) (s : SS) : Prop := ∀ c, c < s.cells → ∃ k : Nat, k < 3 ∧ f c = (k : Int) ∧ mem (s.S k) c
section
variable {f : Nat → Int} {s : SS}
theorem Tells.iff (h : Tells f s) (hg : Sp.Good s) {c k : Nat} (hc : c < s.cells) (hk : k < 3) : f c = (k : Int) ↔ mem (s.S k) c := by
  obtain ⟨j, hj, e1, e2⟩ := h c hc
  constructor
  · intro e
    have : j = k := by omega
    subst this
    exact e2
  · intro e
    rw [e1, hg.one j k c hj hk e2 e]
theorem Tells.free (h : Tells f s) (hg : Sp.Good s) : cnt (s.S 0) = numB (fun c => f c == 0) s.cells := by
  rw [(hg.ris 0 (by omega)).numB (hg.in_ 0 (by omega))]
  refine numB_congr _ fun c hc => ?_
  have h1 := h.iff hg hc (show 0 < 3 by omega)
  have h2 := memB_iff (s.S 0) c
  cases hm : memB (s.S 0) c with
  | true => have := h1.2 (h2.1 hm); simp; exact this.symm ▸ rfl
  | false =>
    symm
    rw [beq_eq_false_iff_ne]
    intro e
    have := h2.2 (h1.1 e)
    rw [hm] at this
    cases this
/-- some cells are set -/
def fset (f : Nat → Int) (a b : Nat) (v : Int) (c : Nat) : Int := if a ≤ c ∧ c < b then v else f c
theorem fset_none (f : Nat → Int) (a : Nat) (v : Int) : fset f a a v = f := by
  funext c; unfold fset; rw [if_neg (by omega)]
theorem fset_next (f : Nat → Int) {a b : Nat} (h : a ≤ b) (v : Int) : (fun j => if j = b then v else fset f a b v j) = fset f a (b + 1) v := by
  funext c
  unfold fset
  by_cases e : c = b
  · subst e; rw [if_pos rfl, if_pos (by omega)]
  · rw [if_neg e]
    by_cases e2 : a ≤ c ∧ c < b
    · rw [if_pos e2, if_pos (by omega)]
    · rw [if_neg e2, if_neg (by omega)]
theorem Tells.mv (h : Tells f s) (hg : Sp.Good s) {p t a e : Nat} (hp : p < 3) (ht : t < 3) (hpt : p ≠ t) (hae : a < e) (hh : hasL a e (s.S p) = true) : Tells (fset f a e (t : Int)) (s.mv p t a e) := fun c hc => by
  have hM := fun k hk => hg.mv_mem hp ht hpt hae hh k hk c
  unfold fset
  by_cases e2 : a ≤ c ∧ c < e
  · exact ⟨t, ht, by rw [if_pos e2], (hM t ht).2 (by rw [if_pos e2])⟩
  · obtain ⟨k, hk, h1, h2⟩ := h c hc
    exact ⟨k, hk, by rw [if_neg e2]; exact h1, (hM k hk).2 (by rw [if_neg e2]; exact h2)⟩
def fset2 (f : Nat → Int) (b : Nat) (c : Nat) : Int := if c < b ∧ f c = 2 then 0 else f c
theorem fset2_none (f : Nat → Int) : fset2 f 0 = f := by
  funext c; unfold fset2; rw [if_neg (by omega)]
theorem fset2_yes (f : Nat → Int) {b : Nat} (h : f b = 2) : (fun j => if j = b then 0 else fset2 f b j) = fset2 f (b + 1) := by
  funext c
  unfold fset2
  by_cases e : c = b
  · subst e; rw [if_pos rfl, if_pos ⟨by omega, h⟩]
  · rw [if_neg e]
    by_cases e2 : c < b ∧ f c = 2
    · rw [if_pos e2, if_pos ⟨by omega, e2.2⟩]
    · rw [if_neg e2, if_neg (fun x => e2 ⟨by omega, x.2⟩)]
theorem fset2_no (f : Nat → Int) {b : Nat} (h : f b ≠ 2) : fset2 f b = fset2 f (b + 1) := by
  funext c
  unfold fset2
  by_cases e2 : c < b ∧ f c = 2
  · rw [if_pos e2, if_pos ⟨by omega, e2.2⟩]
  · rw [if_neg e2, if_neg (fun x => e2 ⟨by
      by_cases e : c = b
      · subst e; exact absurd x.2 h
      · omega, x.2⟩)]
theorem Tells.settled (h : Tells f s) (hg : Sp.Good s) : Tells (fset2 f s.cells) s.settled := fun c hc => by
  have hM := fun k hk => hg.settled_all.1 k hk c
  have hc' : c < s.cells := hc
  obtain ⟨k, hk, h1, h2⟩ := h c hc'
  unfold fset2
  by_cases e : k = 2
  · subst e
    exact ⟨0, by omega, by rw [if_pos ⟨hc', h1⟩]; rfl, (hM 0 (by omega)).2 (by rw [if_pos rfl]; exact .inr h2)⟩
  · refine ⟨k, hk, by rw [if_neg (fun x => e (by have := x.2; omega))]; exact h1, (hM k hk).2 ?_⟩
    by_cases e0 : k = 0
    · subst e0; rw [if_pos rfl]; exact .inl h2
    · rw [if_neg e0, if_neg e]; exact h2
theorem Tells.start (C : Nat) : Tells (fun _ => 0) (allFree C) := fun c hc => ⟨0, by omega, rfl, (allFree_mem C c).2 ⟨rfl, hc⟩⟩
/-- are all of some cells 'v'? -/
def allB (f : Nat → Int) (v : Int) (a b : Nat) : Prop := ∀ c, a ≤ c → c < b → f c = v
theorem Tells.has (h : Tells f s) (hg : Sp.Good s) {k a e : Nat} (hk : k < 3) (hae : a < e) (hes : e ≤ s.cells) : hasL a e (s.S k) = true ↔ allB f (k : Int) a e := by
  rw [Ris.has hae (hg.ris k hk)]
  constructor
  · intro h1 c h2 h3
    exact (h.iff hg (by omega) hk).2 (h1 c h2 h3)
  · intro h1 c h2 h3
    exact (h.iff hg (by omega) hk).1 (h1 c h2 h3)
end
section
variable {O : Nat → Prop} {w : World} {b m : Nat} {s : SS}
theorem give_o (h : SpO O w b m s) (a j : Int) (ha1 : -9223372036854775808 ≤ a) (ha2 : a ≤ 9223372036854775807) (hj1 : -9223372036854775808 ≤ j) (hj2 : j ≤ 9223372036854775807) : Calls Try.prog 9 #[.pointer (some ⟨b, 0, none⟩), .int .i64 a, .int .i64 j] w fun e w' => e = .returned (.int .i64 (giveS s a j).1) ∧ SpO (More O w w') w' b m (giveS s a j).2 ∧ Frm O w w' := by
  have hO := h
  obtain ⟨h0, h1', h2', F, V, hs, hv⟩ := h
  have same : ∀ w', Below w.heap.size w w' → SpO (More O w w') w' b m s ∧ Frm O w w' := fun w' hb => ⟨hO.more hb.size fun g hg => hb.block g (h0 g hg), .of hb O⟩
  by_cases hno : j < 1 ∨ a < 0 ∨ (s.cells : Int) - j < a
  · have e1 : giveS s a j = (1, s) := if_pos hno
    rw [e1]
    exact (give_no hs a j ha1 ha2 hj1 hj2 hno).mono fun e w' ⟨h1, h2⟩ => ⟨h1, same _ h2⟩
  · obtain ⟨x, hx⟩ : ∃ x, x = a.toNat := ⟨_, rfl⟩
    obtain ⟨k, hk⟩ : ∃ k, k = j.toNat := ⟨_, rfl⟩
    have ea : a = (x : Int) := by omega
    have ej : j = (k : Int) := by omega
    have e1 : giveS s a j = if hasL x (x + k) (s.S 1) then (0, s.mv 1 2 x (x + k)) else (7, s) := by
      unfold giveS
      rw [if_neg hno, ← hx, ← hk]
    rw [e1, ea, ej]
    refine (give_sp hs (Nat.zero_le _) (by decide) x k (by omega) (by omega)).mono fun e w' ⟨h3, F', V', h4, h5⟩ => ?_
    have := h5.frm (n := 3) (F := F) h1' h2' hv h0 h4
    cases hh : hasL x (x + k) (s.S 1) with
    | true => rw [hh] at h3 this; exact ⟨h3, this.2, this.1⟩
    | false => rw [hh] at h3 this; exact ⟨h3, this.2, this.1⟩
theorem free_o (h : SpO O w b m s) : Calls Try.prog 8 #[.pointer (some ⟨b, 0, none⟩)] w fun e w' => e = .returned (.int .i64 ((cnt (s.S 0) : Int) - (s.kept : Int))) ∧ SpO O w' b m s ∧ Below w.heap.size w w' := by
  have hO := h
  obtain ⟨h0, h1', h2', F, V, hs, hv⟩ := h
  exact (free_rg hs).mono fun e w' ⟨h1, h2⟩ => ⟨h1, hO.keep h2.size fun g hg => h2.block g (h0 g hg), h2⟩
theorem More.not {O : Nat → Prop} {w w' : World} {g : Nat} (h : ¬ O g) (hg : g < w.heap.size) : ¬ More O w w' g := fun h1 => h1.elim h (fun h1 => by omega)
end
end Sp
end Go.Proofs.Ytpbojhjbjnoihaa
