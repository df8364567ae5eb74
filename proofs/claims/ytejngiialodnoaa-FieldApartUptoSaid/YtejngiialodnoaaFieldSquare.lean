/-
  'field.square' and 'field.pivot', each by a contract. Conditions: what is handed in reads as rows of bytes.
-/
import Derived.Test.YtejngiialodnoaaFieldMul
import Derived.Test.YtejngiialodnoaaFieldU8
import Derived.Test.YtejngiialodnoaaBytes
namespace Go.Proofs.Ytejngiialodnoaa
open Go.RowKit
set_option maxRecDepth 100000
set_option linter.unusedVariables false

/-- n rows of bytes that lie below block B. -/
def RdR (w : World) (B : Nat) (A : Option Addr) (n : Nat) (ra : Nat → Option Addr) (rl rc : Nat → Nat) (x : Nat → Nat → Nat) : Prop :=
  ∀ i, i < n → ∃ b o, A = some ⟨b, o, none⟩ ∧ b < B ∧ w.cell? ⟨b, o + i, none⟩ = some (.slice (ra i) (rl i) (rc i)) ∧ RdB w B (ra i) (rl i) (x i)
theorem RdR.below {w w' : World} {B B' : Nat} {A : Option Addr} {n : Nat} {ra : Nat → Option Addr} {rl rc : Nat → Nat} {x : Nat → Nat → Nat} (h : RdR w B A n ra rl rc x) (hb : Below B' w w') (hB : B ≤ B') : RdR w' B A n ra rl rc x := by
  intro i hi
  obtain ⟨b, o, h1, h2, h3, h4⟩ := h i hi
  exact ⟨b, o, h1, h2, (hb.cell (p := ⟨b, o + i, none⟩) (by show b < B'; omega)).trans h3, h4.below hb hB⟩

/-- Is it a system? -/
def IsSq (n m : Nat) (rl : Nat → Nat) : Prop := 1 ≤ n ∧ n ≤ 8 ∧ m = n ∧ ∀ i, i < n → rl i = n

set_option maxRecDepth 100000 in
set_option maxHeartbeats 400000 in
theorem square_yes (A A2 : Option Addr) (n c m c2 : Nat) (B : Nat) (ra : Nat → Option Addr) (rl rc : Nat → Nat) (x : Nat → Nat → Nat) (w : World) (hr : RdR w B A n ra rl rc x) (hq : IsSq n m rl) :
    Calls Try.prog 27 #[.slice A n c, .slice A2 m c2] w fun e w' => e = .returned (.bool true) ∧ w = w' := by
  obtain ⟨hn1, hn8, rfl, hall⟩ := hq
  have HA := Lib.hid hall
  clear hall
  obtain ⟨b, o, rfl, _⟩ := hr 0 (by omega)
  have HR : Hid (∀ i, i < m → w.cell? ⟨b, o + i, none⟩ = some (.slice (ra i) (rl i) (rc i))) := by
    intro i hi
    obtain ⟨b', o', h1, _, h3, _⟩ := hr i hi
    injection h1 with h1
    injection h1 with h1 h2
    subst h1; subst h2
    exact h3
  clear hr
  have t1 : ((m : Int) < 1) = False := by simp; omega
  have t2 : ((8 : Int) < (m : Int)) = False := by simp; omega
  go_enter Try.func27, Try.ntmps27
  go_wp2
  go_loop [24] (fun x => ∃ k : Nat, k ≤ m ∧ x = .int .i64 k) (fun x => m - (intOf x).toNat)
  case atStart => exact ⟨0, by omega, rfl⟩
  case round =>
    obtain ⟨k, hk, rfl⟩ := hrel
    by_cases hlt : k < m
    · have hc := HR.out k hlt
      rw [HA.out k hlt] at hc
      generalize ra k = r1 at *
      generalize rc k = r2 at *
      go_wp2
      go_round
      case rel => exact ⟨k + 1, by omega, by go_num⟩
      case measure => simp [intOf]; omega
    · obtain rfl : k = m := by omega
      go_wp2
      go_ret
      exact ⟨rfl, rfl⟩

theorem least_bad {n : Nat} {rl : Nat → Nat} (h : ¬ ∀ i, i < n → rl i = n) : ∃ i0, i0 < n ∧ rl i0 ≠ n ∧ ∀ i, i < i0 → rl i = n := by
  have aux : ∀ k, k ≤ n → (∀ i, i < k → rl i = n) ∨ ∃ i0, i0 < n ∧ rl i0 ≠ n ∧ ∀ i, i < i0 → rl i = n := by
    intro k
    induction k with
    | zero => exact fun _ => .inl fun i hi => absurd hi (by omega)
    | succ k ih =>
      intro hk
      rcases ih (by omega) with h1 | h1
      · by_cases e : rl k = n
        · refine .inl fun i hi => ?_
          by_cases e2 : i = k
          · rw [e2, e]
          · exact h1 i (by omega)
        · exact .inr ⟨k, by omega, e, h1⟩
      · exact .inr h1
  rcases aux n (Nat.le_refl _) with h1 | h1
  · exact absurd h1 h
  · exact h1

set_option maxRecDepth 100000 in
set_option maxHeartbeats 400000 in
theorem square_no (A A2 : Option Addr) (n c m c2 : Nat) (B : Nat) (ra : Nat → Option Addr) (rl rc : Nat → Nat) (x : Nat → Nat → Nat) (w : World) (hr : RdR w B A n ra rl rc x) (hq : ¬ IsSq n m rl) :
    Calls Try.prog 27 #[.slice A n c, .slice A2 m c2] w fun e w' => e = .returned (.bool false) ∧ w = w' := by
  by_cases h1 : n = 0
  · subst h1
    go_enter Try.func27, Try.ntmps27
    go_wp2
    go_ret
    exact ⟨rfl, rfl⟩
  by_cases h8 : 8 < n
  · clear hr hq
    have t1 : ((n : Int) < 1) = False := by simp; omega
    have t2 : ((8 : Int) < (n : Int)) = True := by simp; omega
    go_enter Try.func27, Try.ntmps27
    go_wp2
    go_ret
    exact ⟨rfl, rfl⟩
  have t1 : ((n : Int) < 1) = False := by simp; omega
  have t2 : ((8 : Int) < (n : Int)) = False := by simp; omega
  by_cases hm : m = n
  · subst hm
    obtain ⟨i0, hi0, hbad, hall⟩ := least_bad (n := m) (rl := rl) (fun h => hq ⟨by omega, by omega, rfl, h⟩)
    have HA := Lib.hid hall
    have HN := Lib.hid hbad
    clear hall hq hbad
    obtain ⟨b, o, rfl, _⟩ := hr 0 (by omega)
    have HR : Hid (∀ i, i < m → w.cell? ⟨b, o + i, none⟩ = some (.slice (ra i) (rl i) (rc i))) := by
      intro i hi
      obtain ⟨b', o', h1, _, h3, _⟩ := hr i hi
      injection h1 with h1
      injection h1 with h1 h2
      subst h1; subst h2
      exact h3
    clear hr
    go_enter Try.func27, Try.ntmps27
    go_wp2
    go_loop [24] (fun x => ∃ k : Nat, k ≤ i0 ∧ x = .int .i64 k) (fun x => m - (intOf x).toNat)
    case atStart => exact ⟨0, by omega, rfl⟩
    case round =>
      obtain ⟨k, hk, rfl⟩ := hrel
      by_cases hlt : k < i0
      · have hc := HR.out k (by omega)
        rw [HA.out k hlt] at hc
        generalize ra k = r1 at *
        generalize rc k = r2 at *
        go_wp2
        go_round
        case rel => exact ⟨k + 1, by omega, by go_num⟩
        case measure => simp [intOf]; omega
      · obtain rfl : k = i0 := by omega
        have hc := HR.out k (by omega)
        have hne : ((rl k : Int) != (m : Int)) = true := by rw [bne_iff_ne]; have := HN.out; omega
        generalize ra k = r1 at *
        generalize rc k = r2 at *
        generalize rl k = r3 at *
        go_wp2
        go_ret
        exact ⟨rfl, rfl⟩
  · clear hr hq
    have hne : ((m : Int) != (n : Int)) = true := by rw [bne_iff_ne]; omega
    go_enter Try.func27, Try.ntmps27
    go_wp2
    go_ret
    exact ⟨rfl, rfl⟩
end Go.Proofs.Ytejngiialodnoaa
