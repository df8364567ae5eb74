/-
  'sort.Search' over a part's ranges, '(part).ending' by contracts. Conditions: the ranges rise.
-/
import Derived.Test.YtpbojhjbjnoihaaSpcAll
import Derived.Deep.LoopGhost
namespace Go.Proofs.Ytpbojhjbjnoihaa
open Go Go.RowKit
set_option maxRecDepth 100000
set_option linter.unusedVariables false
namespace Sp
set_option maxHeartbeats 800000 in
theorem ending1 (w : World) (b2 b3 g o n c i x y : Nat) (h2 : w.cell? ⟨b2, 0, none⟩ = some (.slice (some ⟨g, o, none⟩) n c)) (h3 : w.cell? ⟨b3, 0, none⟩ = some (.int .i64 (x : Int))) (hi : i < n) (hn : n ≤ 100000)
    (hc : w.cell? ⟨g, o + i * 2 + 1, none⟩ = some (.int .i64 (y : Int))) :
    Calls Try.prog 51 #[.int .i64 (i : Int), .pointer (some ⟨b2, 0, none⟩), .pointer (some ⟨b3, 0, none⟩)] w fun e w' => e = .returned (.bool (decide (x ≤ y))) ∧ w' = w.drew := by
  have i1 : (0 : Int) ≤ (i : Int) := by omega
  have i2 : (i : Int) < (n : Int) := by omega
  go_enter Try.func51, Try.ntmps51
  go_wp2_with fail
  go_region
  go_wp2_with fail
  go_ret
  exact ⟨rfl, rfl⟩
set_option maxHeartbeats 1600000 in
theorem search (w : World) (b2 b3 c x : Nat) (A : Option Addr) (l : List Rg) (h2 : w.cell? ⟨b2, 0, none⟩ = some (.slice A l.length c)) (h3 : w.cell? ⟨b3, 0, none⟩ = some (.int .i64 (x : Int))) (hn : l.length ≤ 100000)
    (hA : Rd w A l) {lo0 : Nat} (hr : Ris lo0 l) :
    Calls Try.prog 50 #[.int .i64 (l.length : Int), .func (.func 51) #[] #[.pointer (some ⟨b2, 0, none⟩), .pointer (some ⟨b3, 0, none⟩)]] w fun e w' => e = .returned (.int .i64 (pos x l : Int)) ∧ ∃ q, w' = w.drewN q := by
  obtain ⟨n, hnn⟩ : ∃ n, n = l.length := ⟨_, rfl⟩
  obtain ⟨P, hP⟩ : ∃ P, P = pos x l := ⟨_, rfl⟩
  have hPn : P ≤ n := by rw [hP, hnn]; exact pos_le x l
  have hnb : n ≤ 100000 := by omega
  rw [← hnn, ← hP]
  have HE : Hid (∀ q i, i < n → Calls Try.prog 51 #[.int .i64 (i : Int), .pointer (some ⟨b2, 0, none⟩), .pointer (some ⟨b3, 0, none⟩)] (w.drewN q) fun e w' => e = .returned (.bool (decide (P ≤ i))) ∧ w' = (w.drewN q).drew) := Lib.hid fun q i hi => by
    have hi' : i < l.length := by omega
    obtain ⟨g, o, hAe, hc⟩ : ∃ g o, A = some ⟨g, o, none⟩ ∧ ∀ j v, (rcells l)[j]? = some v → w.cell? ⟨g, o + j, none⟩ = some v := by
      rcases hA with e | ⟨g, o, e, _, hc⟩
      · rw [e] at hi'; simp at hi'
      · exact ⟨g, o, e, hc⟩
    subst hAe
    have hg := List.getElem?_eq_getElem hi'
    have h := ending1 (w.drewN q) b2 b3 g o l.length c i x l[i].2 h2 h3 hi' hn (by
      have := hc _ _ (rcells_get hg).2
      rw [← Nat.add_assoc] at this
      exact this)
    have e : decide (x ≤ l[i].2) = decide (P ≤ i) := by
      have hq := hr.pos_eq (x := x) i
      rw [hg, ← hP] at hq
      by_cases h1 : x ≤ l[i].2
      · rw [decide_eq_true h1, decide_eq_true (hq.1 ⟨_, rfl, decide_eq_true h1⟩).2]
      · rw [decide_eq_false h1, decide_eq_false (fun h2 => by
          obtain ⟨r, h3, h4⟩ := hq.2 ⟨hi', h2⟩
          injection h3 with h3
          rw [h3] at h1
          exact h1 (of_decide_eq_true h4))]
    rw [e] at h
    exact h
  clear hnn hP hn hA hr h2 h3
  go_enter Try.func50, Try.ntmps50
  go_wp2_with fail
  go_loopg [5, 6] n (fun kx s5 s6 wr => ∃ (lo hi q : Nat), s5 = .int .i64 lo ∧ s6 = .int .i64 hi ∧ lo ≤ P ∧ P ≤ hi ∧ hi ≤ n ∧ hi - lo ≤ kx ∧ wr = w.drewN q)
  case atStart => exact ⟨0, n, 0, rfl, rfl, Nat.zero_le _, hPn, Nat.le_refl _, by omega, rfl⟩
  case round =>
    obtain ⟨lo, hi, q, rfl, rfl, h1, h2, h3, hg, rfl⟩ := hrel
    by_cases hlt : lo < hi
    · have hc := HE.out q ((lo + hi) / 2) (by omega)
      rw [show (((lo + hi) / 2 : Nat) : Int) = ((lo : Int) + (hi : Int)) / 2 by omega] at hc
      by_cases hp : P ≤ (lo + hi) / 2
      · rw [decide_eq_true hp] at hc
        have HC := Lib.hid hc
        clear hc
        go_wp2_with fail
        refine HC.out.mono ?_
        rintro e w' ⟨rfl, rfl⟩
        go_wp2_with fail
        go_roundg ((lo + hi) / 2 - lo)
        case measure => omega
        case rel => exact ⟨lo, (lo + hi) / 2, q + 1, rfl, by rw [show ((lo : Int) + (hi : Int)) / 2 = (((lo + hi) / 2 : Nat) : Int) by omega], h1, hp, by omega, Nat.le_refl _, rfl⟩
      · rw [decide_eq_false hp] at hc
        have HC := Lib.hid hc
        clear hc
        go_wp2_with fail
        refine HC.out.mono ?_
        rintro e w' ⟨rfl, rfl⟩
        go_wp2_with fail
        go_roundg (hi - ((lo + hi) / 2 + 1))
        case measure => omega
        case rel => exact ⟨(lo + hi) / 2 + 1, hi, q + 1, by rw [show ((lo : Int) + (hi : Int)) / 2 + 1 = (((lo + hi) / 2 + 1 : Nat) : Int) by omega], rfl, by omega, h2, h3, Nat.le_refl _, rfl⟩
    · obtain rfl : hi = lo := by omega
      obtain rfl : P = hi := by omega
      go_wp2_with fail
      go_ret
      exact ⟨rfl, q, rfl⟩
end Sp
end Go.Proofs.Ytpbojhjbjnoihaa
