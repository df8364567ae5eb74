/-
  A range brought from one state to another: each cell is still in one of the three. What stands where, told by the cells alone.
-/
import Derived.Test.YtpbojhjbjnoihaaSpcMove
namespace Go.Proofs.Ytpbojhjbjnoihaa
open Go Go.RowKit
set_option maxRecDepth 100000
set_option linter.unusedVariables false
namespace Sp
def SS.mv (s : SS) (f t a e : Nat) : SS := (s.upd f (outL a e (s.S f))).upd t (withL a e (s.S t))
section
variable {s : SS} {f t a e : Nat}
theorem mv_S (k : Nat) : (s.mv f t a e).S k = if k = t then withL a e (s.S t) else if k = f then outL a e (s.S f) else s.S k := rfl
theorem Good.apart (h : Good s) (hf : f < 3) (ht : t < 3) (hft : f ≠ t) (hae : a < e) (hh : hasL a e (s.S f) = true) : ∀ c, a ≤ c → c < e → ¬ mem (s.S t) c := fun c h1 h2 h3 =>
  hft (h.one f t c hf ht ((Ris.has hae (h.ris f hf)).1 hh c h1 h2) h3)
theorem Good.mv_mem (h : Good s) (hf : f < 3) (ht : t < 3) (hft : f ≠ t) (hae : a < e) (hh : hasL a e (s.S f) = true) (k : Nat) (hk : k < 3) (c : Nat) :
    mem ((s.mv f t a e).S k) c ↔ if a ≤ c ∧ c < e then k = t else mem (s.S k) c := by
  have ho := ((h.ris f hf).out_ hae hh).2.1 c
  have hw := ((h.ris t ht).with_ hae (Nat.zero_le _) (h.apart hf ht hft hae hh)).2.1 c
  have hin := fun h1 h2 => (Ris.has hae (h.ris f hf)).1 hh c h1 h2
  rw [mv_S]
  by_cases hc : a ≤ c ∧ c < e
  · rw [if_pos hc]
    by_cases e1 : k = t
    · rw [if_pos e1, hw]
      exact ⟨fun _ => e1, fun _ => .inr hc⟩
    · rw [if_neg e1]
      by_cases e2 : k = f
      · rw [if_pos e2, ho]
        exact ⟨fun h1 => absurd hc h1.2, fun h1 => absurd h1 e1⟩
      · rw [if_neg e2]
        exact ⟨fun h1 => absurd (h.one k f c hk hf h1 (hin hc.1 hc.2)) e2, fun h1 => absurd h1 e1⟩
  · rw [if_neg hc]
    by_cases e1 : k = t
    · rw [if_pos e1, hw, e1]
      exact ⟨fun h1 => h1.elim id (fun h2 => absurd h2 hc), fun h1 => .inl h1⟩
    · rw [if_neg e1]
      by_cases e2 : k = f
      · rw [if_pos e2, ho, e2]
        exact ⟨fun h1 => h1.1, fun h1 => ⟨h1, hc⟩⟩
      · rw [if_neg e2]
theorem Good.mv (h : Good s) (hf : f < 3) (ht : t < 3) (hft : f ≠ t) (hae : a < e) (hh : hasL a e (s.S f) = true) : Good (s.mv f t a e) := by
  have hM := fun k hk c => h.mv_mem hf ht hft hae hh k hk c
  have hin := fun c h1 h2 => (Ris.has hae (h.ris f hf)).1 hh c h1 h2
  refine ⟨h.hc, fun k hk => ?_, fun k hk c hc => ?_, fun k j c hk hj h1 h2 => ?_, fun c hc => ?_, h.kp⟩
  · rw [mv_S]
    by_cases e1 : k = t
    · rw [if_pos e1]; exact ((h.ris t ht).with_ hae (Nat.zero_le _) (h.apart hf ht hft hae hh)).1
    · rw [if_neg e1]
      by_cases e2 : k = f
      · rw [if_pos e2]; exact ((h.ris f hf).out_ hae hh).1
      · rw [if_neg e2]; exact h.ris k hk
  · have h1 := (hM k hk c).1 hc
    by_cases hr : a ≤ c ∧ c < e
    · exact h.in_ f hf c (hin c hr.1 hr.2)
    · rw [if_neg hr] at h1
      exact h.in_ k hk c h1
  · have h3 := (hM k hk c).1 h1
    have h4 := (hM j hj c).1 h2
    by_cases hr : a ≤ c ∧ c < e
    · rw [if_pos hr] at h3 h4
      exact h3.trans h4.symm
    · rw [if_neg hr] at h3 h4
      exact h.one k j c hk hj h3 h4
  · by_cases hr : a ≤ c ∧ c < e
    · exact ⟨t, ht, (hM t ht c).2 (by rw [if_pos hr])⟩
    · obtain ⟨k, hk, h1⟩ := h.all c hc
      exact ⟨k, hk, (hM k hk c).2 (by rw [if_neg hr]; exact h1)⟩
theorem Good.mv_cnt (h : Good s) (hf : f < 3) (ht : t < 3) (hft : f ≠ t) (hae : a < e) (hh : hasL a e (s.S f) = true) : cnt ((s.mv f t a e).S f) + (e - a) = cnt (s.S f) ∧ cnt ((s.mv f t a e).S t) = cnt (s.S t) + (e - a) ∧ ∀ k, k ≠ f → k ≠ t → (s.mv f t a e).S k = s.S k := by
  refine ⟨?_, ?_, fun k h1 h2 => ?_⟩
  · rw [mv_S, if_neg hft, if_pos rfl]; exact ((h.ris f hf).out_ hae hh).2.2
  · rw [mv_S, if_pos rfl]; exact ((h.ris t ht).with_ hae (Nat.zero_le _) (h.apart hf ht hft hae hh)).2.2
  · rw [mv_S, if_neg h2, if_neg h1]
end
/-- 'move', whole -/
theorem move_sp {w : World} {base b m n : Nat} {F : Nat → Option Value} {V : Nat → Value} {s : SS} (h : Spc w base b m n F V s) (hbs : base ≤ w.heap.size) (hnm : n + 2 < maxLen) {a e f t : Nat} (hf : f < 3) (ht : t < 3) (hft : f ≠ t) (hae : a < e) (hes : e ≤ 1000000) :
    Calls Try.prog 28 #[.pointer (some ⟨b, 0, none⟩), .agg #[.int .i64 (a : Int), .int .i64 (e : Int)], .int .i64 (f : Int), .int .i64 (t : Int)] w fun er w' =>
      er = .returned (.bool (hasL a e (s.S f))) ∧ ∃ F' V', Spc w' base b m (n + 2) F' V' (if hasL a e (s.S f) then s.mv f t a e else s) ∧ Chg w w' b m V V' :=
  (move_rg h hbs hnm hf ht hft hae hes).mono fun er w' ⟨h1, h2⟩ => by
    cases hh : hasL a e (s.S f) with
    | false =>
      obtain ⟨rfl, hb⟩ := h1 hh
      have hm := h.mem.below hb (Nat.le_refl _)
      exact ⟨rfl, F, V, ⟨⟨hm.blk, hm.map.mono (by omega), hm.val, hm.own, hm.apart, hm.lo⟩, h.good⟩, Chg.of_below hb⟩
    | true =>
      obtain ⟨rfl, F', V', hm, hc⟩ := h2 hh
      exact ⟨rfl, F', V', ⟨hm, h.good.mv hf ht hft hae hh⟩, hc⟩
end Sp
end Go.Proofs.Ytpbojhjbjnoihaa
