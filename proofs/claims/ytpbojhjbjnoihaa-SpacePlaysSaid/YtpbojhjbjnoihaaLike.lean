/-
  A space and the document's are alike: the law's own look. No conditions beyond those that the theorem types.
-/
import Derived.Test.YtpbojhjbjnoihaaLikeSame
namespace Go.Proofs.Ytpbojhjbjnoihaa
open Go Go.RowKit
set_option maxRecDepth 100000
set_option linter.unusedVariables false
namespace Rf
open Sp
/-- a list that may be written -/
def Can (w : World) (B : Nat) (A : Option Addr) (n : Nat) : Prop := n = 0 ∨ ∃ g cap cur, A = some ⟨g, 0, none⟩ ∧ B ≤ g ∧ Blk w g 34 cur ∧ n ≤ cap ∧ cur.size = cap * 2
section
variable {w w' : World} {B : Nat} {A : Option Addr} {n : Nat}
theorem Can.of {v : Value} {l : List Rg} (h : Own w B v l) : ∃ A c, v = .slice A l.length c ∧ Rd w A l ∧ Can w B A l.length := by
  obtain ⟨A, c, h1, h2, _⟩ := h.shape
  refine ⟨A, c, h1, h2, ?_⟩
  rcases h with ⟨e1, e2⟩ | ⟨g, cap, cur, e1, e2, e3, e4, e5, e6, e7⟩
  · exact .inl (by rw [e2]; rfl)
  · rw [h1] at e1
    injection e1 with e1
    exact .inr ⟨g, cap, cur, e1, e2, e3, e4, e6⟩
theorem Can.set1 (h : Can w B A n) (g i : Nat) (u : Value) : Can (w.setCell ⟨g, i, none⟩ u) B A n := by
  rcases h with h | ⟨g1, cap, cur, h1, h2, h3, h4, h5⟩
  · exact .inl h
  · by_cases e : g1 = g
    · subst e
      exact .inr ⟨g1, cap, _, h1, h2, h3.set_ i u, h4, by rw [Array.size_setIfInBounds]; exact h5⟩
    · exact .inr ⟨g1, cap, cur, h1, h2, h3.far (p := ⟨g, i, none⟩) e u, h4, h5⟩
theorem Can.below (h : Can w B A n) (hb : Below w.heap.size w w') : Can w' B A n := by
  rcases h with h | ⟨g1, cap, cur, h1, h2, h3, h4, h5⟩
  · exact .inl h
  · exact .inr ⟨g1, cap, cur, h1, h2, h3.below hb h3.lt, h4, h5⟩
theorem Can.base_ {B' : Nat} (h : Can w B A n) (hB : B' ≤ B) : Can w B' A n := h.imp id fun ⟨g1, cap, cur, h1, h2, h3⟩ => ⟨g1, cap, cur, h1, Nat.le_trans hB h2, h3⟩
theorem Can.store (h : Can w B A n) {i : Nat} (hi : i < n) (x : Int) : ∃ g v0 v1, A = some ⟨g, 0, none⟩ ∧ B ≤ g ∧ w.cell? ⟨g, i * 2, none⟩ = some v0 ∧ w.frozen? ⟨g, i * 2, none⟩ = false ∧ (w.setCell ⟨g, i * 2, none⟩ (.int .i64 x)).cell? ⟨g, i * 2 + 1, none⟩ = some v1 ∧ (w.setCell ⟨g, i * 2, none⟩ (.int .i64 x)).frozen? ⟨g, i * 2 + 1, none⟩ = false := by
  rcases h with h | ⟨g1, cap, cur, h1, h2, h3, h4, h5⟩
  · omega
  · have X := h3.set_ (i * 2) (.int .i64 x)
    have hs : i * 2 + 1 < (cur.setIfInBounds (i * 2) (.int .i64 x)).size := by rw [Array.size_setIfInBounds]; omega
    have hs0 : i * 2 < cur.size := by omega
    exact ⟨g1, cur[i * 2], (cur.setIfInBounds (i * 2) (.int .i64 x))[i * 2 + 1], h1, h2, by rw [h3.cell, Array.getElem?_eq_getElem hs0], h3.frozen _, by rw [X.cell, Array.getElem?_eq_getElem hs], X.frozen _⟩
end
set_option maxHeartbeats 6400000 in
theorem alike_at {O O2 : Nat → Prop} {w : World} {b m rb : Nat} {s : SS} (h1 : SpO O w b m s) (h2 : RefS w O2 rb s) :
    Calls Try.prog 21 #[.pointer (some ⟨b, 0, none⟩), .pointer (some ⟨rb, 0, none⟩)] w fun e w' => e = .returned (.bool true) ∧ Below w.heap.size w w' := by
  have HSP : Hid (∀ w2, Below w.heap.size w w2 → SpO O w2 b m s) := Lib.hid fun w2 hb => h1.keep hb.size fun g hg => hb.block g (h1.1 g hg)
  have HA : Hid (∀ w2, Below w.heap.size w w2 → Calls Try.prog 38 #[.pointer (some ⟨b, 0, none⟩)] w2 fun e w' => ∃ v, e = .returned v ∧ Own w' w2.heap.size v (s.S 0) ∧ Below w2.heap.size w2 w') := Lib.hid fun w2 hb => by
    obtain ⟨_, _, _, F, V, hs, _⟩ := HSP.out w2 hb
    exact ranges_rg hs (Nat.zero_le _)
  have HU : Hid (∀ w2, Below w.heap.size w w2 → Calls Try.prog 39 #[.pointer (some ⟨b, 0, none⟩)] w2 fun e w' => ∃ v, e = .returned v ∧ Own w' w2.heap.size v (s.S 1) ∧ Below w2.heap.size w2 w') := Lib.hid fun w2 hb => by
    obtain ⟨_, _, _, F, V, hs, _⟩ := HSP.out w2 hb
    exact used_rg hs (Nat.zero_le _)
  have HF : Hid (∀ w2, Below w.heap.size w w2 → Calls Try.prog 8 #[.pointer (some ⟨b, 0, none⟩)] w2 fun e w' => e = .returned (.int .i64 ((cnt (s.S 0) : Int) - (s.kept : Int))) ∧ Below w2.heap.size w2 w') := Lib.hid fun w2 hb => (free_o (HSP.out w2 hb)).mono fun e w' ⟨q1, q2, q3⟩ => ⟨q1, q3⟩
  have HR0 : Hid (∀ w2, Below w.heap.size w w2 → Calls Try.prog 34 #[.pointer (some ⟨rb, 0, none⟩), .int .i64 0] w2 fun e w' => ∃ v, e = .returned v ∧ OwnR w' w2.heap.size v (s.S 0) ∧ Below w2.heap.size w2 w') := Lib.hid fun w2 hb => ranges_rs (h2.keep hb) 0 (by omega)
  have HR1 : Hid (∀ w2, Below w.heap.size w w2 → Calls Try.prog 34 #[.pointer (some ⟨rb, 0, none⟩), .int .i64 1] w2 fun e w' => ∃ v, e = .returned v ∧ OwnR w' w2.heap.size v (s.S 1) ∧ Below w2.heap.size w2 w') := Lib.hid fun w2 hb => ranges_rs (h2.keep hb) 1 (by omega)
  have HFR : Hid (∀ w2, Below w.heap.size w w2 → Calls Try.prog 33 #[.pointer (some ⟨rb, 0, none⟩)] w2 fun e w' => e = .returned (.int .i64 ((cnt (s.S 0) : Int) - (s.kept : Int))) ∧ Below w2.heap.size w2 w') := Lib.hid fun w2 hb => free_rs (h2.keep hb)
  have hg := h2.1
  have hl : ∀ k, k < 3 → (s.S k).length ≤ 100000 := fun k hk => by
    have := (hg.ris k hk).len (N := s.cells) (hg.in_ k hk)
    have := hg.hc.2
    omega
  obtain ⟨na, hna⟩ : ∃ na, na = (s.S 0).length := ⟨_, rfl⟩
  obtain ⟨nb, hnb⟩ : ∃ nb, nb = (s.S 1).length := ⟨_, rfl⟩
  have HNA := Lib.hid hna
  have HNB := Lib.hid hnb
  have hna2 : na ≤ 100000 := by rw [hna]; exact hl 0 (by omega)
  have hnb2 : nb ≤ 100000 := by rw [hnb]; exact hl 1 (by omega)
  have HSA : Hid (∀ (w2 : World) (A1 A2 : Option Addr) (c1 c2 : Nat), Rd w2 A1 (s.S 0) → Gr.RdG 2 csR w2 A2 (s.S 0) → Calls Try.prog 40 #[.slice A1 na c1, .slice A2 na c2] w2 fun e w' => e = .returned (.bool true) ∧ Below w2.heap.size w2 w') := Lib.hid fun w2 A1 A2 c1 c2 q1 q2 => by
    rw [hna]; exact same_at w2 (s.S 0) A1 A2 c1 c2 (hl 0 (by omega)) q1 q2
  have HSB : Hid (∀ (w2 : World) (A1 A2 : Option Addr) (c1 c2 : Nat), Rd w2 A1 (s.S 1) → Gr.RdG 2 csR w2 A2 (s.S 1) → Calls Try.prog 40 #[.slice A1 nb c1, .slice A2 nb c2] w2 fun e w' => e = .returned (.bool true) ∧ Below w2.heap.size w2 w') := Lib.hid fun w2 A1 A2 c1 c2 q1 q2 => by
    rw [hnb]; exact same_at w2 (s.S 1) A1 A2 c1 c2 (hl 1 (by omega)) q1 q2
  obtain ⟨fr, hfr⟩ : ∃ fr, fr = (cnt (s.S 0) : Int) - (s.kept : Int) := ⟨_, rfl⟩
  rw [← hfr] at HF HFR
  clear h1 h2 hg hl hna hnb hfr HSP
  go_enter Try.func21, Try.ntmps21
  go_wp2_with fail
  refine (HA.out _ (Below.refl _ _)).mono ?_
  rintro e w1 ⟨va, rfl, oa, b1⟩
  obtain ⟨Aa, ca, rfl, ra, na1⟩ := Can.of oa
  rw [← HNA.out] at na1 ⊢
  have L1 := Lib.hid b1
  have RA := Lib.hid (⟨ra, na1⟩ : _ ∧ _)
  clear oa ra na1 b1 HA
  go_wp2_with fail
  refine (HU.out _ L1.out).mono ?_
  rintro e w2 ⟨vb, rfl, ob, b2⟩
  obtain ⟨Ab, cb, rfl, rb2, nb1⟩ := Can.of ob
  rw [← HNB.out] at nb1 ⊢
  have L2 : Hid (Below w.heap.size w w2) := Lib.hid (L1.out.trans (b2.mono L1.out.size))
  have RA2 : Hid (Rd w2 Aa (s.S 0) ∧ Can w2 w.heap.size Aa na) := Lib.hid ⟨RA.out.1.below b2, RA.out.2.below b2⟩
  have RB2 : Hid (Rd w2 Ab (s.S 1) ∧ Can w2 w.heap.size Ab nb) := Lib.hid ⟨rb2, nb1.base_ L1.out.size⟩
  clear ob rb2 nb1 b2 HU RA
  go_wp2_with fail
  refine (HR0.out _ L2.out).mono ?_
  rintro e w3 ⟨v3, rfl, o3, b3⟩
  obtain ⟨A3, c3, rfl, r3, _, _, _, _⟩ := o3.shape (fun _ => rfl)
  rw [← HNA.out]
  have L3 : Hid (Below w.heap.size w w3) := Lib.hid (L2.out.trans (b3.mono L2.out.size))
  have RA3 : Hid (Can w3 w.heap.size Aa na) := Lib.hid (RA2.out.2.below b3)
  have RB3 : Hid (Rd w3 Ab (s.S 1) ∧ Can w3 w.heap.size Ab nb) := Lib.hid ⟨RB2.out.1.below b3, RB2.out.2.below b3⟩
  have HS3 := Lib.hid (HSA.out w3 Aa A3 ca c3 (RA2.out.1.below b3) r3)
  clear o3 r3 b3 HR0 RA2 RB2 HSA
  go_wp2_with fail
  refine HS3.out.mono ?_
  rintro e w4 ⟨rfl, b4⟩
  have L4 : Hid (Below w.heap.size w w4) := Lib.hid (L3.out.trans (b4.mono L3.out.size))
  have RA4 : Hid (Can w4 w.heap.size Aa na) := Lib.hid (RA3.out.below b4)
  have RB4 : Hid (Rd w4 Ab (s.S 1) ∧ Can w4 w.heap.size Ab nb) := Lib.hid ⟨RB3.out.1.below b4, RB3.out.2.below b4⟩
  clear b4 RA3 RB3 HS3
  go_wp2_with fail
  refine (HR1.out _ L4.out).mono ?_
  rintro e w5 ⟨v5, rfl, o5, b5⟩
  obtain ⟨A5, c5, rfl, r5, _, _, _, _⟩ := o5.shape (fun _ => rfl)
  rw [← HNB.out]
  have L5 : Hid (Below w.heap.size w w5) := Lib.hid (L4.out.trans (b5.mono L4.out.size))
  have RA5 : Hid (Can w5 w.heap.size Aa na) := Lib.hid (RA4.out.below b5)
  have RB5 : Hid (Can w5 w.heap.size Ab nb) := Lib.hid (RB4.out.2.below b5)
  have HS5 := Lib.hid (HSB.out w5 Ab A5 cb c5 (RB4.out.1.below b5) r5)
  clear o5 r5 b5 HR1 RA4 RB4 HSB
  go_wp2_with fail
  refine HS5.out.mono ?_
  rintro e w6 ⟨rfl, b6⟩
  have L6 : Hid (Below w.heap.size w w6) := Lib.hid (L5.out.trans (b6.mono L5.out.size))
  have RA6 : Hid (Can w6 w.heap.size Aa na) := Lib.hid (RA5.out.below b6)
  have RB6 : Hid (Can w6 w.heap.size Ab nb) := Lib.hid (RB5.out.below b6)
  clear b6 RA5 RB5 HS5
  go_wp2_with fail
  refine (HF.out _ L6.out).mono ?_
  rintro e w7 ⟨rfl, b7⟩
  have L7 : Hid (Below w.heap.size w w7) := Lib.hid (L6.out.trans (b7.mono L6.out.size))
  have RA7 : Hid (Can w7 w.heap.size Aa na) := Lib.hid (RA6.out.below b7)
  have RB7 : Hid (Can w7 w.heap.size Ab nb) := Lib.hid (RB6.out.below b7)
  clear b7 RA6 RB6
  go_wp2_with fail
  refine (HFR.out _ L7.out).mono ?_
  rintro e w8 ⟨rfl, b8⟩
  have L8 : Hid (Below w.heap.size w w8) := Lib.hid (L7.out.trans (b8.mono L7.out.size))
  have RA8 : Hid (Can w8 w.heap.size Aa na) := Lib.hid (RA7.out.below b8)
  have RB8 : Hid (Can w8 w.heap.size Ab nb) := Lib.hid (RB7.out.below b8)
  clear b8 RA7 RB7 HF HFR L1 L2 L3 L4 L5 L6 L7
  go_wp2_with fail
  go_loopw [8] (fun y wr => ∃ i : Nat, i ≤ na ∧ y = .int .i64 (i : Int) ∧ Hid (Can wr w.heap.size Aa na) ∧ Hid (Can wr w.heap.size Ab nb) ∧ Hid (Below w.heap.size w wr)) (fun y _ => na - (intOf y).toNat)
  case atStart => exact ⟨0, by omega, rfl, RA8, RB8, L8⟩
  case round =>
    clear RA8 RB8 L8
    obtain ⟨i, hi, rfl, RA, RB, L0⟩ := hrel
    by_cases hlt : i < na
    · have i1 : (i : Int) < (na : Int) := by omega
      obtain ⟨g, v0, v1, hA, hgB, q0, f0, q1, f1⟩ := RA.out.store hlt (-7)
      have RA9 : Hid (Can ((wr.setCell ⟨g, i * 2, none⟩ (.int .i64 (-7))).setCell ⟨g, i * 2 + 1, none⟩ (.int .i64 (-7))) w.heap.size Aa na) := Lib.hid ((RA.out.set1 _ _ _).set1 _ _ _)
      have RB9 : Hid (Can ((wr.setCell ⟨g, i * 2, none⟩ (.int .i64 (-7))).setCell ⟨g, i * 2 + 1, none⟩ (.int .i64 (-7))) w.heap.size Ab nb) := Lib.hid ((RB.out.set1 _ _ _).set1 _ _ _)
      have L9 : Hid (Below w.heap.size w ((wr.setCell ⟨g, i * 2, none⟩ (.int .i64 (-7))).setCell ⟨g, i * 2 + 1, none⟩ (.int .i64 (-7)))) := Lib.hid ((L0.out.setCell (p := ⟨g, i * 2, none⟩) hgB _).setCell (p := ⟨g, i * 2 + 1, none⟩) hgB _)
      subst hA
      clear RA RB L0
      go_wp2_with fail
      go_roundw
      case rel => exact ⟨i + 1, by omega, by go_num, RA9, RB9, L9⟩
      case measure => simp [intOf]; omega
    · have i1 : ¬ ((i : Int) < (na : Int)) := by omega
      clear hlt RA
      go_wp2_with fail
      go_loopw [9] (fun y wq => ∃ i : Nat, i ≤ nb ∧ y = .int .i64 (i : Int) ∧ Hid (Can wq w.heap.size Ab nb) ∧ Hid (Below w.heap.size w wq)) (fun y _ => nb - (intOf y).toNat)
      case atStart => exact ⟨0, by omega, rfl, RB, L0⟩
      case round =>
        clear RB L0 i1 hi
        obtain ⟨i, hi, rfl, RB, L0⟩ := hrel
        by_cases hlt : i < nb
        · have i1 : (i : Int) < (nb : Int) := by omega
          obtain ⟨g, v0, v1, hA, hgB, q0, f0, q1, f1⟩ := RB.out.store hlt (-8)
          have RB9 : Hid (Can ((wr.setCell ⟨g, i * 2, none⟩ (.int .i64 (-8))).setCell ⟨g, i * 2 + 1, none⟩ (.int .i64 (-8))) w.heap.size Ab nb) := Lib.hid ((RB.out.set1 _ _ _).set1 _ _ _)
          have L9 : Hid (Below w.heap.size w ((wr.setCell ⟨g, i * 2, none⟩ (.int .i64 (-8))).setCell ⟨g, i * 2 + 1, none⟩ (.int .i64 (-8)))) := Lib.hid ((L0.out.setCell (p := ⟨g, i * 2, none⟩) hgB _).setCell (p := ⟨g, i * 2 + 1, none⟩) hgB _)
          subst hA
          clear RB L0
          go_wp2_with fail
          go_roundw
          case rel => exact ⟨i + 1, by omega, by go_num, RB9, L9⟩
          case measure => simp [intOf]; omega
        · have i1 : ¬ ((i : Int) < (nb : Int)) := by omega
          clear hlt RB
          go_wp2_with fail
          go_ret
          exact ⟨by simp, L0.out⟩
end Rf
end Go.Proofs.Ytpbojhjbjnoihaa
