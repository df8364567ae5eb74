/-
  The walk of 'PackPtrs': for all pointers and texts Ptr and Unptr answer what the document says; a pointer comes back.
-/
import Derived.Test.YtiflkjjjncagfaaPackDocUnptr
namespace Go.Proofs.Ytiflkjjjncagfaa
open Go Go.RowKit
set_option linter.unusedVariables false

def outPt (L : List Nat) : K.Pt := (K.unP L).getD K.zeroP
def outPe (L : List Nat) : Int := if (K.unP L).isSome then 0 else 2
theorem UnOut.sh {L : List Nat} {e : Ending} (h : UnOut L e) : e = .returned (.tuple #[.agg (ptA (outPt L)), .int .i64 (outPe L)]) := by
  unfold outPt outPe
  rcases h with ⟨h, rfl⟩ | ⟨p, h, _, _, rfl⟩
  · rw [h]; rfl
  · rw [h]; rfl
theorem outPt_back {p : K.Pt} (h : K.okP p = true) (hp : K.FitP p) : outPt (K.sb (K.ptrS p)) = p ∧ outPe (K.sb (K.ptrS p)) = 0 := by
  have hr := K.itsP_right h
  have h1 : K.sb (K.ptrS p) = K.encs (K.itsP p) := by
    unfold K.ptrS
    rw [if_pos h, K.sb_txt (K.encs_lt _)]
  have h2 : K.unP (K.sb (K.ptrS p)) = some p := by
    unfold K.unP
    rw [h1, K.decs_enc 2000 _ (by simp [K.itsP]) (K.fault_ok hr).2 (fun x hx => (itsP_good hp x hx).1)]
    obtain ⟨a, z, b, s⟩ := p
    show (if (1 : Int) = 1 ∧ (1 : Int) = 1 ∧ K.okP ⟨a, z, b, s⟩ = true then some (⟨a, z, b, s⟩ : K.Pt) else none) = some ⟨a, z, b, s⟩
    rw [if_pos ⟨rfl, rfl, h⟩]
  unfold outPt outPe
  rw [h2]
  exact ⟨rfl, rfl⟩
theorem ptr_neq (a z b : Int) (s : ByteArray) (W : World) : (binOp .neq 37 (.agg #[.int .i64 a, .int .i64 z, .int .i64 b, .string s]) (.agg #[.int .i64 a, .int .i64 z, .int .i64 b, .string s])).run Try.prog W = .ok (.bool false) W := by
  simp [go_sem, run_neq_struct]
theorem ptr_eql (a z b : Int) (s : ByteArray) (W : World) : (binOp .eql 37 (.agg #[.int .i64 a, .int .i64 z, .int .i64 b, .string s]) (.agg #[.int .i64 a, .int .i64 z, .int .i64 b, .string s])).run Try.prog W = .ok (.bool true) W := by
  simp [go_sem, run_eql_struct]
namespace packPtrs

set_option maxRecDepth 100000 in
set_option maxHeartbeats 3200000 in
theorem walk (a z b : Int) (st s : ByteArray) (w : World) (wa : (Lit.int .i64 a).wf = true) (wz : (Lit.int .i64 z).wf = true) (wb : (Lit.int .i64 b).wf = true) (hst : st.size ≤ maxLen) (hs : s.size ≤ maxLen) :
    Calls Try.prog 5 #[.agg #[.int .i64 a, .int .i64 z, .int .i64 b, .string st], .string s] w fun e w' => e = .returned (.bool true) ∧ Below w.heap.size w w' := by
  have hba := bounds_i64 wa
  have hbz := bounds_i64 wz
  have hbb := bounds_i64 wb
  have ha : -9223372036854775808 ≤ a ∧ a ≤ 9223372036854775807 := by omega
  have hz : -9223372036854775808 ≤ z ∧ z ≤ 9223372036854775807 := by omega
  have hb : -9223372036854775808 ≤ b ∧ b ≤ 9223372036854775807 := by omega
  have HP : Hid (K.FitP ⟨a, z, b, st⟩) := Lib.hid ⟨ha, hz, hb, hst⟩
  have HDP := Lib.hid fun W => docPtr_any ⟨a, z, b, st⟩ W HP.out
  have HPP := Lib.hid fun W => ptr_any ⟨a, z, b, st⟩ W HP.out
  unfold ptA at HDP HPP
  dsimp only at HDP HPP
  have HDU := Lib.hid fun W => docUnptr_any s W hs
  have HUU := Lib.hid fun W => unptr_any s W hs
  have X1 : Hid (Blk (w.alloc (.cells #[.int .i64 a, .int .i64 z, .int .i64 b, .string st] 37)) w.heap.size 37 #[.int .i64 a, .int .i64 z, .int .i64 b, .string st]) := Lib.hid (Blk.new _ _ _)
  have L1 : Hid (Below w.heap.size w (w.alloc (.cells #[.int .i64 a, .int .i64 z, .int .i64 b, .string st] 37))) := Lib.hid ((Below.refl _ _).alloc (Nat.le_refl _) _)
  have HBACK := Lib.hid fun (h : K.okP ⟨a, z, b, st⟩ = true) => outPt_back h HP.out
  have HPE : Hid ((K.okP ⟨a, z, b, st⟩ = true ∧ K.ptrE ⟨a, z, b, st⟩ = 0) ∨ K.ptrE ⟨a, z, b, st⟩ = 2) := Lib.hid (by
    unfold K.ptrE
    by_cases h : K.okP ⟨a, z, b, st⟩ = true
    · rw [if_pos h]; exact .inl ⟨h, rfl⟩
    · rw [if_neg h]; exact .inr rfl)
  have HTS : Hid ((K.ptrS ⟨a, z, b, st⟩).size ≤ maxLen) := Lib.hid (by
    unfold K.ptrS
    by_cases h : K.okP ⟨a, z, b, st⟩ = true
    · rw [if_pos h, K.txt_size]
      have hr := K.itsP_right h
      have := K.encs_length_le (K.fault_ok hr).2 (fun x hx => (itsP_good HP.out x hx).1)
      have h4 : (K.itsP ⟨a, z, b, st⟩).length = 4 := rfl
      rw [h4] at this
      unfold maxLen
      omega
    · rw [if_neg h]; show (0 : Nat) ≤ maxLen; omega)
  have HAG := Lib.hid fun W => unptr_any (K.ptrS ⟨a, z, b, st⟩) W HTS.out
  obtain ⟨ts, hts⟩ : ∃ ts, ts = K.ptrS ⟨a, z, b, st⟩ := ⟨_, rfl⟩
  obtain ⟨pe, hpe⟩ : ∃ pe, pe = K.ptrE ⟨a, z, b, st⟩ := ⟨_, rfl⟩
  rw [← hts, ← hpe] at HDP HPP
  rw [← hts] at HBACK HTS HAG
  rw [← hpe] at HPE
  unfold maxLen at hst hs
  clear hts hpe wa wz wb
  go_enter Try.func5, Try.ntmps5
  go_wp2_with fail
  refine (known_any _).mono ?_
  rintro e w2 ⟨rfl, hl2⟩
  have L2 := Lib.hid (L1.out.trans (hl2.mono (by simp)))
  have X2 := Lib.hid (X1.out.below hl2 (by simp))
  obtain ⟨⟨d0, d1, d2, d3⟩, _, _, _, _⟩ := ptr_facts X2.out
  clear hl2 X1 L1
  go_wp2_with fail
  refine (HDP.out _).mono ?_
  rintro e w3 ⟨rfl, hl3⟩
  have L3 := Lib.hid (L2.out.trans (hl3.mono L2.out.size))
  have X3 := Lib.hid (X2.out.below hl3 X2.out.lt)
  clear hl3 X2 L2 d0 d1 d2 d3
  obtain ⟨⟨d0, d1, d2, d3⟩, _, _, _, _⟩ := ptr_facts X3.out
  go_wp2_with fail
  refine (HPP.out _).mono ?_
  rintro e w4 ⟨rfl, hl4⟩
  have L4 := Lib.hid (L3.out.trans (hl4.mono L3.out.size))
  have X4 := Lib.hid (X3.out.below hl4 X3.out.lt)
  clear hl4 X3 L3 d0 d1 d2 d3
  go_wp2_with fail
  refine (HDU.out _).mono ?_
  rintro e w5 ⟨hu5, hl5⟩
  obtain rfl := hu5.sh
  have L5 := Lib.hid (L4.out.trans (hl5.mono L4.out.size))
  have X5 := Lib.hid (X4.out.below hl5 X4.out.lt)
  have HUH := Lib.hid fun (W : World) => (HUU.out W).mono fun e w' h => (⟨h.1.sh, h.2⟩ : e = .returned (.tuple #[.agg (ptA (outPt (K.sb s))), .int .i64 (outPe (K.sb s))]) ∧ Below W.heap.size W w')
  generalize outPt (K.sb s) = op at HUH ⊢
  generalize outPe (K.sb s) = oe at HUH ⊢
  obtain ⟨a2, z2, b2, st2⟩ := op
  unfold ptA at HUH ⊢
  dsimp only at HUH ⊢
  clear hl5 X4 L4 hu5 HUU HDU
  have s5 := L5.out.size
  have Y5 : Hid (Blk (w5.alloc (.cells #[.int .i64 a2, .int .i64 z2, .int .i64 b2, .string st2] 37)) w5.heap.size 37 #[.int .i64 a2, .int .i64 z2, .int .i64 b2, .string st2]) := Lib.hid (Blk.new _ _ _)
  have M5 : Hid (Below w.heap.size w (w5.alloc (.cells #[.int .i64 a2, .int .i64 z2, .int .i64 b2, .string st2] 37))) := Lib.hid (L5.out.alloc s5 _)
  have X55 := Lib.hid (X5.out.alloc (.cells #[.int .i64 a2, .int .i64 z2, .int .i64 b2, .string st2] 37))
  go_wp2_with fail
  refine (HUH.out _).mono ?_
  rintro e w6 ⟨rfl, hl6⟩
  have L6 := Lib.hid (M5.out.trans (hl6.mono M5.out.size))
  have X6 := Lib.hid (X55.out.below hl6 X55.out.lt)
  have Y6 := Lib.hid (Y5.out.below hl6 Y5.out.lt)
  have s6 := L6.out.size
  clear hl6 X55 Y5 M5 X5 L5 s5
  obtain ⟨g9, hg9⟩ : ∃ g9, g9 = w5.heap.size := ⟨_, rfl⟩
  rw [← hg9] at Y6 ⊢
  have Y7 := Lib.hid (Y6.out.alloc (.cells #[.int .i64 a2, .int .i64 z2, .int .i64 b2, .string st2] 37))
  have X7 := Lib.hid (X6.out.alloc (.cells #[.int .i64 a2, .int .i64 z2, .int .i64 b2, .string st2] 37))
  have L7 : Hid (Below w.heap.size w (w6.alloc (.cells #[.int .i64 a2, .int .i64 z2, .int .i64 b2, .string st2] 37))) := Lib.hid (L6.out.alloc s6 _)
  obtain ⟨⟨e0, e1, e2, e3⟩, _, _, _, _⟩ := ptr_facts Y7.out
  have N1 := ptr_neq a2 z2 b2 st2
  clear hg9 X6 Y6 HUH
  rcases HPE.out with ⟨hok, rfl⟩ | rfl
  · obtain ⟨hb1, hb2⟩ := HBACK.out hok
    have HAH := Lib.hid fun (W : World) => (HAG.out W).mono fun e w' h => (⟨by have := h.1.sh; rw [hb1, hb2] at this; exact this, h.2⟩ : e = .returned (.tuple #[.agg (ptA ⟨a, z, b, st⟩), .int .i64 0]) ∧ Below W.heap.size W w')
    unfold ptA at HAH
    dsimp only at HAH
    clear hb1 hb2 HAG HBACK HPE hok HDP HPP
    go_wp2_with fail
    refine (HAH.out _).mono ?_
    rintro e w8 ⟨rfl, hl8⟩
    have L8 := Lib.hid (L7.out.trans (hl8.mono L7.out.size))
    have X8 := Lib.hid (X7.out.below hl8 X7.out.lt)
    have s8 := L8.out.size
    have X9 := Lib.hid (X8.out.alloc (.cells #[.int .i64 a, .int .i64 z, .int .i64 b, .string st] 37))
    have L9 : Hid (Below w.heap.size w (w8.alloc (.cells #[.int .i64 a, .int .i64 z, .int .i64 b, .string st] 37))) := Lib.hid (L8.out.alloc s8 _)
    clear hl8 e0 e1 e2 e3 N1
    obtain ⟨⟨e0, e1, e2, e3⟩, _, _, _, _⟩ := ptr_facts X9.out
    have N2 := ptr_eql a z b st
    go_wp2_with fail
    go_ret
    exact ⟨rfl, L9.out⟩
  · clear HAG HBACK HPE HDP HPP
    go_wp2_with fail
    go_ret
    exact ⟨rfl, L7.out⟩
end packPtrs
end Go.Proofs.Ytiflkjjjncagfaa
