/-
  The walk of 'PackInverse': what is encoded is decoded to the same list; what is decoded is encoded to the same bytes; unlike lists have unlike bytes.
-/
import Derived.Test.YtiflkjjjncagfaaPackSame
namespace Go.Proofs.Ytiflkjjjncagfaa
open Go Go.RowKit
set_option linter.unusedVariables false

theorem decs_fault {L : List Nat} {l : List K.It} (hL : ∀ b ∈ L, b < 256) (h : K.decs 2000 L = some l) : K.fault l = 0 ∧ L = K.encs l ∧ ∀ x ∈ l, Good x := by
  obtain ⟨h1, h2, h3, h4⟩ := K.decs_back 2000 L l hL h
  refine ⟨K.fault_right h2 h3, h1, fun x hx => ⟨h4 x hx, ?_⟩⟩
  rcases (h3 x hx).cases with ⟨_, e⟩ | ⟨_, _, e⟩
  · rw [e]; show (0 : Nat) ≤ maxLen; omega
  · unfold maxLen; omega
theorem txt_inj {L M : List Nat} (hL : ∀ x ∈ L, x < 256) (hM : ∀ x ∈ M, x < 256) (h : K.txt L = K.txt M) : L = M := by rw [← K.sb_txt hL, ← K.sb_txt hM, h]
theorem eq_txt (w : World) (a b : ByteArray) (h : a ≠ b) : (binOp .eql 9 (.string a) (.string b)).run Try.prog w = .ok (.bool false) w := by
  rw [eq_str]
  have : a.toList ≠ b.toList := fun e => h (bytes_eq e)
  simp [this]
theorem eq_txt_same (w : World) (a : ByteArray) : (binOp .eql 9 (.string a) (.string a)).run Try.prog w = .ok (.bool true) w := by
  rw [eq_str]
  simp
theorem beq_txt_no (a b : ByteArray) (h : a ≠ b) : (a.toList == b.toList) = false := by
  have : a.toList ≠ b.toList := fun e => h (bytes_eq e)
  simp [this]
namespace packInverse

set_option maxRecDepth 100000 in
set_option maxHeartbeats 3200000 in
theorem walk (A1 : Option Addr) (l : List K.It) (c1 : Nat) (A2 : Option Addr) (m : List K.It) (c2 : Nat) (A3 : Option Addr) (L : List Nat) (c3 : Nat) (w : World)
    (h1 : RdI w w.heap.size A1 l) (g1 : ∀ x ∈ l, Good x) (lc1 : l.length ≤ c1) (cm1 : c1 ≤ maxLen) (h2 : RdI w w.heap.size A2 m) (g2 : ∀ x ∈ m, Good x) (lc2 : m.length ≤ c2) (cm2 : c2 ≤ maxLen) (h3 : RdB w w.heap.size A3 L.length (lst L)) (hL : ∀ x ∈ L, x < 256) (lc3 : L.length ≤ c3) (cm3 : c3 ≤ maxLen) :
    Calls Try.prog 4 #[.slice A1 l.length c1, .slice A2 m.length c2, .slice A3 L.length c3] w fun e w' => e = .returned (.bool true) ∧ Below w.heap.size w w' := by
  have H1 := Lib.hid h1
  have H2 := Lib.hid h2
  have H3 := Lib.hid h3
  have G1 := Lib.hid g1
  have G2 := Lib.hid g2
  have HL := Lib.hid hL
  have C1 := Lib.hid cm1
  have C2 := Lib.hid cm2
  have C3 := Lib.hid cm3
  unfold maxLen at cm1 cm2 cm3
  clear h1 h2 h3 g1 g2 hL
  go_enter Try.func4, Try.ntmps4
  go_wp2_with fail
  refine (known_any _).mono ?_
  rintro e wk ⟨rfl, hlk⟩
  have LK := Lib.hid hlk
  have sk := LK.out.size
  clear hlk
  go_wp2_with fail
  by_cases hf : K.fault l = 0
  · refine (encode_ok A1 l c1 w.heap.size wk (H1.out.below LK.out (Nat.le_refl _)) sk G1.out lc1 C1.out hf).mono ?_
    rintro e w1 ⟨v1, rfl, ho1, hl1⟩
    have L1 := Lib.hid (LK.out.trans (hl1.mono sk))
    have s1 := L1.out.size
    have HF := Lib.hid hf
    obtain ⟨A4, c4, rfl, r4, lc4, cm4, _, _⟩ := ho1.shape (K.encs_lt _)
    have R4 := Lib.hid r4
    have C4 := Lib.hid cm4
    unfold maxLen at cm4
    obtain ⟨E, hE⟩ : ∃ E, E = K.encs l := ⟨_, rfl⟩
    rw [← hE] at R4 lc4 ⊢
    have HE := Lib.hid hE
    clear ho1 r4 hE hl1 hf
    have hdec : Hid (K.decs 2000 E = some l) := Lib.hid (by rw [HE.out]; exact K.decs_enc 2000 l (K.fault_ok HF.out).1 (K.fault_ok HF.out).2 (fun x hx => (G1.out x hx).1))
    have HEL : Hid (∀ x ∈ E, x < 256) := Lib.hid (by rw [HE.out]; exact K.encs_lt l)
    go_wp2_with fail
    refine (decode_any A4 E c4 w1.heap.size w1 R4.out (Nat.le_refl _) HEL.out lc4 C4.out).mono ?_
    rintro e w2 ⟨hd, hl2⟩
    have L2 := Lib.hid (L1.out.trans (hl2.mono s1))
    have s2 := L2.out.size
    have K2 := Lib.hid hl2
    unfold DecOut at hd
    rw [hdec.out] at hd
    rcases hd with ⟨h, _⟩ | ⟨l', v2, h, rfl, ho2⟩
    · cases h
    injection h with h
    subst h
    obtain ⟨A5, c5, rfl, lc5, cm5, r5, _, _⟩ := ho2.shape
    have R5 := Lib.hid r5
    have C5 := Lib.hid cm5
    unfold maxLen at cm5
    clear ho2 r5 hl2
    go_wp2_with fail
    refine (same_any A5 A1 l l c5 c1 w2.heap.size w.heap.size w2 R5.out (H1.out.below L2.out (Nat.le_refl _)) lc5 C5.out lc1 C1.out).mono ?_
    rintro e w3 ⟨hs, n3, hw3⟩
    have L3 : Hid (Below w.heap.size w w3) := Lib.hid (by rw [hw3]; exact ⟨L2.out.os, L2.out.tape, L2.out.output, L2.out.size, L2.out.block⟩)
    have K3 : Hid (Below w1.heap.size w1 w3) := Lib.hid (by rw [hw3]; exact ⟨K2.out.os, K2.out.tape, K2.out.output, K2.out.size, K2.out.block⟩)
    have s3 := L3.out.size
    clear hw3
    rcases hs with ⟨_, rfl⟩ | ⟨h, _⟩
    · clear R5
      go_wp2_with fail
      by_cases hfm : K.fault m = 0
      · refine (encode_ok A2 m c2 w.heap.size w3 (H2.out.below L3.out (Nat.le_refl _)) s3 G2.out lc2 C2.out hfm).mono ?_
        rintro e w4 ⟨v4, rfl, ho4, hl4⟩
        have L4 := Lib.hid (L3.out.trans (hl4.mono s3))
        have s4 := L4.out.size
        have K4 := Lib.hid (K3.out.trans (hl4.mono K3.out.size))
        obtain ⟨A6, c6, rfl, r6, lc6, cm6, _, _⟩ := ho4.shape (K.encs_lt _)
        have R6 := Lib.hid r6
        unfold maxLen at cm6
        have HFM := Lib.hid hfm
        have RD1 := Lib.hid (H1.out.below L4.out (Nat.le_refl _))
        have RD2 := Lib.hid (H2.out.below L4.out (Nat.le_refl _))
        have R44 := Lib.hid (R4.out.below K4.out (Nat.le_refl _))
        have SC1 := fun n => conv_lst (w := w4.drewN n) (c := c4) R44.out
        have SC2 := fun n => conv_lst (w := w4.drewN n) (c := c6) R6.out
        clear ho4 r6 hl4 hfm
        by_cases hlm : l = m
        · subst hlm
          rw [← HE.out] at SC2 ⊢
          go_wp2_with fail
          go_quiet ((go_at_call 13; exact Calls.quiet_of (same_yes A1 A2 l c1 c2 w.heap.size w.heap.size w4 RD1.out RD2.out lc1 C1.out lc2 C2.out _)))
          have LZ : Hid (Below w.heap.size w (w4.drewN nq)) := Lib.hid ⟨L4.out.os, L4.out.tape, L4.out.output, L4.out.size, L4.out.block⟩
          clear SC1 SC2
          generalize w4.drewN nq = wz at LZ ⊢
          have sz := LZ.out.size
          go_wp2_with fail
          refine (decode_any A3 L c3 w.heap.size wz (H3.out.below LZ.out (Nat.le_refl _)) sz HL.out lc3 C3.out).mono ?_
          rintro e y1 ⟨hd, hl1⟩
          have LY := Lib.hid (LZ.out.trans (hl1.mono sz))
          have sy := LY.out.size
          clear hl1
          unfold DecOut at hd
          rcases hd with ⟨_, rfl⟩ | ⟨l', v2, h, rfl, ho2⟩
          · go_wp2_with fail
            go_ret
            exact ⟨rfl, LY.out⟩
          · obtain ⟨hf', hLE, hg'⟩ := decs_fault HL.out h
            obtain ⟨A5, c5, rfl, lc5, cm5, r5, _, _⟩ := ho2.shape
            have R5 := Lib.hid r5
            have C5 := Lib.hid cm5
            have HLE := Lib.hid hLE
            unfold maxLen at cm5
            have HF' := Lib.hid hf'
            have HG' := Lib.hid hg'
            clear ho2 r5 h hLE hf' hg'
            go_wp2_with fail
            refine (encode_ok A5 l' c5 y1.heap.size y1 R5.out (Nat.le_refl _) HG'.out lc5 C5.out HF'.out).mono ?_
            rintro e y2 ⟨v6, rfl, ho6, hl6⟩
            have L6 := Lib.hid (LY.out.trans (hl6.mono sy))
            obtain ⟨A6, c6, rfl, r6, lc6, cm6, _, _⟩ := ho6.shape (K.encs_lt _)
            rw [← HLE.out] at r6 lc6 ⊢
            have SD1 := conv_lst (c := c6) r6
            have SD2 := conv_lst (c := c3) (H3.out.below L6.out (Nat.le_refl _))
            have EQ2 := eq_txt_same y2 (K.txt L)
            unfold maxLen at cm6
            clear ho6 r6 hl6
            go_wp2_with fail
            go_ret
            exact ⟨rfl, L6.out⟩
        · have HNE : Hid (l ≠ m) := Lib.hid hlm
          have EQ := beq_txt_no (K.txt E) (K.txt (K.encs m)) (fun e => hlm (K.encs_inj HF.out HFM.out (fun x hx => (G1.out x hx).1) (fun x hx => (G2.out x hx).1) (by rw [← HE.out]; exact txt_inj HEL.out (K.encs_lt m) e)))
          clear hlm
          go_wp2_with fail
          go_quiet ((go_at_call 13; exact Calls.quiet_of (same_no A1 A2 l m c1 c2 w.heap.size w.heap.size w4 RD1.out RD2.out lc1 C1.out lc2 C2.out HNE.out _)))
          have LZ : Hid (Below w.heap.size w (w4.drewN nq)) := Lib.hid ⟨L4.out.os, L4.out.tape, L4.out.output, L4.out.size, L4.out.block⟩
          clear SC1 SC2 EQ
          generalize w4.drewN nq = wz at LZ ⊢
          have sz := LZ.out.size
          go_wp2_with fail
          refine (decode_any A3 L c3 w.heap.size wz (H3.out.below LZ.out (Nat.le_refl _)) sz HL.out lc3 C3.out).mono ?_
          rintro e y1 ⟨hd, hl1⟩
          have LY := Lib.hid (LZ.out.trans (hl1.mono sz))
          have sy := LY.out.size
          clear hl1
          unfold DecOut at hd
          rcases hd with ⟨_, rfl⟩ | ⟨l', v2, h, rfl, ho2⟩
          · go_wp2_with fail
            go_ret
            exact ⟨rfl, LY.out⟩
          · obtain ⟨hf', hLE, hg'⟩ := decs_fault HL.out h
            obtain ⟨A5, c5, rfl, lc5, cm5, r5, _, _⟩ := ho2.shape
            have R5 := Lib.hid r5
            have C5 := Lib.hid cm5
            have HLE := Lib.hid hLE
            unfold maxLen at cm5
            have HF' := Lib.hid hf'
            have HG' := Lib.hid hg'
            clear ho2 r5 h hLE hf' hg'
            go_wp2_with fail
            refine (encode_ok A5 l' c5 y1.heap.size y1 R5.out (Nat.le_refl _) HG'.out lc5 C5.out HF'.out).mono ?_
            rintro e y2 ⟨v6, rfl, ho6, hl6⟩
            have L6 := Lib.hid (LY.out.trans (hl6.mono sy))
            obtain ⟨A6, c6, rfl, r6, lc6, cm6, _, _⟩ := ho6.shape (K.encs_lt _)
            rw [← HLE.out] at r6 lc6 ⊢
            have SD1 := conv_lst (c := c6) r6
            have SD2 := conv_lst (c := c3) (H3.out.below L6.out (Nat.le_refl _))
            have EQ2 := eq_txt_same y2 (K.txt L)
            unfold maxLen at cm6
            clear ho6 r6 hl6
            go_wp2_with fail
            go_ret
            exact ⟨rfl, L6.out⟩
      · refine (encode_bad A2 m c2 w.heap.size w3 (H2.out.below L3.out (Nat.le_refl _)) s3 G2.out lc2 C2.out hfm).mono ?_
        rintro e w4 ⟨rfl, hl4⟩
        have L4 := Lib.hid (L3.out.trans (hl4.mono s3))
        clear hl4
        have t1 : (K.fault m == 0) = false := by simpa using hfm
        have t2 : (K.fault m != 0) = true := by simpa using hfm
        generalize K.fault m = fm at t1 t2 ⊢
        clear hfm
        go_wp2_with fail
        go_region
        have LZ : Hid (Below w.heap.size w w4.drew) := Lib.hid ⟨L4.out.os, L4.out.tape, L4.out.output, L4.out.size, L4.out.block⟩
        generalize w4.drew = wz at LZ ⊢
        have sz := LZ.out.size
        go_wp2_with fail
        refine (decode_any A3 L c3 w.heap.size wz (H3.out.below LZ.out (Nat.le_refl _)) sz HL.out lc3 C3.out).mono ?_
        rintro e y1 ⟨hd, hl1⟩
        have LY := Lib.hid (LZ.out.trans (hl1.mono sz))
        have sy := LY.out.size
        clear hl1
        unfold DecOut at hd
        rcases hd with ⟨_, rfl⟩ | ⟨l', v2, h, rfl, ho2⟩
        · go_wp2_with fail
          go_ret
          exact ⟨rfl, LY.out⟩
        · obtain ⟨hf', hLE, hg'⟩ := decs_fault HL.out h
          obtain ⟨A5, c5, rfl, lc5, cm5, r5, _, _⟩ := ho2.shape
          have R5 := Lib.hid r5
          have C5 := Lib.hid cm5
          have HLE := Lib.hid hLE
          unfold maxLen at cm5
          have HF' := Lib.hid hf'
          have HG' := Lib.hid hg'
          clear ho2 r5 h hLE hf' hg'
          go_wp2_with fail
          refine (encode_ok A5 l' c5 y1.heap.size y1 R5.out (Nat.le_refl _) HG'.out lc5 C5.out HF'.out).mono ?_
          rintro e y2 ⟨v6, rfl, ho6, hl6⟩
          have L6 := Lib.hid (LY.out.trans (hl6.mono sy))
          obtain ⟨A6, c6, rfl, r6, lc6, cm6, _, _⟩ := ho6.shape (K.encs_lt _)
          rw [← HLE.out] at r6 lc6 ⊢
          have SD1 := conv_lst (c := c6) r6
          have SD2 := conv_lst (c := c3) (H3.out.below L6.out (Nat.le_refl _))
          have EQ2 := eq_txt_same y2 (K.txt L)
          unfold maxLen at cm6
          clear ho6 r6 hl6
          go_wp2_with fail
          go_ret
          exact ⟨rfl, L6.out⟩
    · exact absurd rfl h
  · have t1 : (K.fault l == 0) = false := by simpa using hf
    have t2 : (K.fault l != 0) = true := by simpa using hf
    refine (encode_bad A1 l c1 w.heap.size wk (H1.out.below LK.out (Nat.le_refl _)) sk G1.out lc1 C1.out hf).mono ?_
    rintro e w4 ⟨rfl, hl4⟩
    have LZ := Lib.hid (LK.out.trans (hl4.mono sk))
    generalize K.fault l = fm at t1 t2 ⊢
    clear hl4 hf
    go_wp2_with fail
    have sz := LZ.out.size
    refine (decode_any A3 L c3 w.heap.size w4 (H3.out.below LZ.out (Nat.le_refl _)) sz HL.out lc3 C3.out).mono ?_
    rintro e y1 ⟨hd, hl1⟩
    have LY := Lib.hid (LZ.out.trans (hl1.mono sz))
    have sy := LY.out.size
    clear hl1
    unfold DecOut at hd
    rcases hd with ⟨_, rfl⟩ | ⟨l', v2, h, rfl, ho2⟩
    · go_wp2_with fail
      go_ret
      exact ⟨rfl, LY.out⟩
    · obtain ⟨hf', hLE, hg'⟩ := decs_fault HL.out h
      obtain ⟨A5, c5, rfl, lc5, cm5, r5, _, _⟩ := ho2.shape
      have R5 := Lib.hid r5
      have C5 := Lib.hid cm5
      have HLE := Lib.hid hLE
      unfold maxLen at cm5
      have HF' := Lib.hid hf'
      have HG' := Lib.hid hg'
      clear ho2 r5 h hLE hf' hg'
      go_wp2_with fail
      refine (encode_ok A5 l' c5 y1.heap.size y1 R5.out (Nat.le_refl _) HG'.out lc5 C5.out HF'.out).mono ?_
      rintro e y2 ⟨v6, rfl, ho6, hl6⟩
      have L6 := Lib.hid (LY.out.trans (hl6.mono sy))
      obtain ⟨A6, c6, rfl, r6, lc6, cm6, _, _⟩ := ho6.shape (K.encs_lt _)
      rw [← HLE.out] at r6 lc6 ⊢
      have SD1 := conv_lst (c := c6) r6
      have SD2 := conv_lst (c := c3) (H3.out.below L6.out (Nat.le_refl _))
      have EQ2 := eq_txt_same y2 (K.txt L)
      unfold maxLen at cm6
      clear ho6 r6 hl6
      go_wp2_with fail
      go_ret
      exact ⟨rfl, L6.out⟩
end packInverse
end Go.Proofs.Ytiflkjjjncagfaa
