/-
  The walk of 'PackSectors': for all lists and bytes Sector and Unsector answer what the document says; what is in a sector comes back.
-/
import Derived.Test.YtnmieabcaaoofaaDoorPackDocUns
import Derived.Test.YtnmieabcaaoofaaDoorPackKnown
namespace Go.Proofs.YtnmieabcaaoofaaDoor
open Go Go.RowKit
set_option linter.unusedVariables false
namespace packSectors
theorem known_two (w : World) : Calls Tryd.prog 6 #[] w fun e w' => e = .returned (.bool true) ∧ Below w.heap.size w w' := known_any w
set_option maxRecDepth 100000 in
set_option maxHeartbeats 3200000 in
theorem walk (A1 : Option Addr) (l : List K.It) (c1 : Nat) (A3 : Option Addr) (L : List Nat) (c3 : Nat) (w : World)
    (h1 : RdI w w.heap.size A1 l) (g1 : ∀ x ∈ l, Good x) (lc1 : l.length ≤ c1) (cm1 : c1 ≤ maxLen) (h3 : RdB w w.heap.size A3 L.length (lst L)) (hL : ∀ x ∈ L, x < 256) (lc3 : L.length ≤ c3) (cm3 : c3 ≤ maxLen) (hl : Laid w) :
    Calls Tryd.prog 3 #[.slice A1 l.length c1, .slice A3 L.length c3] w fun e w' => e = .returned (.bool true) ∧ Below w.heap.size w w' := by
  have HLD := Lib.hid hl
  have hpos := hl.pos
  have H1 := Lib.hid h1
  have H3 := Lib.hid h3
  have G1 := Lib.hid g1
  have HL := Lib.hid hL
  have C1 := Lib.hid cm1
  have C3 := Lib.hid cm3
  unfold maxLen at cm1 cm3
  clear h1 h3 g1 hL hl
  by_cases hbig : 1000 < L.length
  · have t1 : (1000 : Int) < (L.length : Int) := by omega
    go_enter Tryd.func3, Tryd.ntmps3
    go_wp2_with fail
    refine (known_any _).mono ?_
    rintro e wk ⟨rfl, hlk⟩
    have LK := Lib.hid hlk
    clear hlk
    go_wp2_with fail
    refine (known_any _).mono ?_
    rintro e w2 ⟨rfl, hl2⟩
    have L2 := Lib.hid (LK.out.trans (hl2.mono LK.out.size))
    clear hl2
    go_wp2_with fail
    go_ret
    exact ⟨rfl, L2.out⟩
  have t1 : (L.length : Int) ≤ 1000 := by omega
  have hL1000 : L.length ≤ 1000 := by omega
  clear hbig
  go_enter Tryd.func3, Tryd.ntmps3
  go_wp2_with fail
  refine (known_any _).mono ?_
  rintro e wk ⟨rfl, hlk⟩
  have LK := Lib.hid hlk
  have sk := LK.out.size
  clear hlk
  go_wp2_with fail
  refine (docSector_any A1 l c1 w.heap.size wk (H1.out.below LK.out (Nat.le_refl _)) sk G1.out lc1 C1.out).mono ?_
  rintro e w1 ⟨rfl, hl1⟩
  have L1 := Lib.hid (LK.out.trans (hl1.mono sk))
  have s1 := L1.out.size
  clear hl1 LK sk
  go_wp2_with fail
  refine (sector_any A1 l c1 w.heap.size w1 (H1.out.below L1.out (Nat.le_refl _)) s1 G1.out lc1 C1.out (HLD.out.below L1.out hpos)).mono ?_
  rintro e w2 ⟨⟨v2, rfl, ho2⟩, hl2⟩
  have L2 := Lib.hid (L1.out.trans (hl2.mono s1))
  have s2 := L2.out.size
  have HSB : Hid (∀ b ∈ secL l, b < 256) := Lib.hid (by
    unfold secL
    split
    · rename_i hz
      exact secB_lt (secE_zero hz).2 (K.encs_lt l)
    · intro b hb; cases hb)
  have HSN : Hid (secE l = 0 → (secL l).length = 128) := Lib.hid fun hz => by
    unfold secL
    rw [if_pos hz, secB_length (secE_zero hz).2]
  have HBK : Hid (secE l = 0 → unsL (secL l) = l ∧ unsE (secL l) = 0) := Lib.hid fun hz => secL_back hz fun x hx => (G1.out x hx).1
  have hsle : (secL l).length ≤ 128 := by
    by_cases hz : secE l = 0
    · rw [HSN.out hz]; exact Nat.le_refl _
    · unfold secL; rw [if_neg hz]; exact Nat.zero_le _
  obtain ⟨A5, c5, rfl, hr5, lc5, cm5, _, _⟩ := ho2.shape HSB.out
  have R5 := Lib.hid hr5
  have C5 := Lib.hid cm5
  obtain ⟨SL, hSL⟩ : ∃ SL, SL = secL l := ⟨_, rfl⟩
  obtain ⟨SE, hSE⟩ : ∃ SE, SE = secE l := ⟨_, rfl⟩
  rw [← hSL] at R5 HSB HSN HBK lc5 hsle ⊢
  rw [← hSE] at HSN HBK ⊢
  unfold maxLen at cm5
  clear hl2 ho2 hr5 hSL hSE L1 s1
  have S2 := conv_lst (c := c3) (H3.out.below L2.out (Nat.le_refl _))
  go_wp2_with fail
  clear S2
  refine (docUnsector_any L w2 HL.out hL1000).mono ?_
  rintro e w3 ⟨hu3, hl3⟩
  have L3 := Lib.hid (L2.out.trans (hl3.mono s2))
  have s3 := L3.out.size
  obtain ⟨A6, c6, rfl, r6, lc6, cm6⟩ := hu3
  have R6 := Lib.hid r6
  have C6 := Lib.hid cm6
  have R53 := Lib.hid (R5.out.below hl3 (Nat.le_refl _))
  have z23 := hl3.size
  clear hl3 r6 R5 L2
  go_wp2_with fail
  refine (unsector_any A3 L c3 w.heap.size w3 (H3.out.below L3.out (Nat.le_refl _)) s3 HL.out lc3 C3.out (HLD.out.below L3.out hpos)).mono ?_
  rintro e w4 ⟨hu4, hl4⟩
  have L4 := Lib.hid (L3.out.trans (hl4.mono s3))
  have s4 := L4.out.size
  obtain ⟨A7, c7, rfl, r7, lc7, cm7⟩ := hu4
  have R7 := Lib.hid r7
  have R66 := Lib.hid (R6.out.below hl4 (Nat.le_refl _))
  have C7 := Lib.hid cm7
  have R54 := Lib.hid (R53.out.below (hl4.mono z23) (Nat.le_refl _))
  have z24 := Nat.le_trans z23 hl4.size
  have S4 := conv_lst (c := c5) R54.out
  clear hl4 r7 R6 R53 L3
  unfold maxLen at cm6 cm7
  generalize unsE L = UE at *
  generalize unsL L = U at *
  go_wp2_with fail
  clear S4
  refine (same_any A6 A7 U U c6 c7 w3.heap.size w4.heap.size w4 R66.out R7.out lc6 C6.out lc7 C7.out).mono ?_
  rintro e w5 ⟨hs, n5', hw5⟩
  have L5 : Hid (Below w.heap.size w w5) := Lib.hid (by rw [hw5]; exact below_drew2 L4.out n5')
  have R55 : Hid (RdB w5 w2.heap.size A5 SL.length (lst SL)) := Lib.hid (by rw [hw5]; exact R54.out)
  have z5 : w2.heap.size ≤ w5.heap.size := by rw [hw5]; exact z24
  clear hw5 R66 R7 R54
  rcases hs with ⟨_, rfl⟩ | ⟨h, _⟩
  rotate_left
  · exact absurd rfl h
  by_cases hz : SE = 0
  · have hl128 := HSN.out hz
    have HB1 := Lib.hid (HBK.out hz).1
    have HB2 := Lib.hid (HBK.out hz).2
    have H128 := Lib.hid hl128
    rw [hz]
    clear hz hl128 HSN HBK
    go_wp2_with fail
    refine (unsector_any A5 SL c5 w2.heap.size w5 R55.out z5 HSB.out lc5 C5.out (HLD.out.below L5.out hpos)).mono ?_
    rintro e w6 ⟨hu6, hl6⟩
    have L6 := Lib.hid (L5.out.trans (hl6.mono L5.out.size))
    obtain ⟨A8, c8, rfl, r8, lc8, cm8⟩ := hu6
    rw [HB1.out] at r8 lc8 ⊢
    rw [HB2.out]
    have R8 := Lib.hid r8
    have C8 := Lib.hid cm8
    have e128 : ((SL.length : Int) == 128) = true := by rw [H128.out]; rfl
    unfold maxLen at cm8
    clear hl6 r8 HB1 HB2 H128
    go_wp2_with fail
    refine (same_any A8 A1 l l c8 c1 w6.heap.size w.heap.size w6 R8.out (H1.out.below L6.out (Nat.le_refl _)) lc8 C8.out lc1 C1.out).mono ?_
    rintro e w7 ⟨hs, n7', hw7⟩
    have L7 : Hid (Below w.heap.size w w7) := Lib.hid (by rw [hw7]; exact below_drew2 L6.out n7')
    clear hw7
    rcases hs with ⟨_, rfl⟩ | ⟨h, _⟩
    · go_wp2_with fail
      go_ret
      exact ⟨rfl, L7.out⟩
    · exact absurd rfl h
  · have hne : (SE != 0) = true := by simpa using hz
    clear hz HSN HBK
    go_wp2_with fail
    go_ret
    exact ⟨rfl, L5.out⟩
end packSectors
end Go.Proofs.YtnmieabcaaoofaaDoor
