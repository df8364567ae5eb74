/-
  The walk of 'PackRecords': for all lists and bytes Encode and Decode answer what the document says.
-/
import Derived.Test.YtiflkjjjncagfaaPackBoth
namespace Go.Proofs.Ytiflkjjjncagfaa
open Go Go.RowKit
set_option linter.unusedVariables false
namespace packRecords

set_option maxRecDepth 100000 in
set_option maxHeartbeats 3200000 in
theorem walk (A1 : Option Addr) (l : List K.It) (c1 : Nat) (A3 : Option Addr) (L : List Nat) (c3 : Nat) (w : World)
    (h1 : RdI w w.heap.size A1 l) (g1 : ∀ x ∈ l, Good x) (lc1 : l.length ≤ c1) (cm1 : c1 ≤ maxLen) (h3 : RdB w w.heap.size A3 L.length (lst L)) (hL : ∀ x ∈ L, x < 256) (lc3 : L.length ≤ c3) (cm3 : c3 ≤ maxLen) :
    Calls Try.prog 3 #[.slice A1 l.length c1, .slice A3 L.length c3] w fun e w' => e = .returned (.bool true) ∧ Below w.heap.size w w' := by
  have H1 := Lib.hid h1
  have H3 := Lib.hid h3
  have G1 := Lib.hid g1
  have HL := Lib.hid hL
  have C1 := Lib.hid cm1
  have C3 := Lib.hid cm3
  unfold maxLen at cm1 cm3
  clear h1 h3 g1 hL
  go_enter Try.func3, Try.ntmps3
  go_wp2_with fail
  refine (known_any _).mono ?_
  rintro e wk ⟨rfl, hlk⟩
  have LK := Lib.hid hlk
  have sk := LK.out.size
  clear hlk
  go_wp2_with fail
  refine (docEncode_any A1 l c1 w.heap.size wk (H1.out.below LK.out (Nat.le_refl _)) sk G1.out lc1 C1.out).mono ?_
  rintro e w1 ⟨rfl, hl1⟩
  have L1 := Lib.hid (LK.out.trans (hl1.mono sk))
  have s1 := L1.out.size
  clear hl1
  go_wp2_with fail
  refine (encode_sh A1 l c1 w.heap.size w1 (H1.out.below L1.out (Nat.le_refl _)) s1 G1.out lc1 C1.out).mono ?_
  rintro e w2 ⟨A5, n5, c5, rfl, hcv, hl2⟩
  have L2 := Lib.hid (L1.out.trans (hl2.mono s1))
  have s2 := L2.out.size
  have HCV := Lib.hid hcv
  generalize K.fault l = fe
  generalize outS l = xs at HCV ⊢
  clear hl2 hcv
  have SC := fun W (h : Below w.heap.size w W) => conv_lst (c := c3) (H3.out.below h (Nat.le_refl _))
  have S2 := SC _ L2.out
  have HSC := Lib.hid SC
  clear SC
  go_wp2_with fail
  refine (docDecode_any L w2 HL.out (Nat.le_trans lc3 C3.out)).mono ?_
  rintro e w3 ⟨hd3, hl3⟩
  have L3 := Lib.hid (L2.out.trans (hl3.mono s2))
  have s3 := L3.out.size
  have K3 := Lib.hid hl3
  obtain ⟨A6, c6, rfl, r6, lc6, cm6⟩ := hd3.sh
  have R6 := Lib.hid r6
  have C6 := Lib.hid cm6
  clear hl3 hd3 r6 S2
  go_wp2_with fail
  refine (decode_any A3 L c3 w.heap.size w3 (H3.out.below L3.out (Nat.le_refl _)) s3 HL.out lc3 C3.out).mono ?_
  rintro e w4 ⟨hd4, hl4⟩
  have L4 := Lib.hid (L3.out.trans (hl4.mono s3))
  have s4 := L4.out.size
  have K4 := Lib.hid (K3.out.trans (hl4.mono K3.out.size))
  obtain ⟨A7, c7, rfl, r7, lc7, cm7⟩ := hd4.sh
  have R7 := Lib.hid r7
  have R66 := Lib.hid (R6.out.below hl4 (Nat.le_refl _))
  have C7 := Lib.hid cm7
  generalize outE L = ge
  clear hl4 hd4 r7
  have S4 := HCV.out w4 K4.out
  unfold maxLen at cm6 cm7
  go_wp2_with fail
  refine (same_any A6 A7 (outL L) (outL L) c6 c7 w3.heap.size w4.heap.size w4 R66.out R7.out lc6 C6.out lc7 C7.out).mono ?_
  rintro e w5 ⟨hs, n5', hw5⟩
  have L5 : Hid (Below w.heap.size w w5) := Lib.hid (by rw [hw5]; exact below_drew2 L4.out n5')
  clear hw5
  rcases hs with ⟨_, rfl⟩ | ⟨h, _⟩
  · go_wp2_with fail
    go_ret
    exact ⟨rfl, L5.out⟩
  · exact absurd rfl h
end packRecords
end Go.Proofs.Ytiflkjjjncagfaa
