/-
  The walk of 'ShaTells': sealed bytes that are changed are not opened, unless the sums are one.
-/
import Derived.Test.YtnkbifphahbnfaaDoorShaKnown
namespace Go.Proofs.YtnkbifphahbnfaaDoor
open Go Go.RowKit
set_option linter.unusedVariables false
theorem u8_xor_bytes (a b : Nat) (ha : a < 256) (hb : b < 256) : bits .xor .u8 (a : Int) (b : Int) = ((a ^^^ b : Nat) : Int) ∧ a ^^^ b < 256 := by
  have hx : a ^^^ b < 256 := Nat.xor_lt_two_pow (n := 8) ha hb
  refine ⟨?_, hx⟩
  show IntKind.u8.wrap ((BitVec.ofInt 8 (a : Int) ^^^ BitVec.ofInt 8 (b : Int)).toNat : Int) = _
  rw [BitVec.toNat_xor, BitVec.ofInt_natCast, BitVec.ofInt_natCast, BitVec.toNat_ofNat, BitVec.toNat_ofNat, Nat.mod_eq_of_lt (by omega), Nat.mod_eq_of_lt (by omega), IntKind.wrap_u8]
  omega
theorem xor_self_ne {a x : Nat} (h : a ^^^ x = a) : x = 0 := by
  have h2 := congrArg (fun y => a ^^^ y) h
  simpa [← Nat.xor_assoc] using h2
namespace shaTells

def Z (n : Nat) (X : Nat → Nat) : Nat → Nat := cat n X (M.sum n X)
theorem Z_lt {n : Nat} {X : Nat → Nat} (hX : ∀ j, X j < 256) (j : Nat) : Z n X j < 256 := by
  unfold Z cat
  split
  · exact hX j
  · exact M.sum_lt n X _
/-- what 'Open' says of the sealed bytes of which byte m has x added -/
theorem sealed_zero (n : Nat) (X : Nat → Nat) (m : Nat) : sealed (n + 32) (upd (Z n X) m (Z n X m ^^^ 0)) := by
  intro j hj
  have e : ∀ k, upd (Z n X) m (Z n X m ^^^ 0) k = Z n X k := fun k => by
    unfold upd
    by_cases h : k = m
    · rw [if_pos h, h, Nat.xor_zero]
    · rw [if_neg h]
  rw [e, show n + 32 - 32 = n by omega, M.sum_congr (Y := X) (fun k hk => by rw [e]; unfold Z cat; rw [if_pos hk])]
  unfold Z cat
  rw [if_neg (by omega), show n + j - n = j by omega]
theorem sealed_low (n : Nat) (X : Nat → Nat) (m x : Nat) (hm : m < n) : sealed (n + 32) (upd (Z n X) m x) ↔ ∀ j, j < 32 → M.sum n (upd (Z n X) m x) j = M.sum n X j := by
  have e : ∀ j, j < 32 → upd (Z n X) m x (n + 32 - 32 + j) = M.sum n X j := fun j hj => by
    unfold upd Z cat
    rw [if_neg (by omega), if_neg (by omega), show n + 32 - 32 + j - n = j by omega]
  constructor
  · intro h j hj
    have := h j hj
    rw [e j hj, show n + 32 - 32 = n by omega] at this
    exact this
  · intro h j hj
    rw [e j hj, show n + 32 - 32 = n by omega]
    exact h j hj
theorem sealed_high (n : Nat) (X : Nat → Nat) (m x : Nat) (hm : n ≤ m) (hm2 : m < n + 32) (hx : x ≠ 0) : ¬ sealed (n + 32) (upd (Z n X) m (Z n X m ^^^ x)) := by
  intro h
  have h1 := h (m - n) (by omega)
  rw [show n + 32 - 32 = n by omega, show n + (m - n) = m by omega, M.sum_congr (Y := X) (fun k hk => by unfold upd Z cat; rw [if_neg (by omega), if_pos hk])] at h1
  unfold upd at h1
  rw [if_pos rfl] at h1
  have e : Z n X m = M.sum n X (m - n) := by unfold Z cat; rw [if_neg (by omega)]
  rw [e] at h1
  exact hx (xor_self_ne h1.symm)

set_option maxRecDepth 100000 in
set_option maxHeartbeats 3200000 in
theorem walk (A : Option Addr) (n c : Nat) (X : Nat → Nat) (a1 a2 : Int) (w : World) (hx0 : RdB w w.heap.size A n X) (hnc : n ≤ c) (hcm : c ≤ maxLen) (h0 : A = none → c = 0) (w1 : (Lit.int .i64 a1).wf = true) (w2 : (Lit.int .u8 a2).wf = true) (hl : Laid w) :
    Calls Tryd.prog 5 #[.slice A n c, .int .i64 a1, .int .u8 a2] w fun e w' => e = .returned (.bool true) ∧ Below w.heap.size w w' := by
  obtain ⟨Y, hx, hX⟩ := hx0.cut
  have HX := Lib.hid hx
  have HL := Lib.hid hl
  have hpos := hl.pos
  have HC := Lib.hid hcm
  have H0 := Lib.hid h0
  obtain ⟨p1, p2⟩ := bounds_i64 w1
  have hb2 := bounds_u8 w2
  obtain ⟨x, rfl, hx256⟩ : ∃ x : Nat, a2 = (x : Int) ∧ x < 256 := ⟨a2.toNat, by omega, by omega⟩
  have hcm' := hcm
  unfold maxLen at hcm'
  clear hx0 hx hl hcm w1 w2 h0 hb2
  by_cases hbig : 3000 < n
  · have t1 : (3000 : Int) < (n : Int) := by omega
    go_enter Tryd.func5, Tryd.ntmps5
    go_wp2_with fail
    refine (known_any _ HL.out).mono ?_
    rintro e w2 ⟨rfl, hl2⟩
    have L2 := Lib.hid hl2
    clear hl2
    go_wp2_with fail
    refine (known_any _ (HL.out.below L2.out hpos)).mono ?_
    rintro e w3 ⟨rfl, hl3⟩
    have L3 := Lib.hid (L2.out.trans (hl3.mono L2.out.size))
    clear hl3 L2
    go_wp2_with fail
    go_ret
    exact ⟨rfl, L3.out⟩
  have t1 : (n : Int) ≤ 3000 := by omega
  have hn : n ≤ 1099511627776 := by omega
  have hn2 : n ≤ 3000 := by omega
  clear hbig
  go_enter Tryd.func5, Tryd.ntmps5
  go_wp2_with fail
  refine (known_any _ HL.out).mono ?_
  rintro e w2 ⟨rfl, hl2⟩
  have L2 := Lib.hid hl2
  clear hl2
  go_wp2_with fail
  refine (seal_any A n c w.heap.size Y w2 (HX.out.below L2.out (Nat.le_refl _)) hX L2.out.size hnc HC.out H0.out hn (HL.out.below L2.out hpos)).mono ?_
  rintro e w3 ⟨v3, rfl, ho3, hl3⟩
  have L3 := Lib.hid (L2.out.trans (hl3.mono L2.out.size))
  obtain ⟨g, cap, rfl, hg, hrow, hnc3, hcm3⟩ := ho3.row (by omega)
  have hg3 : w.heap.size ≤ g := Nat.le_trans L2.out.size hg
  have R3 : Hid (RowG w3 g (n + 32) (Z n Y)) := Lib.hid hrow
  have HC3 := Lib.hid hcm3
  unfold maxLen at hcm3
  clear hl3 L2 hrow ho3 hg
  obtain ⟨m, hm, hm32⟩ : ∃ m : Nat, (IntKind.u64.wrap a1).tmod ((n : Int) + 32) = (m : Int) ∧ m < n + 32 := by
    have hw : 0 ≤ IntKind.u64.wrap a1 := by simp [IntKind.wrap, IntKind.bits, IntKind.signed]; omega
    refine ⟨((IntKind.u64.wrap a1) % ((n : Int) + 32)).toNat, ?_, ?_⟩
    · rw [Int.tmod_eq_emod_of_nonneg hw]
      have := Int.emod_nonneg (IntKind.u64.wrap a1) (show (n : Int) + 32 ≠ 0 by omega)
      omega
    · have h1 := Int.emod_nonneg (IntKind.u64.wrap a1) (show (n : Int) + 32 ≠ 0 by omega)
      have h2 := Int.emod_lt_of_pos (IntKind.u64.wrap a1) (show (0 : Int) < (n : Int) + 32 by omega)
      omega
  have m1 : (m : Int) < (n : Int) + 32 := by omega
  have hz := Z_lt (n := n) hX m
  obtain ⟨b1, hb1⟩ := u8_xor_bytes (Z n Y m) x hz hx256
  have c3 := R3.out.cell hm32
  have f3 := R3.out.frozen m
  go_wp2_with fail
  have R4 : Hid (RowG (w3.setCell ⟨g, m, none⟩ (.int .u8 ((Z n Y m ^^^ x : Nat) : Int))) g (n + 32) (upd (Z n Y) m (Z n Y m ^^^ x))) := Lib.hid (R3.out.set hm32)
  have L4 : Hid (Below w.heap.size w (w3.setCell ⟨g, m, none⟩ (.int .u8 ((Z n Y m ^^^ x : Nat) : Int)))) := Lib.hid (L3.out.setCell (p := ⟨g, m, none⟩) hg3 _)
  clear R3 L3 c3 f3 b1
  generalize w3.setCell ⟨g, m, none⟩ (.int .u8 ((Z n Y m ^^^ x : Nat) : Int)) = w4 at *
  have hZ : ∀ j, upd (Z n Y) m (Z n Y m ^^^ x) j < 256 := upd_lt (Z_lt hX) hb1
  have HZ := Lib.hid hZ
  clear hZ
  have hgl := R4.out.lt
  have HR4 := Lib.hid (R4.out.rdb (fun j _ => HZ.out j) hgl)
  by_cases hx0 : x = 0
  · subst hx0
    refine (open_yes (some ⟨g, 0, none⟩) (n + 32) cap w4.heap.size _ w4 HR4.out HZ.out (Nat.le_refl _) hnc3 HC3.out (by omega) (HL.out.below L4.out hpos) (by omega) (sealed_zero n Y m)).mono ?_
    rintro e w5 ⟨⟨v5, rfl, ho5⟩, hl5⟩
    have L5 := Lib.hid (L4.out.trans (hl5.mono L4.out.size))
    rw [show n + 32 - 32 = n by omega] at ho5
    have ho6 := ho5.congr (Y := Y) (fun j hj => by
      unfold upd Z cat
      by_cases h : j = m
      · rw [if_pos h, ← h, if_pos hj, Nat.xor_zero]
      · rw [if_neg h, if_pos hj])
    obtain ⟨A5, c5, rfl, hr5, _, _, _, _⟩ := ho6.shape (fun j _ => hX j)
    have k1 := conv_rd (cap := c5) hr5
    have k2 := conv_rd (cap := c) (HX.out.below L5.out (Nat.le_refl _))
    clear ho5 ho6 hl5 L4 HR4 R4 hr5
    go_wp2_with fail
    go_ret
    exact ⟨rfl, L5.out⟩
  have hxx : ((x : Int) == 0) = false := by simpa using hx0
  by_cases hmn : m < n
  · have hmn' : (m : Int) < (n : Int) := by omega
    have hi := sealed_low n Y m (Z n Y m ^^^ x) hmn
    by_cases hs : ∀ j, j < 32 → M.sum n (upd (Z n Y) m (Z n Y m ^^^ x)) j = M.sum n Y j
    · refine (open_yes (some ⟨g, 0, none⟩) (n + 32) cap w4.heap.size _ w4 HR4.out HZ.out (Nat.le_refl _) hnc3 HC3.out (by omega) (HL.out.below L4.out hpos) (by omega) (hi.2 hs)).mono ?_
      rintro e w5 ⟨⟨v5, rfl, ho5⟩, hl5⟩
      have L5 := Lib.hid (L4.out.trans (hl5.mono L4.out.size))
      have R5 := Lib.hid ((R4.out.new_ hl5).part (show n ≤ n + 32 by omega))
      have HE := Lib.hid (strB_congr hs)
      clear ho5 hl5 L4 HR4 R4 hi hs
      generalize upd (Z n Y) m (Z n Y m ^^^ x) = Z' at *
      have hncap : (n : Int) ≤ (cap : Int) := by omega
      go_wp2_with fail
      refine (sum_any (some ⟨g, 0, none⟩) n cap (g + 1) Z' w5 (R5.out.rdb (fun j _ => HZ.out j) (Nat.lt_succ_self g)) HZ.out R5.out.lt (by omega) HC3.out hn (HL.out.below L5.out hpos)).mono ?_
      rintro e w6 ⟨rfl, hl6⟩
      have L6 := Lib.hid (L5.out.trans (hl6.mono L5.out.size))
      clear hl6 L5 R5
      go_wp2_with fail
      refine (sum_any A n c w.heap.size Y w6 (HX.out.below L6.out (Nat.le_refl _)) hX L6.out.size hnc HC.out hn (HL.out.below L6.out hpos)).mono ?_
      rintro e w7 ⟨rfl, hl7⟩
      have L7 := Lib.hid (L6.out.trans (hl7.mono L6.out.size))
      clear hl7 L6
      rw [HE.out]
      go_wp2_with fail
      go_ret
      exact ⟨rfl, L7.out⟩
    · refine (open_no (some ⟨g, 0, none⟩) (n + 32) cap w4.heap.size _ w4 HR4.out HZ.out (Nat.le_refl _) hnc3 HC3.out (by omega) (HL.out.below L4.out hpos) (by omega) (fun h => hs (hi.1 h))).mono ?_
      rintro e w5 ⟨rfl, hl5⟩
      have L5 := Lib.hid (L4.out.trans (hl5.mono L4.out.size))
      have R5 := Lib.hid ((R4.out.new_ hl5).part (show n ≤ n + 32 by omega))
      have hne : ((strB 32 (M.sum n (upd (Z n Y) m (Z n Y m ^^^ x)))).toList == (strB 32 (M.sum n Y)).toList) = false := by
        cases h : ((strB 32 (M.sum n (upd (Z n Y) m (Z n Y m ^^^ x)))).toList == (strB 32 (M.sum n Y)).toList) with
        | false => rfl
        | true => exact absurd ((strB_eq_iff (fun j _ => M.sum_lt n _ j) (fun j _ => M.sum_lt n Y j)).1 h) hs
      have HE := Lib.hid hne
      clear hl5 L4 HR4 R4 hi hs hne
      generalize upd (Z n Y) m (Z n Y m ^^^ x) = Z' at *
      have hncap : (n : Int) ≤ (cap : Int) := by omega
      go_wp2_with fail
      refine (sum_any (some ⟨g, 0, none⟩) n cap (g + 1) Z' w5 (R5.out.rdb (fun j _ => HZ.out j) (Nat.lt_succ_self g)) HZ.out R5.out.lt (by omega) HC3.out hn (HL.out.below L5.out hpos)).mono ?_
      rintro e w6 ⟨rfl, hl6⟩
      have L6 := Lib.hid (L5.out.trans (hl6.mono L5.out.size))
      clear hl6 L5 R5
      go_wp2_with fail
      refine (sum_any A n c w.heap.size Y w6 (HX.out.below L6.out (Nat.le_refl _)) hX L6.out.size hnc HC.out hn (HL.out.below L6.out hpos)).mono ?_
      rintro e w7 ⟨rfl, hl7⟩
      have L7 := Lib.hid (L6.out.trans (hl7.mono L6.out.size))
      have hne := HE.out
      clear hl7 L6
      go_wp2_with fail
      go_ret
      exact ⟨rfl, L7.out⟩
  · have hmn' : ¬ ((m : Int) < (n : Int)) := by omega
    refine (open_no (some ⟨g, 0, none⟩) (n + 32) cap w4.heap.size _ w4 HR4.out HZ.out (Nat.le_refl _) hnc3 HC3.out (by omega) (HL.out.below L4.out hpos) (by omega) (sealed_high n Y m x (by omega) hm32 hx0)).mono ?_
    rintro e w5 ⟨rfl, hl5⟩
    have L5 := Lib.hid (L4.out.trans (hl5.mono L4.out.size))
    clear hl5 L4 HR4 R4
    go_wp2_with fail
    go_ret
    exact ⟨rfl, L5.out⟩
end shaTells
end Go.Proofs.YtnkbifphahbnfaaDoor
