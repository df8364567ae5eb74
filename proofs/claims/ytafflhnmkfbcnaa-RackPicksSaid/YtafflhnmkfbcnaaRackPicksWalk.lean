/-
  The walk of 'RackPicks': of several writes to one sector the last one that a crash keeps counts. Conditions: what the reading of the arguments gives.
-/
import Derived.Test.YtafflhnmkfbcnaaLawInts
import Derived.Test.YtafflhnmkfbcnaaRackSays
namespace Go.Proofs.Ytafflhnmkfbcnaa
open Go Go.RowKit
set_option linter.unusedVariables false
namespace rackPicks

def wantF (P : Nat → Bool) (x : Nat → Int) : Nat → Nat → Nat
  | 0 => bv 128 (-1)
  | k + 1 => if P k = true then bv 128 (x k) else wantF P x k
theorem wantF_lt (P : Nat → Bool) (x : Nat → Int) : ∀ k j, wantF P x k j < 256
  | 0, j => bv_lt 128 _ j
  | k + 1, j => by
    unfold wantF
    split
    · exact bv_lt 128 _ j
    · exact wantF_lt P x k j
structure PInv (s : RS) (x : Nat → Int) (i : Nat) : Prop where
  nd : s.nd = 3
  ns : s.ns = 1
  calm : s.calm
  gone : ∀ d, s.gone d = false
  cost : s.cost ≤ i + 1
  nw : s.nw = i
  W : ∀ k, k < i → s.W k = ⟨0, 0, bv 128 (x k)⟩
  last : s.last 0 0 = bv 128 (-1)
theorem PInv.wrote {s : RS} {x : Nat → Int} {i : Nat} (h : PInv s x i) : PInv (s.wrote 0 0 (bv 128 (x i))) x (i + 1) := by
  refine ⟨h.nd, h.ns, h.calm, h.gone, by have := h.cost; show s.cost + 1 ≤ i + 1 + 1; omega, by show s.nw + 1 = i + 1; rw [h.nw], fun k hk => ?_, h.last⟩
  show (if k = s.nw then (⟨0, 0, bv 128 (x i)⟩ : Wt) else s.W k) = _
  rw [h.nw]
  by_cases e : k = i
  · subst e; rw [if_pos rfl]
  · rw [if_neg e]; exact h.W k (by omega)
theorem PInv.start (x : Nat → Int) : PInv ((RS.new 3 1).wrote 0 0 (bv 128 (-1))).flushed x 0 :=
  ⟨rfl, rfl, ⟨rfl, rfl⟩, fun _ => rfl, Nat.le_refl _, rfl, fun k hk => absurd hk (Nat.not_lt_zero _), rfl⟩
theorem PInv.lay {s : RS} {x : Nat → Int} {i : Nat} (h : PInv s x i) (P : Nat → Bool) : ∀ k, k ≤ i → s.lay P k 0 0 = wantF P x k
  | 0, _ => h.last
  | k + 1, hk => by
    unfold RS.lay wantF
    rw [h.W k (by omega)]
    by_cases hp : P k = true
    · rw [if_pos ⟨hp, rfl, rfl⟩, if_pos hp]
    · rw [if_neg (fun e => hp e.1), if_neg hp]
      exact h.lay P k (by omega)
theorem PInv.crashed {s : RS} {x : Nat → Int} {i : Nat} (h : PInv s x i) (P : Nat → Bool) : (s.crashed P).holds 0 0 = wantF P x i := by
  rw [holds_crashed, h.nw]
  exact h.lay P i (Nat.le_refl _)

set_option maxRecDepth 100000 in
set_option maxHeartbeats 1600000 in
theorem walk (a0 : Option Addr) (len0 cap0 : Nat) (x0 : Nat → Int) (a1 : Option Addr) (len1 cap1 : Nat) (x1 : Nat → Int) (w : World) (h0 : RdI w w.heap.size a0 len0 x0) (l0 : len0 ≤ cap0) (m0 : cap0 ≤ maxLen)
    (h1 : RdI w w.heap.size a1 len1 x1) (l1 : len1 ≤ cap1) (m1 : cap1 ≤ maxLen) (n1 : a1 = none → cap1 = 0) (r1 : cap1 * 8 ≤ 140737488351232) :
    Calls Try.prog 8 #[.slice a0 len0 cap0, .slice a1 len1 cap1] w fun e w' => e = .returned (.bool true) ∧ Below w.heap.size w w' := by
  unfold maxLen at m0 m1
  have H0 := Lib.hid h0
  have H1 := Lib.hid h1
  have N1 := Lib.hid n1
  clear h0 h1 n1
  go_enter Try.func8, Try.ntmps8
  go_wp2_with fail
  refine (known_any _).mono ?_
  rintro e w1 ⟨rfl, b1⟩
  have L1 := Lib.hid b1
  clear b1
  go_wp2_with fail
  refine (new_any w1 3 1 (by omega) (by omega) (by omega) (by omega)).mono ?_
  rintro e w2 ⟨⟨r, rfl, h2⟩, k2⟩
  have R2 := Lib.hid h2
  have L2 := Lib.hid (L1.out.trans (k2.below.mono L1.out.size))
  have hB : Hid (w.heap.size ≤ w1.heap.size) := L1.out.size
  clear h2 k2 L1
  generalize w1.heap.size = B at *
  go_wp2_with fail
  refine (bytes_calm (-1) _ (by omega)).mono ?_
  rintro e w3 ⟨v3, rfl, r3, b3⟩
  have R3 := Lib.hid (R2.out.below b3)
  have V3 := Lib.hid r3
  have L3 := Lib.hid (L2.out.trans (b3.mono L2.out.size))
  clear r3 b3 R2 L2
  go_wp2_with fail
  refine (write_calm _ r _ 0 0 0 0 v3 _ R3.out ⟨rfl, rfl⟩ rfl rfl (by decide) (by decide) rfl V3.out (fun j _ => bv_lt 128 _ j) (by decide)).mono ?_
  rintro e w4 ⟨rfl, h4, k4⟩
  have R4 := Lib.hid h4
  have L4 := Lib.hid (L3.out.trans (k4.below.mono hB.out))
  clear h4 k4 R3 L3 V3
  go_wp2_with fail
  refine (flush_calm _ r _ R4.out ⟨rfl, rfl⟩).mono ?_
  rintro e w5 ⟨rfl, h5, k5⟩
  have R5 := Lib.hid h5
  have L5 := Lib.hid (L4.out.trans (k5.below.mono hB.out))
  have N5 : Hid (PInv ((RS.new 3 1).wrote 0 0 (bv 128 (-1))).flushed x0 0) := Lib.hid (PInv.start x0)
  clear h5 k5 R4 L4
  generalize ((RS.new 3 1).wrote 0 0 (bv 128 (-1))).flushed = s5 at *
  go_wp2_with fail
  refine (bytes_calm (-1) _ (by omega)).mono ?_
  rintro e w6 ⟨v6, rfl, r6, b6⟩
  have R6 := Lib.hid (R5.out.below b6)
  have V6 : Hid (Row8 w6 v6 128 (wantF (odd len1 x1) x0 0)) := Lib.hid r6
  have L6 := Lib.hid (L5.out.trans (b6.mono L5.out.size))
  clear r6 b6 R5 L5
  go_wp2_with fail
  go_loopw [7, 8] (fun v x wr => ∃ (i : Nat) (s : RS), i ≤ 40 ∧ i ≤ len0 ∧ x = .int .i64 i ∧ Hid (PInv s x0 i) ∧ Hid (RackAt B wr r s) ∧ Hid (Below w.heap.size w wr) ∧ Hid (Row8 wr v 128 (wantF (odd len1 x1) x0 i))) (fun _ x _ => 40 - (intOf x).toNat)
  case atStart => exact ⟨0, s5, by omega, by omega, rfl, N5, R6, L6, V6⟩
  case round =>
    obtain ⟨i, s, hi40, hi, rfl, N7, R7, L7, V7⟩ := hrel
    clear N5 R6 L6 V6
    by_cases hgo : i < len0 ∧ i < 40
    · obtain ⟨hi0, hi4⟩ := hgo
      have t1 : decide (i < len0) = true := by simp; omega
      have t2 : decide ((i : Int) < 40) = true := by simp; omega
      obtain ⟨fb, fo, hfa, hfB, hfc, hxi⟩ := H0.out i hi0
      subst hfa
      have fc := (L7.out.cell (p := ⟨fb, fo + i, none⟩) hfB).trans hfc
      have i1 : (0 : Int) ≤ (i : Int) := by omega
      have i2 : (i : Int) < (len0 : Int) := by omega
      have HX := Lib.hid hxi
      have HF := Lib.hid hfc
      clear hxi hfc
      go_wp2_with fail
      refine (bytes_calm (x0 i) _ HX.out).mono ?_
      rintro e w8 ⟨v8, rfl, r8, b8⟩
      have R8 := Lib.hid (R7.out.below b8)
      have V8 := Lib.hid r8
      have Y8 := Lib.hid (V7.out.new_ b8)
      have L8 := Lib.hid (L7.out.trans (b8.mono L7.out.size))
      clear r8 b8 R7 L7 fc V7
      go_wp2_with fail
      refine (write_calm _ r s 0 0 0 0 v8 _ R8.out N7.out.calm rfl rfl (by rw [N7.out.nd]; omega) (by rw [N7.out.ns]; omega) (N7.out.gone 0) V8.out (fun j _ => bv_lt 128 _ j) (by have := N7.out.cost; omega)).mono ?_
      rintro e w9 ⟨rfl, h9, k9⟩
      have R9 := Lib.hid h9
      have N9 := Lib.hid N7.out.wrote
      have Y9 := Lib.hid (Y8.out.keep k9)
      have L9 := Lib.hid (L8.out.trans (k9.below.mono hB.out))
      have fc := (L9.out.cell (p := ⟨fb, fo + i, none⟩) hfB).trans HF.out
      clear h9 k9 R8 L8 N7 V8 Y8
      generalize s.wrote 0 0 (bv 128 (x0 i)) = s9 at *
      by_cases hl1 : i < len1
      rotate_left
      · have t3 : decide (i < len1) = false := by simp; omega
        have Y10 : Hid (Row8 w9 u7 128 (wantF (odd len1 x1) x0 (i + 1))) := by
          have e : wantF (odd len1 x1) x0 (i + 1) = wantF (odd len1 x1) x0 i := if_neg (by unfold odd; simp [hl1])
          rw [e]
          exact Y9
        clear Y9 hl1
        go_wp2_with fail
        go_roundw
        case rel => exact ⟨i + 1, s9, by omega, by omega, by go_num, N9, R9, L9, Y10⟩
        case measure => simp [intOf]; omega
      have t3 : decide (i < len1) = true := by simp; omega
      obtain ⟨gb, go_, hga, hgB, hgc, hgi⟩ := H1.out i hl1
      subst hga
      have gc := (L9.out.cell (p := ⟨gb, go_ + i, none⟩) hgB).trans hgc
      have i3 : (i : Int) < (len1 : Int) := by omega
      obtain ⟨hgi1, hgi2⟩ := hgi
      clear hgc
      by_cases hod : (x1 i).tmod 2 = 0
      · have Y10 : Hid (Row8 w9 u7 128 (wantF (odd len1 x1) x0 (i + 1))) := by
          have e : wantF (odd len1 x1) x0 (i + 1) = wantF (odd len1 x1) x0 i := if_neg (by unfold odd; simp [hod])
          rw [e]
          exact Y9
        clear Y9 hl1
        go_wp2_with fail
        go_roundw
        case rel => exact ⟨i + 1, s9, by omega, by omega, by go_num, N9, R9, L9, Y10⟩
        case measure => simp [intOf]; omega
      have EW : Hid (wantF (odd len1 x1) x0 (i + 1) = bv 128 (x0 i)) := Lib.hid (if_pos (by unfold odd; simp [hod, hl1]))
      clear Y9 hl1
      go_wp2_with fail
      refine (bytes_calm (x0 i) _ HX.out).mono ?_
      rintro e w10 ⟨v10, rfl, r10, b10⟩
      have R10 := Lib.hid (R9.out.below b10)
      have L10 := Lib.hid (L9.out.trans (b10.mono L9.out.size))
      have Y10 : Hid (Row8 w10 v10 128 (wantF (odd len1 x1) x0 (i + 1))) := by
        rw [EW.out]
        exact r10
      clear r10 b10 R9 L9 fc gc EW hod
      go_wp2_with fail
      go_roundw
      case rel => exact ⟨i + 1, s9, by omega, by omega, by go_num, N9, R10, L10, Y10⟩
      case measure => simp [intOf]; omega
    · have hst : decide (i < len0) = false ∨ decide (i < len0) = true ∧ decide ((i : Int) < 40) = false := by
        by_cases h : i < len0
        · exact .inr ⟨by simp [h], by simp; omega⟩
        · exact .inl (by simp; omega)
      clear hgo
      have I1 : Hid (RdI wr w.heap.size a1 len1 x1) := Lib.hid (H1.out.below L7.out)
      have LS := L7.out.size
      have EC := Lib.hid (N7.out.crashed (odd len1 x1))
      rcases hst with t1 | ⟨t1, t2⟩
      all_goals
        go_wp2_with (at_builtin; refine wpList_append_ints rfl (.tmp 66) (.tmp 67) rfl rfl rfl I1.out (by omega) (by omega) N1.out l1 ?_; intro A' c' w11 hI hb11)
        have I11 := Lib.hid hI
        have R11 := Lib.hid (R7.out.below hb11)
        have Y11 := Lib.hid (V7.out.new_ hb11)
        have L11 := Lib.hid (L7.out.trans (hb11.mono L7.out.size))
        clear hI hb11 I1
        go_wp2_with fail
        refine (crash_any _ r s A' len1 c' x1 R11.out I11.out).mono ?_
        rintro e w12 ⟨rfl, h12, k12⟩
        have R12 := Lib.hid h12
        have Y12 := Lib.hid (Y11.out.keep k12)
        have L12 := Lib.hid (L11.out.trans (k12.below.mono hB.out))
        have Z12 : Hid ((s.crashed (odd len1 x1)).nd = 3 ∧ (s.crashed (odd len1 x1)).ns = 1 ∧ (s.crashed (odd len1 x1)).gone 0 = false ∧ (s.crashed (odd len1 x1)).calm ∧ (s.crashed (odd len1 x1)).nw = 0) := Lib.hid ⟨N7.out.nd, N7.out.ns, N7.out.gone 0, RS.crashed_calm _ _, rfl⟩
        clear h12 k12 R11 I11 Y11 L11
        generalize s.crashed (odd len1 x1) = s12 at *
        go_wp2_with fail
        refine (read_calm _ r s12 0 0 0 0 R12.out Z12.out.2.2.2.1 rfl rfl (by rw [Z12.out.1]; omega) (by rw [Z12.out.2.1]; omega) Z12.out.2.2.1).mono ?_
        rintro e w13 ⟨v13, rfl, r13, h13, k13⟩
        have R13 := Lib.hid h13
        have L13 := Lib.hid (L12.out.trans (k13.below.mono hB.out))
        have q1 := (Y12.out.keep k13).conv
        rw [EC.out] at r13
        have q2 := r13.conv
        generalize strB 128 (wantF (odd len1 x1) x0 i) = S at *
        clear r13 h13 k13 R12 L12 Y12 EC
        go_wp2_with fail
        refine (pending_any _ r s12 R13.out).mono ?_
        rintro e w' ⟨rfl, rfl⟩
        rw [Z12.out.2.2.2.2]
        go_wp2_with fail
        go_ret
        exact ⟨rfl, L13.out⟩
end rackPicks
end Go.Proofs.Ytafflhnmkfbcnaa
