/-
  The walk of 'RackApart': what befalls one drive touches no other one. Conditions: what the reading of the arguments gives.
-/
import Derived.Test.YtfdalbaemkekoaaRackOps
import Derived.Test.YtfdalbaemkekoaaRackOther
import Derived.Test.YtfdalbaemkekoaaRackPlacesWalk
import Derived.Test.YtfdalbaemkekoaaLawKnown
import Derived.Test.YtfdalbaemkekoaaDrawMore
import Derived.Deep.DeepCutAuto
import Derived.Deep.Light
namespace Go.Proofs.Ytfdalbaemkekoaa
open Go Go.RowKit
set_option linter.unusedVariables false
set_option maxRecDepth 100000
namespace rackApart

theorem nb_lt {d a : Nat} (hd : d < 4) (ha : a < 4) : -9223372036854775808 ≤ nb d a ∧ nb d a ≤ 9223372036854775807 := by unfold nb; omega
theorem neq_i64 (w : World) {a b : Int} (h : a ≠ b) : (binOp .neq 3 (.int .i64 a) (.int .i64 b)).run Try.prog w = .ok (.bool true) w := by
  have e : (a != b) = true := by simpa using h
  rw [show binOp .neq 3 (.int .i64 a) (.int .i64 b) = pure (.bool (a != b)) from rfl, e]
  rfl
theorem neq_no (w : World) {a b : Int} (h : a = b) : (binOp .neq 3 (.int .i64 a) (.int .i64 b)).run Try.prog w = .ok (.bool false) w := by
  have e : (a != b) = false := by simpa using h
  rw [show binOp .neq 3 (.int .i64 a) (.int .i64 b) = pure (.bool (a != b)) from rfl, e]
  rfl
theorem mul_ten (w : World) {d : Nat} (hd : d < 4) : (binOp .mul 3 (.int .i64 (d : Int)) (.int .i64 10)).run Try.prog w = .ok (.int .i64 ((d * 10 : Nat) : Int)) w := by
  rw [show binOp .mul 3 (.int .i64 (d : Int)) (.int .i64 10) = pure (.int .i64 (IntKind.i64.wrap ((d : Int) * 10))) from rfl, show IntKind.i64.wrap ((d : Int) * 10) = ((d * 10 : Nat) : Int) from by
    rw [IntKind.wrap_i64]; omega]
  rfl
theorem add_nb (w : World) {d a : Nat} (hd : d < 4) (ha : a < 4) : (binOp .add 3 (.int .i64 ((d * 10 : Nat) : Int)) (.int .i64 (a : Int))).run Try.prog w = .ok (.int .i64 (nb d a)) w := by
  rw [show binOp .add 3 (.int .i64 ((d * 10 : Nat) : Int)) (.int .i64 (a : Int)) = pure (.int .i64 (IntKind.i64.wrap (((d * 10 : Nat) : Int) + (a : Int)))) from rfl, show IntKind.i64.wrap (((d * 10 : Nat) : Int) + (a : Int)) = nb d a from by
    rw [IntKind.wrap_i64]; unfold nb; omega]
  rfl
theorem why_gone {s : RS} {d a : Nat} (hd : d < s.nd) (ha : a < s.ns) (hg : s.gone d = true) : s.why (d : Int) (a : Int) = 3 := by
  have e : s.isP (d : Int) (a : Int) = true := by simp [RS.isP, RS.isD]; omega
  unfold RS.why
  rw [if_pos e, Int.toNat_natCast, hg]
  rfl
theorem write_some {B : Nat} (w : World) (r : Nat) (s : RS) (q i a : Nat) (v : Value) (X : Nat → Nat) (h : RackAt B w r s) (hs : AInv s q i) (hq : q < 4) (ha : a < 4) (hi : i ≤ 100) (hv : Row8 w v 128 X) (hX : ∀ j, j < 128 → X j < 256) :
    Calls Try.prog 17 #[.pointer (some ⟨r, 0, none⟩), .int .i64 (q : Int), .int .i64 (a : Int), v] w fun e w' => ∃ y s', e = .returned (.int .i64 y) ∧ AInv s' q (i + 1) ∧ RackAt B w' r s' ∧ Keep B w w' := by
  cases hg : s.gone q with
  | false => exact (write_calm w r s _ _ q a v X h hs.calm rfl rfl (by rw [hs.nd]; exact hq) (by rw [hs.ns]; exact ha) hg hv hX (by have := hs.cost; omega)).mono fun e w' ⟨h1, h2, h3⟩ => ⟨_, _, h1, hs.wrote a X, h2, h3⟩
  | true =>
    obtain ⟨g, c, cs, rfl, hb, hx⟩ := hv
    exact (write_is w r s _ _ 3 (some ⟨g, 0, none⟩) c h (why_gone (by rw [hs.nd]; exact hq) (by rw [hs.ns]; exact ha) hg) (by omega)).mono fun e w' ⟨h1, h2, h3⟩ => ⟨_, _, h1, hs.more, h2, h3⟩
theorem rot_some {B : Nat} (w : World) (r : Nat) (s : RS) (q i a n : Nat) (h : RackAt B w r s) (hs : AInv s q i) (hq : q < 4) (ha : a < 4) (hi : i ≤ 100) (hn : n ≤ 9223372036854775807) :
    Calls Try.prog 21 #[.pointer (some ⟨r, 0, none⟩), .int .i64 (q : Int), .int .i64 (a : Int), .int .i64 (n : Int)] w fun e w' => ∃ y s', e = .returned (.int .i64 y) ∧ AInv s' q (i + 1) ∧ RackAt B w' r s' ∧ Keep B w w' := by
  cases hg : s.gone q with
  | false => exact (rot_ok w r s q a n h (by rw [hs.nd]; exact hq) (by rw [hs.ns]; exact ha) hg hn (by have := hs.cost; omega)).mono fun e w' ⟨h1, h2, h3⟩ => ⟨_, _, h1, hs.rotted a n, h2, h3⟩
  | true => exact (rot_is w r s _ _ (n : Int) 3 h (by omega) (why_gone (by rw [hs.nd]; exact hq) (by rw [hs.ns]; exact ha) hg) (by omega)).mono fun e w' ⟨h1, h2, h3⟩ => ⟨_, _, h1, hs.more, h2, h3⟩
theorem read_some {B : Nat} (w : World) (r : Nat) (s : RS) (D : Int) (q i a : Nat) (h : RackAt B w r s) (hs : AInv s q i) (hD : D = (q : Int)) (hq : q < 4) (ha : a < 4) :
    Calls Try.prog 19 #[.pointer (some ⟨r, 0, none⟩), .int .i64 D, .int .i64 (a : Int)] w fun e w' => ∃ v y, e = .returned (.tuple #[v, .int .i64 y]) ∧ RackAt B w' r s ∧ Keep B w w' := by
  subst hD
  cases hg : s.gone q with
  | false => exact (read_calm w r s _ _ q a h hs.calm rfl rfl (by rw [hs.nd]; exact hq) (by rw [hs.ns]; exact ha) hg).mono fun e w' ⟨v, h1, _, h2, h3⟩ => ⟨_, _, h1, h2, h3⟩
  | true =>
    have e : s.deny (q : Int) (a : Int) = 3 := by unfold RS.deny; rw [why_gone (by rw [hs.nd]; exact hq) (by rw [hs.ns]; exact ha) hg]; rfl
    exact (read_no w r s _ _ h (by rw [e]; omega)).mono fun e w' ⟨h1, h2, h3⟩ => ⟨_, _, h1, h2, h3⟩

set_option maxHeartbeats 3200000 in
theorem walk (a0 : Option Addr) (len0 cap0 : Nat) (o0 : Nat → OpV) (a1 : Int) (w : World) (h0 : RdOps w w.heap.size a0 len0 o0) (l0 : len0 ≤ cap0) (m0 : cap0 ≤ maxLen) (w1 : (Lit.int .i64 a1).wf = true) :
    Calls Try.prog 5 #[.slice a0 len0 cap0, .int .i64 a1] w fun e w' => e = .returned (.bool true) ∧ Below w.heap.size w w' := by
  unfold maxLen at m0
  have H0 := Lib.hid h0
  obtain ⟨bl, bh⟩ := bounds_i64 w1
  clear h0 w1
  obtain ⟨q, hq0, hq4⟩ := rackSpoils.umod a1 4 (by omega) (by omega)
  go_enter Try.func5, Try.ntmps5
  go_wp2_with fail
  refine (known_any _).mono ?_
  rintro e w1 ⟨rfl, b1⟩
  have L1 := Lib.hid b1
  clear b1
  go_wp2_with fail
  refine (new_any w1 4 4 (by omega) (by omega) (by omega) (by omega)).mono ?_
  rintro e w2 ⟨⟨r, rfl, h2⟩, k2⟩
  have R2 := Lib.hid h2
  have N2 := Lib.hid PInv.start
  have hB : Hid (w.heap.size ≤ w1.heap.size) := L1.out.size
  have L2 := Lib.hid (L1.out.trans (k2.below.mono L1.out.size))
  clear h2 k2 L1
  generalize RS.new 4 4 = s2 at *
  generalize w1.heap.size = B at *
  go_wp2_with fail
  rw [hq0]
  clear hq0 bl bh
  have HQ := Lib.hid hq4
  go_loopw [7] (fun x wr => ∃ (d : Nat) (s : RS), d ≤ 4 ∧ x = .int .i64 d ∧ Hid (PInv s (d * 4)) ∧ Hid (RackAt B wr r s) ∧ Hid (Below w.heap.size w wr)) (fun x _ => 4 - (intOf x).toNat)
  case atStart => exact ⟨0, s2, by omega, rfl, N2, R2, L2⟩
  case round =>
    obtain ⟨d, s, hd4, rfl, N3, R3, L3⟩ := hrel
    clear N2 R2 L2
    by_cases hd : d < 4
    · have t1 : decide ((d : Int) < 4) = true := by simp; omega
      go_wp2_with fail
      clear t1
      go_loopw [8] (fun x wr => ∃ (a : Nat) (s : RS), a ≤ 4 ∧ x = .int .i64 a ∧ Hid (PInv s (d * 4 + a)) ∧ Hid (RackAt B wr r s) ∧ Hid (Below w.heap.size w wr)) (fun x _ => 4 - (intOf x).toNat)
      case atStart => exact ⟨0, s, by omega, rfl, N3, R3, L3⟩
      case round =>
        obtain ⟨a, s, ha4, rfl, N4, R4, L4⟩ := hrel
        clear N3 R3 L3
        by_cases ha : a < 4
        · have t2 : decide ((a : Int) < 4) = true := by simp; omega
          go_wp2_with fail
          clear t2
          refine (bytes_calm _ _ (by omega)).mono ?_
          rintro e w5 ⟨v5, rfl, r5, b5⟩
          have R5 := Lib.hid (R4.out.below b5)
          have V5 := Lib.hid r5
          have L5 := Lib.hid (L4.out.trans (b5.mono L4.out.size))
          clear r5 b5 R4 L4
          go_wp2_with fail
          refine (write_calm _ r s _ _ d a v5 _ R5.out N4.out.calm rfl rfl (by rw [N4.out.nd]; omega) (by rw [N4.out.ns]; omega) (N4.out.gone d) V5.out (fun j _ => bv_lt 128 _ j) (by have := N4.out.cost; omega)).mono ?_
          rintro e w6 ⟨rfl, h6, k6⟩
          have R6 := Lib.hid h6
          have L6 := Lib.hid (L5.out.trans (k6.below.mono hB.out))
          have N6 := Lib.hid (N4.out.write ha)
          clear h6 k6 R5 L5 V5 N4
          have R7 : Hid (RackAt B w6 r (s.wrote d a (bv 128 (nb d a)))) := Lib.hid (by
            have e := R6.out
            unfold nb
            push_cast
            exact e)
          clear R6
          go_wp2_with fail
          go_roundw
          case rel => exact ⟨a + 1, _, by omega, by go_num, N6, R7, L6⟩
          case measure => simp [intOf]; omega
        · have t2 : decide ((a : Int) < 4) = false := by simp; omega
          go_wp2_with fail
          go_roundw
          case rel => exact ⟨d + 1, s, by omega, by go_num, Lib.hid (by have := N4.out; rw [show d * 4 + a = (d + 1) * 4 by omega] at this; exact this), R4, L4⟩
          case measure => simp [intOf]; omega
    · have t1 : decide ((d : Int) < 4) = false := by simp; omega
      go_wp2_with fail
      clear t1
      have N4 : Hid (PInv s 16) := Lib.hid (by have := N3.out; rw [show d * 4 = 16 by omega] at this; exact this)
      refine (flush_calm _ r s R3.out N4.out.calm).mono ?_
      rintro e w5 ⟨rfl, h5, k5⟩
      have R5 := Lib.hid h5
      have L5 := Lib.hid (L3.out.trans (k5.below.mono hB.out))
      have N5 := Lib.hid (N4.out.flushed q)
      clear h5 k5 R3 L3 N3 N4 hd hd4
      generalize s.flushed = s5 at *
      go_wp2_with fail
      go_loopg [9] 40 (fun gk x wr => ∃ (i : Nat) (s : RS), gk = 40 - i ∧ i ≤ 40 ∧ i ≤ len0 ∧ x = .int .i64 i ∧ Hid (AInv s q i) ∧ Hid (RackAt B wr r s) ∧ Hid (Below w.heap.size w wr))
      case atStart => exact ⟨0, s5, rfl, by omega, by omega, rfl, N5, R5, L5⟩
      case round =>
        obtain ⟨i, s4, rfl, hi40, hi, rfl, N4, R4, L4⟩ := hrel
        clear N5 R5 L5
        go_upto_region 18 with (fail)
        go_cut [55] (fun c wx => ∃ bb : Bool, c = .bool bb ∧ Hid (bb = decide (i < len0 ∧ i < 40)) ∧ wx = wr)
        case first =>
          by_cases h1 : i < len0
          · have t1 : decide (i < len0) = true := by simp; omega
            by_cases h2 : i < 40
            · have t2 : decide ((i : Int) < 40) = true := by simp; omega
              have hb : decide (i < len0 ∧ i < 40) = true := decide_eq_true ⟨h1, h2⟩
              go_wp2_with fail
              go_meet
              exact ⟨_, rfl, Lib.hid hb.symm, rfl⟩
            · have t2 : decide ((i : Int) < 40) = false := by simp; omega
              have hb : decide (i < len0 ∧ i < 40) = false := decide_eq_false fun q => h2 q.2
              go_wp2_with fail
              go_meet
              exact ⟨_, rfl, Lib.hid hb.symm, rfl⟩
          · have t1 : decide (i < len0) = false := by simp; omega
            have hb : decide (i < len0 ∧ i < 40) = false := decide_eq_false fun q => h1 q.1
            go_wp2_with fail
            go_meet
            exact ⟨_, rfl, Lib.hid hb.symm, rfl⟩
        case rest =>
        obtain ⟨bb, rfl, HBB, rfl⟩ := hcut
        by_cases hgo : i < len0 ∧ i < 40
        · obtain rfl : bb = true := HBB.out.trans (decide_eq_true hgo)
          clear HBB
          obtain ⟨hi0, hi4⟩ := hgo
          obtain ⟨fb, fo, hfa, hfB, hcs, hbd, hpk⟩ := H0.out i hi0
          subst hfa
          generalize o0 i = y at hcs hbd hpk
          obtain ⟨kk, dd, aa, ff, nn, pa, pn, pc, px⟩ := y
          obtain ⟨k0, k1, k2, k3, k4, k5⟩ := hcs
          obtain ⟨_, _, _, hff, _⟩ := hbd
          obtain ⟨hp1, hp2, hp3, hp4⟩ := hpk
          dsimp only at k0 k2 k3 k4 k5 hff hp1 hp2 hp3 hp4
          have c0 := (L4.out.cell (p := ⟨fb, fo + i * 6, none⟩) hfB).trans k0
          have c2 := (L4.out.cell (p := ⟨fb, fo + i * 6 + 2, none⟩) hfB).trans k2
          have K3 := Lib.hid ((L4.out.cell (p := ⟨fb, fo + i * 6 + 3, none⟩) hfB).trans k3)
          have K4 := Lib.hid ((L4.out.cell (p := ⟨fb, fo + i * 6 + 4, none⟩) hfB).trans k4)
          have K5 := Lib.hid k5
          have HFF := Lib.hid hff
          have HP1 := Lib.hid hp1
          have HP2 := Lib.hid hp2
          have HP3 := Lib.hid hp3
          have HP4 := Lib.hid hp4
          clear k0 k1 k2 k3 k4 k5 hff hp1 hp2 hp3 hp4
          have i1 : (0 : Int) ≤ (i : Int) := by omega
          have i2 : (i : Int) < (len0 : Int) := by omega
          obtain ⟨at_, hat, hat4⟩ := rackSpoils.umod aa 4 (by omega) (by omega)
          have HAT : Hid (at_ < 4) := Lib.hid (by omega)
          by_cases e2 : kk = 2
          · subst e2
            have c3 := K3.out
            go_wp2_with fail
            refine (bytes_calm ff _ HFF.out).mono ?_
            rintro e w5 ⟨v5, rfl, r5, b5⟩
            have R5 := Lib.hid (R4.out.below b5)
            have V5 := Lib.hid r5
            have L5 := Lib.hid (L4.out.trans (b5.mono L4.out.size))
            clear r5 b5 R4 L4 c0 c2 c3 hat
            go_wp2_with fail
            refine (write_some _ r s4 q i at_ v5 _ R5.out N4.out (by omega) HAT.out (by omega) V5.out (fun j _ => bv_lt 128 _ j)).mono ?_
            rintro e w6 ⟨y6, s6, rfl, n6, h6, k6⟩
            have R6 := Lib.hid h6
            have N6 := Lib.hid n6
            have L6 := Lib.hid (L5.out.trans (k6.below.mono hB.out))
            clear h6 n6 k6 R5 L5 V5 N4
            go_wp2_with fail
            go_roundg (40 - (i + 1))
            case measure => omega
            case rel => exact ⟨i + 1, s6, rfl, by omega, by omega, by go_num, N6, R6, L6⟩
          by_cases e3 : kk = 3
          · subst e3
            clear e2
            go_wp2_with fail
            refine (flush_calm _ r s4 R4.out N4.out.calm).mono ?_
            rintro e w6 ⟨rfl, h6, k6⟩
            have R6 := Lib.hid h6
            have N6 := Lib.hid N4.out.flushed
            have L6 := Lib.hid (L4.out.trans (k6.below.mono hB.out))
            clear h6 k6 R4 L4 N4 c0 c2 hat
            generalize s4.flushed = s6 at *
            go_wp2_with fail
            go_roundg (40 - (i + 1))
            case measure => omega
            case rel => exact ⟨i + 1, s6, rfl, by omega, by omega, by go_num, N6, R6, L6⟩
          by_cases e5 : kk = 5
          · subst e5
            clear e2 e3
            have RA := Lib.hid (R4.out.alloc (.cells #[] 3))
            have LA := Lib.hid (L4.out.alloc L4.out.size (.cells #[] 3))
            have c5 := (LA.out.cell (p := ⟨fb, fo + i * 6 + 5, none⟩) hfB).trans K5.out
            have IA : Hid (RdI wc w.heap.size pa pn px) := Lib.hid (HP1.out.below L4.out)
            have LS := L4.out.size
            have hpn : Hid (pn * 8 ≤ 140737488355328) := Lib.hid (by have := HP2.out; have := HP4.out; omega)
            go_wp2_with (at_builtin; refine wpList_append_ints rfl (.tmp 90) (.tmp 95) rfl rfl rfl IA.out LS hpn.out HP3.out HP2.out ?_; intro A' c' w5 hI hb5)
            have I5 := Lib.hid hI
            have R5 := Lib.hid (R4.out.below hb5)
            have L5 := Lib.hid (L4.out.trans (hb5.mono L4.out.size))
            clear hI hb5 IA RA LA R4 L4 LS c0 c2 c5 hat
            go_wp2_with fail
            refine (crash_any _ r s4 A' pn c' px R5.out I5.out).mono ?_
            rintro e w6 ⟨rfl, h6, k6⟩
            have R6 := Lib.hid h6
            have N6 := Lib.hid (N4.out.crashed (odd pn px))
            have L6 := Lib.hid (L5.out.trans (k6.below.mono hB.out))
            clear h6 k6 R5 L5 I5 N4
            generalize s4.crashed (odd pn px) = s6 at *
            go_wp2_with fail
            go_roundg (40 - (i + 1))
            case measure => omega
            case rel => exact ⟨i + 1, s6, rfl, by omega, by omega, by go_num, N6, R6, L6⟩
          by_cases e6 : kk = 6
          · subst e6
            clear e2 e3 e5
            go_wp2_with fail
            refine (lose_ok _ r s4 q R4.out (by rw [N4.out.nd]; omega)).mono ?_
            rintro e w6 ⟨rfl, h6, k6⟩
            have R6 := Lib.hid h6
            have N6 := Lib.hid N4.out.lost
            have L6 := Lib.hid (L4.out.trans (k6.below.mono hB.out))
            clear h6 k6 R4 L4 N4 c0 c2 hat
            generalize s4.lost q = s6 at *
            go_wp2_with fail
            go_roundg (40 - (i + 1))
            case measure => omega
            case rel => exact ⟨i + 1, s6, rfl, by omega, by omega, by go_num, N6, R6, L6⟩
          by_cases e7 : kk = 7
          · subst e7
            clear e2 e3 e5 e6
            go_wp2_with fail
            refine (replace_ok _ r s4 q R4.out (by rw [N4.out.nd]; omega)).mono ?_
            rintro e w6 ⟨rfl, h6, k6⟩
            have R6 := Lib.hid h6
            have N6 := Lib.hid N4.out.anew
            have L6 := Lib.hid (L4.out.trans (k6.below.mono hB.out))
            clear h6 k6 R4 L4 N4 c0 c2 hat
            generalize s4.anew q = s6 at *
            go_wp2_with fail
            go_roundg (40 - (i + 1))
            case measure => omega
            case rel => exact ⟨i + 1, s6, rfl, by omega, by omega, by go_num, N6, R6, L6⟩
          by_cases e8 : kk = 8
          · subst e8
            clear e2 e3 e5 e6 e7
            have c4 := K4.out
            obtain ⟨m, hm, hm63⟩ := rackSpoils.ushr nn
            have HM := Lib.hid hm63
            clear hm63
            go_wp2_with fail
            refine (rot_some _ r s4 q i at_ m R4.out N4.out (by omega) HAT.out (by omega) HM.out).mono ?_
            rintro e w6 ⟨y6, s6, rfl, n6, h6, k6⟩
            have R6 := Lib.hid h6
            have N6 := Lib.hid n6
            have L6 := Lib.hid (L4.out.trans (k6.below.mono hB.out))
            clear h6 n6 k6 R4 L4 N4 c0 c2 c4 hat hm
            go_wp2_with fail
            go_roundg (40 - (i + 1))
            case measure => omega
            case rel => exact ⟨i + 1, s6, rfl, by omega, by omega, by go_num, N6, R6, L6⟩
          have f2 : (kk == 2) = false := by simpa using e2
          have f3 : (kk == 3) = false := by simpa using e3
          have f5 : (kk == 5) = false := by simpa using e5
          have f6 : (kk == 6) = false := by simpa using e6
          have f7 : (kk == 7) = false := by simpa using e7
          have f8 : (kk == 8) = false := by simpa using e8
          clear e2 e3 e5 e6 e7 e8
          go_wp2_with fail
          go_roundg (40 - (i + 1))
          case measure => omega
          case rel => exact ⟨i + 1, s4, rfl, by omega, by omega, by go_num, Lib.hid N4.out.more, R4, L4⟩
        · obtain rfl : bb = false := HBB.out.trans (decide_eq_false hgo)
          clear hgo HBB
          go_wp2_with fail
          go_loopw [11] (fun x wr => ∃ d : Nat, d ≤ 4 ∧ x = .int .i64 d ∧ Hid (RackAt B wr r s4) ∧ Hid (Below w.heap.size w wr)) (fun x _ => 4 - (intOf x).toNat)
          case atStart => exact ⟨0, by omega, rfl, R4, L4⟩
          case round =>
            obtain ⟨d, hd4, rfl, R15, L15⟩ := hrel
            clear R4 L4
            by_cases hd : d < 4
            rotate_left
            · have t1 : decide ((d : Int) < 4) = false := by simp; omega
              go_wp2_with fail
              go_ret
              exact ⟨rfl, L15.out⟩
            have t1 : decide ((d : Int) < 4) = true := by simp; omega
            go_wp2_with fail
            clear t1
            go_loopw [12] (fun x wr => ∃ a : Nat, a ≤ 4 ∧ x = .int .i64 a ∧ Hid (RackAt B wr r s4) ∧ Hid (Below w.heap.size w wr)) (fun x _ => 4 - (intOf x).toNat)
            case atStart => exact ⟨0, by omega, rfl, R15, L15⟩
            case round =>
              obtain ⟨a, ha4, rfl, R16, L16⟩ := hrel
              clear R15 L15
              by_cases ha : a < 4
              rotate_left
              · have t2 : decide ((a : Int) < 4) = false := by simp; omega
                go_wp2_with fail
                go_roundw
                case rel => exact ⟨d + 1, by omega, by go_num, R16, L16⟩
                case measure => simp [intOf]; omega
              have t2 : decide ((a : Int) < 4) = true := by simp; omega
              go_wp2_with fail
              clear t2
              by_cases hq : d = q
              · refine (read_some _ r s4 (d : Int) q i a R16.out N4.out (by omega) (by have := HQ.out; omega) ha).mono ?_
                rintro e w17 ⟨v17, y17, rfl, h17, k17⟩
                have R17 := Lib.hid h17
                have L17 := Lib.hid (L16.out.trans (k17.below.mono hB.out))
                have hdq0 : (d : Int) = (q : Int) := by omega
                have HDQ := Lib.hid hdq0
                clear hq hdq0 h17 k17 R16 L16
                go_wp2_with fail
                have hdq := HDQ.out
                have HS : Hid True := Lib.hid trivial
                refine region_anyZ (fun _ => True) 23 (by kernel_rfl) ?_
                refine takeG 0 (.move (.tmp 11)) (some 137) none (.int .i64 (d : Int)) (by kernel_rfl) (by kernel_rfl) (by kernel_rfl) (fun _ _ _ h => h) (fun o w e hS => exec_move w e (by kernel_rfl)) HS.out ?_
                refine takeG 1 (.move (.tmp 1)) (some 138) none (.int .i64 (q : Int)) (by kernel_rfl) (by kernel_rfl) (by kernel_rfl) (fun _ _ _ h => h) (fun o w e hS => exec_move w e (by kernel_rfl)) HS.out ?_
                refine takeG 2 (.binOp .neq 3 (.tmp 137) (.tmp 138) 3) (some 139) none (.bool false) (by kernel_rfl) (by kernel_rfl) (by kernel_rfl) (fun _ _ _ h => h) (fun o w e hS => exec_bin (u1 := .int .i64 (d : Int)) (u2 := .int .i64 (q : Int)) w e (by kernel_rfl) (by kernel_rfl) (eqG_int ..) (neq_no _ hdq)) HS.out ?_
                refine takeG 3 (.move (.tmp 139)) (some 140) none (.bool false) (by kernel_rfl) (by kernel_rfl) (by kernel_rfl) (fun _ _ _ h => h) (fun o w e hS => exec_move w e (by kernel_rfl)) HS.out ?_
                refine takeSkip 4 (.move (.tmp 14)) (some 141) (some (3, true)) (by kernel_rfl) (by kernel_rfl) (by kernel_rfl) (fun _ _ _ h => h) HS.out ?_
                refine takeSkip 5 (.binOp .neq 24 (.tmp 141) (.const (.int .i64 0)) 24) (some 142) (some (3, true)) (by kernel_rfl) (by kernel_rfl) (by kernel_rfl) (fun _ _ _ h => h) HS.out ?_
                refine takeSkip 6 (.move (.tmp 142)) (some 143) (some (3, true)) (by kernel_rfl) (by kernel_rfl) (by kernel_rfl) (fun _ _ _ h => h) HS.out ?_
                refine takeSkip 7 (.move (.tmp 13)) (some 144) (some (6, false)) (by kernel_rfl) (by kernel_rfl) (by kernel_rfl) (fun _ _ _ h => h) HS.out ?_
                refine takeSkip 8 (.convert 44 9 (.tmp 144)) (some 145) (some (6, false)) (by kernel_rfl) (by kernel_rfl) (by kernel_rfl) (fun _ _ _ h => h) HS.out ?_
                refine takeSkip 9 (.move (.tmp 11)) (some 146) (some (6, false)) (by kernel_rfl) (by kernel_rfl) (by kernel_rfl) (fun _ _ _ h => h) HS.out ?_
                refine takeSkip 10 (.binOp .mul 3 (.tmp 146) (.const (.int .i64 10)) 3) (some 147) (some (6, false)) (by kernel_rfl) (by kernel_rfl) (by kernel_rfl) (fun _ _ _ h => h) HS.out ?_
                refine takeSkip 11 (.move (.tmp 12)) (some 148) (some (6, false)) (by kernel_rfl) (by kernel_rfl) (by kernel_rfl) (fun _ _ _ h => h) HS.out ?_
                refine takeSkip 12 (.binOp .add 3 (.tmp 147) (.tmp 148) 3) (some 149) (some (6, false)) (by kernel_rfl) (by kernel_rfl) (by kernel_rfl) (fun _ _ _ h => h) HS.out ?_
                refine takeSkip 13 (.call ⟨.value (.func 18), #[(.tmp 149), (.const (.int .i64 0))], #[3, 3]⟩) (some 150) (some (6, false)) (by kernel_rfl) (by kernel_rfl) (by kernel_rfl) (fun _ _ _ h => h) HS.out ?_
                refine takeSkip 14 (.convert 44 9 (.tmp 150)) (some 151) (some (6, false)) (by kernel_rfl) (by kernel_rfl) (by kernel_rfl) (fun _ _ _ h => h) HS.out ?_
                refine takeSkip 15 (.binOp .neq 9 (.tmp 145) (.tmp 151) 9) (some 152) (some (6, false)) (by kernel_rfl) (by kernel_rfl) (by kernel_rfl) (fun _ _ _ h => h) HS.out ?_
                refine takeSkip 16 (.pick (.tmp 143) (.const (Value.bool true)) (.tmp 152)) (some 153) (some (3, true)) (by kernel_rfl) (by kernel_rfl) (by kernel_rfl) (fun _ _ _ h => h) HS.out ?_
                refine takeSkip 17 (.move (.tmp 153)) (some 154) (some (3, true)) (by kernel_rfl) (by kernel_rfl) (by kernel_rfl) (fun _ _ _ h => h) HS.out ?_
                refine takeSkip 18 (.move (.tmp 5)) (some 155) (some (17, false)) (by kernel_rfl) (by kernel_rfl) (by kernel_rfl) (fun _ _ _ h => h) HS.out ?_
                refine takeSkip 19 (.move (.tmp 11)) (some 156) (some (17, false)) (by kernel_rfl) (by kernel_rfl) (by kernel_rfl) (fun _ _ _ h => h) HS.out ?_
                refine takeSkip 20 (.call ⟨.value (.func 10), #[(.tmp 155), (.tmp 156)], #[25, 3]⟩) (some 157) (some (17, false)) (by kernel_rfl) (by kernel_rfl) (by kernel_rfl) (fun _ _ _ h => h) HS.out ?_
                refine takeSkip 21 (.pick (.tmp 154) (.const (Value.bool true)) (.tmp 157)) (some 158) (some (3, true)) (by kernel_rfl) (by kernel_rfl) (by kernel_rfl) (fun _ _ _ h => h) HS.out ?_
                refine lastS 22 (.pick (.tmp 140) (.tmp 158) (.const (Value.bool false))) (some 159) (.bool false) (by kernel_rfl) (by kernel_rfl) (by kernel_rfl) HS.out (fun o e => exec_pick (b := false) _ e (by kernel_rfl) (by kernel_rfl)) ?_
                simp only [put_some, put_none, List.setIfInBounds_toArray, List.set_cons_succ, List.set_cons_zero]
                clear hdq HS
                go_wp2_with fail
                go_roundw
                case rel => exact ⟨a + 1, by omega, by go_num, Lib.hid R17.out.drew, Lib.hid L17.out.drew⟩
                case measure => simp [intOf]; omega
              · refine (read_calm _ r s4 (d : Int) (a : Int) d a R16.out N4.out.calm rfl rfl (by rw [N4.out.nd]; omega) (by rw [N4.out.ns]; omega) (N4.out.gone d hq)).mono ?_
                rintro e w17 ⟨v17, rfl, r17, h17, k17⟩
                rw [N4.out.holds hd ha hq] at r17
                have R17 := Lib.hid h17
                have L17 := Lib.hid (L16.out.trans (k17.below.mono hB.out))
                have HS := Lib.hid r17
                have hdq : (d : Int) ≠ (q : Int) := by omega
                have HDQ := Lib.hid hdq
                clear hdq h17 k17 r17 R16 L16
                go_wp2_with fail
                have hdq := HDQ.out
                refine region_anyZ (fun w => Row8 w v17 128 (bv 128 (nb d a))) 23 (by kernel_rfl) ?_
                refine takeG 0 (.move (.tmp 11)) (some 137) none (.int .i64 (d : Int)) (by kernel_rfl) (by kernel_rfl) (by kernel_rfl) (fun _ _ _ h => h) (fun o w e hS => exec_move w e (by kernel_rfl)) HS.out ?_
                refine takeG 1 (.move (.tmp 1)) (some 138) none (.int .i64 (q : Int)) (by kernel_rfl) (by kernel_rfl) (by kernel_rfl) (fun _ _ _ h => h) (fun o w e hS => exec_move w e (by kernel_rfl)) HS.out ?_
                refine takeG 2 (.binOp .neq 3 (.tmp 137) (.tmp 138) 3) (some 139) none (.bool true) (by kernel_rfl) (by kernel_rfl) (by kernel_rfl) (fun _ _ _ h => h) (fun o w e hS => exec_bin (u1 := .int .i64 (d : Int)) (u2 := .int .i64 (q : Int)) w e (by kernel_rfl) (by kernel_rfl) (eqG_int ..) (neq_i64 _ hdq)) HS.out ?_
                refine takeG 3 (.move (.tmp 139)) (some 140) none (.bool true) (by kernel_rfl) (by kernel_rfl) (by kernel_rfl) (fun _ _ _ h => h) (fun o w e hS => exec_move w e (by kernel_rfl)) HS.out ?_
                refine takeG 4 (.move (.tmp 14)) (some 141) (some (3, true)) (.int .i64 0) (by kernel_rfl) (by kernel_rfl) (by kernel_rfl) (fun _ _ _ h => h) (fun o w e hS => exec_move w e (by kernel_rfl)) HS.out ?_
                refine takeG 5 (.binOp .neq 24 (.tmp 141) (.const (.int .i64 0)) 24) (some 142) (some (3, true)) (.bool false) (by kernel_rfl) (by kernel_rfl) (by kernel_rfl) (fun _ _ _ h => h) (fun o w e hS => exec_bin (u1 := .int .i64 0) (u2 := (.int .i64 0)) w e (by kernel_rfl) (by kernel_rfl) (eqG_int ..) (by kernel_rfl)) HS.out ?_
                refine takeG 6 (.move (.tmp 142)) (some 143) (some (3, true)) (.bool false) (by kernel_rfl) (by kernel_rfl) (by kernel_rfl) (fun _ _ _ h => h) (fun o w e hS => exec_move w e (by kernel_rfl)) HS.out ?_
                refine takeG 7 (.move (.tmp 13)) (some 144) (some (6, false)) (v17) (by kernel_rfl) (by kernel_rfl) (by kernel_rfl) (fun _ _ _ h => h) (fun o w e hS => exec_move w e (by kernel_rfl)) HS.out ?_
                refine takeG 8 (.convert 44 9 (.tmp 144)) (some 145) (some (6, false)) (.string (strB 128 (bv 128 (nb d a)))) (by kernel_rfl) (by kernel_rfl) (by kernel_rfl) (fun _ _ _ h => h) (fun o w e hS => exec_conv (u := v17) w e (by kernel_rfl) hS.conv) HS.out ?_
                refine takeG 9 (.move (.tmp 11)) (some 146) (some (6, false)) (.int .i64 (d : Int)) (by kernel_rfl) (by kernel_rfl) (by kernel_rfl) (fun _ _ _ h => h) (fun o w e hS => exec_move w e (by kernel_rfl)) HS.out ?_
                refine takeG 10 (.binOp .mul 3 (.tmp 146) (.const (.int .i64 10)) 3) (some 147) (some (6, false)) (.int .i64 ((d * 10 : Nat) : Int)) (by kernel_rfl) (by kernel_rfl) (by kernel_rfl) (fun _ _ _ h => h) (fun o w e hS => exec_bin (u1 := .int .i64 (d : Int)) (u2 := (.int .i64 10)) w e (by kernel_rfl) (by kernel_rfl) (eqG_int ..) (mul_ten _ hd)) HS.out ?_
                refine takeG 11 (.move (.tmp 12)) (some 148) (some (6, false)) (.int .i64 (a : Int)) (by kernel_rfl) (by kernel_rfl) (by kernel_rfl) (fun _ _ _ h => h) (fun o w e hS => exec_move w e (by kernel_rfl)) HS.out ?_
                refine takeG 12 (.binOp .add 3 (.tmp 147) (.tmp 148) 3) (some 149) (some (6, false)) (.int .i64 (nb d a)) (by kernel_rfl) (by kernel_rfl) (by kernel_rfl) (fun _ _ _ h => h) (fun o w e hS => exec_bin (u1 := .int .i64 ((d * 10 : Nat) : Int)) (u2 := .int .i64 (a : Int)) w e (by kernel_rfl) (by kernel_rfl) (eqG_int ..) (add_nb _ hd ha)) HS.out ?_
                refine loneG 13 (.call ⟨.value (.func 18), #[(.tmp 149), (.const (.int .i64 0))], #[3, 3]⟩) (some 150) (some (6, false)) (by kernel_rfl) (by kernel_rfl) (by kernel_rfl) ?_
                intro o ho hod
                refine wp_callC (f := 18) (args := #[.int .i64 (nb d a), .int .i64 0]) (by cases o; cases ho; kernel_rfl) (bytes_calm (nb d a) _ (nb_lt hd ha)) ?_
                rintro e w7 ⟨v7, rfl, r7, b7⟩
                refine ⟨v7, rfl, ?_⟩
                rw [hod]
                clear hod ho
                have HS2 : Hid (Row8 w7 v17 128 (bv 128 (nb d a))) := Lib.hid (HS.out.drew.new_ b7)
                have V7 := Lib.hid r7
                have R7 := Lib.hid (R17.out.drew.below b7)
                have L7 := Lib.hid ((L17.out.drew).trans (b7.mono (by have := L17.out.size; exact this)))
                clear r7 b7 R17 L17 HS
                refine ⟨fun _ => HS2.out, ?_⟩
                refine loneG 14 (.convert 44 9 (.tmp 150)) (some 151) (some (6, false)) (by kernel_rfl) (by kernel_rfl) (by kernel_rfl) ?_
                intro o ho hod
                refine wp_val (v := .string (strB 128 (bv 128 (nb d a)))) (exec_conv (u := v7) _ ho (by kernel_rfl) V7.out.conv) ?_
                rw [hod]
                clear hod ho
                refine ⟨fun _ => HS2.out, ?_⟩
                refine loneG 15 (.binOp .neq 9 (.tmp 145) (.tmp 151) 9) (some 152) (some (6, false)) (by kernel_rfl) (by kernel_rfl) (by kernel_rfl) ?_
                intro o ho hod
                refine wp_val (v := .bool false) (exec_bin (u1 := .string (strB 128 (bv 128 (nb d a)))) (u2 := .string (strB 128 (bv 128 (nb d a)))) _ ho (by kernel_rfl) (by kernel_rfl) (eqG_str ..) (by rw [ne_str, beq_self_eq_true]; rfl)) ?_
                rw [hod]
                clear hod ho
                refine ⟨fun _ => HS2.out, ?_⟩
                refine loneG 16 (.pick (.tmp 143) (.const (Value.bool true)) (.tmp 152)) (some 153) (some (3, true)) (by kernel_rfl) (by kernel_rfl) (by kernel_rfl) ?_
                intro o ho hod
                refine wp_val (v := .bool false) (exec_pick (b := false) _ ho (by kernel_rfl) (by kernel_rfl)) ?_
                rw [hod]
                clear hod ho
                refine ⟨fun _ => HS2.out, ?_⟩
                refine loneG 17 (.move (.tmp 153)) (some 154) (some (3, true)) (by kernel_rfl) (by kernel_rfl) (by kernel_rfl) ?_
                intro o ho hod
                refine wp_val (v := .bool false) (exec_move _ ho (by kernel_rfl)) ?_
                rw [hod]
                clear hod ho
                refine ⟨fun _ => HS2.out, ?_⟩
                refine takeG 18 (.move (.tmp 5)) (some 155) (some (17, false)) (.pointer (some ⟨r, 0, none⟩)) (by kernel_rfl) (by kernel_rfl) (by kernel_rfl) (fun _ _ _ h => h) (fun o w e hS => exec_move w e (by kernel_rfl)) HS2.out ?_
                refine takeG 19 (.move (.tmp 11)) (some 156) (some (17, false)) (.int .i64 (d : Int)) (by kernel_rfl) (by kernel_rfl) (by kernel_rfl) (fun _ _ _ h => h) (fun o w e hS => exec_move w e (by kernel_rfl)) HS2.out ?_
                refine loneG 20 (.call ⟨.value (.func 10), #[(.tmp 155), (.tmp 156)], #[25, 3]⟩) (some 157) (some (17, false)) (by kernel_rfl) (by kernel_rfl) (by kernel_rfl) ?_
                intro o ho hod
                refine wp_callC (f := 10) (args := #[.pointer (some ⟨r, 0, none⟩), .int .i64 (d : Int)]) (by cases o; cases ho; kernel_rfl) (gone_is _ r s4 (d : Int) false R7.out (by rw [Int.toNat_natCast, N4.out.gone d hq, Bool.and_false])) ?_
                rintro e w' ⟨rfl, rfl⟩
                refine ⟨.bool false, rfl, ?_⟩
                rw [hod]
                clear hod ho
                refine ⟨fun _ => HS2.out, ?_⟩
                refine loneG 21 (.pick (.tmp 154) (.const (Value.bool true)) (.tmp 157)) (some 158) (some (3, true)) (by kernel_rfl) (by kernel_rfl) (by kernel_rfl) ?_
                intro o ho hod
                refine wp_val (v := .bool false) (exec_pick (b := false) _ ho (by kernel_rfl) (by kernel_rfl)) ?_
                rw [hod]
                clear hod ho
                refine ⟨fun _ => HS2.out, ?_⟩
                refine lastS 22 (.pick (.tmp 140) (.tmp 158) (.const (Value.bool false))) (some 159) (.bool false) (by kernel_rfl) (by kernel_rfl) (by kernel_rfl) HS2.out (fun o e => exec_pick (b := true) _ e (by kernel_rfl) (by kernel_rfl)) ?_
                simp only [put_some, put_none, List.setIfInBounds_toArray, List.set_cons_succ, List.set_cons_zero]
                clear hdq
                go_wp2_with fail
                go_roundw
                case rel => exact ⟨a + 1, by omega, by go_num, R7, L7⟩
                case measure => simp [intOf]; omega
end rackApart
end Go.Proofs.Ytfdalbaemkekoaa
