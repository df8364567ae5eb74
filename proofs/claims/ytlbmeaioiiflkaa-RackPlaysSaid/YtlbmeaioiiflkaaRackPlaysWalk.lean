/-
  The walk of 'RackPlays': for all scripts of calls a rack answers what the document says. Conditions: what the reading of the arguments gives.
-/
import Derived.Test.YtlbmeaioiiflkaaRefStepAll
import Derived.Test.YtlbmeaioiiflkaaLawArgsM
namespace Go.Proofs.Ytlbmeaioiiflkaa
open Go Go.RowKit
set_option maxRecDepth 100000
set_option linter.unusedVariables false
namespace refRack
theorem nobody_any (w : World) : Calls Try.prog 5 #[] w fun e w' => e = .returned (.pointer none) ∧ w = w' := by
  go_enter Try.func5, Try.ntmps5
  go_wp2_with fail
  go_ret
  exact ⟨rfl, rfl⟩
theorem flush_nil (w : World) : Calls Try.prog 6 #[.pointer none] w fun e w' => e = .returned (.int .i64 1) ∧ w = w' := by
  go_enter Try.func6, Try.ntmps6
  go_wp2_with fail
  go_ret
  exact ⟨rfl, rfl⟩
theorem pending_nil (w : World) : Calls Try.prog 9 #[.pointer none] w fun e w' => e = .returned (.int .i64 0) ∧ w = w' := by
  go_enter Try.func9, Try.ntmps9
  go_wp2_with fail
  go_ret
  exact ⟨rfl, rfl⟩
theorem has_nil (D : Int) (w : World) : Calls Try.prog 22 #[.pointer none, .int .i64 D] w fun e w' => e = .returned (.bool false) ∧ w = w' := by
  go_enter Try.func22, Try.ntmps22
  go_wp2_with fail
  go_ret
  exact ⟨rfl, rfl⟩
theorem lose_nil (D : Int) (w : World) : Calls Try.prog 7 #[.pointer none, .int .i64 D] w fun e w' => e = .returned (.int .i64 1) ∧ w = w' := by
  go_enter Try.func7, Try.ntmps7
  go_wp2_with fail
  refine (has_nil D _).mono ?_
  rintro e w' ⟨rfl, rfl⟩
  go_wp2_with fail
  go_ret
  exact ⟨rfl, rfl⟩
theorem gone_nil (D : Int) (w : World) : Calls Try.prog 8 #[.pointer none, .int .i64 D] w fun e w' => e = .returned (.bool false) ∧ w = w' := by
  go_enter Try.func8, Try.ntmps8
  go_wp2_with fail
  refine (has_nil D _).mono ?_
  rintro e w' ⟨rfl, rfl⟩
  go_wp2_with fail
  go_ret
  exact ⟨rfl, rfl⟩
theorem rdi_up {w : World} {B B' : Nat} {A : Option Addr} {n : Nat} {x : Nat → Int} (h : RdI w B A n x) (hb : B ≤ B') : RdI w B' A n x := fun i hi => by
  obtain ⟨b, o, e, h1, h2⟩ := h i hi
  exact ⟨b, o, e, by omega, h2⟩
theorem rdi_nil (w : World) (B : Nat) (x : Nat → Int) : RdI w B none 0 x := fun i hi => absurd hi (Nat.not_lt_zero _)
theorem i64_0 : I64 0 := ⟨by omega, by omega⟩
end refRack
namespace rackPlays
open refRack
set_option maxHeartbeats 3200000 in
theorem walk (D S : Int) (a2 : Option Addr) (len2 cap2 : Nat) (o2 : Nat → OpV) (w : World) (w0 : (Lit.int .i64 D).wf = true) (w1 : (Lit.int .i64 S).wf = true) (h2 : RdOps w w.heap.size a2 len2 o2) (l2 : len2 ≤ cap2) (m2 : cap2 ≤ maxLen) :
    Calls Try.prog 3 #[.int .i64 D, .int .i64 S, .slice a2 len2 cap2] w fun e w' => e = .returned (.bool true) ∧ Below w.heap.size w w' := by
  unfold maxLen at m2
  obtain ⟨d1, d2⟩ := bounds_i64 w0
  obtain ⟨s1, s2⟩ := bounds_i64 w1
  have H2 := Lib.hid h2
  clear w0 w1 h2
  go_enter Try.func3, Try.ntmps3
  go_wp2_with fail
  refine (known_any _).mono ?_
  rintro e w1 ⟨rfl, b1⟩
  have L1 := Lib.hid b1
  clear b1
  go_upto_region 3 with ((first | (go_at_call 5; refine (nobody_any _).mono ?_; rintro e w' ⟨rfl, rfl⟩) | (go_at_call 6; refine (flush_nil _).mono ?_; rintro e w' ⟨rfl, rfl⟩) | (go_at_call 7; refine (lose_nil _ _).mono ?_; rintro e w' ⟨rfl, rfl⟩) | (go_at_call 8; refine (gone_nil _ _).mono ?_; rintro e w' ⟨rfl, rfl⟩) | (go_at_call 9; refine (pending_nil _).mono ?_; rintro e w' ⟨rfl, rfl⟩)))
  go_cut [40] (fun x wx => ∃ bb : Bool, x = .bool bb ∧ Hid (bb = decide (9 < S ∧ S ≤ 2000)) ∧ wx = w1)
  case first =>
    by_cases h1 : 9 < S
    · have t1 : decide (9 < S) = true := by simpa using h1
      by_cases h2 : S ≤ 2000
      · have t2 : decide (S ≤ 2000) = true := by simpa using h2
        have hb : decide (9 < S ∧ S ≤ 2000) = true := decide_eq_true ⟨h1, h2⟩
        go_wp2_with fail
        go_meet
        exact ⟨_, rfl, Lib.hid hb.symm, rfl⟩
      · have t2 : decide (S ≤ 2000) = false := by simpa using h2
        have hb : decide (9 < S ∧ S ≤ 2000) = false := decide_eq_false fun q => h2 q.2
        go_wp2_with fail
        go_meet
        exact ⟨_, rfl, Lib.hid hb.symm, rfl⟩
    · have t1 : decide (9 < S) = false := by simpa using h1
      have hb : decide (9 < S ∧ S ≤ 2000) = false := decide_eq_false fun q => h1 q.1
      go_wp2_with fail
      go_meet
      exact ⟨_, rfl, Lib.hid hb.symm, rfl⟩
  case rest =>
  obtain ⟨bb, rfl, HBB, rfl⟩ := hcut
  go_upto_if 40 with (fail)
  go_cut [1] (fun x wx => ∃ m : Int, x = .int .i64 m ∧ Hid (m ≤ 9 ∨ 2000 < m) ∧ Hid (I64 m) ∧ wx = wc)
  case first =>
    cases bb with
    | true =>
      clear HBB
      go_wp2_with fail
      go_meet
      exact ⟨9, rfl, Lib.hid (by omega), Lib.hid ⟨by omega, by omega⟩, rfl⟩
    | false =>
      have hb := of_decide_eq_false HBB.out.symm
      clear HBB
      have HN : Hid (S ≤ 9 ∨ 2000 < S) := Lib.hid (by omega)
      have HM : Hid (I64 S) := Lib.hid ⟨s1, s2⟩
      clear hb
      go_wp2_with fail
      go_meet
      exact ⟨S, rfl, HN, HM, rfl⟩
  case rest =>
  obtain ⟨m, rfl, HM, HI, rfl⟩ := hcut
  clear HBB s1 s2
  by_cases hbad : D < 1 ∨ 16 < D ∨ m < 1 ∨ 2000 < m
  · have HBAD := Lib.hid hbad
    clear hbad d1 d2
    go_wp2_with fail
    refine (new_noR _ D m HBAD.out).mono ?_
    rintro e w' ⟨rfl, rfl⟩
    go_wp2_with fail
    refine (new_no_k _ D m HBAD.out).mono ?_
    rintro e w' ⟨rfl, rfl⟩
    go_wp2_with fail
    go_ret
    exact ⟨rfl, L1.out⟩
  · have hM := HM.out
    obtain ⟨nd, rfl⟩ : ∃ nd : Nat, D = (nd : Int) := ⟨D.toNat, by omega⟩
    obtain ⟨ns, rfl⟩ : ∃ ns : Nat, m = (ns : Int) := ⟨m.toNat, by omega⟩
    have HND : Hid (1 ≤ nd ∧ nd ≤ 16) := Lib.hid (by omega)
    have HNS : Hid (1 ≤ ns ∧ ns ≤ 9) := Lib.hid (by omega)
    clear hbad hM HM HI
    go_wp2_with fail
    refine (new_any wc nd ns HND.out.1 HND.out.2 HNS.out.1 (by have := HNS.out.2; omega)).mono ?_
    rintro e w2 ⟨⟨r, rfl, h2⟩, k2⟩
    have R2 := Lib.hid h2
    have L2 := Lib.hid (L1.out.trans (k2.below.mono L1.out.size))
    clear h2 k2
    go_wp2_with fail
    refine (new_k w2 nd ns HND.out.1 HND.out.2 HNS.out.1 (by have := HNS.out.2; omega)).mono ?_
    rintro e w3 ⟨g, rfl, t3, b3⟩
    have hBs : Hid (w.heap.size ≤ wc.heap.size) := Lib.hid L1.out.size
    have B3 : Hid (Both wc.heap.size w3 r g (RS.new nd ns) (RS.new nd ns) 0) := Lib.hid ⟨R2.out.below b3, t3.base R2.out.le, Sim.start nd ns, Nat.le_refl _⟩
    have L3 := Lib.hid (L2.out.trans (b3.mono L2.out.size))
    clear t3 b3 R2 L2 L1
    generalize hB : wc.heap.size = B at *
    clear hB
    generalize hs3 : RS.new nd ns = s3 at *
    clear hs3
    go_wp2_with fail
    go_loopg [11] 150 (fun gk x wr => ∃ (i : Nat) (s t : RS) (c : Nat), gk = 150 - i ∧ i ≤ 150 ∧ i ≤ len2 ∧ x = .int .i64 i ∧ Hid (Both B wr r g s t c) ∧ Hid (c ≤ 2 * i) ∧ Hid (Below w.heap.size w wr))
    case atStart => exact ⟨0, s3, s3, 0, rfl, by omega, by omega, rfl, B3, Lib.hid (by omega), L3⟩
    case round =>
      obtain ⟨i, s, t, c, rfl, hi150, hi, rfl, B4, C4, L4⟩ := hrel
      clear B3 L3
      go_upto_region 12 with (fail)
      go_cut [72] (fun c wx => ∃ bb : Bool, c = .bool bb ∧ Hid (bb = decide (i < len2 ∧ i < 150)) ∧ wx = wr)
      case first =>
        by_cases h1 : i < len2
        · have t1 : decide (i < len2) = true := by simp; omega
          by_cases h2 : i < 150
          · have t2 : decide ((i : Int) < 150) = true := by simp; omega
            have hb : decide (i < len2 ∧ i < 150) = true := decide_eq_true ⟨h1, h2⟩
            go_wp2_with fail
            go_meet
            exact ⟨_, rfl, Lib.hid hb.symm, rfl⟩
          · have t2 : decide ((i : Int) < 150) = false := by simp; omega
            have hb : decide (i < len2 ∧ i < 150) = false := decide_eq_false fun q => h2 q.2
            go_wp2_with fail
            go_meet
            exact ⟨_, rfl, Lib.hid hb.symm, rfl⟩
        · have t1 : decide (i < len2) = false := by simp; omega
          have hb : decide (i < len2 ∧ i < 150) = false := decide_eq_false fun q => h1 q.1
          go_wp2_with fail
          go_meet
          exact ⟨_, rfl, Lib.hid hb.symm, rfl⟩
      case rest =>
      obtain ⟨bb, rfl, HBB, rfl⟩ := hcut
      by_cases hgo : i < len2 ∧ i < 150
      · obtain rfl : bb = true := HBB.out.trans (decide_eq_true hgo)
        clear HBB
        obtain ⟨hi0, hi4⟩ := hgo
        obtain ⟨fb, fo, hfa, hfB, hcs, hbd, hpk⟩ := H2.out i hi0
        subst hfa
        generalize o2 i = y at hcs hbd hpk
        obtain ⟨kk, dd, aa, ff, nn, pa, pn, pc, px⟩ := y
        obtain ⟨k0, k1, k2, k3, k4, k5⟩ := hcs
        obtain ⟨_, _, _, hff, hnn⟩ := hbd
        obtain ⟨hp1, hp2, hp3, hp4⟩ := hpk
        dsimp only at k0 k1 k2 k3 k4 k5 hff hnn hp1 hp2 hp3 hp4
        have c0 := (L4.out.cell (p := ⟨fb, fo + i * 6, none⟩) hfB).trans k0
        have c1 := (L4.out.cell (p := ⟨fb, fo + i * 6 + 1, none⟩) hfB).trans k1
        have c2 := (L4.out.cell (p := ⟨fb, fo + i * 6 + 2, none⟩) hfB).trans k2
        have c3 := (L4.out.cell (p := ⟨fb, fo + i * 6 + 3, none⟩) hfB).trans k3
        have c4 := (L4.out.cell (p := ⟨fb, fo + i * 6 + 4, none⟩) hfB).trans k4
        have c5 := (L4.out.cell (p := ⟨fb, fo + i * 6 + 5, none⟩) hfB).trans k5
        have K1 := Lib.hid k1
        have HFF := Lib.hid hff
        have HNN := Lib.hid hnn
        have HP1 := Lib.hid hp1
        have HP2 := Lib.hid hp2
        have HP3 := Lib.hid hp3
        have HP4 := Lib.hid hp4
        have HFB := Lib.hid hfB
        clear k0 k1 k2 k3 k4 k5 hff hnn hp1 hp2 hp3 hp4 hfB
        have i1 : (0 : Int) ≤ (i : Int) := by omega
        have i2 : (i : Int) < (len2 : Int) := by omega
        go_wp2_with fail
        refine (step_any kk dd aa ff nn pa pn pc px HFF.out HNN.out (rdi_up (HP1.out.below L4.out) hBs.out) HP2.out HP3.out (by have := HP2.out; have := HP4.out; omega) (by have := C4.out; omega) B4.out).mono ?_
        rintro e w5 ⟨rfl, ⟨s5, t5, h5⟩, q5⟩
        have B5 := Lib.hid h5
        have C5 : Hid (c + 1 ≤ 2 * i + 1) := Lib.hid (by have := C4.out; omega)
        have L5 := Lib.hid (L4.out.trans (q5.mono hBs.out))
        have j1 := (L5.out.cell (p := ⟨fb, fo + i * 6 + 1, none⟩) HFB.out).trans K1.out
        clear h5 q5 B4 C4 L4 c0 c1 c2 c3 c4 c5 HFF HNN HP1 HP2 HP3 HP4
        go_wp2_with fail
        refine (step_any 0 dd 0 0 0 none 0 0 (fun _ => 0) i64_0 i64_0 (rdi_nil _ _ _) (Nat.le_refl _) (fun _ => rfl) (by omega) (by have := C5.out; omega) B5.out).mono ?_
        rintro e w6 ⟨rfl, ⟨s6, t6, h6⟩, q6⟩
        have B6 := Lib.hid h6
        have C6 : Hid (c + 1 + 1 ≤ 2 * (i + 1)) := Lib.hid (by have := C5.out; omega)
        have L6 := Lib.hid (L5.out.trans (q6.mono hBs.out))
        clear h6 q6 B5 C5 L5 j1
        go_wp2_with fail
        go_roundg (150 - (i + 1))
        case measure => omega
        case rel => exact ⟨i + 1, s6, t6, c + 1 + 1, rfl, by omega, by omega, by go_num, B6, C6, L6⟩
      · obtain rfl : bb = false := HBB.out.trans (decide_eq_false hgo)
        clear HBB
        have C5 : Hid (c ≤ 300) := Lib.hid (by have := C4.out; omega)
        clear hgo hi150 hi C4
        go_wp2_with fail
        refine (crash_any _ r s none 0 0 (fun _ => 0) B4.out.rack ⟨fun i hi => absurd hi (Nat.not_lt_zero _), by simp [maxLen], .inl rfl⟩).mono ?_
        rintro e w6 ⟨rfl, h6, q6⟩
        have T6 := Lib.hid (B4.out.ref.keepRack q6)
        have R6 := Lib.hid h6
        have L6 := Lib.hid (L4.out.trans (q6.below.mono hBs.out))
        clear h6 q6 L4
        obtain ⟨vL, vG, vW, H, C, tk⟩ := T6.out
        have TK6 := Lib.hid tk
        clear tk T6
        go_wp2_with fail
        refine (crash_k w6 g t none 0 0 (fun _ => 0) B4.out.places (rdi_nil _ _ _) TK6.out).mono ?_
        rintro e w7 ⟨rfl, h7, q7⟩
        have B7 : Hid (Both B w7 r g (s.crashed (odd 0 fun _ => 0)) (t.crashed (odd 0 fun _ => 0)) c) := Lib.hid ⟨R6.out.keepR q7, h7, B4.out.sim.crashed _, by have := B4.out.cost; show s.cost ≤ c; omega⟩
        have L7 := Lib.hid (L6.out.trans (q7.below.mono hBs.out))
        clear h7 q7 R6 L6 TK6 B4
        generalize s.crashed (odd 0 fun _ => 0) = s7 at *
        generalize t.crashed (odd 0 fun _ => 0) = t7 at *
        go_wp2_with fail
        go_loopw [12, 13] (fun x z wr => ∃ (d : Nat) (s t : RS) (c : Nat), d ≤ nd ∧ x = .int .i64 d ∧ Hid (Both B wr r g s t c) ∧ Hid (c ≤ 300 + d * 9) ∧ Hid (Below w.heap.size w wr)) (fun x _ _ => nd - (intOf x).toNat)
        case atStart => exact ⟨0, s7, t7, c, by omega, rfl, B7, Lib.hid (by have := C5.out; omega), L7⟩
        case round =>
          obtain ⟨d, s8, t8, c8, hd, rfl, B8, C8, L8⟩ := hrel
          clear B7 C5 L7
          by_cases hd2 : d < nd
          · have t1 : decide (d < nd) = true := by simp; omega
            go_wp2_with fail
            clear t1
            go_loopw [13] (fun x wr => ∃ (a : Nat) (s t : RS) (c : Nat), a ≤ ns ∧ x = .int .i64 a ∧ Hid (Both B wr r g s t c) ∧ Hid (c ≤ 300 + d * 9 + a) ∧ Hid (Below w.heap.size w wr)) (fun x _ => ns - (intOf x).toNat)
            case atStart => exact ⟨0, s8, t8, c8, by omega, rfl, B8, Lib.hid (by have := C8.out; omega), L8⟩
            case round =>
              obtain ⟨a, s9, t9, c9, ha, rfl, B9, C9, L9⟩ := hrel
              clear B8 C8 L8
              by_cases ha2 : a < ns
              · have t2 : decide (a < ns) = true := by simp; omega
                have hns9 : ns ≤ 9 := HNS.out.2
                go_wp2_with fail
                clear t2
                refine (step_any 1 (d : Int) (a : Int) 0 0 none 0 0 (fun _ => 0) i64_0 i64_0 (rdi_nil _ _ _) (Nat.le_refl _) (fun _ => rfl) (by omega) (by have := C9.out; have := HND.out; have := HNS.out; omega) B9.out).mono ?_
                rintro e w6 ⟨rfl, ⟨s6, t6, h6⟩, q6⟩
                have B6 := Lib.hid h6
                have C6 : Hid (c9 + 1 ≤ 300 + d * 9 + (a + 1)) := Lib.hid (by have := C9.out; omega)
                have L6 := Lib.hid (L9.out.trans (q6.mono hBs.out))
                clear h6 q6 B9 C9 L9
                go_wp2_with fail
                go_roundw
                case rel => exact ⟨a + 1, s6, t6, c9 + 1, by omega, by go_num, B6, C6, L6⟩
                case measure => simp [intOf]; omega
              · have t2 : decide (a < ns) = false := by simp; omega
                go_wp2_with fail
                go_roundw
                case rel => exact ⟨d + 1, s9, t9, c9, by omega, by go_num, B9, Lib.hid (by have := C9.out; have := HNS.out; omega), L9⟩
                case measure => simp [intOf]; omega
          · have t1 : decide (d < nd) = false := by simp; omega
            go_wp2_with fail
            go_ret
            exact ⟨rfl, L8.out⟩
end rackPlays
end Go.Proofs.Ytlbmeaioiiflkaa
