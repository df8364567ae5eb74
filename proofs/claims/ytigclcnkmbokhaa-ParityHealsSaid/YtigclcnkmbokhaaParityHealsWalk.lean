/-
  The walk of 'ParityHeals'. Conditions: the columns read as rows of bytes, the bad ones as numbers, the junk as bytes.
-/
import Derived.Test.YtigclcnkmbokhaaParHealAll
namespace Go.Proofs.Ytigclcnkmbokhaa
open Go Go.RowKit
set_option maxRecDepth 100000
set_option linter.unusedVariables false
namespace parityHeals
theorem cntB_le (n : Nat) (f : Nat → Bool) : cntB n f ≤ n := by
  induction n with
  | zero => exact Nat.le_refl _
  | succ n ih => show cntB n f + _ ≤ _; split <;> omega
/-- the heads, that of the junk in the place of those below i that are true -/
def hdG (f : Nat → Bool) (i : Nat) (a : Hd) (H : Nat → Hd) (j : Nat) : Hd := if j < i ∧ f j = true then a else H j
theorem hdG_zero (f : Nat → Bool) (a : Hd) (H : Nat → Hd) (j : Nat) : hdG f 0 a H j = H j := if_neg (by omega)
theorem hdG_no {f : Nat → Bool} {i : Nat} {a : Hd} {H : Nat → Hd} (h : f i = false) (j : Nat) : hdG f (i + 1) a H j = hdG f i a H j := by
  unfold hdG
  by_cases e : j = i
  · subst e
    rw [if_neg (by rw [h]; simp), if_neg (by omega)]
  · by_cases e2 : j < i ∧ f j = true
    · rw [if_pos e2, if_pos ⟨by omega, e2.2⟩]
    · rw [if_neg e2, if_neg (fun q => e2 ⟨by omega, q.2⟩)]
theorem hdG_yes {f : Nat → Bool} {i : Nat} {a : Hd} {H : Nat → Hd} (h : f i = true) (j : Nat) : (if j = i then a else hdG f i a H j) = hdG f (i + 1) a H j := by
  unfold hdG
  by_cases e : j = i
  · subst e
    rw [if_pos rfl, if_pos ⟨by omega, h⟩]
  · rw [if_neg e]
    by_cases e2 : j < i ∧ f j = true
    · rw [if_pos e2, if_pos ⟨by omega, e2.2⟩]
    · rw [if_neg e2, if_neg (fun q => e2 ⟨by omega, q.2⟩)]
theorem own_open {w : World} {base n : Nat} {v : Value} {H : Nat → Hd} (h : OwnS w base v n H) (hn : 0 < n) : ∃ g c, v = .slice (some ⟨g, 0, none⟩) n c ∧ base ≤ g ∧ n ≤ c ∧ c ≤ maxLen := by
  rcases h with ⟨_, e⟩ | ⟨g, cap, cur, fr, rfl, hg, _, _, h1, h2, _⟩
  · omega
  · exact ⟨g, cap, rfl, hg, h1, h2⟩

set_option maxHeartbeats 6400000 in
theorem walk (A : Option Addr) (k c : Nat) (ra : Nat → Option Addr) (rl rc : Nat → Nat) (x : Nat → Nat → Nat) (A2 : Option Addr) (m c2 : Nat) (bz : Nat → Int) (A3 : Option Addr) (n3 c3 : Nat) (x3 : Nat → Nat) (w : World)
    (hr : RdR w w.heap.size A k ra rl rc x) (hl : k ≤ c) (hm : c ≤ maxLen) (hz : RdZ w w.heap.size A2 m bz) (hl2 : m ≤ c2) (hm2 : c2 ≤ maxLen) (hj : RdB w w.heap.size A3 n3 x3) :
    Calls Try.prog 5 #[.agg #[.slice A k c, .slice A2 m c2, .slice A3 n3 c3]] w fun e w' => e = .returned (.bool true) ∧ Below w.heap.size w w' := by
  obtain ⟨W0, hW0⟩ : ∃ W0, W0 = w.alloc (.cells #[.slice A k c, .slice A2 m c2, .slice A3 n3 c3] 36) := ⟨_, rfl⟩
  have L0 : Hid (Below w.heap.size w W0) := by rw [hW0]; exact (Below.refl _ _).alloc (Nat.le_refl _) _
  have hs0 : W0.heap.size = w.heap.size + 1 := by rw [hW0]; simp
  have PF : Hid (∀ W, Below W0.heap.size W0 W → W.cell? ⟨w.heap.size, 0, none⟩ = some (.slice A k c) ∧ W.cell? ⟨w.heap.size, 1, none⟩ = some (.slice A2 m c2) ∧ W.cell? ⟨w.heap.size, 2, none⟩ = some (.slice A3 n3 c3)) := fun W hW => by
    have hb : Blk W w.heap.size 36 #[.slice A k c, .slice A2 m c2, .slice A3 n3 c3] := by
      have h : Blk W0 w.heap.size 36 #[.slice A k c, .slice A2 m c2, .slice A3 n3 c3] := by rw [hW0]; exact Blk.new _ _ _
      exact h.below hW (by omega)
    exact ⟨by rw [hb.cell]; rfl, by rw [hb.cell]; rfl, by rw [hb.cell]; rfl⟩
  have HR := Lib.hid (hr.below L0.out (Nat.le_refl _))
  have HZ := Lib.hid (hz.below L0.out (Nat.le_refl _))
  have HJ := Lib.hid (hj.below L0.out (Nat.le_refl _))
  have HS0 := Lib.hid hs0
  have HW0 := Lib.hid hW0
  have hkm : k ≤ maxLen := Nat.le_trans hl hm
  have hmm : m ≤ maxLen := Nat.le_trans hl2 hm2
  clear hr hz hj hs0 hW0
  go_enter Try.func5, Try.ntmps5
  go_wp2_with fail
  rw [← HW0.out]
  refine (known_any _).mono ?_
  rintro e0 w1 ⟨rfl, hb1⟩
  have B1 := Lib.hid hb1
  have R1 := Lib.hid (HR.out.below hb1 (by have := HS0.out; omega))
  obtain ⟨p1, p2, p3⟩ := PF.out w1 hb1
  clear hb1
  go_wp2_with fail
  refine (small_any k c w.heap.size A ra rl rc x _ R1.out hkm).mono ?_
  rintro e0 w2 ⟨hs, rfl⟩
  rcases hs with rfl | rfl
  · go_wp2_with fail
    refine (known_any _).mono ?_
    rintro e w3 ⟨rfl, hb3⟩
    have B3 := Lib.hid (B1.out.trans (hb3.mono B1.out.size))
    clear hb3
    go_wp2_with fail
    go_ret
    exact ⟨rfl, L0.out.trans (B3.out.mono L0.out.size)⟩
  go_wp2_with fail
  by_cases hok : 0 < k ∧ k ≤ 13 ∧ Alike k rl
  case neg =>
    refine (make_no k c w.heap.size A ra rl rc x _ R1.out hok).mono ?_
    rintro e0 w3 ⟨rfl, rfl⟩
    clear hok
    go_wp2_with fail
    go_ret
    exact ⟨rfl, L0.out.trans (B1.out.mono L0.out.size)⟩
  obtain ⟨hk0, hk13, hal⟩ := hok
  have s01 := B1.out.size
  have sw0 := L0.out.size
  refine (make_cols k c w.heap.size A ra rl rc x _ R1.out (Nat.le_trans sw0 s01) hk0 hk13 hal).mono ?_
  rintro e0 w3 ⟨v3, R3, rfl, hp3, hb3⟩
  obtain ⟨n, hn⟩ : ∃ n, n = rl 0 := ⟨_, rfl⟩
  rw [← hn] at hp3
  have HLA : Hid (∀ i, i < k → rl i = n) := fun i hi => by rw [hn]; exact hal.2.2 i hi
  have hn1 : 1 ≤ n := by rw [hn]; exact hal.1
  have hn2 : n ≤ 4096 := by rw [hn]; exact hal.2.1
  have B3 := Lib.hid (B1.out.trans (hb3.mono s01))
  have s03 := B3.out.size
  have X3 := Lib.hid (HR.out.below B3.out (by have := HS0.out; omega))
  obtain ⟨A3', c3', rfl, hc3, hc3m, hn3, hh3⟩ := hp3.heads
  have P3 := Lib.hid hp3
  have H3 := Lib.hid hh3
  have N3 := Lib.hid hn3
  obtain ⟨b0, o0, rfl, _⟩ := X3.out 0 hk0
  have L4 : Hid (Below w3.heap.size w3 (w3.alloc (.cells #[] 34))) := Lib.hid ((Below.refl _ _).alloc (Nat.le_refl _) _)
  have H0 := Lib.hid (X3.out.heads.below L4.out (Nat.le_trans sw0 s03))
  obtain ⟨p1', _, _⟩ := PF.out w3 B3.out
  have q1 : (w3.alloc (.cells #[] 34)).cell? ⟨w.heap.size, 0, none⟩ = some (.slice (some ⟨b0, o0, none⟩) k c) := (PF.out _ (B3.out.trans (L4.out.mono s03))).1
  unfold maxLen at hm hkm hm2 hmm
  clear hal hp3 hb3 B1 R1 hn hh3 hn3 p1 p2 p3
  go_wp2_with ((with_reducible refine wpList_append_empty rfl (.tmp 41) (.tmp 43) rfl rfl rfl H0.out hk0 hl (by omega) ?_); intro v4 w4 ho4 hb4; refine of_hid ?_)
  refine Lib.hid ?_
  have s4 : w3.heap.size ≤ (w3.alloc (.cells #[] 34)).heap.size := L4.out.size
  have O4 := Lib.hid (ho4.base s4)
  have L5 := Lib.hid (L4.out.trans (hb4.mono s4))
  have s5 := L5.out.size
  have H5 := Lib.hid (H3.out.below L5.out (Nat.le_refl _))
  clear ho4 hb4 s4 L4 H0 q1 p1'
  go_wp2_with ((with_reducible refine wpList_append_hd rfl (.tmp 44) (.tmp 45) rfl rfl rfl O4.out H5.out N3.out hc3 (by omega) s5 ?_); intro v6 w6 ho6 hg6 he6; refine of_hid ?_)
  refine Lib.hid ?_
  have L6 := Lib.hid (own_rowS L5.out O4.out hg6 s5)
  have s6 := L6.out.size
  obtain ⟨A6, c6, rfl, hh6, hc6, hc6m, _, hn6z⟩ := ho6.shape
  obtain ⟨ra6, rl6, rc6, X6, HL6⟩ : ∃ ra6 rl6 rc6, Hid (RdR w6 w6.heap.size A6 (k + 3) ra6 rl6 rc6 (withP k x)) ∧ Hid (∀ i, i < k + 3 → rl6 i = n) := by
    have h6 : ∀ i, i < k + 3 → (catS k (fun i => (ra i, rl i, rc i)) (fun i => ((some ⟨R3 i, 0, none⟩, n, n) : Hd)) i).2.1 = n := fun i hi => by
      unfold catS
      by_cases e : i < k
      · rw [if_pos e]; exact HLA.out i e
      · rw [if_neg e]
    exact ⟨_, _, _, rdr_join (B := w.heap.size) (B3 := w3.heap.size) hh6 (fun i hi => by obtain ⟨_, _, _, _, _, q⟩ := (X3.out.below L6.out (Nat.le_trans sw0 s03)) i hi; exact q) (Nat.le_trans (Nat.le_trans sw0 s03) s6) (y := fun i v => M.par k i x v) (fun i hi => (P3.out.row i hi).2.rdb (fun v _ => M.par_lt _ _ _ _) (P3.out.row i hi).2.lt |>.below L6.out (Nat.le_refl _)) s6, h6⟩
  have AL6 : Hid (Alike (k + 3) rl6) := ⟨by rw [HL6.out 0 (by omega)]; exact hn1, by rw [HL6.out 0 (by omega)]; exact hn2, fun i hi => by rw [HL6.out i hi, HL6.out 0 (by omega)]⟩
  have LW := Lib.hid (B3.out.trans (L6.out.mono s03))
  have XLT : Hid (∀ j, j < k + 3 → ∀ v, v < n → withP k x j v < 256) := fun j hj v hv => by
    obtain ⟨_, _, _, _, _, q⟩ := X6.out j hj
    rw [HL6.out j hj] at q
    obtain ⟨_, _, _, _, _, q2⟩ := q v hv
    exact q2
  have HC6 := Lib.hid hc6m
  unfold maxLen at hc6m
  clear ho6 hg6 he6 O4 L5 H5 H3 P3 N3 X3 B3 L6 hh6 HLA hn6z
  go_wp2_with fail
  refine (check_yes (k + 3) k c6 w6.heap.size A6 ra6 rl6 rc6 (withP k x) w6 X6.out (Nat.le_refl _) rfl hk0 (by omega) hc6 HC6.out AL6.out (fun j hj u hu => by
    rw [par_withP]
    unfold withP
    rw [if_neg (by omega), show k + j - k = j by omega])).mono ?_
  rintro e0 w7 ⟨rfl, hb7⟩
  have s67 := hb7.size
  have X7 := Lib.hid (X6.out.below hb7 (Nat.le_refl _))
  have L7 := Lib.hid (LW.out.trans (hb7.mono LW.out.size))
  have s07 := L7.out.size
  have hmkb : ∀ W : World, (Instr.makeSlice 37 (.int .i64 ((k : Int) + 3)) (.int .i64 ((k : Int) + 3))).run Try.prog W = .ok (.slice (some ⟨W.heap.size, 0, none⟩) (k + 3) (k + 3)) (W.alloc (.cells (boolA (k + 3) fun _ => false) 4)) := fun W => make_bools (k + 3) (by omega) W
  have J0 : Hid (Blk (w7.alloc (.cells (boolA (k + 3) fun _ => false) 4)) w7.heap.size 4 (boolA (k + 3) fun _ => false)) := Lib.hid (Blk.new _ _ _)
  have J1 : Hid (Below w7.heap.size w7 (w7.alloc (.cells (boolA (k + 3) fun _ => false) 4))) := Lib.hid ((Below.refl _ _).alloc (Nat.le_refl _) _)
  clear hb7 LW X6
  go_wp2_with fail
  clear hmkb
  go_loopw [9] (fun t wr => ∃ (i : Nat) (f : Nat → Bool), t = .int .i64 i ∧ i ≤ m ∧ i ≤ 3 ∧ Hid (Blk wr w7.heap.size 4 (boolA (k + 3) f)) ∧ Hid (Below w7.heap.size w7 wr) ∧ Hid (cntB (k + 3) f ≤ i)) (fun t _ => 3 - (intOf t).toNat)
  case atStart => exact ⟨0, _, rfl, by omega, by omega, J0, J1, Lib.hid (by rw [cntB_none]; exact Nat.le_refl _)⟩
  case round =>
    clear J0 J1
    obtain ⟨i, f, rfl, him, hi3, G1, L8, N1⟩ := hrel
    have L0r := Lib.hid (L7.out.trans (L8.out.mono s07))
    obtain ⟨_, p2, p3⟩ := PF.out wr L0r.out
    have hp0 : w.heap.size < wr.heap.size := by have := HS0.out; have := L0r.out.size; omega
    by_cases hlt : i < m ∧ i < 3
    · obtain ⟨hlm, hl3⟩ := hlt
      obtain ⟨b2, o2, rfl, _, hcb⟩ := (HZ.out.below L0r.out (by have := HS0.out; omega)) i hlm
      obtain ⟨s, hsm⟩ : ∃ s : Nat, (IntKind.u64.wrap (bz i)).tmod ((k : Int) + 3) = (s : Int) ∧ s < k + 3 := by
        have hw : 0 ≤ IntKind.u64.wrap (bz i) := by simp [IntKind.wrap, IntKind.bits, IntKind.signed]; omega
        refine ⟨((IntKind.u64.wrap (bz i)) % ((k : Int) + 3)).toNat, ?_, ?_⟩
        · rw [Int.tmod_eq_emod_of_nonneg hw]
          have := Int.emod_nonneg (IntKind.u64.wrap (bz i)) (show (k : Int) + 3 ≠ 0 by omega)
          omega
        · have h1 := Int.emod_nonneg (IntKind.u64.wrap (bz i)) (show (k : Int) + 3 ≠ 0 by omega)
          have h2 := Int.emod_lt_of_pos (IntKind.u64.wrap (bz i)) (show (0 : Int) < (k : Int) + 3 by omega)
          omega
      obtain ⟨hs1, hs2⟩ := hsm
      have i2 : (s : Int) < (k : Int) + 3 := by omega
      have c8 : wr.cell? ⟨w7.heap.size, s, none⟩ = some (.bool (f s)) := by rw [G1.out.cell, boolA_get hs2]
      have f8 := G1.out.frozen s
      have i3 : (i : Int) < (m : Int) := by omega
      have i4 : (i : Int) < 3 := by omega
      have G2 : Hid (Blk (wr.setCell ⟨w7.heap.size, s, none⟩ (.bool true)) w7.heap.size 4 (boolA (k + 3) (fun i => if i = s then true else f i))) := by
        have h := G1.out.set_ s (.bool true)
        rw [boolA_set hs2] at h
        exact h
      have L9 : Hid (Below w7.heap.size w7 (wr.setCell ⟨w7.heap.size, s, none⟩ (.bool true))) := L8.out.setCell (p := ⟨w7.heap.size, s, none⟩) (Nat.le_refl _) _
      have N2 : Hid (cntB (k + 3) (fun i => if i = s then true else f i) ≤ i + 1) := by
        have h1 := cntB_set (k + 3) s f
        rw [if_pos hs2] at h1
        exact Nat.le_trans h1 (Nat.add_le_add_right N1.out 1)
      generalize bz i = zz at hcb hs1
      clear G1 L8 N1 p3
      go_wp2_with fail
      go_roundw
      case rel => exact ⟨i + 1, _, by go_num, by omega, by omega, G2, L9, N2⟩
      case measure => simp [intOf]; omega
    · by_cases hm3 : i < m
      · obtain rfl : i = 3 := by omega
        have i3 : (3 : Int) < (m : Int) := by omega
        go_upto_region 15 with (fail)
        obtain ⟨wl, rfl⟩ : ∃ wl : World, wl = wr := ⟨_, rfl⟩
        have NC : Hid (cntB (k + 3) f ≤ 3) := Nat.le_trans N1.out hi3
        have X8 := Lib.hid (X7.out.below L8.out s67)
        have La : Hid (Below wl.heap.size wl (wl.alloc (.cells #[] 34))) := Lib.hid ((Below.refl _ _).alloc (Nat.le_refl _) _)
        have s78 := L8.out.size
        have H8 := Lib.hid (X8.out.heads.below La.out (Nat.le_trans s67 s78))
        have HG8 := Lib.hid (G1.out.lt)
        clear N1 p2 p3
        go_wp2_with ((with_reducible refine wpList_append_empty rfl (.tmp 85) (.tmp 86) rfl rfl rfl H8.out (by omega) hc6 (by omega) ?_); intro v11 w9 ho9 hb9; refine of_hid ?_)
        refine Lib.hid ?_
        have O9 := Lib.hid (ho9.base La.out.size)
        have L9 := Lib.hid (La.out.trans (hb9.mono La.out.size))
        obtain ⟨gg, cg, rfl, hgg, hcg, hcgm⟩ := own_open O9.out (by omega)
        have HCG := Lib.hid hcgm
        have HX8 := Lib.hid (X7.out.below L8.out s67)
        clear ho9 hb9 La H8 X8
        unfold maxLen at hcgm
        go_wp2_with fail
        go_loopw [10, 12] (fun v t wr => ∃ i : Nat, t = .int .i64 i ∧ i ≤ k + 3 ∧ Hid (wr.ownsRow wl.heap.size 3 1 v (trueL f i).length (natL (trueL f i))) ∧ Hid ((trueL f i).length = 0 → v = .slice none 0 0) ∧ Hid (OwnS wr wl.heap.size (.slice (some ⟨gg, 0, none⟩) (k + 3) cg) (k + 3) (hdG f i (A3, n3, c3) (fun i => (ra6 i, rl6 i, rc6 i)))) ∧ Hid (Below wl.heap.size wl wr)) (fun _ t _ => k + 3 - (intOf t).toNat)
        case atStart => exact ⟨0, rfl, by omega, Lib.hid ⟨rfl, .inl ⟨rfl, rfl⟩⟩, Lib.hid (fun _ => rfl), Lib.hid (O9.out.congr fun j _ => (hdG_zero f (A3, n3, c3) (fun i => (ra6 i, rl6 i, rc6 i)) j).symm), L9⟩
        case round =>
          clear O9 L9
          obtain ⟨i, rfl, hik, B2, V2, O2, L2⟩ := hrel
          have LT := Lib.hid (L0r.out.trans (L2.out.mono L0r.out.size))
          obtain ⟨_, p2, p3⟩ := PF.out wr LT.out
          have hp0 : w.heap.size < wr.heap.size := by have := HS0.out; have := LT.out.size; omega
          have hgl := L2.out.size
          by_cases hlt : i < k + 3
          · have i2 : (i : Int) < (k : Int) + 3 := by omega
            have c8 : wr.cell? ⟨w7.heap.size, i, none⟩ = some (.bool (f i)) := by rw [(G1.out.below L2.out HG8.out).cell, boolA_get hlt]
            cases hfi : f i
            · rw [hfi] at c8
              have B3 : Hid (wr.ownsRow wl.heap.size 3 1 u10 (trueL f (i + 1)).length (natL (trueL f (i + 1)))) := by
                rw [trueL_succ, hfi]
                simp only [Bool.false_eq_true, if_false, List.append_nil]
                exact B2
              have V3 : Hid ((trueL f (i + 1)).length = 0 → u10 = .slice none 0 0) := by
                rw [trueL_succ, hfi]
                simp only [Bool.false_eq_true, if_false, List.append_nil]
                exact V2
              have O3 := Lib.hid (O2.out.congr fun j _ => (hdG_no hfi j).symm)
              clear B2 V2 O2 hfi
              go_wp2_with fail
              go_roundw
              case rel => exact ⟨i + 1, by go_num, by omega, B3, V3, O3, L2⟩
              case measure => simp [intOf]; omega
            · rw [hfi] at c8
              have B3 : Hid ((wr.alloc (.cells #[.int .i64 (i : Int)] 3)).ownsRow wl.heap.size 3 1 u10 (trueL f i).length (natL (trueL f i))) := Lib.hid (B2.out.alloc _)
              have HC : Hid ((wr.alloc (.cells #[.int .i64 (i : Int)] 3)).cell? ⟨wr.heap.size, 0, none⟩ = some (.int .i64 (i : Int))) := by
                show _ = _
                rw [(Blk.new wr _ _).cell]
                rfl
              have hzz : wl.heap.size ≤ (wr.alloc (.cells #[.int .i64 (i : Int)] 3)).heap.size := by simp; omega
              have HZ' := Lib.hid hzz
              have hll : (trueL f i).length ≤ 16 := by rw [trueL_len]; have : cntB i f ≤ i := cntB_le i f; omega
              have HFI := Lib.hid hfi
              have O2a : Hid (OwnS (wr.alloc (.cells #[.int .i64 (i : Int)] 3)) wl.heap.size (.slice (some ⟨gg, 0, none⟩) (k + 3) cg) (k + 3) (hdG f i (A3, n3, c3) (fun i => (ra6 i, rl6 i, rc6 i)))) := Lib.hid (O2.out.below ((Below.refl wr.heap.size wr).alloc (Nat.le_refl _) _) (Nat.le_refl _))
              have L2a : Hid (Below wl.heap.size wl (wr.alloc (.cells #[.int .i64 (i : Int)] 3))) := L2.out.alloc hgl _
              clear hzz hfi p2 p3 B2 V2 O2
              go_wp2_with ((with_reducible refine wpList_pushZ rfl (.tmp 98) (.tmp 100) rfl rfl B3.out rfl HC.out (by omega) HZ'.out ?_); intro v5 w10 ho5 hg5; refine of_hid ?_)
              refine Lib.hid ?_
              have L3 := Lib.hid (below_grown L2a.out B3.out hg5 HZ'.out)
              have O3 : Hid (OwnS w10 wl.heap.size (.slice (some ⟨gg, 0, none⟩) (k + 3) cg) (k + 3) (hdG f i (A3, n3, c3) (fun i => (ra6 i, rl6 i, rc6 i)))) := O2a.out.keep fun g hg => hg5.block g (O2a.out.lt hg).1 (fun e => owns_ne B3.out O2a.out hg e.symm)
              obtain ⟨_, _, p3⟩ := PF.out w10 (L0r.out.trans (L3.out.mono L0r.out.size))
              obtain ⟨cg1, cg2⟩ := O3.out.cells hlt
              have HO5 := Lib.hid ho5
              have hob : (Value.slice (some ⟨gg, 0, none⟩) (k + 3) cg).ownBlock = some gg := by simp [Value.ownBlock]
              have HOB := Lib.hid hob
              have O4 := Lib.hid ((O3.out.set (a := (A3, n3, c3)) hlt).congr fun j _ => hdG_yes HFI.out j)
              have B4 : Hid ((w10.setCell ⟨gg, i, none⟩ (hdV (A3, n3, c3))).ownsRow wl.heap.size 3 1 v5 (trueL f (i + 1)).length (natL (trueL f (i + 1)))) := by
                have h := owns_keep ho5 (w' := w10.setCell ⟨gg, i, none⟩ (hdV (A3, n3, c3))) (fun g hg => Below.heap_setCell w10 _ _ g (fun e => owns_ne ho5 O3.out HOB.out (by rw [hg, e])))
                rw [trueL_succ, HFI.out]
                simp only [if_true]
                rw [natL_snoc, List.length_append]
                exact h
              have V4 : Hid ((trueL f (i + 1)).length = 0 → v5 = .slice none 0 0) := by
                rw [trueL_succ, HFI.out]
                simp only [if_true, List.length_append]
                intro h
                simp at h
              have L4 : Hid (Below wl.heap.size wl (w10.setCell ⟨gg, i, none⟩ (hdV (A3, n3, c3)))) := L3.out.setCell (p := ⟨gg, i, none⟩) hgg _
              have hp1 : w.heap.size < w10.heap.size := by have := L3.out.size; have := L0r.out.size; have := HS0.out; omega
              clear ho5 hg5 HO5 O2a L2a B3 HC HZ' hob HOB O3 L3
              go_wp2_with fail
              go_roundw
              case rel => exact ⟨i + 1, by go_num, by omega, B4, V4, O4, L4⟩
              case measure => simp [intOf]; omega
          · obtain rfl : k + 3 = i := by omega
            obtain ⟨q, hq⟩ : ∃ q, q = (trueL f (k + 3)).length := ⟨_, rfl⟩
            have hq3 : q ≤ 3 := by rw [hq, trueL_len]; exact NC.out
            have TF := trueL_facts f (k + 3)
            have X8r := Lib.hid (HX8.out.below L2.out (Nat.le_trans s67 s78))
            have HS6r : Hid (w6.heap.size ≤ wr.heap.size) := Nat.le_trans s67 (Nat.le_trans s78 hgl)
            have LTw := Lib.hid (L0.out.trans (LT.out.mono L0.out.size))
            have J3 := Lib.hid (HJ.out.below LT.out (by have := HS0.out; omega))
            obtain ⟨XG, hXG⟩ : ∃ XG : Nat → Nat → Nat, XG = fun i => if f i = true then x3 else withP k x i := ⟨_, rfl⟩
            obtain ⟨HD, hHD⟩ : ∃ HD : Nat → Hd, HD = hdG f (k + 3) (A3, n3, c3) (fun i => (ra6 i, rl6 i, rc6 i)) := ⟨_, rfl⟩
            have hd1 : ∀ i, i < k + 3 → f i = true → HD i = (A3, n3, c3) := fun i hi h => by rw [hHD]; exact if_pos ⟨hi, h⟩
            have hd0 : ∀ i, f i = false → HD i = (ra6 i, rl6 i, rc6 i) := fun i h => by rw [hHD]; exact if_neg (fun e => by rw [h] at e; cases e.2)
            have xg0 : ∀ i, f i = false → XG i = withP k x i := fun i h => by rw [hXG]; show (if f i = true then x3 else withP k x i) = _; rw [h, if_neg (by decide)]
            have xg1 : ∀ i, f i = true → XG i = x3 := fun i h => by rw [hXG]; show (if f i = true then x3 else withP k x i) = _; rw [if_pos h]
            have GRR : Hid (RdR wr wr.heap.size (some ⟨gg, 0, none⟩) (k + 3) (fun i => (HD i).1) (fun i => (HD i).2.1) (fun i => (HD i).2.2) XG) := fun i hi => by
              have hce := (O2.out.cells hi).1
              rw [← hHD] at hce
              have hggl : gg < wr.heap.size := (O2.out.lt (show (Value.slice (some ⟨gg, 0, none⟩) (k + 3) cg).ownBlock = some gg by simp [Value.ownBlock])).1
              refine ⟨gg, 0, rfl, hggl, by rw [Nat.zero_add]; exact hce, ?_⟩
              show RdB wr wr.heap.size (HD i).1 (HD i).2.1 (XG i)
              cases h : f i
              · rw [hd0 i h, xg0 i h]
                obtain ⟨_, _, _, _, _, hb⟩ := X8r.out i hi
                exact hb.mono HS6r.out
              · rw [hd1 i hi h, xg1 i h]
                exact J3.out.mono (by omega)
            have HLN : Hid (∀ i, i < k + 3 → f i = false → (HD i).2.1 = n) := fun i hi h => by rw [hd0 i h]; exact HL6.out i hi
            have HX0 : Hid (∀ i, f i = false → XG i = withP k x i) := xg0
            have HTF := Lib.hid TF
            clear hd1 hd0 xg0 xg1 hXG hHD p2 p3 J3 TF G1 L8
            by_cases hq0 : q = 0
            · obtain rfl := V2.out (by omega)
              have hff : ∀ i, i < k + 3 → f i = false := fun i hi => by
                cases h : f i
                · rfl
                · obtain ⟨y, hy, _⟩ := HTF.out.2.2 i hi h
                  omega
              have HFF := Lib.hid hff
              have hrl : (HD 0).2.1 = n := HLN.out 0 (by omega) (hff 0 (by omega))
              have HRL := Lib.hid hrl
              have ALG : Hid (Alike (k + 3) (fun i => (HD i).2.1)) := ⟨by show 1 ≤ (HD 0).2.1; omega, by show (HD 0).2.1 ≤ 4096; omega, fun i hi => (HLN.out i hi (hff i hi)).trans hrl.symm⟩
              have hne : ((0 : Int) == (k : Int) + 3) = false := by rw [beq_eq_false_iff_ne]; omega
              clear hff hrl hq hq0 hq3
              go_wp2_with fail
              refine (rebuild_nil (k + 3) k cg wr.heap.size (some ⟨gg, 0, none⟩) _ _ _ XG wr GRR.out (Nat.le_refl _) rfl hk0 (by omega) ALG.out).mono ?_
              rintro e0 w11 ⟨vG, HG, RG, rfl, hcG, hbG⟩
              obtain ⟨AG, cG, rfl, _, _, hgr⟩ := hcG.rdr (fun j hj v hv => by rw [HX0.out j (HFF.out j hj)]; rw [HRL.out] at hv; exact XLT.out j hj v hv)
              have G11 := Lib.hid hgr
              have GL : Hid (∀ i, i < k + 3 → (HG i).2.1 = n) := fun i hi => by rw [hcG.len hi]; exact HRL.out
              have X11 := Lib.hid (X8r.out.below hbG HS6r.out)
              have LT2 := Lib.hid (LTw.out.trans (hbG.mono LTw.out.size))
              have HS611 : Hid (w6.heap.size ≤ w11.heap.size) := Nat.le_trans HS6r.out hbG.size
              have HK3 : Hid (k + 3 ≤ maxLen) := by show k + 3 ≤ maxLen; unfold maxLen; omega
              have GX : Hid (∀ i, i < k + 3 → ∀ v, v < n → XG i v = withP k x i v) := fun i hi v hv => by rw [HX0.out i (HFF.out i hi)]
              clear hcG hbG hgr
              go_wp2_with fail
              refine (same_yes (k + 3) _ c6 _ _ _ A6 _ _ _ _ _ _ _ _ _ G11.out X11.out (fun i hi => ⟨by rw [HL6.out i hi]; exact GL.out i hi, fun v hv => GX.out i hi v (by rw [← GL.out i hi]; exact hv)⟩) HK3.out).mono ?_
              rintro e0 w12 ⟨rfl, nq, rfl⟩
              have LN := Lib.hid (below_drewN LT2.out nq)
              have X12 := Lib.hid (X11.out.drewN nq)
              by_cases hk2 : k < 2
              · have t5 : ((k : Int) + 3 < 5) = True := by simp; omega
                go_wp2_with fail
                go_ret
                exact ⟨rfl, LN.out⟩
              · have t5 : ((k : Int) + 3 < 5) = False := by simp; omega
                go_wp2_with fail
                obtain ⟨W13, hW13⟩ : ∃ W13, W13 = (w11.drewN nq).alloc (.cells #[.int .i64 0, .int .i64 1, .int .i64 2, .int .i64 3] 3) := ⟨_, rfl⟩
                have Z13 := rdz_four (w11.drewN nq)
                rw [← hW13] at Z13 ⊢
                have L13 : Hid (Below (w11.drewN nq).heap.size (w11.drewN nq) W13) := by rw [hW13]; exact (Below.refl _ _).alloc (Nat.le_refl _) _
                have Z13' := Lib.hid Z13
                have X13 := Lib.hid (X12.out.below L13.out (show w6.heap.size ≤ (w11.drewN nq).heap.size from HS611.out))
                clear hW13 Z13
                refine (rebuild_err (k + 3) c6 4 4 A6 _ 4 W13 (by decide) (fault_many (k + 3) c6 _ 4 4 _ 4 A6 _ ra6 rl6 rc6 (withP k x) _ W13 X13.out Z13'.out (by omega) (by unfold maxLen; omega) (rise_four (by omega)) ⟨by omega, fun j hj => rfl, fun h => absurd h (by omega)⟩ (by omega) (by omega) (by omega) (by omega) (by omega) (by omega) ⟨by rw [HL6.out 4 (by omega)]; exact hn1, by rw [HL6.out 4 (by omega)]; exact hn2, fun i hi _ => by rw [HL6.out i hi, HL6.out 4 (by omega)]⟩)).mono ?_
                rintro e0 w14 ⟨rfl, rfl⟩
                go_wp2_with fail
                go_ret
                exact ⟨rfl, LN.out.trans (L13.out.mono (show w.heap.size ≤ (w11.drewN nq).heap.size from Nat.le_trans LT2.out.size (Nat.le_refl _)))⟩
            · have hqp : 0 < q := by omega
              obtain ⟨A9, c9, hv9, hc9, hrd9, _⟩ := own_ints2 B2.out
              subst hv9
              rw [← hq] at hc9 hrd9 ⊢
              have hc9m : c9 ≤ maxLen := by
                rcases B2.out.2 with ⟨e, _⟩ | ⟨g', cap, cur, e, _, _, _, h3, _⟩
                · injection e with _ _ e; omega
                · injection e with _ _ e; rw [e]; exact h3
              obtain ⟨bq, hbq⟩ : ∃ bq : Nat → Int, bq = fun i => (((trueL f (k + 3)).getD i 0 : Nat) : Int) := ⟨_, rfl⟩
              rw [← hbq] at hrd9
              have hbe : ∀ i, bq i = (((trueL f (k + 3)).getD i 0 : Nat) : Int) := fun i => by rw [hbq]
              have RI : Hid (Rise q bq ((k + 3 : Nat) : Int)) := fun i hi => by
                have h1 := HTF.out.1 i (by omega)
                refine ⟨?_, by rw [hbe]; omega⟩
                unfold prv
                by_cases e : i = 0
                · rw [if_pos e, hbe]; omega
                · have h2 := HTF.out.2.1 (i - 1) i (by omega) (by omega)
                  rw [if_neg e, hbe, hbe]; omega
              have hisB : ∀ i, i < k + 3 → isB q bq i = f i := fun i hi => by
                cases h : f i
                · refine isB_false fun y hy e => ?_
                  have h1 := HTF.out.1 y (by omega)
                  rw [hbe] at e
                  rw [show (trueL f (k + 3)).getD y 0 = i by omega, h] at h1
                  cases h1.2
                · obtain ⟨y, hy, e⟩ := HTF.out.2.2 i hi h
                  exact isB_true (j := y) (by omega) (by rw [hbe, e])
              obtain ⟨f0, hf0⟩ := first_of q bq
              have hf0k : f0 < k + 3 := by have := hf0.1; omega
              have hff0 : f f0 = false := by
                rw [← hisB f0 hf0k]
                refine isB_false fun y hy e => ?_
                by_cases e1 : y < f0
                · have := hf0.2.1 y e1; omega
                · have h3 := RI.out.ge f0 (by omega)
                  by_cases e2 : y = f0
                  · subst e2; exact hf0.2.2 hy e
                  · have h4 := RI.out.lt (show f0 < y by omega) hy
                    omega
              have hrl : (HD f0).2.1 = n := HLN.out f0 hf0k hff0
              have HRL := Lib.hid hrl
              have ALG : Hid (AlikeB (k + 3) q ((HD f0).2.1) bq (fun i => (HD i).2.1)) := ⟨by rw [hrl]; exact hn1, by rw [hrl]; exact hn2, fun i hi hnb => by
                have h : f i = false := by rw [← hisB i hi]; exact isB_false hnb
                rw [hrl]
                exact HLN.out i hi h⟩
              have HGD : Hid (∀ i, i < k + 3 → isB q bq i = false → ∀ v, v < (HD f0).2.1 → XG i v = withP k x i v) := fun i hi h v hv => by
                rw [hisB i hi] at h
                rw [HX0.out i h]
              have HDL : Hid (∀ i, i < k + 3 → ∀ v, v < (HD f0).2.1 → withP k x i v < 256) := fun i hi v hv => by rw [hrl] at hv; exact XLT.out i hi v hv
              have HPR : Hid (∀ j, j < 3 → ∀ v, v < (HD f0).2.1 → withP k x (k + j) v = M.par k j (withP k x) v) := fun j hj v hv => by
                rw [par_withP]
                unfold withP
                rw [if_neg (by omega), show k + j - k = j by omega]
              have HRD := Lib.hid hrd9
              have HF0 := Lib.hid hf0
              have HC9 := Lib.hid hc9m
              have hne : ((q : Int) == (k : Int) + 3) = false := by rw [beq_eq_false_iff_ne]; omega
              clear hbe hbq hisB hf0 hff0 hrl hrd9 hc9m B2 V2 hq hq0
              go_wp2_with fail
              refine (rebuild_some k q cg wr.heap.size c9 wr.heap.size f0 (some ⟨gg, 0, none⟩) A9 _ _ _ XG (withP k x) bq wr GRR.out HRD.out (Nat.le_refl _) (Nat.le_refl _) hc9 HC9.out RI.out HF0.out hf0k hk0 hk13 hqp hq3 ALG.out HDL.out HPR.out HGD.out).mono ?_
              rintro e0 w11 ⟨vG, HG, RG, XXG, rfl, hcG, hdG, hbG⟩
              obtain ⟨AG, cG, rfl, _, _, hgr⟩ := hcG.rdr (fun j hj v hv => by rw [hdG j hj v hv]; rw [HRL.out] at hv; exact XLT.out j hj v hv)
              have G11 := Lib.hid hgr
              have GL : Hid (∀ i, i < k + 3 → (HG i).2.1 = n) := fun i hi => by rw [hcG.len hi]; exact HRL.out
              have X11 := Lib.hid (X8r.out.below hbG HS6r.out)
              have LT2 := Lib.hid (LTw.out.trans (hbG.mono LTw.out.size))
              have HS611 : Hid (w6.heap.size ≤ w11.heap.size) := Nat.le_trans HS6r.out hbG.size
              have HK3 : Hid (k + 3 ≤ maxLen) := by show k + 3 ≤ maxLen; unfold maxLen; omega
              have GX : Hid (∀ i, i < k + 3 → ∀ v, v < n → XXG i v = withP k x i v) := fun i hi v hv => hdG i hi v (by rw [HRL.out]; exact hv)
              clear hcG hbG hgr hdG
              go_wp2_with fail
              refine (same_yes (k + 3) _ c6 _ _ _ A6 _ _ _ _ _ _ _ _ _ G11.out X11.out (fun i hi => ⟨by rw [HL6.out i hi]; exact GL.out i hi, fun v hv => GX.out i hi v (by rw [← GL.out i hi]; exact hv)⟩) HK3.out).mono ?_
              rintro e0 w12 ⟨rfl, nq, rfl⟩
              have LN := Lib.hid (below_drewN LT2.out nq)
              have X12 := Lib.hid (X11.out.drewN nq)
              by_cases hk2 : k < 2
              · have t5 : ((k : Int) + 3 < 5) = True := by simp; omega
                go_wp2_with fail
                go_ret
                exact ⟨rfl, LN.out⟩
              · have t5 : ((k : Int) + 3 < 5) = False := by simp; omega
                go_wp2_with fail
                obtain ⟨W13, hW13⟩ : ∃ W13, W13 = (w11.drewN nq).alloc (.cells #[.int .i64 0, .int .i64 1, .int .i64 2, .int .i64 3] 3) := ⟨_, rfl⟩
                have Z13 := rdz_four (w11.drewN nq)
                rw [← hW13] at Z13 ⊢
                have L13 : Hid (Below (w11.drewN nq).heap.size (w11.drewN nq) W13) := by rw [hW13]; exact (Below.refl _ _).alloc (Nat.le_refl _) _
                have Z13' := Lib.hid Z13
                have X13 := Lib.hid (X12.out.below L13.out (show w6.heap.size ≤ (w11.drewN nq).heap.size from HS611.out))
                clear hW13 Z13
                refine (rebuild_err (k + 3) c6 4 4 A6 _ 4 W13 (by decide) (fault_many (k + 3) c6 _ 4 4 _ 4 A6 _ ra6 rl6 rc6 (withP k x) _ W13 X13.out Z13'.out (by omega) (by unfold maxLen; omega) (rise_four (by omega)) ⟨by omega, fun j hj => rfl, fun h => absurd h (by omega)⟩ (by omega) (by omega) (by omega) (by omega) (by omega) (by omega) ⟨by rw [HL6.out 4 (by omega)]; exact hn1, by rw [HL6.out 4 (by omega)]; exact hn2, fun i hi _ => by rw [HL6.out i hi, HL6.out 4 (by omega)]⟩)).mono ?_
                rintro e0 w14 ⟨rfl, rfl⟩
                go_wp2_with fail
                go_ret
                exact ⟨rfl, LN.out.trans (L13.out.mono (show w.heap.size ≤ (w11.drewN nq).heap.size from Nat.le_trans LT2.out.size (Nat.le_refl _)))⟩
      · obtain rfl : i = m := by omega
        go_upto_region 15 with (fail)
        obtain ⟨wl, rfl⟩ : ∃ wl : World, wl = wr := ⟨_, rfl⟩
        have NC : Hid (cntB (k + 3) f ≤ 3) := Nat.le_trans N1.out hi3
        have X8 := Lib.hid (X7.out.below L8.out s67)
        have La : Hid (Below wl.heap.size wl (wl.alloc (.cells #[] 34))) := Lib.hid ((Below.refl _ _).alloc (Nat.le_refl _) _)
        have s78 := L8.out.size
        have H8 := Lib.hid (X8.out.heads.below La.out (Nat.le_trans s67 s78))
        have HG8 := Lib.hid (G1.out.lt)
        clear N1 p2 p3
        go_wp2_with ((with_reducible refine wpList_append_empty rfl (.tmp 85) (.tmp 86) rfl rfl rfl H8.out (by omega) hc6 (by omega) ?_); intro v11 w9 ho9 hb9; refine of_hid ?_)
        refine Lib.hid ?_
        have O9 := Lib.hid (ho9.base La.out.size)
        have L9 := Lib.hid (La.out.trans (hb9.mono La.out.size))
        obtain ⟨gg, cg, rfl, hgg, hcg, hcgm⟩ := own_open O9.out (by omega)
        have HCG := Lib.hid hcgm
        have HX8 := Lib.hid (X7.out.below L8.out s67)
        clear ho9 hb9 La H8 X8
        unfold maxLen at hcgm
        go_wp2_with fail
        go_loopw [10, 12] (fun v t wr => ∃ i : Nat, t = .int .i64 i ∧ i ≤ k + 3 ∧ Hid (wr.ownsRow wl.heap.size 3 1 v (trueL f i).length (natL (trueL f i))) ∧ Hid ((trueL f i).length = 0 → v = .slice none 0 0) ∧ Hid (OwnS wr wl.heap.size (.slice (some ⟨gg, 0, none⟩) (k + 3) cg) (k + 3) (hdG f i (A3, n3, c3) (fun i => (ra6 i, rl6 i, rc6 i)))) ∧ Hid (Below wl.heap.size wl wr)) (fun _ t _ => k + 3 - (intOf t).toNat)
        case atStart => exact ⟨0, rfl, by omega, Lib.hid ⟨rfl, .inl ⟨rfl, rfl⟩⟩, Lib.hid (fun _ => rfl), Lib.hid (O9.out.congr fun j _ => (hdG_zero f (A3, n3, c3) (fun i => (ra6 i, rl6 i, rc6 i)) j).symm), L9⟩
        case round =>
          clear O9 L9
          obtain ⟨i, rfl, hik, B2, V2, O2, L2⟩ := hrel
          have LT := Lib.hid (L0r.out.trans (L2.out.mono L0r.out.size))
          obtain ⟨_, p2, p3⟩ := PF.out wr LT.out
          have hp0 : w.heap.size < wr.heap.size := by have := HS0.out; have := LT.out.size; omega
          have hgl := L2.out.size
          by_cases hlt : i < k + 3
          · have i2 : (i : Int) < (k : Int) + 3 := by omega
            have c8 : wr.cell? ⟨w7.heap.size, i, none⟩ = some (.bool (f i)) := by rw [(G1.out.below L2.out HG8.out).cell, boolA_get hlt]
            cases hfi : f i
            · rw [hfi] at c8
              have B3 : Hid (wr.ownsRow wl.heap.size 3 1 u10 (trueL f (i + 1)).length (natL (trueL f (i + 1)))) := by
                rw [trueL_succ, hfi]
                simp only [Bool.false_eq_true, if_false, List.append_nil]
                exact B2
              have V3 : Hid ((trueL f (i + 1)).length = 0 → u10 = .slice none 0 0) := by
                rw [trueL_succ, hfi]
                simp only [Bool.false_eq_true, if_false, List.append_nil]
                exact V2
              have O3 := Lib.hid (O2.out.congr fun j _ => (hdG_no hfi j).symm)
              clear B2 V2 O2 hfi
              go_wp2_with fail
              go_roundw
              case rel => exact ⟨i + 1, by go_num, by omega, B3, V3, O3, L2⟩
              case measure => simp [intOf]; omega
            · rw [hfi] at c8
              have B3 : Hid ((wr.alloc (.cells #[.int .i64 (i : Int)] 3)).ownsRow wl.heap.size 3 1 u10 (trueL f i).length (natL (trueL f i))) := Lib.hid (B2.out.alloc _)
              have HC : Hid ((wr.alloc (.cells #[.int .i64 (i : Int)] 3)).cell? ⟨wr.heap.size, 0, none⟩ = some (.int .i64 (i : Int))) := by
                show _ = _
                rw [(Blk.new wr _ _).cell]
                rfl
              have hzz : wl.heap.size ≤ (wr.alloc (.cells #[.int .i64 (i : Int)] 3)).heap.size := by simp; omega
              have HZ' := Lib.hid hzz
              have hll : (trueL f i).length ≤ 16 := by rw [trueL_len]; have : cntB i f ≤ i := cntB_le i f; omega
              have HFI := Lib.hid hfi
              have O2a : Hid (OwnS (wr.alloc (.cells #[.int .i64 (i : Int)] 3)) wl.heap.size (.slice (some ⟨gg, 0, none⟩) (k + 3) cg) (k + 3) (hdG f i (A3, n3, c3) (fun i => (ra6 i, rl6 i, rc6 i)))) := Lib.hid (O2.out.below ((Below.refl wr.heap.size wr).alloc (Nat.le_refl _) _) (Nat.le_refl _))
              have L2a : Hid (Below wl.heap.size wl (wr.alloc (.cells #[.int .i64 (i : Int)] 3))) := L2.out.alloc hgl _
              clear hzz hfi p2 p3 B2 V2 O2
              go_wp2_with ((with_reducible refine wpList_pushZ rfl (.tmp 98) (.tmp 100) rfl rfl B3.out rfl HC.out (by omega) HZ'.out ?_); intro v5 w10 ho5 hg5; refine of_hid ?_)
              refine Lib.hid ?_
              have L3 := Lib.hid (below_grown L2a.out B3.out hg5 HZ'.out)
              have O3 : Hid (OwnS w10 wl.heap.size (.slice (some ⟨gg, 0, none⟩) (k + 3) cg) (k + 3) (hdG f i (A3, n3, c3) (fun i => (ra6 i, rl6 i, rc6 i)))) := O2a.out.keep fun g hg => hg5.block g (O2a.out.lt hg).1 (fun e => owns_ne B3.out O2a.out hg e.symm)
              obtain ⟨_, _, p3⟩ := PF.out w10 (L0r.out.trans (L3.out.mono L0r.out.size))
              obtain ⟨cg1, cg2⟩ := O3.out.cells hlt
              have HO5 := Lib.hid ho5
              have hob : (Value.slice (some ⟨gg, 0, none⟩) (k + 3) cg).ownBlock = some gg := by simp [Value.ownBlock]
              have HOB := Lib.hid hob
              have O4 := Lib.hid ((O3.out.set (a := (A3, n3, c3)) hlt).congr fun j _ => hdG_yes HFI.out j)
              have B4 : Hid ((w10.setCell ⟨gg, i, none⟩ (hdV (A3, n3, c3))).ownsRow wl.heap.size 3 1 v5 (trueL f (i + 1)).length (natL (trueL f (i + 1)))) := by
                have h := owns_keep ho5 (w' := w10.setCell ⟨gg, i, none⟩ (hdV (A3, n3, c3))) (fun g hg => Below.heap_setCell w10 _ _ g (fun e => owns_ne ho5 O3.out HOB.out (by rw [hg, e])))
                rw [trueL_succ, HFI.out]
                simp only [if_true]
                rw [natL_snoc, List.length_append]
                exact h
              have V4 : Hid ((trueL f (i + 1)).length = 0 → v5 = .slice none 0 0) := by
                rw [trueL_succ, HFI.out]
                simp only [if_true, List.length_append]
                intro h
                simp at h
              have L4 : Hid (Below wl.heap.size wl (w10.setCell ⟨gg, i, none⟩ (hdV (A3, n3, c3)))) := L3.out.setCell (p := ⟨gg, i, none⟩) hgg _
              have hp1 : w.heap.size < w10.heap.size := by have := L3.out.size; have := L0r.out.size; have := HS0.out; omega
              clear ho5 hg5 HO5 O2a L2a B3 HC HZ' hob HOB O3 L3
              go_wp2_with fail
              go_roundw
              case rel => exact ⟨i + 1, by go_num, by omega, B4, V4, O4, L4⟩
              case measure => simp [intOf]; omega
          · obtain rfl : k + 3 = i := by omega
            obtain ⟨q, hq⟩ : ∃ q, q = (trueL f (k + 3)).length := ⟨_, rfl⟩
            have hq3 : q ≤ 3 := by rw [hq, trueL_len]; exact NC.out
            have TF := trueL_facts f (k + 3)
            have X8r := Lib.hid (HX8.out.below L2.out (Nat.le_trans s67 s78))
            have HS6r : Hid (w6.heap.size ≤ wr.heap.size) := Nat.le_trans s67 (Nat.le_trans s78 hgl)
            have LTw := Lib.hid (L0.out.trans (LT.out.mono L0.out.size))
            have J3 := Lib.hid (HJ.out.below LT.out (by have := HS0.out; omega))
            obtain ⟨XG, hXG⟩ : ∃ XG : Nat → Nat → Nat, XG = fun i => if f i = true then x3 else withP k x i := ⟨_, rfl⟩
            obtain ⟨HD, hHD⟩ : ∃ HD : Nat → Hd, HD = hdG f (k + 3) (A3, n3, c3) (fun i => (ra6 i, rl6 i, rc6 i)) := ⟨_, rfl⟩
            have hd1 : ∀ i, i < k + 3 → f i = true → HD i = (A3, n3, c3) := fun i hi h => by rw [hHD]; exact if_pos ⟨hi, h⟩
            have hd0 : ∀ i, f i = false → HD i = (ra6 i, rl6 i, rc6 i) := fun i h => by rw [hHD]; exact if_neg (fun e => by rw [h] at e; cases e.2)
            have xg0 : ∀ i, f i = false → XG i = withP k x i := fun i h => by rw [hXG]; show (if f i = true then x3 else withP k x i) = _; rw [h, if_neg (by decide)]
            have xg1 : ∀ i, f i = true → XG i = x3 := fun i h => by rw [hXG]; show (if f i = true then x3 else withP k x i) = _; rw [if_pos h]
            have GRR : Hid (RdR wr wr.heap.size (some ⟨gg, 0, none⟩) (k + 3) (fun i => (HD i).1) (fun i => (HD i).2.1) (fun i => (HD i).2.2) XG) := fun i hi => by
              have hce := (O2.out.cells hi).1
              rw [← hHD] at hce
              have hggl : gg < wr.heap.size := (O2.out.lt (show (Value.slice (some ⟨gg, 0, none⟩) (k + 3) cg).ownBlock = some gg by simp [Value.ownBlock])).1
              refine ⟨gg, 0, rfl, hggl, by rw [Nat.zero_add]; exact hce, ?_⟩
              show RdB wr wr.heap.size (HD i).1 (HD i).2.1 (XG i)
              cases h : f i
              · rw [hd0 i h, xg0 i h]
                obtain ⟨_, _, _, _, _, hb⟩ := X8r.out i hi
                exact hb.mono HS6r.out
              · rw [hd1 i hi h, xg1 i h]
                exact J3.out.mono (by omega)
            have HLN : Hid (∀ i, i < k + 3 → f i = false → (HD i).2.1 = n) := fun i hi h => by rw [hd0 i h]; exact HL6.out i hi
            have HX0 : Hid (∀ i, f i = false → XG i = withP k x i) := xg0
            have HTF := Lib.hid TF
            clear hd1 hd0 xg0 xg1 hXG hHD p2 p3 J3 TF G1 L8
            by_cases hq0 : q = 0
            · obtain rfl := V2.out (by omega)
              have hff : ∀ i, i < k + 3 → f i = false := fun i hi => by
                cases h : f i
                · rfl
                · obtain ⟨y, hy, _⟩ := HTF.out.2.2 i hi h
                  omega
              have HFF := Lib.hid hff
              have hrl : (HD 0).2.1 = n := HLN.out 0 (by omega) (hff 0 (by omega))
              have HRL := Lib.hid hrl
              have ALG : Hid (Alike (k + 3) (fun i => (HD i).2.1)) := ⟨by show 1 ≤ (HD 0).2.1; omega, by show (HD 0).2.1 ≤ 4096; omega, fun i hi => (HLN.out i hi (hff i hi)).trans hrl.symm⟩
              have hne : ((0 : Int) == (k : Int) + 3) = false := by rw [beq_eq_false_iff_ne]; omega
              clear hff hrl hq hq0 hq3
              go_wp2_with fail
              refine (rebuild_nil (k + 3) k cg wr.heap.size (some ⟨gg, 0, none⟩) _ _ _ XG wr GRR.out (Nat.le_refl _) rfl hk0 (by omega) ALG.out).mono ?_
              rintro e0 w11 ⟨vG, HG, RG, rfl, hcG, hbG⟩
              obtain ⟨AG, cG, rfl, _, _, hgr⟩ := hcG.rdr (fun j hj v hv => by rw [HX0.out j (HFF.out j hj)]; rw [HRL.out] at hv; exact XLT.out j hj v hv)
              have G11 := Lib.hid hgr
              have GL : Hid (∀ i, i < k + 3 → (HG i).2.1 = n) := fun i hi => by rw [hcG.len hi]; exact HRL.out
              have X11 := Lib.hid (X8r.out.below hbG HS6r.out)
              have LT2 := Lib.hid (LTw.out.trans (hbG.mono LTw.out.size))
              have HS611 : Hid (w6.heap.size ≤ w11.heap.size) := Nat.le_trans HS6r.out hbG.size
              have HK3 : Hid (k + 3 ≤ maxLen) := by show k + 3 ≤ maxLen; unfold maxLen; omega
              have GX : Hid (∀ i, i < k + 3 → ∀ v, v < n → XG i v = withP k x i v) := fun i hi v hv => by rw [HX0.out i (HFF.out i hi)]
              clear hcG hbG hgr
              go_wp2_with fail
              refine (same_yes (k + 3) _ c6 _ _ _ A6 _ _ _ _ _ _ _ _ _ G11.out X11.out (fun i hi => ⟨by rw [HL6.out i hi]; exact GL.out i hi, fun v hv => GX.out i hi v (by rw [← GL.out i hi]; exact hv)⟩) HK3.out).mono ?_
              rintro e0 w12 ⟨rfl, nq, rfl⟩
              have LN := Lib.hid (below_drewN LT2.out nq)
              have X12 := Lib.hid (X11.out.drewN nq)
              by_cases hk2 : k < 2
              · have t5 : ((k : Int) + 3 < 5) = True := by simp; omega
                go_wp2_with fail
                go_ret
                exact ⟨rfl, LN.out⟩
              · have t5 : ((k : Int) + 3 < 5) = False := by simp; omega
                go_wp2_with fail
                obtain ⟨W13, hW13⟩ : ∃ W13, W13 = (w11.drewN nq).alloc (.cells #[.int .i64 0, .int .i64 1, .int .i64 2, .int .i64 3] 3) := ⟨_, rfl⟩
                have Z13 := rdz_four (w11.drewN nq)
                rw [← hW13] at Z13 ⊢
                have L13 : Hid (Below (w11.drewN nq).heap.size (w11.drewN nq) W13) := by rw [hW13]; exact (Below.refl _ _).alloc (Nat.le_refl _) _
                have Z13' := Lib.hid Z13
                have X13 := Lib.hid (X12.out.below L13.out (show w6.heap.size ≤ (w11.drewN nq).heap.size from HS611.out))
                clear hW13 Z13
                refine (rebuild_err (k + 3) c6 4 4 A6 _ 4 W13 (by decide) (fault_many (k + 3) c6 _ 4 4 _ 4 A6 _ ra6 rl6 rc6 (withP k x) _ W13 X13.out Z13'.out (by omega) (by unfold maxLen; omega) (rise_four (by omega)) ⟨by omega, fun j hj => rfl, fun h => absurd h (by omega)⟩ (by omega) (by omega) (by omega) (by omega) (by omega) (by omega) ⟨by rw [HL6.out 4 (by omega)]; exact hn1, by rw [HL6.out 4 (by omega)]; exact hn2, fun i hi _ => by rw [HL6.out i hi, HL6.out 4 (by omega)]⟩)).mono ?_
                rintro e0 w14 ⟨rfl, rfl⟩
                go_wp2_with fail
                go_ret
                exact ⟨rfl, LN.out.trans (L13.out.mono (show w.heap.size ≤ (w11.drewN nq).heap.size from Nat.le_trans LT2.out.size (Nat.le_refl _)))⟩
            · have hqp : 0 < q := by omega
              obtain ⟨A9, c9, hv9, hc9, hrd9, _⟩ := own_ints2 B2.out
              subst hv9
              rw [← hq] at hc9 hrd9 ⊢
              have hc9m : c9 ≤ maxLen := by
                rcases B2.out.2 with ⟨e, _⟩ | ⟨g', cap, cur, e, _, _, _, h3, _⟩
                · injection e with _ _ e; omega
                · injection e with _ _ e; rw [e]; exact h3
              obtain ⟨bq, hbq⟩ : ∃ bq : Nat → Int, bq = fun i => (((trueL f (k + 3)).getD i 0 : Nat) : Int) := ⟨_, rfl⟩
              rw [← hbq] at hrd9
              have hbe : ∀ i, bq i = (((trueL f (k + 3)).getD i 0 : Nat) : Int) := fun i => by rw [hbq]
              have RI : Hid (Rise q bq ((k + 3 : Nat) : Int)) := fun i hi => by
                have h1 := HTF.out.1 i (by omega)
                refine ⟨?_, by rw [hbe]; omega⟩
                unfold prv
                by_cases e : i = 0
                · rw [if_pos e, hbe]; omega
                · have h2 := HTF.out.2.1 (i - 1) i (by omega) (by omega)
                  rw [if_neg e, hbe, hbe]; omega
              have hisB : ∀ i, i < k + 3 → isB q bq i = f i := fun i hi => by
                cases h : f i
                · refine isB_false fun y hy e => ?_
                  have h1 := HTF.out.1 y (by omega)
                  rw [hbe] at e
                  rw [show (trueL f (k + 3)).getD y 0 = i by omega, h] at h1
                  cases h1.2
                · obtain ⟨y, hy, e⟩ := HTF.out.2.2 i hi h
                  exact isB_true (j := y) (by omega) (by rw [hbe, e])
              obtain ⟨f0, hf0⟩ := first_of q bq
              have hf0k : f0 < k + 3 := by have := hf0.1; omega
              have hff0 : f f0 = false := by
                rw [← hisB f0 hf0k]
                refine isB_false fun y hy e => ?_
                by_cases e1 : y < f0
                · have := hf0.2.1 y e1; omega
                · have h3 := RI.out.ge f0 (by omega)
                  by_cases e2 : y = f0
                  · subst e2; exact hf0.2.2 hy e
                  · have h4 := RI.out.lt (show f0 < y by omega) hy
                    omega
              have hrl : (HD f0).2.1 = n := HLN.out f0 hf0k hff0
              have HRL := Lib.hid hrl
              have ALG : Hid (AlikeB (k + 3) q ((HD f0).2.1) bq (fun i => (HD i).2.1)) := ⟨by rw [hrl]; exact hn1, by rw [hrl]; exact hn2, fun i hi hnb => by
                have h : f i = false := by rw [← hisB i hi]; exact isB_false hnb
                rw [hrl]
                exact HLN.out i hi h⟩
              have HGD : Hid (∀ i, i < k + 3 → isB q bq i = false → ∀ v, v < (HD f0).2.1 → XG i v = withP k x i v) := fun i hi h v hv => by
                rw [hisB i hi] at h
                rw [HX0.out i h]
              have HDL : Hid (∀ i, i < k + 3 → ∀ v, v < (HD f0).2.1 → withP k x i v < 256) := fun i hi v hv => by rw [hrl] at hv; exact XLT.out i hi v hv
              have HPR : Hid (∀ j, j < 3 → ∀ v, v < (HD f0).2.1 → withP k x (k + j) v = M.par k j (withP k x) v) := fun j hj v hv => by
                rw [par_withP]
                unfold withP
                rw [if_neg (by omega), show k + j - k = j by omega]
              have HRD := Lib.hid hrd9
              have HF0 := Lib.hid hf0
              have HC9 := Lib.hid hc9m
              have hne : ((q : Int) == (k : Int) + 3) = false := by rw [beq_eq_false_iff_ne]; omega
              clear hbe hbq hisB hf0 hff0 hrl hrd9 hc9m B2 V2 hq hq0
              go_wp2_with fail
              refine (rebuild_some k q cg wr.heap.size c9 wr.heap.size f0 (some ⟨gg, 0, none⟩) A9 _ _ _ XG (withP k x) bq wr GRR.out HRD.out (Nat.le_refl _) (Nat.le_refl _) hc9 HC9.out RI.out HF0.out hf0k hk0 hk13 hqp hq3 ALG.out HDL.out HPR.out HGD.out).mono ?_
              rintro e0 w11 ⟨vG, HG, RG, XXG, rfl, hcG, hdG, hbG⟩
              obtain ⟨AG, cG, rfl, _, _, hgr⟩ := hcG.rdr (fun j hj v hv => by rw [hdG j hj v hv]; rw [HRL.out] at hv; exact XLT.out j hj v hv)
              have G11 := Lib.hid hgr
              have GL : Hid (∀ i, i < k + 3 → (HG i).2.1 = n) := fun i hi => by rw [hcG.len hi]; exact HRL.out
              have X11 := Lib.hid (X8r.out.below hbG HS6r.out)
              have LT2 := Lib.hid (LTw.out.trans (hbG.mono LTw.out.size))
              have HS611 : Hid (w6.heap.size ≤ w11.heap.size) := Nat.le_trans HS6r.out hbG.size
              have HK3 : Hid (k + 3 ≤ maxLen) := by show k + 3 ≤ maxLen; unfold maxLen; omega
              have GX : Hid (∀ i, i < k + 3 → ∀ v, v < n → XXG i v = withP k x i v) := fun i hi v hv => hdG i hi v (by rw [HRL.out]; exact hv)
              clear hcG hbG hgr hdG
              go_wp2_with fail
              refine (same_yes (k + 3) _ c6 _ _ _ A6 _ _ _ _ _ _ _ _ _ G11.out X11.out (fun i hi => ⟨by rw [HL6.out i hi]; exact GL.out i hi, fun v hv => GX.out i hi v (by rw [← GL.out i hi]; exact hv)⟩) HK3.out).mono ?_
              rintro e0 w12 ⟨rfl, nq, rfl⟩
              have LN := Lib.hid (below_drewN LT2.out nq)
              have X12 := Lib.hid (X11.out.drewN nq)
              by_cases hk2 : k < 2
              · have t5 : ((k : Int) + 3 < 5) = True := by simp; omega
                go_wp2_with fail
                go_ret
                exact ⟨rfl, LN.out⟩
              · have t5 : ((k : Int) + 3 < 5) = False := by simp; omega
                go_wp2_with fail
                obtain ⟨W13, hW13⟩ : ∃ W13, W13 = (w11.drewN nq).alloc (.cells #[.int .i64 0, .int .i64 1, .int .i64 2, .int .i64 3] 3) := ⟨_, rfl⟩
                have Z13 := rdz_four (w11.drewN nq)
                rw [← hW13] at Z13 ⊢
                have L13 : Hid (Below (w11.drewN nq).heap.size (w11.drewN nq) W13) := by rw [hW13]; exact (Below.refl _ _).alloc (Nat.le_refl _) _
                have Z13' := Lib.hid Z13
                have X13 := Lib.hid (X12.out.below L13.out (show w6.heap.size ≤ (w11.drewN nq).heap.size from HS611.out))
                clear hW13 Z13
                refine (rebuild_err (k + 3) c6 4 4 A6 _ 4 W13 (by decide) (fault_many (k + 3) c6 _ 4 4 _ 4 A6 _ ra6 rl6 rc6 (withP k x) _ W13 X13.out Z13'.out (by omega) (by unfold maxLen; omega) (rise_four (by omega)) ⟨by omega, fun j hj => rfl, fun h => absurd h (by omega)⟩ (by omega) (by omega) (by omega) (by omega) (by omega) (by omega) ⟨by rw [HL6.out 4 (by omega)]; exact hn1, by rw [HL6.out 4 (by omega)]; exact hn2, fun i hi _ => by rw [HL6.out i hi, HL6.out 4 (by omega)]⟩)).mono ?_
                rintro e0 w14 ⟨rfl, rfl⟩
                go_wp2_with fail
                go_ret
                exact ⟨rfl, LN.out.trans (L13.out.mono (show w.heap.size ≤ (w11.drewN nq).heap.size from Nat.le_trans LT2.out.size (Nat.le_refl _)))⟩
end parityHeals
end Go.Proofs.Ytigclcnkmbokhaa
