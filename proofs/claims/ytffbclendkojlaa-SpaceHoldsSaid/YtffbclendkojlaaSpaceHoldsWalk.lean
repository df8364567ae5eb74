/-
  The walk of 'SpaceHolds': no cell is taken that is held, or that was given back and isn't settled; counts add up.
-/
import Derived.Test.YtffbclendkojlaaSpcHeld
import Derived.Test.YtffbclendkojlaaGenArgs
namespace Go.Proofs.Ytffbclendkojlaa
open Go Go.RowKit
set_option maxRecDepth 100000
set_option linter.unusedVariables false
namespace spaceHolds
open Sp
theorem rowL_cnt {n a : Nat} : ∀ {l : List Rg}, rowL n l = some a → n ≤ cnt l
  | [], h => by cases h
  | r :: l, h => by
    unfold rowL at h
    show n ≤ (r.2 - r.1) + cnt l
    by_cases hx : n ≤ r.2 - r.1
    · omega
    · rw [if_neg hx] at h
      have := rowL_cnt h
      omega
def FlagIs (f : Nat → Int) (a c : Nat) (bb : Bool) : Prop := bb = true ↔ allB f 1 a c
set_option maxHeartbeats 25600000 in
theorem walk (a0 : Int) (A : Option Addr) (l : List (Int × Int × Int)) (cap : Nat) (w : World) (h0 : (Lit.int .i64 a0).wf = true) (hrd : Gr.RdG 3 Gr.cs3 w A l) (hz : ∀ y ∈ l, Gr.Z64' y.1 ∧ Gr.Z64' y.2.1 ∧ Gr.Z64' y.2.2) (hlc : l.length ≤ cap) (hcm : cap ≤ maxLen) (hn0 : A = none → cap = 0) :
    Calls Try.prog 6 #[.int .i64 a0, .slice A l.length cap] w fun e w' => e = .returned (.bool true) ∧ Below w.heap.size w w' := by
  unfold maxLen at hcm
  have HRD := Lib.hid hrd
  obtain ⟨nl, hnl⟩ : ∃ nl, nl = l.length := ⟨_, rfl⟩
  have HNL := Lib.hid hnl
  rw [← hnl] at hlc ⊢
  clear h0 hrd hz hn0 hnl
  go_enter Try.func6, Try.ntmps6
  go_wp2_with fail
  refine (known_any _).mono ?_
  rintro e w1 ⟨rfl, b1⟩
  have L1 := Lib.hid b1
  clear b1
  obtain ⟨n0, hn0, hn0b⟩ := umodN a0 70 (by omega) (by omega)
  obtain ⟨C, hC⟩ : ∃ C, C = 1 + n0 := ⟨_, rfl⟩
  have hC1 : 1 ≤ C := by omega
  have hC2 : C ≤ 70 := by omega
  have hq0 : wrap64 (1 + wrap64 ((IntKind.u64.wrap a0).tmod 70)) = (C : Int) := by
    rw [show (70 : Int) = ((70 : Nat) : Int) from rfl, hn0]
    unfold wrap64
    omega
  clear hn0 hC hn0b
  go_upto_region 4 with (fail)
  rw [hq0]
  clear hq0
  have HMK := Lib.hid (fun w : World => Ir.make_ints C (by omega) w (C : Int) rfl)
  go_wp2_with fail
  refine (newnil_at w1 C hC1 (by omega)).mono ?_
  rintro e w2 ⟨b, m, rfl, s2, b2⟩
  obtain ⟨B, hB⟩ : ∃ B, B = w1.heap.size := ⟨_, rfl⟩
  rw [← hB] at s2 b2
  have HB : Hid (w.heap.size ≤ B) := Lib.hid (by rw [hB]; exact L1.out.size)
  obtain ⟨gh, hgh⟩ : ∃ gh, gh = w2.heap.size := ⟨_, rfl⟩
  obtain ⟨w3, hw3⟩ : ∃ w3, w3 = w2.alloc (.cells (Ir.intA C (fun _ => 0)) 3) := ⟨_, rfl⟩
  have hb3 : Below w2.heap.size w2 w3 := by rw [hw3]; exact (Below.refl _ _).alloc (Nat.le_refl _) _
  have HSO : Hid (SpO (fun g => B ≤ g ∧ g < gh) w3 b m (allFree C)) := Lib.hid (by
    have h1 := s2.o
    rw [← hgh] at h1
    exact h1.keep hb3.size fun g hg => hb3.block g (by rw [← hgh]; exact hg.2))
  have HBK : Hid (Blk w3 gh 3 (Ir.intA C (fun _ => 0))) := Lib.hid (by rw [hw3, hgh]; exact Blk.new _ _ _)
  have hgB : B ≤ gh := by rw [hgh]; exact s2.1
  have HGB := Lib.hid hgB
  have HNO : Hid (¬ (fun g => B ≤ g ∧ g < gh) gh ∧ gh < w3.heap.size ∧ ∀ g, (fun g => B ≤ g ∧ g < gh) g → B ≤ g) := Lib.hid ⟨fun h => by have := h.2; omega, HBK.out.lt, fun g hg => hg.1⟩
  have HTL : Hid (Tells (fun _ => 0) (allFree C)) := Lib.hid (Tells.start C)
  have HCK : Hid ((allFree C).cells = C ∧ (allFree C).kept = 0) := Lib.hid ⟨rfl, rfl⟩
  have L2 := L1.out.trans (b2.mono HB.out)
  have LW := Lib.hid (L2.trans (hb3.mono L2.size))
  have mk := HMK.out w2
  clear s2 b2 hB hb3 L2 HMK hgB
  go_upto_region 8 with (fail)
  rw [← hgh, ← hw3]
  clear mk hw3 hgh
  have hz5 : ¬ (C = 0) := by omega
  have hz6 : (C == 0) = false := by simp; omega
  have hz2 : ((C : Int) == 0) = false := by simp; omega
  go_wp2_with fail
  go_loopw [8] (fun y wr => ∃ (i : Nat) (f : Nat → Int) (s : SS) (O : Nat → Prop), i ≤ nl ∧ i ≤ 100 ∧ y = .int .i64 (i : Int) ∧ Hid (SpO O wr b m s) ∧ Hid (¬ O gh ∧ gh < wr.heap.size ∧ ∀ g, O g → B ≤ g) ∧ Hid (Blk wr gh 3 (Ir.intA C f)) ∧ Hid (Tells f s) ∧ Hid (s.cells = C ∧ s.kept = 0) ∧ Hid (Below w.heap.size w wr)) (fun y _ => 100 - (intOf y).toNat)
  case atStart => exact ⟨0, _, _, _, by omega, by omega, rfl, HSO, HNO, HBK, HTL, HCK, LW⟩
  case round =>
    clear HSO HNO HBK HTL HCK LW
    obtain ⟨wo, hwo⟩ : ∃ wo : World, wo = wr := ⟨_, rfl⟩
    subst hwo
    obtain ⟨i, f, s, O, hi, hi2, rfl, HSO, HNO, HBK, HTL, HCK, LW⟩ := hrel
    by_cases hlt : i < nl ∧ i < 100
    · obtain ⟨hlt1, hlt2⟩ := hlt
      have i1 : (i : Int) < (nl : Int) := by omega
      have i2 : (i : Int) < 100 := by omega
      obtain ⟨r, hr⟩ : ∃ r, r = l[i]'(by have := HNL.out; omega) := ⟨_, rfl⟩
      have hri : l[i]? = some r := by rw [hr]; exact List.getElem?_eq_getElem _
      obtain ⟨g, o, hA, hgb, hcells⟩ := (HRD.out.below LW.out) i r hri
      obtain ⟨kd, fr, nn⟩ := r
      have k0 := hcells 0 (.int .i64 kd) rfl
      have k1 := hcells 1 (.int .i64 fr) rfl
      have k2 := hcells 2 (.int .i64 nn) rfl
      rw [Nat.add_zero] at k0
      subst hA
      clear hri hr hgb hcells
      obtain ⟨m0, hm0, hm0b⟩ := umodN nn 9 (by omega) (by omega)
      obtain ⟨n, hn⟩ : ∃ n, n = 1 + m0 := ⟨_, rfl⟩
      have hn1 : 1 ≤ n := by omega
      have hn2 : n ≤ 9 := by omega
      have hq9 : wrap64 (1 + wrap64 ((IntKind.u64.wrap nn).tmod 9)) = (n : Int) := by
        rw [show (9 : Int) = ((9 : Nat) : Int) from rfl, hm0]
        unfold wrap64
        omega
      clear hm0 hn hm0b
      obtain ⟨x0, hx0, hx0b⟩ := umodN fr C (by omega) (by omega)
      go_upto_region 12 with (fail)
      rw [hq9]
      clear hq9 k2
      go_upto_region 13 with (fail)
      rw [hx0]
      clear hx0 k1
      have HGD : Hid (Sp.Good s) := Lib.hid (by obtain ⟨_, _, _, F, V, h1, _⟩ := HSO.out; exact h1.good)
      by_cases hk1 : kd = 1
      · subst hk1
        have HT := Lib.hid (take_o HSO.out (n : Int) (by omega))
        cases hrow : rowL n (s.S 0) with
        | none =>
          have ht : takeS s (n : Int) = ((0, 5), s) := by rw [takeS_nat s n hn1, hrow]
          rw [ht] at HT
          clear ht hrow
          go_wp2_with fail
          refine HT.out.mono ?_
          rintro e w4 ⟨rfl, s4, f4⟩
          have b4 := f4.below (B := w.heap.size) (fun g hg => by have := HNO.out.2.2 g hg; have := HB.out; omega) LW.out.size
          have HBK : Hid (Blk w4 gh 3 (Ir.intA C f)) := Lib.hid ((f4.block gh HNO.out.2.1 HNO.out.1).trans HBK.out)
          have HNO : Hid (¬ More O wo w4 gh ∧ gh < w4.heap.size ∧ ∀ g, More O wo w4 g → B ≤ g) := Lib.hid ⟨More.not HNO.out.1 HNO.out.2.1, Nat.lt_of_lt_of_le HNO.out.2.1 f4.size, fun g hg => hg.elim (HNO.out.2.2 g) (fun h => by have := HNO.out.2.1; have := HGB.out; omega)⟩
          have HSO := Lib.hid s4
          have LW := Lib.hid (LW.out.trans b4)
          obtain ⟨O2, hO2⟩ : ∃ O2, O2 = More O wo w4 := ⟨_, rfl⟩
          rw [← hO2] at HSO HNO
          clear hO2 s4 f4 b4 HT
          go_wp2_with fail
          go_loopw [13] (fun y wq => y = .int .i64 0 ∧ wq = w4) (fun _ _ => 0)
          case atStart => exact ⟨rfl, rfl⟩
          case round =>
            obtain ⟨rfl, hwq⟩ := hrel
            rw [hwq]
            clear hwq
            have HFREE := Lib.hid (HTL.out.free HGD.out)
            rw [HCK.out.1] at HFREE
            go_wp2_with fail
            go_loopw [18, 19] (fun u y wq => ∃ c : Nat, c ≤ C ∧ y = .int .i64 (c : Int) ∧ u = .int .i64 ((numB (fun c => f c == 0) c : Nat) : Int) ∧ wq = w4) (fun _ y _ => C - (intOf y).toNat)
            case atStart => exact ⟨0, by omega, rfl, rfl, rfl⟩
            case round =>
              obtain ⟨c, hc, rfl, rfl, hwq⟩ := hrel
              rw [hwq]
              clear hwq
              have hnb := numB_le (fun c => f c == 0) c
              by_cases hlt : c < C
              · have t1 : (c : Int) < (C : Int) := by omega
                have hcell := HBK.out.cell c
                rw [Ir.intA_get hlt] at hcell
                obtain ⟨q, hq⟩ : ∃ q, q = f c := ⟨_, rfl⟩
                rw [← hq] at hcell
                have HQ := Lib.hid hq
                clear hq
                by_cases hz : q = 0
                · subst hz
                  have HN : Hid (numB (fun c => f c == 0) (c + 1) = numB (fun c => f c == 0) c + 1) := Lib.hid (by
                    show numB _ c + (if (f c == 0) = true then 1 else 0) = _
                    rw [← HQ.out]; rfl)
                  obtain ⟨nb, hnb2⟩ : ∃ nb, nb = numB (fun c => f c == 0) c := ⟨_, rfl⟩
                  rw [← hnb2] at hnb HN ⊢
                  clear hnb2
                  go_wp2_with fail
                  go_roundw
                  case rel => exact ⟨c + 1, by omega, by go_num, by rw [HN.out]; go_num, by trivial⟩
                  case measure => simp [intOf]; omega
                · have hz1 : (q == 0) = false := by simp [hz]
                  have HN : Hid (numB (fun c => f c == 0) (c + 1) = numB (fun c => f c == 0) c) := Lib.hid (by
                    show numB _ c + (if (f c == 0) = true then 1 else 0) = _
                    rw [← HQ.out, hz1]; rfl)
                  obtain ⟨nb, hnb2⟩ : ∃ nb, nb = numB (fun c => f c == 0) c := ⟨_, rfl⟩
                  rw [← hnb2] at hnb HN ⊢
                  clear hnb2
                  go_wp2_with fail
                  go_roundw
                  case rel => exact ⟨c + 1, by omega, by go_num, by rw [HN.out], by trivial⟩
                  case measure => simp [intOf]; omega
              · obtain rfl : c = C := by omega
                have t1 : ¬ ((c : Int) < (c : Int)) := by omega
                clear hlt
                have HFO := Lib.hid (free_o HSO.out)
                rw [HFREE.out, HCK.out.2] at HFO
                obtain ⟨nb, hnb2⟩ : ∃ nb, nb = numB (fun x => f x == 0) c := ⟨_, rfl⟩
                rw [← hnb2] at HFO hnb ⊢
                rw [show ((nb : Nat) : Int) - ((0 : Nat) : Int) = (nb : Int) by omega] at HFO
                clear hnb2
                go_wp2_with fail
                refine HFO.out.mono ?_
                rintro e wf ⟨rfl, sf, bf⟩
                have SF := Lib.hid sf
                have LF := Lib.hid (LW.out.trans (bf.mono LW.out.size))
                have BKF := Lib.hid (Blk_new HBK.out bf)
                have NOF : Hid (¬ O2 gh ∧ gh < wf.heap.size ∧ ∀ g, O2 g → B ≤ g) := Lib.hid ⟨HNO.out.1, Nat.lt_of_lt_of_le HNO.out.2.1 bf.size, HNO.out.2.2⟩
                clear sf bf HFO
                go_wp2_with fail
                go_roundw
                case rel => exact ⟨i + 1, _, _, _, by omega, by omega, by go_num, SF, NOF, BKF, HTL, HCK, LF⟩
                case measure => simp [intOf]; omega
        | some x =>
          obtain ⟨hh, hxc⟩ := row_has HGD.out hn1 hrow
          have ht : takeS s (n : Int) = (((x : Int), 0), s.mv 0 1 x (x + n)) := by
            rw [takeS_nat s n hn1, hrow]
            dsimp only
            have := rowL_cnt hrow
            rw [if_pos (by rw [HCK.out.2]; omega)]
          rw [ht] at HT
          have hxb : x + n ≤ C := by rw [HCK.out.1] at hxc; exact hxc
          have HZ : Hid (∀ c, x ≤ c → c < x + n → f c = 0) := Lib.hid fun c h1 h2 => (HTL.out.iff HGD.out (k := 0) (by rw [HCK.out.1]; omega) (by omega)).2 ((Ris.has (by omega) (HGD.out.ris 0 (by omega))).1 hh c h1 h2)
          have HTL2 : Hid (Tells (fset f x (x + n) ((1 : Nat) : Int)) (s.mv 0 1 x (x + n))) := Lib.hid (HTL.out.mv HGD.out (by omega) (by omega) (by omega) (by omega) hh)
          have HGD2 := Lib.hid (HGD.out.mv (f := 0) (t := 1) (by omega) (by omega) (by omega) (show x < x + n by omega) hh)
          have HCK2 : Hid ((s.mv 0 1 x (x + n)).cells = C ∧ (s.mv 0 1 x (x + n)).kept = 0) := HCK
          obtain ⟨s', hs'⟩ : ∃ s', s' = s.mv 0 1 x (x + n) := ⟨_, rfl⟩
          rw [← hs'] at HT HTL2 HGD2 HCK2
          clear ht hrow hh hxc hs' HTL HGD HCK
          go_wp2_with fail
          refine HT.out.mono ?_
          rintro e w4 ⟨rfl, s4, f4⟩
          have b4 := f4.below (B := w.heap.size) (fun g hg => by have := HNO.out.2.2 g hg; have := HB.out; omega) LW.out.size
          have HBK : Hid (Blk w4 gh 3 (Ir.intA C f)) := Lib.hid ((f4.block gh HNO.out.2.1 HNO.out.1).trans HBK.out)
          have HNO : Hid (¬ More O wo w4 gh ∧ gh < w4.heap.size ∧ ∀ g, More O wo w4 g → B ≤ g) := Lib.hid ⟨More.not HNO.out.1 HNO.out.2.1, Nat.lt_of_lt_of_le HNO.out.2.1 f4.size, fun g hg => hg.elim (HNO.out.2.2 g) (fun h => by have := HNO.out.2.1; have := HGB.out; omega)⟩
          have HSO := Lib.hid s4
          have LW := Lib.hid (LW.out.trans b4)
          obtain ⟨O2, hO2⟩ : ∃ O2, O2 = More O wo w4 := ⟨_, rfl⟩
          rw [← hO2] at HSO HNO
          clear s4 f4 b4 HT hO2
          have HBK : Hid (Blk w4 gh 3 (Ir.intA C (fset f x x 1))) := by rw [fset_none]; exact HBK
          go_wp2_with fail
          go_loopw [13] (fun y wq => ∃ c : Nat, x ≤ c ∧ c ≤ x + n ∧ y = .int .i64 (c : Int) ∧ Hid (SpO O2 wq b m s') ∧ Hid (¬ O2 gh ∧ gh < wq.heap.size ∧ ∀ g, O2 g → B ≤ g) ∧ Hid (Blk wq gh 3 (Ir.intA C (fset f x c 1))) ∧ Hid (Below w.heap.size w wq)) (fun y _ => x + n - (intOf y).toNat)
          case atStart => exact ⟨x, by omega, by omega, rfl, HSO, HNO, HBK, LW⟩
          case round =>
            clear HSO HNO HBK LW
            obtain ⟨c, hc1, hc2, rfl, HSO, HNO, HBK, LW⟩ := hrel
            by_cases hlt : c < x + n
            · have t1 : (c : Int) < (x : Int) + (n : Int) := by omega
              have t2 : ¬ ((c : Int) < 0) := by omega
              have t3 : ¬ ((C : Int) ≤ (c : Int)) := by omega
              have hcC : c < C := by omega
              have hcell := HBK.out.cell c
              rw [Ir.intA_get hcC, show fset f x c 1 c = 0 from by unfold fset; rw [if_neg (by omega)]; exact HZ.out c hc1 hlt] at hcell
              have hfr := HBK.out.frozen c
              have X := HBK.out.set_ c (.int .i64 1)
              rw [Ir.intA_set hcC, fset_next f hc1] at X
              have HX := Lib.hid X
              have HSO2 := Lib.hid (SpO.keep (w' := wr.setCell ⟨gh, c, none⟩ (.int .i64 1)) HSO.out (by simp [World.setCell]) (fun g hg => Below.heap_setCell _ ⟨gh, c, none⟩ _ g (fun e => HNO.out.1 (by have e2 : g = gh := e; rw [← e2]; exact hg))))
              have LW2 : Hid (Below w.heap.size w (wr.setCell ⟨gh, c, none⟩ (.int .i64 1))) := Lib.hid (LW.out.setCell (p := ⟨gh, c, none⟩) (by have := HB.out; have := HGB.out; show w.heap.size ≤ gh; omega) _)
              have HNO2 : Hid (¬ O2 gh ∧ gh < (wr.setCell ⟨gh, c, none⟩ (.int .i64 1)).heap.size ∧ ∀ g, O2 g → B ≤ g) := Lib.hid ⟨HNO.out.1, by simp [World.setCell]; exact HNO.out.2.1, HNO.out.2.2⟩
              clear X HSO HBK LW HNO
              go_wp2_with fail
              go_roundw
              case rel => exact ⟨c + 1, by omega, by omega, by go_num, HSO2, HNO2, HX, LW2⟩
              case measure => simp [intOf]; omega
            · obtain rfl : c = x + n := by omega
              have t1 : ¬ (((x + n : Nat) : Int) < (x : Int) + (n : Int)) := by omega
              have HTL := HTL2
              have HGD := HGD2
              have HCK := HCK2
              clear hlt HTL2 HGD2 HCK2 HZ
              obtain ⟨f2, hf2⟩ : ∃ f2, f2 = fset f x (x + n) 1 := ⟨_, rfl⟩
              rw [show (((1 : Nat) : Int)) = 1 from rfl, ← hf2] at HTL
              rw [← hf2] at HBK
              clear hf2
              have e1 : (((x + n : Nat) : Nat) : Int) = (x : Int) + (n : Int) := by omega
              have HFREE := Lib.hid (HTL.out.free HGD.out)
              rw [HCK.out.1] at HFREE
              go_wp2_with fail
              go_loopw [18, 19] (fun u y wq => ∃ c : Nat, c ≤ C ∧ y = .int .i64 (c : Int) ∧ u = .int .i64 ((numB (fun c => f2 c == 0) c : Nat) : Int) ∧ wq = wr) (fun _ y _ => C - (intOf y).toNat)
              case atStart => exact ⟨0, by omega, rfl, rfl, rfl⟩
              case round =>
                obtain ⟨c, hc, rfl, rfl, hwq⟩ := hrel
                rw [hwq]
                clear hwq
                have hnb := numB_le (fun c => f2 c == 0) c
                by_cases hlt : c < C
                · have t1 : (c : Int) < (C : Int) := by omega
                  have hcell := HBK.out.cell c
                  rw [Ir.intA_get hlt] at hcell
                  obtain ⟨q, hq⟩ : ∃ q, q = f2 c := ⟨_, rfl⟩
                  rw [← hq] at hcell
                  have HQ := Lib.hid hq
                  clear hq
                  by_cases hz : q = 0
                  · subst hz
                    have HN : Hid (numB (fun c => f2 c == 0) (c + 1) = numB (fun c => f2 c == 0) c + 1) := Lib.hid (by
                      show numB _ c + (if (f2 c == 0) = true then 1 else 0) = _
                      rw [← HQ.out]; rfl)
                    obtain ⟨nb, hnb2⟩ : ∃ nb, nb = numB (fun c => f2 c == 0) c := ⟨_, rfl⟩
                    rw [← hnb2] at hnb HN ⊢
                    clear hnb2
                    go_wp2_with fail
                    go_roundw
                    case rel => exact ⟨c + 1, by omega, by go_num, by rw [HN.out]; go_num, by trivial⟩
                    case measure => simp [intOf]; omega
                  · have hz1 : (q == 0) = false := by simp [hz]
                    have HN : Hid (numB (fun c => f2 c == 0) (c + 1) = numB (fun c => f2 c == 0) c) := Lib.hid (by
                      show numB _ c + (if (f2 c == 0) = true then 1 else 0) = _
                      rw [← HQ.out, hz1]; rfl)
                    obtain ⟨nb, hnb2⟩ : ∃ nb, nb = numB (fun c => f2 c == 0) c := ⟨_, rfl⟩
                    rw [← hnb2] at hnb HN ⊢
                    clear hnb2
                    go_wp2_with fail
                    go_roundw
                    case rel => exact ⟨c + 1, by omega, by go_num, by rw [HN.out], by trivial⟩
                    case measure => simp [intOf]; omega
                · obtain rfl : c = C := by omega
                  have t1 : ¬ ((c : Int) < (c : Int)) := by omega
                  clear hlt
                  have HFO := Lib.hid (free_o HSO.out)
                  rw [HFREE.out, HCK.out.2] at HFO
                  obtain ⟨nb, hnb2⟩ : ∃ nb, nb = numB (fun x => f2 x == 0) c := ⟨_, rfl⟩
                  rw [← hnb2] at HFO hnb ⊢
                  rw [show ((nb : Nat) : Int) - ((0 : Nat) : Int) = (nb : Int) by omega] at HFO
                  clear hnb2
                  go_wp2_with fail
                  refine HFO.out.mono ?_
                  rintro e wf ⟨rfl, sf, bf⟩
                  have SF := Lib.hid sf
                  have LF := Lib.hid (LW.out.trans (bf.mono LW.out.size))
                  have BKF := Lib.hid (Blk_new HBK.out bf)
                  have NOF : Hid (¬ O2 gh ∧ gh < wf.heap.size ∧ ∀ g, O2 g → B ≤ g) := Lib.hid ⟨HNO.out.1, Nat.lt_of_lt_of_le HNO.out.2.1 bf.size, HNO.out.2.2⟩
                  clear sf bf HFO
                  go_wp2_with fail
                  go_roundw
                  case rel => exact ⟨i + 1, _, _, _, by omega, by omega, by go_num, SF, NOF, BKF, HTL, HCK, LF⟩
                  case measure => simp [intOf]; omega
      · have q1 : (kd == 1) = false := by simp [hk1]
        by_cases hk2 : kd = 2
        · subst hk2
          clear q1
          have HGV := Lib.hid (give_o HSO.out (x0 : Int) (n : Int) (by omega) (by omega) (by omega) (by omega))
          by_cases hfit : x0 + n ≤ C
          · have t0 : (x0 : Int) ≤ (C : Int) - (n : Int) := by omega
            have FL0 : Hid (FlagIs f x0 x0 true) := Lib.hid ⟨fun _ c h1 h2 => by omega, fun _ => rfl⟩
            go_wp2_with fail
            go_loopw [14, 15] (fun u y wq => ∃ (c : Nat) (bb : Bool), x0 ≤ c ∧ c ≤ x0 + n ∧ y = .int .i64 (c : Int) ∧ u = .bool bb ∧ Hid (FlagIs f x0 c bb) ∧ wq = wo) (fun _ y _ => x0 + n - (intOf y).toNat)
            case atStart => exact ⟨x0, true, by omega, by omega, rfl, rfl, FL0, rfl⟩
            case round =>
              clear FL0
              obtain ⟨c, bb, hc1, hc2, rfl, rfl, FL, hwq⟩ := hrel
              rw [hwq]
              clear hwq
              by_cases hgo : c < x0 + n ∧ bb = true
              · obtain ⟨hgo1, rfl⟩ := hgo
                have t1 : (c : Int) < (x0 : Int) + (n : Int) := by omega
                have hcC : c < C := by omega
                have hcell := HBK.out.cell c
                rw [Ir.intA_get hcC] at hcell
                obtain ⟨q, hq⟩ : ∃ q, q = f c := ⟨_, rfl⟩
                rw [← hq] at hcell
                have HQ := Lib.hid hq
                clear hq
                by_cases hz : q = 1
                · subst hz
                  have FL2 : Hid (FlagIs f x0 (c + 1) true) := Lib.hid ⟨fun _ d h1 h2 => by
                    by_cases e : d = c
                    · subst e; exact HQ.out.symm
                    · exact FL.out.1 rfl d h1 (by omega), fun _ => rfl⟩
                  clear FL HQ
                  go_wp2_with fail
                  go_roundw
                  case rel => exact ⟨c + 1, true, by omega, by omega, by go_num, rfl, FL2, by trivial⟩
                  case measure => simp [intOf]; omega
                · have hz1 : (q == 1) = false := by simp [hz]
                  have FL2 : Hid (FlagIs f x0 (c + 1) false) := Lib.hid ⟨(fun h => by cases h), fun h => absurd (HQ.out.trans (h c hc1 (by omega))) hz⟩
                  clear FL HQ
                  go_wp2_with fail
                  go_roundw
                  case rel => exact ⟨c + 1, false, by omega, by omega, by go_num, rfl, FL2, by trivial⟩
                  case measure => simp [intOf]; omega
              · have FLA : Hid (FlagIs f x0 (x0 + n) bb) := Lib.hid (by
                  by_cases e : c = x0 + n
                  · rw [← e]; exact FL.out
                  · have hbf : bb = false := by cases bb with
                      | true => exact absurd ⟨by omega, rfl⟩ hgo
                      | false => rfl
                    subst hbf
                    exact ⟨(fun h => by cases h), fun h => FL.out.2 fun d h1 h2 => h d h1 (by omega)⟩)
                have hways : (bb = false ∧ (c : Int) < (x0 : Int) + (n : Int)) ∨ (bb = false ∧ ¬ (c : Int) < (x0 : Int) + (n : Int)) ∨ (bb = true ∧ ¬ (c : Int) < (x0 : Int) + (n : Int)) := by
                  cases bb with
                  | false => by_cases hx : (c : Int) < (x0 : Int) + (n : Int)
                             · exact .inl ⟨rfl, hx⟩
                             · exact .inr (.inl ⟨rfl, hx⟩)
                  | true => exact .inr (.inr ⟨rfl, fun hx => hgo ⟨by omega, rfl⟩⟩)
                have hgv : giveS s (x0 : Int) (n : Int) = if hasL x0 (x0 + n) (s.S 1) then (0, s.mv 1 2 x0 (x0 + n)) else (7, s) := by
                  unfold giveS
                  rw [if_neg (by rw [HCK.out.1]; omega), Int.toNat_natCast, Int.toNat_natCast]
                have hhas := HTL.out.has HGD.out (k := 1) (a := x0) (e := x0 + n) (by omega) (by omega) (by rw [HCK.out.1]; exact hfit)
                clear hgo FL
                rcases hways with ⟨rfl, hx⟩ | hways
                rotate_left
                rcases hways with ⟨rfl, hx⟩ | ⟨rfl, hx⟩
                rotate_left
                · have hyes : hasL x0 (x0 + n) (s.S 1) = true := hhas.2 (FLA.out.1 rfl)
                  rw [hgv, if_pos hyes] at HGV
                  have HTL2 : Hid (Tells (fset f x0 (x0 + n) ((2 : Nat) : Int)) (s.mv 1 2 x0 (x0 + n))) := Lib.hid (HTL.out.mv HGD.out (by omega) (by omega) (by omega) (by omega) hyes)
                  have HGD2 := Lib.hid (HGD.out.mv (f := 1) (t := 2) (by omega) (by omega) (by omega) (show x0 < x0 + n by omega) hyes)
                  have HCK2 : Hid ((s.mv 1 2 x0 (x0 + n)).cells = C ∧ (s.mv 1 2 x0 (x0 + n)).kept = 0) := HCK
                  obtain ⟨s', hs'⟩ : ∃ s', s' = s.mv 1 2 x0 (x0 + n) := ⟨_, rfl⟩
                  rw [← hs'] at HGV HTL2 HGD2 HCK2
                  clear hgv hhas hyes hs' HTL HGD HCK FLA
                  go_wp2_with fail
                  refine HGV.out.mono ?_
                  rintro e w4 ⟨rfl, s4, f4⟩
                  have b4 := f4.below (B := w.heap.size) (fun g hg => by have := HNO.out.2.2 g hg; have := HB.out; omega) LW.out.size
                  have HBK : Hid (Blk w4 gh 3 (Ir.intA C f)) := Lib.hid ((f4.block gh HNO.out.2.1 HNO.out.1).trans HBK.out)
                  have HNO : Hid (¬ More O wo w4 gh ∧ gh < w4.heap.size ∧ ∀ g, More O wo w4 g → B ≤ g) := Lib.hid ⟨More.not HNO.out.1 HNO.out.2.1, Nat.lt_of_lt_of_le HNO.out.2.1 f4.size, fun g hg => hg.elim (HNO.out.2.2 g) (fun h => by have := HNO.out.2.1; have := HGB.out; omega)⟩
                  have HSO := Lib.hid s4
                  have LW := Lib.hid (LW.out.trans b4)
                  obtain ⟨O2, hO2⟩ : ∃ O2, O2 = More O wo w4 := ⟨_, rfl⟩
                  rw [← hO2] at HSO HNO
                  clear s4 f4 b4 HGV hO2
                  have HBK : Hid (Blk w4 gh 3 (Ir.intA C (fset f x0 x0 2))) := by rw [fset_none]; exact HBK
                  go_wp2_with fail
                  go_loopw [16] (fun y wq => ∃ c : Nat, x0 ≤ c ∧ c ≤ x0 + n ∧ y = .int .i64 (c : Int) ∧ Hid (SpO O2 wq b m s') ∧ Hid (¬ O2 gh ∧ gh < wq.heap.size ∧ ∀ g, O2 g → B ≤ g) ∧ Hid (Blk wq gh 3 (Ir.intA C (fset f x0 c 2))) ∧ Hid (Below w.heap.size w wq)) (fun y _ => x0 + n - (intOf y).toNat)
                  case atStart => exact ⟨x0, by omega, by omega, rfl, HSO, HNO, HBK, LW⟩
                  case round =>
                    clear HSO HNO HBK LW
                    obtain ⟨c, hc1, hc2, rfl, HSO, HNO, HBK, LW⟩ := hrel
                    by_cases hlt : c < x0 + n
                    · have t1 : (c : Int) < (x0 : Int) + (n : Int) := by omega
                      have hcC : c < C := by omega
                      have hcell := HBK.out.cell c
                      rw [Ir.intA_get hcC] at hcell
                      have hfr := HBK.out.frozen c
                      have X := HBK.out.set_ c (.int .i64 2)
                      rw [Ir.intA_set hcC, fset_next f hc1] at X
                      have HX := Lib.hid X
                      have HSO2 := Lib.hid (SpO.keep (w' := wr.setCell ⟨gh, c, none⟩ (.int .i64 2)) HSO.out (by simp [World.setCell]) (fun g hg => Below.heap_setCell _ ⟨gh, c, none⟩ _ g (fun e => HNO.out.1 (by have e2 : g = gh := e; rw [← e2]; exact hg))))
                      have LW2 : Hid (Below w.heap.size w (wr.setCell ⟨gh, c, none⟩ (.int .i64 2))) := Lib.hid (LW.out.setCell (p := ⟨gh, c, none⟩) (by have := HB.out; have := HGB.out; show w.heap.size ≤ gh; omega) _)
                      have HNO2 : Hid (¬ O2 gh ∧ gh < (wr.setCell ⟨gh, c, none⟩ (.int .i64 2)).heap.size ∧ ∀ g, O2 g → B ≤ g) := Lib.hid ⟨HNO.out.1, by simp [World.setCell]; exact HNO.out.2.1, HNO.out.2.2⟩
                      clear X HSO HBK LW HNO
                      go_wp2_with fail
                      go_roundw
                      case rel => exact ⟨c + 1, by omega, by omega, by go_num, HSO2, HNO2, HX, LW2⟩
                      case measure => simp [intOf]; omega
                    · obtain rfl : c = x0 + n := by omega
                      have t1 : ¬ (((x0 + n : Nat) : Int) < (x0 : Int) + (n : Int)) := by omega
                      have HTL := HTL2
                      have HGD := HGD2
                      have HCK := HCK2
                      clear hlt HTL2 HGD2 HCK2
                      obtain ⟨f2, hf2⟩ : ∃ f2, f2 = fset f x0 (x0 + n) 2 := ⟨_, rfl⟩
                      rw [show (((2 : Nat) : Int)) = 2 from rfl, ← hf2] at HTL
                      rw [← hf2] at HBK
                      clear hf2
                      have HFREE := Lib.hid (HTL.out.free HGD.out)
                      rw [HCK.out.1] at HFREE
                      go_wp2_with fail
                      go_loopw [18, 19] (fun u y wq => ∃ c : Nat, c ≤ C ∧ y = .int .i64 (c : Int) ∧ u = .int .i64 ((numB (fun c => f2 c == 0) c : Nat) : Int) ∧ wq = wr) (fun _ y _ => C - (intOf y).toNat)
                      case atStart => exact ⟨0, by omega, rfl, rfl, rfl⟩
                      case round =>
                        obtain ⟨c, hc, rfl, rfl, hwq⟩ := hrel
                        rw [hwq]
                        clear hwq
                        have hnb := numB_le (fun c => f2 c == 0) c
                        by_cases hlt : c < C
                        · have t1 : (c : Int) < (C : Int) := by omega
                          have hcell := HBK.out.cell c
                          rw [Ir.intA_get hlt] at hcell
                          obtain ⟨q, hq⟩ : ∃ q, q = f2 c := ⟨_, rfl⟩
                          rw [← hq] at hcell
                          have HQ := Lib.hid hq
                          clear hq
                          by_cases hz : q = 0
                          · subst hz
                            have HN : Hid (numB (fun c => f2 c == 0) (c + 1) = numB (fun c => f2 c == 0) c + 1) := Lib.hid (by
                              show numB _ c + (if (f2 c == 0) = true then 1 else 0) = _
                              rw [← HQ.out]; rfl)
                            obtain ⟨nb, hnb2⟩ : ∃ nb, nb = numB (fun c => f2 c == 0) c := ⟨_, rfl⟩
                            rw [← hnb2] at hnb HN ⊢
                            clear hnb2
                            go_wp2_with fail
                            go_roundw
                            case rel => exact ⟨c + 1, by omega, by go_num, by rw [HN.out]; go_num, by trivial⟩
                            case measure => simp [intOf]; omega
                          · have hz1 : (q == 0) = false := by simp [hz]
                            have HN : Hid (numB (fun c => f2 c == 0) (c + 1) = numB (fun c => f2 c == 0) c) := Lib.hid (by
                              show numB _ c + (if (f2 c == 0) = true then 1 else 0) = _
                              rw [← HQ.out, hz1]; rfl)
                            obtain ⟨nb, hnb2⟩ : ∃ nb, nb = numB (fun c => f2 c == 0) c := ⟨_, rfl⟩
                            rw [← hnb2] at hnb HN ⊢
                            clear hnb2
                            go_wp2_with fail
                            go_roundw
                            case rel => exact ⟨c + 1, by omega, by go_num, by rw [HN.out], by trivial⟩
                            case measure => simp [intOf]; omega
                        · obtain rfl : c = C := by omega
                          have t1 : ¬ ((c : Int) < (c : Int)) := by omega
                          clear hlt
                          have HFO := Lib.hid (free_o HSO.out)
                          rw [HFREE.out, HCK.out.2] at HFO
                          obtain ⟨nb, hnb2⟩ : ∃ nb, nb = numB (fun x => f2 x == 0) c := ⟨_, rfl⟩
                          rw [← hnb2] at HFO hnb ⊢
                          rw [show ((nb : Nat) : Int) - ((0 : Nat) : Int) = (nb : Int) by omega] at HFO
                          clear hnb2
                          go_wp2_with fail
                          refine HFO.out.mono ?_
                          rintro e wf ⟨rfl, sf, bf⟩
                          have SF := Lib.hid sf
                          have LF := Lib.hid (LW.out.trans (bf.mono LW.out.size))
                          have BKF := Lib.hid (Blk_new HBK.out bf)
                          have NOF : Hid (¬ O2 gh ∧ gh < wf.heap.size ∧ ∀ g, O2 g → B ≤ g) := Lib.hid ⟨HNO.out.1, Nat.lt_of_lt_of_le HNO.out.2.1 bf.size, HNO.out.2.2⟩
                          clear sf bf HFO
                          go_wp2_with fail
                          go_roundw
                          case rel => exact ⟨i + 1, _, _, _, by omega, by omega, by go_num, SF, NOF, BKF, HTL, HCK, LF⟩
                          case measure => simp [intOf]; omega
                all_goals
                  have hno : hasL x0 (x0 + n) (s.S 1) = false := by
                    cases hh : hasL x0 (x0 + n) (s.S 1) with
                    | false => rfl
                    | true => have := FLA.out.2 (hhas.1 hh); cases this
                  rw [hgv, if_neg (by simp [hno])] at HGV
                  clear hgv hhas hno FLA
                  go_wp2_with fail
                  refine HGV.out.mono ?_
                  rintro e w4 ⟨rfl, s4, f4⟩
                  have b4 := f4.below (B := w.heap.size) (fun g hg => by have := HNO.out.2.2 g hg; have := HB.out; omega) LW.out.size
                  have HBK : Hid (Blk w4 gh 3 (Ir.intA C f)) := Lib.hid ((f4.block gh HNO.out.2.1 HNO.out.1).trans HBK.out)
                  have HNO : Hid (¬ More O wo w4 gh ∧ gh < w4.heap.size ∧ ∀ g, More O wo w4 g → B ≤ g) := Lib.hid ⟨More.not HNO.out.1 HNO.out.2.1, Nat.lt_of_lt_of_le HNO.out.2.1 f4.size, fun g hg => hg.elim (HNO.out.2.2 g) (fun h => by have := HNO.out.2.1; have := HGB.out; omega)⟩
                  have HSO := Lib.hid s4
                  have LW := Lib.hid (LW.out.trans b4)
                  obtain ⟨O2, hO2⟩ : ∃ O2, O2 = More O wo w4 := ⟨_, rfl⟩
                  rw [← hO2] at HSO HNO
                  clear hO2 s4 f4 b4 HGV
                  go_wp2_with fail
                  go_loopw [16] (fun y wq => y = .int .i64 (x0 : Int) ∧ wq = w4) (fun _ _ => 0)
                  case atStart => exact ⟨rfl, rfl⟩
                  case round =>
                    obtain ⟨rfl, hwq⟩ := hrel
                    rw [hwq]
                    clear hwq
                    have HFREE := Lib.hid (HTL.out.free HGD.out)
                    rw [HCK.out.1] at HFREE
                    go_wp2_with fail
                    go_loopw [18, 19] (fun u y wq => ∃ c : Nat, c ≤ C ∧ y = .int .i64 (c : Int) ∧ u = .int .i64 ((numB (fun c => f c == 0) c : Nat) : Int) ∧ wq = w4) (fun _ y _ => C - (intOf y).toNat)
                    case atStart => exact ⟨0, by omega, rfl, rfl, rfl⟩
                    case round =>
                      obtain ⟨c, hc, rfl, rfl, hwq⟩ := hrel
                      rw [hwq]
                      clear hwq
                      have hnb := numB_le (fun c => f c == 0) c
                      by_cases hlt : c < C
                      · have t1 : (c : Int) < (C : Int) := by omega
                        have hcell := HBK.out.cell c
                        rw [Ir.intA_get hlt] at hcell
                        obtain ⟨q, hq⟩ : ∃ q, q = f c := ⟨_, rfl⟩
                        rw [← hq] at hcell
                        have HQ := Lib.hid hq
                        clear hq
                        by_cases hz : q = 0
                        · subst hz
                          have HN : Hid (numB (fun c => f c == 0) (c + 1) = numB (fun c => f c == 0) c + 1) := Lib.hid (by
                            show numB _ c + (if (f c == 0) = true then 1 else 0) = _
                            rw [← HQ.out]; rfl)
                          obtain ⟨nb, hnb2⟩ : ∃ nb, nb = numB (fun c => f c == 0) c := ⟨_, rfl⟩
                          rw [← hnb2] at hnb HN ⊢
                          clear hnb2
                          go_wp2_with fail
                          go_roundw
                          case rel => exact ⟨c + 1, by omega, by go_num, by rw [HN.out]; go_num, by trivial⟩
                          case measure => simp [intOf]; omega
                        · have hz1 : (q == 0) = false := by simp [hz]
                          have HN : Hid (numB (fun c => f c == 0) (c + 1) = numB (fun c => f c == 0) c) := Lib.hid (by
                            show numB _ c + (if (f c == 0) = true then 1 else 0) = _
                            rw [← HQ.out, hz1]; rfl)
                          obtain ⟨nb, hnb2⟩ : ∃ nb, nb = numB (fun c => f c == 0) c := ⟨_, rfl⟩
                          rw [← hnb2] at hnb HN ⊢
                          clear hnb2
                          go_wp2_with fail
                          go_roundw
                          case rel => exact ⟨c + 1, by omega, by go_num, by rw [HN.out], by trivial⟩
                          case measure => simp [intOf]; omega
                      · obtain rfl : c = C := by omega
                        have t1 : ¬ ((c : Int) < (c : Int)) := by omega
                        clear hlt
                        have HFO := Lib.hid (free_o HSO.out)
                        rw [HFREE.out, HCK.out.2] at HFO
                        obtain ⟨nb, hnb2⟩ : ∃ nb, nb = numB (fun x => f x == 0) c := ⟨_, rfl⟩
                        rw [← hnb2] at HFO hnb ⊢
                        rw [show ((nb : Nat) : Int) - ((0 : Nat) : Int) = (nb : Int) by omega] at HFO
                        clear hnb2
                        go_wp2_with fail
                        refine HFO.out.mono ?_
                        rintro e wf ⟨rfl, sf, bf⟩
                        have SF := Lib.hid sf
                        have LF := Lib.hid (LW.out.trans (bf.mono LW.out.size))
                        have BKF := Lib.hid (Blk_new HBK.out bf)
                        have NOF : Hid (¬ O2 gh ∧ gh < wf.heap.size ∧ ∀ g, O2 g → B ≤ g) := Lib.hid ⟨HNO.out.1, Nat.lt_of_lt_of_le HNO.out.2.1 bf.size, HNO.out.2.2⟩
                        clear sf bf HFO
                        go_wp2_with fail
                        go_roundw
                        case rel => exact ⟨i + 1, _, _, _, by omega, by omega, by go_num, SF, NOF, BKF, HTL, HCK, LF⟩
                        case measure => simp [intOf]; omega
          · have t0 : ¬ ((x0 : Int) ≤ (C : Int) - (n : Int)) := by omega
            have hgv : giveS s (x0 : Int) (n : Int) = (1, s) := by
              unfold giveS
              rw [if_pos (by rw [HCK.out.1]; omega)]
            rw [hgv] at HGV
            clear hgv
            go_wp2_with fail
            go_loopw [14, 15] (fun u y wq => u = .bool false ∧ y = .int .i64 (x0 : Int) ∧ wq = wo) (fun _ _ _ => 0)
            case atStart => exact ⟨rfl, rfl, rfl⟩
            case round =>
              obtain ⟨rfl, rfl, hwq⟩ := hrel
              rw [hwq]
              clear hwq
              go_wp2_with fail
              refine HGV.out.mono ?_
              rintro e w4 ⟨rfl, s4, f4⟩
              have b4 := f4.below (B := w.heap.size) (fun g hg => by have := HNO.out.2.2 g hg; have := HB.out; omega) LW.out.size
              have HBK : Hid (Blk w4 gh 3 (Ir.intA C f)) := Lib.hid ((f4.block gh HNO.out.2.1 HNO.out.1).trans HBK.out)
              have HNO : Hid (¬ More O wo w4 gh ∧ gh < w4.heap.size ∧ ∀ g, More O wo w4 g → B ≤ g) := Lib.hid ⟨More.not HNO.out.1 HNO.out.2.1, Nat.lt_of_lt_of_le HNO.out.2.1 f4.size, fun g hg => hg.elim (HNO.out.2.2 g) (fun h => by have := HNO.out.2.1; have := HGB.out; omega)⟩
              have HSO := Lib.hid s4
              have LW := Lib.hid (LW.out.trans b4)
              obtain ⟨O2, hO2⟩ : ∃ O2, O2 = More O wo w4 := ⟨_, rfl⟩
              rw [← hO2] at HSO HNO
              clear hO2 s4 f4 b4 HGV
              go_wp2_with fail
              go_loopw [16] (fun y wq => y = .int .i64 (x0 : Int) ∧ wq = w4) (fun _ _ => 0)
              case atStart => exact ⟨rfl, rfl⟩
              case round =>
                obtain ⟨rfl, hwq⟩ := hrel
                rw [hwq]
                clear hwq
                have HFREE := Lib.hid (HTL.out.free HGD.out)
                rw [HCK.out.1] at HFREE
                go_wp2_with fail
                go_loopw [18, 19] (fun u y wq => ∃ c : Nat, c ≤ C ∧ y = .int .i64 (c : Int) ∧ u = .int .i64 ((numB (fun c => f c == 0) c : Nat) : Int) ∧ wq = w4) (fun _ y _ => C - (intOf y).toNat)
                case atStart => exact ⟨0, by omega, rfl, rfl, rfl⟩
                case round =>
                  obtain ⟨c, hc, rfl, rfl, hwq⟩ := hrel
                  rw [hwq]
                  clear hwq
                  have hnb := numB_le (fun c => f c == 0) c
                  by_cases hlt : c < C
                  · have t1 : (c : Int) < (C : Int) := by omega
                    have hcell := HBK.out.cell c
                    rw [Ir.intA_get hlt] at hcell
                    obtain ⟨q, hq⟩ : ∃ q, q = f c := ⟨_, rfl⟩
                    rw [← hq] at hcell
                    have HQ := Lib.hid hq
                    clear hq
                    by_cases hz : q = 0
                    · subst hz
                      have HN : Hid (numB (fun c => f c == 0) (c + 1) = numB (fun c => f c == 0) c + 1) := Lib.hid (by
                        show numB _ c + (if (f c == 0) = true then 1 else 0) = _
                        rw [← HQ.out]; rfl)
                      obtain ⟨nb, hnb2⟩ : ∃ nb, nb = numB (fun c => f c == 0) c := ⟨_, rfl⟩
                      rw [← hnb2] at hnb HN ⊢
                      clear hnb2
                      go_wp2_with fail
                      go_roundw
                      case rel => exact ⟨c + 1, by omega, by go_num, by rw [HN.out]; go_num, by trivial⟩
                      case measure => simp [intOf]; omega
                    · have hz1 : (q == 0) = false := by simp [hz]
                      have HN : Hid (numB (fun c => f c == 0) (c + 1) = numB (fun c => f c == 0) c) := Lib.hid (by
                        show numB _ c + (if (f c == 0) = true then 1 else 0) = _
                        rw [← HQ.out, hz1]; rfl)
                      obtain ⟨nb, hnb2⟩ : ∃ nb, nb = numB (fun c => f c == 0) c := ⟨_, rfl⟩
                      rw [← hnb2] at hnb HN ⊢
                      clear hnb2
                      go_wp2_with fail
                      go_roundw
                      case rel => exact ⟨c + 1, by omega, by go_num, by rw [HN.out], by trivial⟩
                      case measure => simp [intOf]; omega
                  · obtain rfl : c = C := by omega
                    have t1 : ¬ ((c : Int) < (c : Int)) := by omega
                    clear hlt
                    have HFO := Lib.hid (free_o HSO.out)
                    rw [HFREE.out, HCK.out.2] at HFO
                    obtain ⟨nb, hnb2⟩ : ∃ nb, nb = numB (fun x => f x == 0) c := ⟨_, rfl⟩
                    rw [← hnb2] at HFO hnb ⊢
                    rw [show ((nb : Nat) : Int) - ((0 : Nat) : Int) = (nb : Int) by omega] at HFO
                    clear hnb2
                    go_wp2_with fail
                    refine HFO.out.mono ?_
                    rintro e wf ⟨rfl, sf, bf⟩
                    have SF := Lib.hid sf
                    have LF := Lib.hid (LW.out.trans (bf.mono LW.out.size))
                    have BKF := Lib.hid (Blk_new HBK.out bf)
                    have NOF : Hid (¬ O2 gh ∧ gh < wf.heap.size ∧ ∀ g, O2 g → B ≤ g) := Lib.hid ⟨HNO.out.1, Nat.lt_of_lt_of_le HNO.out.2.1 bf.size, HNO.out.2.2⟩
                    clear sf bf HFO
                    go_wp2_with fail
                    go_roundw
                    case rel => exact ⟨i + 1, _, _, _, by omega, by omega, by go_num, SF, NOF, BKF, HTL, HCK, LF⟩
                    case measure => simp [intOf]; omega
        · have q2 : (kd == 2) = false := by simp [hk2]
          by_cases hk3 : kd = 3
          · subst hk3
            clear q1 q2
            have HST := Lib.hid (settle_o HSO.out)
            have HTL2 := Lib.hid (HTL.out.settled HGD.out)
            rw [HCK.out.1] at HTL2
            have HGD2 := Lib.hid HGD.out.settled
            have HCK2 : Hid (s.settled.cells = C ∧ s.settled.kept = 0) := HCK
            obtain ⟨s', hs'⟩ : ∃ s', s' = s.settled := ⟨_, rfl⟩
            rw [← hs'] at HST HTL2 HGD2 HCK2
            clear hs' HTL HGD HCK
            go_wp2_with fail
            refine HST.out.mono ?_
            rintro e w4 ⟨rfl, s4, f4⟩
            have b4 := f4.below (B := w.heap.size) (fun g hg => by have := HNO.out.2.2 g hg; have := HB.out; omega) LW.out.size
            have HBK : Hid (Blk w4 gh 3 (Ir.intA C f)) := Lib.hid ((f4.block gh HNO.out.2.1 HNO.out.1).trans HBK.out)
            have HNO : Hid (¬ More O wo w4 gh ∧ gh < w4.heap.size ∧ ∀ g, More O wo w4 g → B ≤ g) := Lib.hid ⟨More.not HNO.out.1 HNO.out.2.1, Nat.lt_of_lt_of_le HNO.out.2.1 f4.size, fun g hg => hg.elim (HNO.out.2.2 g) (fun h => by have := HNO.out.2.1; have := HGB.out; omega)⟩
            have HSO := Lib.hid s4
            have LW := Lib.hid (LW.out.trans b4)
            obtain ⟨O2, hO2⟩ : ∃ O2, O2 = More O wo w4 := ⟨_, rfl⟩
            rw [← hO2] at HSO HNO
            clear s4 f4 b4 HST hO2
            have HBK : Hid (Blk w4 gh 3 (Ir.intA C (fset2 f 0))) := by rw [fset2_none]; exact HBK
            go_wp2_with fail
            go_loopw [17] (fun y wq => ∃ c : Nat, c ≤ C ∧ y = .int .i64 (c : Int) ∧ Hid (SpO O2 wq b m s') ∧ Hid (¬ O2 gh ∧ gh < wq.heap.size ∧ ∀ g, O2 g → B ≤ g) ∧ Hid (Blk wq gh 3 (Ir.intA C (fset2 f c))) ∧ Hid (Below w.heap.size w wq)) (fun y _ => C - (intOf y).toNat)
            case atStart => exact ⟨0, by omega, rfl, HSO, HNO, HBK, LW⟩
            case round =>
              clear HSO HNO HBK LW
              obtain ⟨c, hc2, rfl, HSO, HNO, HBK, LW⟩ := hrel
              by_cases hlt : c < C
              · have t1 : (c : Int) < (C : Int) := by omega
                have hcell := HBK.out.cell c
                rw [Ir.intA_get hlt, show fset2 f c c = f c from by unfold fset2; rw [if_neg (by omega)]] at hcell
                obtain ⟨q, hq⟩ : ∃ q, q = f c := ⟨_, rfl⟩
                rw [← hq] at hcell
                have HQ := Lib.hid hq
                clear hq
                by_cases hz : q = 2
                · subst hz
                  have hfr := HBK.out.frozen c
                  have X := HBK.out.set_ c (.int .i64 0)
                  rw [Ir.intA_set hlt, fset2_yes f HQ.out.symm] at X
                  have HX := Lib.hid X
                  have HSO2 := Lib.hid (SpO.keep (w' := wr.setCell ⟨gh, c, none⟩ (.int .i64 0)) HSO.out (by simp [World.setCell]) (fun g hg => Below.heap_setCell _ ⟨gh, c, none⟩ _ g (fun e => HNO.out.1 (by have e2 : g = gh := e; rw [← e2]; exact hg))))
                  have LW2 : Hid (Below w.heap.size w (wr.setCell ⟨gh, c, none⟩ (.int .i64 0))) := Lib.hid (LW.out.setCell (p := ⟨gh, c, none⟩) (by have := HB.out; have := HGB.out; show w.heap.size ≤ gh; omega) _)
                  have HNO2 : Hid (¬ O2 gh ∧ gh < (wr.setCell ⟨gh, c, none⟩ (.int .i64 0)).heap.size ∧ ∀ g, O2 g → B ≤ g) := Lib.hid ⟨HNO.out.1, by simp [World.setCell]; exact HNO.out.2.1, HNO.out.2.2⟩
                  clear X HSO HBK LW HNO HQ
                  go_wp2_with fail
                  go_roundw
                  case rel => exact ⟨c + 1, by omega, by go_num, HSO2, HNO2, HX, LW2⟩
                  case measure => simp [intOf]; omega
                · have hz1 : (q == 2) = false := by simp [hz]
                  have HX := HBK
                  rw [fset2_no f (fun e => hz (HQ.out.trans e))] at HX
                  clear HBK HQ
                  go_wp2_with fail
                  go_roundw
                  case rel => exact ⟨c + 1, by omega, by go_num, HSO, HNO, HX, LW⟩
                  case measure => simp [intOf]; omega
              · obtain rfl : C = c := by omega
                have t1 : ¬ ((C : Int) < (C : Int)) := by omega
                have HTL := HTL2
                have HGD := HGD2
                have HCK := HCK2
                clear hlt HTL2 HGD2 HCK2
                obtain ⟨f2, hf2⟩ : ∃ f2, f2 = fset2 f C := ⟨_, rfl⟩
                rw [← hf2] at HTL HBK
                clear hf2
                have HFREE := Lib.hid (HTL.out.free HGD.out)
                rw [HCK.out.1] at HFREE
                go_wp2_with fail
                go_loopw [18, 19] (fun u y wq => ∃ c : Nat, c ≤ C ∧ y = .int .i64 (c : Int) ∧ u = .int .i64 ((numB (fun c => f2 c == 0) c : Nat) : Int) ∧ wq = wr) (fun _ y _ => C - (intOf y).toNat)
                case atStart => exact ⟨0, by omega, rfl, rfl, rfl⟩
                case round =>
                  obtain ⟨c, hc, rfl, rfl, hwq⟩ := hrel
                  rw [hwq]
                  clear hwq
                  have hnb := numB_le (fun c => f2 c == 0) c
                  by_cases hlt : c < C
                  · have t1 : (c : Int) < (C : Int) := by omega
                    have hcell := HBK.out.cell c
                    rw [Ir.intA_get hlt] at hcell
                    obtain ⟨q, hq⟩ : ∃ q, q = f2 c := ⟨_, rfl⟩
                    rw [← hq] at hcell
                    have HQ := Lib.hid hq
                    clear hq
                    by_cases hz : q = 0
                    · subst hz
                      have HN : Hid (numB (fun c => f2 c == 0) (c + 1) = numB (fun c => f2 c == 0) c + 1) := Lib.hid (by
                        show numB _ c + (if (f2 c == 0) = true then 1 else 0) = _
                        rw [← HQ.out]; rfl)
                      obtain ⟨nb, hnb2⟩ : ∃ nb, nb = numB (fun c => f2 c == 0) c := ⟨_, rfl⟩
                      rw [← hnb2] at hnb HN ⊢
                      clear hnb2
                      go_wp2_with fail
                      go_roundw
                      case rel => exact ⟨c + 1, by omega, by go_num, by rw [HN.out]; go_num, by trivial⟩
                      case measure => simp [intOf]; omega
                    · have hz1 : (q == 0) = false := by simp [hz]
                      have HN : Hid (numB (fun c => f2 c == 0) (c + 1) = numB (fun c => f2 c == 0) c) := Lib.hid (by
                        show numB _ c + (if (f2 c == 0) = true then 1 else 0) = _
                        rw [← HQ.out, hz1]; rfl)
                      obtain ⟨nb, hnb2⟩ : ∃ nb, nb = numB (fun c => f2 c == 0) c := ⟨_, rfl⟩
                      rw [← hnb2] at hnb HN ⊢
                      clear hnb2
                      go_wp2_with fail
                      go_roundw
                      case rel => exact ⟨c + 1, by omega, by go_num, by rw [HN.out], by trivial⟩
                      case measure => simp [intOf]; omega
                  · obtain rfl : c = C := by omega
                    have t1 : ¬ ((c : Int) < (c : Int)) := by omega
                    clear hlt
                    have HFO := Lib.hid (free_o HSO.out)
                    rw [HFREE.out, HCK.out.2] at HFO
                    obtain ⟨nb, hnb2⟩ : ∃ nb, nb = numB (fun x => f2 x == 0) c := ⟨_, rfl⟩
                    rw [← hnb2] at HFO hnb ⊢
                    rw [show ((nb : Nat) : Int) - ((0 : Nat) : Int) = (nb : Int) by omega] at HFO
                    clear hnb2
                    go_wp2_with fail
                    refine HFO.out.mono ?_
                    rintro e wf ⟨rfl, sf, bf⟩
                    have SF := Lib.hid sf
                    have LF := Lib.hid (LW.out.trans (bf.mono LW.out.size))
                    have BKF := Lib.hid (Blk_new HBK.out bf)
                    have NOF : Hid (¬ O2 gh ∧ gh < wf.heap.size ∧ ∀ g, O2 g → B ≤ g) := Lib.hid ⟨HNO.out.1, Nat.lt_of_lt_of_le HNO.out.2.1 bf.size, HNO.out.2.2⟩
                    clear sf bf HFO
                    go_wp2_with fail
                    go_roundw
                    case rel => exact ⟨i + 1, _, _, _, by omega, by omega, by go_num, SF, NOF, BKF, HTL, HCK, LF⟩
                    case measure => simp [intOf]; omega
          · have q3 : (kd == 3) = false := by simp [hk3]
            clear hk1 hk2 hk3
            have HFREE := Lib.hid (HTL.out.free HGD.out)
            rw [HCK.out.1] at HFREE
            go_wp2_with fail
            go_loopw [18, 19] (fun u y wq => ∃ c : Nat, c ≤ C ∧ y = .int .i64 (c : Int) ∧ u = .int .i64 ((numB (fun c => f c == 0) c : Nat) : Int) ∧ wq = wo) (fun _ y _ => C - (intOf y).toNat)
            case atStart => exact ⟨0, by omega, rfl, rfl, rfl⟩
            case round =>
              obtain ⟨c, hc, rfl, rfl, hwq⟩ := hrel
              rw [hwq]
              clear hwq
              have hnb := numB_le (fun c => f c == 0) c
              by_cases hlt : c < C
              · have t1 : (c : Int) < (C : Int) := by omega
                have hcell := HBK.out.cell c
                rw [Ir.intA_get hlt] at hcell
                obtain ⟨q, hq⟩ : ∃ q, q = f c := ⟨_, rfl⟩
                rw [← hq] at hcell
                have HQ := Lib.hid hq
                clear hq
                by_cases hz : q = 0
                · subst hz
                  have HN : Hid (numB (fun c => f c == 0) (c + 1) = numB (fun c => f c == 0) c + 1) := Lib.hid (by
                    show numB _ c + (if (f c == 0) = true then 1 else 0) = _
                    rw [← HQ.out]; rfl)
                  obtain ⟨nb, hnb2⟩ : ∃ nb, nb = numB (fun c => f c == 0) c := ⟨_, rfl⟩
                  rw [← hnb2] at hnb HN ⊢
                  clear hnb2
                  go_wp2_with fail
                  go_roundw
                  case rel => exact ⟨c + 1, by omega, by go_num, by rw [HN.out]; go_num, by trivial⟩
                  case measure => simp [intOf]; omega
                · have hz1 : (q == 0) = false := by simp [hz]
                  have HN : Hid (numB (fun c => f c == 0) (c + 1) = numB (fun c => f c == 0) c) := Lib.hid (by
                    show numB _ c + (if (f c == 0) = true then 1 else 0) = _
                    rw [← HQ.out, hz1]; rfl)
                  obtain ⟨nb, hnb2⟩ : ∃ nb, nb = numB (fun c => f c == 0) c := ⟨_, rfl⟩
                  rw [← hnb2] at hnb HN ⊢
                  clear hnb2
                  go_wp2_with fail
                  go_roundw
                  case rel => exact ⟨c + 1, by omega, by go_num, by rw [HN.out], by trivial⟩
                  case measure => simp [intOf]; omega
              · obtain rfl : c = C := by omega
                have t1 : ¬ ((c : Int) < (c : Int)) := by omega
                clear hlt
                have HFO := Lib.hid (free_o HSO.out)
                rw [HFREE.out, HCK.out.2] at HFO
                obtain ⟨nb, hnb2⟩ : ∃ nb, nb = numB (fun x => f x == 0) c := ⟨_, rfl⟩
                rw [← hnb2] at HFO hnb ⊢
                rw [show ((nb : Nat) : Int) - ((0 : Nat) : Int) = (nb : Int) by omega] at HFO
                clear hnb2
                go_wp2_with fail
                refine HFO.out.mono ?_
                rintro e wf ⟨rfl, sf, bf⟩
                have SF := Lib.hid sf
                have LF := Lib.hid (LW.out.trans (bf.mono LW.out.size))
                have BKF := Lib.hid (Blk_new HBK.out bf)
                have NOF : Hid (¬ O gh ∧ gh < wf.heap.size ∧ ∀ g, O g → B ≤ g) := Lib.hid ⟨HNO.out.1, Nat.lt_of_lt_of_le HNO.out.2.1 bf.size, HNO.out.2.2⟩
                clear sf bf HFO
                go_wp2_with fail
                go_roundw
                case rel => exact ⟨i + 1, _, _, _, by omega, by omega, by go_num, SF, NOF, BKF, HTL, HCK, LF⟩
                case measure => simp [intOf]; omega
    · have hsplit2 : (¬ (i : Int) < (nl : Int)) ∨ ((i : Int) < (nl : Int) ∧ ¬ (i : Int) < 100) := by omega
      clear hlt
      rcases hsplit2 with hs | ⟨hs, hs2⟩
      all_goals
        go_wp2_with fail
        go_ret
        exact ⟨rfl, LW.out⟩
end spaceHolds
end Go.Proofs.Ytffbclendkojlaa
