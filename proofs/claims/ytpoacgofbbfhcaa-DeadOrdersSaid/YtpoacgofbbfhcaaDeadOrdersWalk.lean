/-
  'hoardlaw11.DeadOrders': the walk. The conditions: the two lists can be read.
-/
import Derived.Test.YtpoacgofbbfhcaaDeadPlay
namespace Go.Proofs.Ytpoacgofbbfhcaa
open Go Go.RowKit
set_option maxRecDepth 100000
set_option linter.unusedVariables false
namespace Dd
set_option maxHeartbeats 51200000 in
theorem orders_walk (w : World) (A1 : Option Addr) (l1 : List Int) (cap1 : Nat) (A2 : Option Addr) (l2 : List Int) (cap2 : Nat) (h1 : Gr.RdG 1 Gr.csI w A1 l1) (k1 : l1.length ≤ cap1) (m1 : cap1 ≤ maxLen) (h2 : Gr.RdG 1 Gr.csI w A2 l2) (k2 : l2.length ≤ cap2) (m2 : cap2 ≤ maxLen) :
    Calls Try.prog 7 #[.slice A1 l1.length cap1, .slice A2 l2.length cap2] w fun e w' => e = .returned (.bool true) ∧ Below w.heap.size w w' := by
  unfold maxLen at m1 m2
  have H1 := Lib.hid h1
  have H2 := Lib.hid h2
  obtain ⟨len1, hlen1⟩ : ∃ len1, len1 = l1.length := ⟨_, rfl⟩
  obtain ⟨len2, hlen2⟩ : ∃ len2, len2 = l2.length := ⟨_, rfl⟩
  have HLN := Lib.hid (⟨hlen1, hlen2⟩ : _ ∧ _)
  rw [← hlen1] at k1 ⊢
  rw [← hlen2] at k2 ⊢
  clear h1 h2 hlen1 hlen2
  go_enter Try.func7, Try.ntmps7
  go_wp2_with fail
  refine (known_at _).mono ?_
  rintro e U0 ⟨rfl, b0⟩
  obtain ⟨U, hU⟩ : ∃ U, U = U0.alloc (.cells #[.int .i64 0, .slice none 0 0, .slice none 0 0] 33) := ⟨_, rfl⟩
  obtain ⟨g, hg⟩ : ∃ g, g = U0.heap.size := ⟨_, rfl⟩
  have HU := Lib.hid (⟨hU, hg⟩ : _ ∧ _)
  have HS0 : Hid (LS U g lnZero none 0 none 0) := Lib.hid (by
    obtain ⟨A, c, A', c', vs, e1, e2⟩ := LnV.zero 65 U 0
    injection e1 with e1
    injection e1 with e1
    injection e1 with _ e1
    injection e1 with e3 e1
    injection e1 with e4 e1
    injection e3 with e3 _ e5
    injection e4 with e4 _ e6
    subst e3 e4 e5 e6
    refine ⟨?_, vs, e2⟩
    rw [hU, hg]
    exact Blk.new _ _ _)
  have HG : Hid (w.heap.size ≤ g) := Lib.hid (by rw [hg]; exact b0.size)
  have L0 : Hid (Below w.heap.size w U) := Lib.hid (by rw [hU]; exact b0.alloc b0.size _)
  have HO0 := Lib.hid Ho.zero
  have HA0 : Hid (aheadL lnZero lnZero.snaps.length ≤ ((0 : Nat) : Int)) := Lib.hid (by decide)
  have HB0 : Hid (lnZero.snaps.length ≤ 0 ∧ (allB lnZero).length = 0) := Lib.hid (by decide)
  clear hU hg b0
  go_upto_region 4 with (fail)
  rw [← HU.out.1, ← HU.out.2]
  clear HU
  go_wp2_with fail
  go_loopw [6, 7, 8, 9] (fun v6 v7 v8 y wr => ∃ (i t b : Nat) (L : Ln) (A : Option Addr) (c : Nat) (A' : Option Addr) (c' : Nat), i ≤ 30 ∧ i ≤ len1 ∧ t ≤ 2 * i ∧ b ≤ i ∧ v6 = .int .i64 (t : Int) ∧ v7 = .int .i64 (i : Int) ∧ v8 = .int .i64 (b : Int) ∧ y = .int .i64 (i : Int) ∧ Hid (LS wr g L A c A' c') ∧ Hid (Ho L i) ∧ Hid (aheadL L L.snaps.length ≤ (t : Int)) ∧ Hid (L.snaps.length ≤ i ∧ (allB L).length = b) ∧ Hid (Below w.heap.size w wr)) (fun _ _ _ y _ => 30 - (intOf y).toNat)
  case atStart => exact ⟨0, 0, 0, lnZero, none, 0, none, 0, by omega, by omega, by omega, by omega, rfl, rfl, rfl, rfl, HS0, HO0, HA0, HB0, L0⟩
  case round =>
    clear HS0 HO0 HA0 HB0 L0
    obtain ⟨i, t, b, L, A, c, A', c', hi30, hi1, hti, hbi, rfl, rfl, rfl, rfl, HS, HO, HA, HBB, LW⟩ := hrel
    by_cases hlt : i < len1 ∧ i < 30
    · obtain ⟨hlt1, hlt2⟩ := hlt
      have i1 : (i : Int) < (len1 : Int) := by omega
      have i2 : (i : Int) < 30 := by omega
      have HTI : Hid (t ≤ 2 * i ∧ i < 30) := Lib.hid ⟨hti, hlt2⟩
      obtain ⟨nn, hnn⟩ : ∃ nn, l1[i]? = some nn := ⟨_, List.getElem?_eq_getElem (by have := HLN.out.1; omega)⟩
      obtain ⟨g1, o1, hA1, hk⟩ := rdi_at H1.out hnn
      have HK := Lib.hid hk
      subst hA1
      obtain ⟨W1, hW1⟩ : ∃ W1, W1 = wr.alloc (.cells #[.int .i64 (i : Int), .int .i64 0, .int .i64 ((t : Int) + 1), .string ⟨#[]⟩] 27) := ⟨_, rfl⟩
      obtain ⟨gp, hgp⟩ : ∃ gp, gp = wr.heap.size := ⟨_, rfl⟩
      have HX1 := Lib.hid (⟨hW1, hgp⟩ : _ ∧ _)
      have hb1 : Below wr.heap.size wr W1 := by rw [hW1]; exact (Below.refl _ _).alloc (Nat.le_refl _) _
      have HS1 := Lib.hid (HS.out.below hb1)
      have HP1 : Hid (Blk W1 gp 27 #[.int .i64 (i : Int), .int .i64 0, .int .i64 ((t : Int) + 1), .string ⟨#[]⟩]) := Lib.hid (by rw [hW1, hgp]; exact Blk.new _ _ _)
      have HNE : Hid (gp ≠ g) := Lib.hid (by have := HS.out.1.lt; omega)
      have lw1 := LW.out.trans (hb1.mono LW.out.size)
      have LW1 := Lib.hid lw1
      have kn1 := hk _ lw1
      clear hW1 hgp hb1 hnn hk lw1 LW HS
      go_upto_region 11 with (fail)
      rw [← HX1.out.1, ← HX1.out.2]
      clear HX1
      by_cases he : nn.tmod 2 = 0
      · have he2 : nn.tmod 2 = 0 := he
        have b2 : (nn.tmod 2 != 0) = false := by rw [he2]; rfl
        obtain ⟨M, HM1, HM2, HM3, HM4, HM5⟩ := snap_ls HS1.out HO.out HA.out (by omega) (by have := HTI.out; omega) (by have := HBB.out.1; omega)
        have HOM := Lib.hid HM1
        have HAM := Lib.hid HM3
        have HBM : Hid (M.snaps.length ≤ i + 1 ∧ (allB M).length = b) := Lib.hid ⟨by rw [HM4]; have := HBB.out.1; omega, HM2.trans HBB.out.2⟩
        clear HM1 HM2 HM3 HM4
        have q0 : W1.cell? ⟨g, 0, none⟩ = some (.int .i64 L.base) := HS1.out.1.cell 0
        have q1 : W1.cell? ⟨g, 1, none⟩ = some (.slice A L.snaps.length c) := HS1.out.1.cell 1
        have q2 : W1.cell? ⟨g, 2, none⟩ = some (.slice A' L.dead.length c') := HS1.out.1.cell 2
        go_wp2_with fail
        refine (HM5 _ (by omega)).mono ?_
        rintro e V1 ⟨v, rfl, ⟨Ae, ce, De, de, vse, rfl, hOe⟩, b1⟩
        clear HM5 q0 q1 q2
        have z := HS1.out.1.below b1 HS1.out.1.lt
        have u0 : V1.cell? ⟨g, 0, none⟩ = some (.int .i64 L.base) := z.cell 0
        have u1 : V1.cell? ⟨g, 1, none⟩ = some (.slice A L.snaps.length c) := z.cell 1
        have u2 : V1.cell? ⟨g, 2, none⟩ = some (.slice A' L.dead.length c') := z.cell 2
        have v0 : V1.frozen? ⟨g, 0, none⟩ = false := z.frozen 0
        have v1 : V1.frozen? ⟨g, 1, none⟩ = false := z.frozen 1
        have v2 : V1.frozen? ⟨g, 2, none⟩ = false := z.frozen 2
        obtain ⟨W2, hW2⟩ : ∃ W2, W2 = ((V1.setCell ⟨g, 0, none⟩ (.int .i64 M.base)).setCell ⟨g, 1, none⟩ (.slice Ae M.snaps.length ce)).setCell ⟨g, 2, none⟩ (.slice De M.dead.length de) := ⟨_, rfl⟩
        have HW2 := Lib.hid hW2
        have hSW2 : LS W2 g M Ae ce De de := by rw [hW2]; exact ls_put z hOe
        have HSW2 := Lib.hid hSW2
        have lWW2 : Below w.heap.size w W2 := by rw [hW2]; exact put_below (LW1.out.trans (b1.mono LW1.out.size)) HG.out
        have LWW2 := Lib.hid lWW2
        have zp : Blk W2 gp 27 #[.int .i64 (i : Int), .int .i64 0, .int .i64 ((t : Int) + 1), .string ⟨#[]⟩] := by
          rw [hW2]; exact (put_far HNE.out).trans (HP1.out.below b1 HP1.out.lt)
        have HPW2 := Lib.hid zp
        have knW2 := HK.out _ lWW2
        clear hW2 z hSW2 lWW2 zp b1 hOe
        go_upto_region 17 with (fail)
        rw [← HW2.out]
        clear HW2
        by_cases h3 : nn.tmod 3 = 0
        · obtain ⟨N, HN1, HN2, HN3, HN4, HN5⟩ := kill_ls HSW2.out HOM.out HAM.out (by omega) (by have := HTI.out; omega) (by have := HBM.out.2; omega)
          have HON := Lib.hid HN1
          have HAN : Hid (aheadL N N.snaps.length ≤ ((t + 2 : Nat) : Int)) := Lib.hid (by rw [HN3]; omega)
          have HBN : Hid (N.snaps.length ≤ i + 1 ∧ (allB N).length = b + 1) := Lib.hid ⟨by rw [HN4]; exact HBM.out.1, by rw [HN2, HBM.out.2]⟩
          clear HN1 HN2 HN3 HN4
          have q0 : W2.cell? ⟨g, 0, none⟩ = some (.int .i64 M.base) := HSW2.out.1.cell 0
          have q1 : W2.cell? ⟨g, 1, none⟩ = some (.slice Ae M.snaps.length ce) := HSW2.out.1.cell 1
          have q2 : W2.cell? ⟨g, 2, none⟩ = some (.slice De M.dead.length de) := HSW2.out.1.cell 2
          have y0 : W2.cell? ⟨gp, 0, none⟩ = some (.int .i64 (i : Int)) := HPW2.out.cell 0
          have y1 : W2.cell? ⟨gp, 1, none⟩ = some (.int .i64 0) := HPW2.out.cell 1
          have y2 : W2.cell? ⟨gp, 2, none⟩ = some (.int .i64 ((t : Int) + 1)) := HPW2.out.cell 2
          have y3 : W2.cell? ⟨gp, 3, none⟩ = some (.string ⟨#[]⟩) := HPW2.out.cell 3
          go_upto_region 20 with (fail)
          go_wp2_with fail
          refine (HN5 _ (by omega)).mono ?_
          rintro e V3 ⟨v, rfl, ⟨Ak, ck, Dk, dk, vsk, rfl, hOk⟩, b3⟩
          clear HN5 q0 q1 q2 y0 y1 y2 y3
          have z := HSW2.out.1.below b3 HSW2.out.1.lt
          have u0 : V3.cell? ⟨g, 0, none⟩ = some (.int .i64 M.base) := z.cell 0
          have u1 : V3.cell? ⟨g, 1, none⟩ = some (.slice Ae M.snaps.length ce) := z.cell 1
          have u2 : V3.cell? ⟨g, 2, none⟩ = some (.slice De M.dead.length de) := z.cell 2
          have v0 : V3.frozen? ⟨g, 0, none⟩ = false := z.frozen 0
          have v1 : V3.frozen? ⟨g, 1, none⟩ = false := z.frozen 1
          have v2 : V3.frozen? ⟨g, 2, none⟩ = false := z.frozen 2
          obtain ⟨W4, hW4⟩ : ∃ W4, W4 = ((V3.setCell ⟨g, 0, none⟩ (.int .i64 N.base)).setCell ⟨g, 1, none⟩ (.slice Ak N.snaps.length ck)).setCell ⟨g, 2, none⟩ (.slice Dk N.dead.length dk) := ⟨_, rfl⟩
          have HW4 := Lib.hid hW4
          have hSW4 : LS W4 g N Ak ck Dk dk := by rw [hW4]; exact ls_put z hOk
          have HSW4 := Lib.hid hSW4
          have lWW4 : Below w.heap.size w W4 := by rw [hW4]; exact put_below (LWW2.out.trans (b3.mono LWW2.out.size)) HG.out
          have LWW4 := Lib.hid lWW4
          have zp : Blk W4 gp 27 #[.int .i64 (i : Int), .int .i64 0, .int .i64 ((t : Int) + 1), .string ⟨#[]⟩] := by
            rw [hW4]; exact (put_far HNE.out).trans (HPW2.out.below b3 HPW2.out.lt)
          have HPW4 := Lib.hid zp
          have knW4 := HK.out _ lWW4
          clear hW4 z hSW4 lWW4 zp b3 hOk
          go_upto_region 21 with (fail)
          rw [← HW4.out]
          clear HW4
          go_wp2_with fail
          go_roundw
          case rel => exact ⟨i + 1, t + 2, b + 1, N, Ak, ck, Dk, dk, by omega, by omega, by omega, by omega, by go_num, by go_num, by go_num, by go_num, HSW4, HON, HAN, HBN, LWW4⟩
          case measure => simp [intOf]; omega
        · have HAN : Hid (aheadL M M.snaps.length ≤ ((t + 2 : Nat) : Int)) := Lib.hid (by rw [HAM.out]; omega)
          have HON := Lib.hid (HOM.out.mono (Nat.le_succ i))
          go_wp2_with fail
          go_roundw
          case rel => exact ⟨i + 1, t + 2, b, M, Ae, ce, De, de, by omega, by omega, by omega, by omega, by go_num, by go_num, by go_num, by go_num, HSW2, HON, HAN, HBM, LWW2⟩
          case measure => simp [intOf]; omega
      · have b2 : (nn.tmod 2 != 0) = true := by simpa using he
        by_cases h3 : nn.tmod 3 = 0
        · have HN5 := free_ls HS1.out HO.out HA.out
          have HAN : Hid (aheadL L L.snaps.length ≤ ((t + 1 : Nat) : Int)) := Lib.hid (by have := HA.out; omega)
          have HBN : Hid (L.snaps.length ≤ i + 1 ∧ (allB L).length = b) := Lib.hid ⟨by have := HBB.out.1; omega, HBB.out.2⟩
          have HON := Lib.hid (HO.out.mono (Nat.le_succ i))
          have q0 : W1.cell? ⟨g, 0, none⟩ = some (.int .i64 L.base) := HS1.out.1.cell 0
          have q1 : W1.cell? ⟨g, 1, none⟩ = some (.slice A L.snaps.length c) := HS1.out.1.cell 1
          have q2 : W1.cell? ⟨g, 2, none⟩ = some (.slice A' L.dead.length c') := HS1.out.1.cell 2
          have y0 : W1.cell? ⟨gp, 0, none⟩ = some (.int .i64 (i : Int)) := HP1.out.cell 0
          have y1 : W1.cell? ⟨gp, 1, none⟩ = some (.int .i64 0) := HP1.out.cell 1
          have y2 : W1.cell? ⟨gp, 2, none⟩ = some (.int .i64 ((t : Int) + 1)) := HP1.out.cell 2
          have y3 : W1.cell? ⟨gp, 3, none⟩ = some (.string ⟨#[]⟩) := HP1.out.cell 3
          go_upto_region 20 with (fail)
          go_wp2_with fail
          refine (HN5 _ (by omega)).mono ?_
          rintro e V3 ⟨v, rfl, ⟨Ak, ck, Dk, dk, vsk, rfl, hOk⟩, b3⟩
          clear HN5 q0 q1 q2 y0 y1 y2 y3
          have z := HS1.out.1.below b3 HS1.out.1.lt
          have u0 : V3.cell? ⟨g, 0, none⟩ = some (.int .i64 L.base) := z.cell 0
          have u1 : V3.cell? ⟨g, 1, none⟩ = some (.slice A L.snaps.length c) := z.cell 1
          have u2 : V3.cell? ⟨g, 2, none⟩ = some (.slice A' L.dead.length c') := z.cell 2
          have v0 : V3.frozen? ⟨g, 0, none⟩ = false := z.frozen 0
          have v1 : V3.frozen? ⟨g, 1, none⟩ = false := z.frozen 1
          have v2 : V3.frozen? ⟨g, 2, none⟩ = false := z.frozen 2
          obtain ⟨W4, hW4⟩ : ∃ W4, W4 = ((V3.setCell ⟨g, 0, none⟩ (.int .i64 L.base)).setCell ⟨g, 1, none⟩ (.slice Ak L.snaps.length ck)).setCell ⟨g, 2, none⟩ (.slice Dk L.dead.length dk) := ⟨_, rfl⟩
          have HW4 := Lib.hid hW4
          have hSW4 : LS W4 g L Ak ck Dk dk := by rw [hW4]; exact ls_put z hOk
          have HSW4 := Lib.hid hSW4
          have lWW4 : Below w.heap.size w W4 := by rw [hW4]; exact put_below (LW1.out.trans (b3.mono LW1.out.size)) HG.out
          have LWW4 := Lib.hid lWW4
          have zp : Blk W4 gp 27 #[.int .i64 (i : Int), .int .i64 0, .int .i64 ((t : Int) + 1), .string ⟨#[]⟩] := by
            rw [hW4]; exact (put_far HNE.out).trans (HP1.out.below b3 HP1.out.lt)
          have HPW4 := Lib.hid zp
          have knW4 := HK.out _ lWW4
          clear hW4 z hSW4 lWW4 zp b3 hOk
          go_upto_region 21 with (fail)
          rw [← HW4.out]
          clear HW4
          go_wp2_with fail
          go_roundw
          case rel => exact ⟨i + 1, t + 1, b, L, Ak, ck, Dk, dk, by omega, by omega, by omega, by omega, by go_num, by go_num, by go_num, by go_num, HSW4, HON, HAN, HBN, LWW4⟩
          case measure => simp [intOf]; omega
        · have HAN : Hid (aheadL L L.snaps.length ≤ ((t + 1 : Nat) : Int)) := Lib.hid (by have := HA.out; omega)
          have HBN : Hid (L.snaps.length ≤ i + 1 ∧ (allB L).length = b) := Lib.hid ⟨by have := HBB.out.1; omega, HBB.out.2⟩
          have HON := Lib.hid (HO.out.mono (Nat.le_succ i))
          go_wp2_with fail
          go_roundw
          case rel => exact ⟨i + 1, t + 1, b, L, A, c, A', c', by omega, by omega, by omega, by omega, by go_num, by go_num, by go_num, by go_num, HS1, HON, HAN, HBN, LW1⟩
          case measure => simp [intOf]; omega
    · have hsplit2 : (¬ (i : Int) < (len1 : Int)) ∨ ((i : Int) < (len1 : Int) ∧ ¬ (i : Int) < 30) := by omega
      clear hlt HA hti
      rcases hsplit2 with hs | ⟨hs, hs2⟩
      all_goals
        obtain ⟨a, ha⟩ : ∃ a, a = i := ⟨_, rfl⟩
        subst ha
        have MK := make_bools a (by omega)
        obtain ⟨U2, hU2⟩ : ∃ U2, U2 = wr.alloc (.cells (Array.replicate a (.bool false)) 4) := ⟨_, rfl⟩
        obtain ⟨gF, hgF⟩ : ∃ gF, gF = wr.heap.size := ⟨_, rfl⟩
        have hb2 : Below wr.heap.size wr U2 := by rw [hU2]; exact (Below.refl _ _).alloc (Nat.le_refl _) _
        have HX2 := Lib.hid (⟨hU2, hgF⟩ : _ ∧ _)
        have HS0 := Lib.hid (HS.out.below hb2)
        have HFR0 : Hid (Fre U2 gF a []) := Lib.hid (by rw [hU2, hgF]; exact Fre.zero _ _)
        have HND0 : Hid (List.Nodup (((allB L).map fun p : Pt => p.addr) ++ ([] : List Int))) := Lib.hid (by rw [List.append_nil]; exact HO.out.nd)
        have HJ0 : Hid (0 + L.snaps.length ≤ 30) := Lib.hid (by have := HBB.out.1; omega)
        have HBL0 : Hid (b = (allB L).length) := Lib.hid HBB.out.2.symm
        have LW0 := Lib.hid (LW.out.trans (hb2.mono LW.out.size))
        have HGF : Hid (w.heap.size ≤ gF) := Lib.hid (by rw [hgF]; exact LW.out.size)
        have HOL := HO
        have hb30 : b ≤ 30 := by omega
        clear hU2 hgF hb2 HS LW HBB HO H1
        go_upto_region 27 with (fail)
        rw [← HX2.out.1, ← HX2.out.2]
        clear HX2 MK
        go_wp2_with fail
        go_loopw [8, 14] (fun v8 y wr => ∃ (j b : Nat) (L : Ln) (A : Option Addr) (c : Nat) (A' : Option Addr) (c' : Nat) (X : List Int), j ≤ 30 ∧ b ≤ 30 ∧ v8 = .int .i64 (b : Int) ∧ y = .int .i64 (j : Int) ∧ Hid (j + L.snaps.length ≤ 30) ∧ Hid (LS wr g L A c A' c') ∧ Hid (Ho L a) ∧ Hid (b = (allB L).length) ∧ Hid (Fre wr gF a X) ∧ Hid (List.Nodup (((allB L).map fun p : Pt => p.addr) ++ X)) ∧ Hid (Below w.heap.size w wr)) (fun _ y _ => 30 - (intOf y).toNat)
        case atStart => exact ⟨0, b, L, A, c, A', c', [], by omega, hb30, rfl, rfl, HJ0, HS0, HOL, HBL0, HFR0, HND0, LW0⟩
        case round =>
          clear HS0 HOL HBL0 HFR0 HND0 LW0 HJ0
          clear hb30 hbi
          obtain ⟨j, b, L, A, c, A', c', X, hj30, hb30, rfl, rfl, HJ, HS, HO, HBL, HFR, HND, LW⟩ := hrel
          by_cases hn0 : L.snaps.length = 0
          · obtain ⟨hd, hb⟩ := HO.out.nil hn0
            have hb0 : b = 0 := by rw [HBL.out, hb]; rfl
            subst hb0
            have hdl : L.dead.length = 0 := by rw [hd]; rfl
            have q1 : wr.cell? ⟨g, 1, none⟩ = some (.slice A L.snaps.length c) := HS.out.1.cell 1
            have q2 : wr.cell? ⟨g, 2, none⟩ = some (.slice A' L.dead.length c') := HS.out.1.cell 2
            rw [hn0] at q1
            rw [hdl] at q2
            clear hd hb hdl hn0
            go_wp2_with fail
            go_ret
            exact ⟨rfl, LW.out⟩
          · obtain ⟨n, hn⟩ : ∃ n, n = L.snaps.length := ⟨_, rfl⟩
            have HN := Lib.hid hn
            have hn1 : 0 < n := by omega
            have hn30 : j + n ≤ 30 := by rw [hn]; exact HJ.out
            have i0 : (0 : Int) < (n : Int) := by omega
            have p0 : wr.cell? ⟨g, 0, none⟩ = some (.int .i64 L.base) := HS.out.1.cell 0
            have p1 : wr.cell? ⟨g, 1, none⟩ = some (.slice A n c) := by rw [hn]; exact HS.out.1.cell 1
            have p2 : wr.cell? ⟨g, 2, none⟩ = some (.slice A' L.dead.length c') := HS.out.1.cell 2
            clear hn0
            by_cases hjl : j < len2
            · have i1 : (j : Int) < (len2 : Int) := by omega
              obtain ⟨od, hod⟩ : ∃ od, l2[j]? = some od := ⟨_, List.getElem?_eq_getElem (by have := HLN.out.2; omega)⟩
              obtain ⟨g2, o2, hA2, hkk⟩ := rdi_at H2.out hod
              subst hA2
              have kn := hkk _ LW.out
              obtain ⟨q, hq⟩ := u64nat od
              obtain ⟨k, hkq⟩ : ∃ k, q % n = k := ⟨_, rfl⟩
              have hk : k < n := by rw [← hkq]; exact Nat.mod_lt _ hn1
              have HQK := Lib.hid hkq
              have HCQ : Hid (∀ W : World, (convert 3 54 (.int .i64 od)).run Try.prog W = .ok (.int .u64 (q : Int)) W) := Lib.hid fun W => by rw [conv_u64, hq]
              have HT0 : Hid (wr.drew.cell? ⟨g2, o2 + j * 1, none⟩ = some (.int .i64 od) ∧ wr.drew.cell? ⟨g, 1, none⟩ = some (.slice A n c)) := Lib.hid ⟨by rw [Nat.mul_one]; exact kn, p1⟩
              clear hod hkk hq hkq
              go_upto_region 32 with (fail)
              refine region_anyZ (fun w' => w'.cell? ⟨g2, o2 + j * 1, none⟩ = some (.int .i64 od) ∧ w'.cell? ⟨g, 1, none⟩ = some (.slice A n c)) 12 (by kernel_rfl) ?_
              refine takeG 0 (.move (.tmp 1)) (some 99) none (.slice (some ⟨g2, o2, none⟩) len2 cap2) (by kernel_rfl) (by kernel_rfl) (by kernel_rfl) (fun _ _ _ h => h) (fun o' wq e hS => exec_move wq e (by kernel_rfl)) HT0.out ?_
              refine takeG 1 (.move (.tmp 14)) (some 100) none (.int .i64 (j : Int)) (by kernel_rfl) (by kernel_rfl) (by kernel_rfl) (fun _ _ _ h => h) (fun o' wq e hS => exec_move wq e (by kernel_rfl)) HT0.out ?_
              refine takeG 2 (.indexAddr 55 (.tmp 99) (.tmp 100)) (some 101) none (.pointer (some ⟨g2, o2 + j * 1, none⟩)) (by kernel_rfl) (by kernel_rfl) (by kernel_rfl) (fun _ _ _ h => h) (fun o' wq e hS => exec_index (u1 := .slice (some ⟨g2, o2, none⟩) len2 cap2) (u2 := .int .i64 (j : Int)) wq e (by kernel_rfl) (by kernel_rfl) (Gr.index_gen (P := Try.prog) (t := 55) (e := 3) Try.underlying55 (by kernel_rfl) g2 o2 len2 cap2 j hjl _)) HT0.out ?_
              refine takeG 3 (.load 3 (.tmp 101)) (some 102) none (.int .i64 od) (by kernel_rfl) (by kernel_rfl) (by kernel_rfl) (fun _ _ _ h => h) (fun o' wq e hS => exec_load (x := (.tmp 101)) e (by kernel_rfl) (load_one Try.underlying3 (by kernel_rfl) hS.1)) HT0.out ?_
              refine takeG 4 (.convert 3 54 (.tmp 102)) (some 103) none (.int .u64 (q : Int)) (by kernel_rfl) (by kernel_rfl) (by kernel_rfl) (fun _ _ _ h => h) (fun o' wq e hS => exec_conv (u := .int .i64 od) wq e (by kernel_rfl) (HCQ.out _)) HT0.out ?_
              refine takeG 5 (.fieldAddr 33 (.tmp 5) 1) (some 104) none (.pointer (some ⟨g, 1, none⟩)) (by kernel_rfl) (by kernel_rfl) (by kernel_rfl) (fun _ _ _ h => h) (fun o' wq e hS => exec_field (u := .pointer (some ⟨g, 0, none⟩)) wq e (by kernel_rfl) (by kernel_rfl)) HT0.out ?_
              refine takeG 6 (.load 31 (.tmp 104)) (some 105) none (.slice A n c) (by kernel_rfl) (by kernel_rfl) (by kernel_rfl) (fun _ _ _ h => h) (fun o' wq e hS => exec_load (x := (.tmp 104)) e (by kernel_rfl) (load_one Try.underlying31 (by kernel_rfl) hS.2)) HT0.out ?_
              refine takeG 7 (.call ⟨.builtin .len, #[(.tmp 105)], #[31]⟩) (some 106) none (.int .i64 (n : Int)) (by kernel_rfl) (by kernel_rfl) (by kernel_rfl) (fun _ _ _ h => h) (fun o' wq e hS => exec_len (u := .slice A n c) wq e (by kernel_rfl) (by kernel_rfl)) HT0.out ?_
              refine takeG 8 (.convert 3 54 (.tmp 106)) (some 107) none (.int .u64 (n : Int)) (by kernel_rfl) (by kernel_rfl) (by kernel_rfl) (fun _ _ _ h => h) (fun o' wq e hS => exec_conv (u := .int .i64 (n : Int)) wq e (by kernel_rfl) (conv_u64n _ (by omega) _)) HT0.out ?_
              refine takeG 9 (.binOp .rem 54 (.tmp 103) (.tmp 107) 54) (some 108) none (.int .u64 (k : Int)) (by kernel_rfl) (by kernel_rfl) (by kernel_rfl) (fun _ _ _ h => h) (fun o' wq e hS => exec_bin (u1 := .int .u64 (q : Int)) (u2 := .int .u64 (n : Int)) wq e (by kernel_rfl) (by kernel_rfl) (eqG_int ..) (rem_at HQK.out hn1 _)) HT0.out ?_
              refine takeG 10 (.convert 54 3 (.tmp 108)) (some 109) none (.int .i64 (k : Int)) (by kernel_rfl) (by kernel_rfl) (by kernel_rfl) (fun _ _ _ h => h) (fun o' wq e hS => exec_conv (u := .int .u64 (k : Int)) wq e (by kernel_rfl) (conv_i64n _ (by omega) _)) HT0.out ?_
              refine lastS 11 (.assign (.tmp 109)) (some 15) (.int .i64 (k : Int)) (by kernel_rfl) (by kernel_rfl) (by kernel_rfl) HT0.out (fun o' e => exec_assign _ e (by kernel_rfl)) ?_
              simp only [put_some, put_none, List.setIfInBounds_toArray, List.set_cons_succ, List.set_cons_zero]
              have hbD : Below wr.heap.size wr wr.drew := (Below.refl _ _).drew
              obtain ⟨wd, hwd⟩ : ∃ wd, wd = wr.drew := ⟨_, rfl⟩
              rw [← hwd] at hbD ⊢
              replace HS := Lib.hid (HS.out.below hbD)
              replace HFR := Lib.hid (HFR.out.below hbD)
              replace LW := Lib.hid (LW.out.trans (hbD.mono LW.out.size))
              clear p0 p1 p2 kn hbD hwd HT0 HCQ HQK
              have p0 : wd.cell? ⟨g, 0, none⟩ = some (.int .i64 L.base) := HS.out.1.cell 0
              have p1 : wd.cell? ⟨g, 1, none⟩ = some (.slice A n c) := by rw [hn]; exact HS.out.1.cell 1
              have p2 : wd.cell? ⟨g, 2, none⟩ = some (.slice A' L.dead.length c') := HS.out.1.cell 2
              obtain ⟨M, F, HM1, HM2, HM3, HM4⟩ := des_ls HS.out HO.out k (by rw [← hn]; exact hk)
              rw [← hn] at HM3 HM4
              obtain ⟨nm, hnm⟩ : ∃ nm, nm = M.snaps.length := ⟨_, rfl⟩
              have HNM := Lib.hid hnm
              have HOM := Lib.hid HM1
              have HPM := Lib.hid HM2
              have HN1 : Hid (nm + 1 = n) := Lib.hid (by rw [hnm]; exact HM3)
              have HDE := Lib.hid HM4
              clear hnm hn HM1 HM2 HM3 HM4
              go_wp2_with fail
              refine (HDE.out _ rfl).mono ?_
              rintro e V1 ⟨v, f, rfl, ⟨Ae, ce, De, de, vse, rfl, hOe⟩, hf, b1⟩
              obtain ⟨Af, cf, hff, _, _, _, _, _⟩ := hf.shape (fun _ => rfl)
              obtain ⟨nf, hnf⟩ : ∃ nf, nf = F.length := ⟨_, rfl⟩
              have hff' : f = .slice Af nf cf := by rw [hnf]; exact hff
              clear hff
              subst hff'
              rw [← HNM.out]
              have HNF := Lib.hid hnf
              obtain ⟨V2, hV2⟩ : ∃ V2, V2 = V1.alloc (.cells #[.int .i64 M.base, .slice Ae nm ce, .slice De M.dead.length de] 33) := ⟨_, rfl⟩
              obtain ⟨gm, hgm⟩ : ∃ gm, gm = V1.heap.size := ⟨_, rfl⟩
              have hb2 : Below V1.heap.size V1 V2 := by rw [hV2]; exact (Below.refl _ _).alloc (Nat.le_refl _) _
              have b12 : Below wd.heap.size wd V2 := b1.trans (hb2.mono b1.size)
              have HX2 := Lib.hid (⟨hV2, hgm⟩ : _ ∧ _)
              have HGM : Hid (Blk V2 gm 33 #[.int .i64 M.base, .slice Ae nm ce, .slice De M.dead.length de]) := Lib.hid (by rw [hV2, hgm]; exact Blk.new _ _ _)
              have HGN : Hid (gm ≠ g) := Lib.hid (by have h1 := HS.out.1.lt; have h2 := b1.size; omega)
              have HOe := Lib.hid (hOe.below hb2 (Nat.le_refl _))
              have HOf : Hid (OwnP V2 0 (.slice Af nf cf) F) := Lib.hid (hf.below hb2 (Nat.le_refl _))
              have HS2 := Lib.hid (HS.out.below b12)
              have HFR2 : Hid (Fre V2 gF a (X ++ (F.map fun p : Pt => p.addr).take 0)) := Lib.hid (by simpa using HFR.out.below b12)
              have LW2 := Lib.hid (LW.out.trans (b12.mono LW.out.size))
              have HND2 := Lib.hid (nd_next HPM.out HND.out)
              have HLEN : Hid ((allB M).length + nf = b) := Lib.hid (by have h1 := HPM.out.length_eq; rw [List.length_append] at h1; have h2 := HBL.out; omega)
              have hnfb : nf ≤ b := by have := HLEN.out; omega
              have z := HS2.out.1
              have q1 : V2.cell? ⟨g, 1, none⟩ = some (.slice A (nm + 1) c) := by rw [HN1.out, HN.out]; exact z.cell 1
              have y1 : V2.cell? ⟨gm, 1, none⟩ = some (.slice Ae nm ce) := HGM.out.cell 1
              have HBF2 : Hid (Fre V2 gF a X) := Lib.hid (HFR.out.below b12)
              have HNG : Hid (g ≠ gF ∧ gm ≠ gF ∧ ∀ g4 cu, Blk V2 g4 27 cu → g4 ≠ gF) := Lib.hid (by
                obtain ⟨cF, hcF, _⟩ := HBF2.out
                exact ⟨Blk.ne_ HS2.out.1 hcF (by decide), Blk.ne_ HGM.out hcF (by decide), fun g4 cu h => Blk.ne_ h hcF (by decide)⟩)
              have hnm30 : nm ≤ 30 := by have := HN1.out; omega
              clear hV2 hgm hb2 b12 hOe hf b1 HDE hnf z p0 p1 p2 HFR LW HND HS
              go_upto_region 34 with (fail)
              rw [← HX2.out.1, ← HX2.out.2]
              clear HX2
              go_wp2_with fail
              go_loopw [8, 19] (fun v8 y wr => ∃ r : Nat, r ≤ nf ∧ v8 = .int .i64 ((b : Int) - (r : Int)) ∧ y = .int .i64 (r : Int) ∧ Hid (Fre wr gF a (X ++ (F.map fun p : Pt => p.addr).take r)) ∧ Hid (∀ g', g' ≠ gF → wr.heap[g']? = V2.heap[g']?) ∧ Hid (wr.heap.size = V2.heap.size) ∧ Hid (Below w.heap.size w wr)) (fun _ y _ => nf - (intOf y).toNat)
              case atStart => exact ⟨0, by omega, by simp, rfl, HFR2, Lib.hid (fun _ _ => rfl), Lib.hid rfl, LW2⟩
              case round =>
                clear HFR2 q1 y1
                obtain ⟨r, hr, rfl, rfl, HFR3, KK, KS, LW3⟩ := hrel
                by_cases hrl : r < nf
                · have i3 : (r : Int) < (nf : Int) := by omega
                  obtain ⟨x, hx⟩ : ∃ x, F[r]? = some x := ⟨_, List.getElem?_eq_getElem (by rw [← HNF.out]; exact hrl)⟩
                  have hxm : x ∈ allB L := HPM.out.mem_iff.1 (List.mem_append_right _ (List.mem_of_getElem? hx))
                  obtain ⟨hx0, hx1⟩ := HO.out.ad x hxm
                  obtain ⟨na, hna⟩ : ∃ na : Nat, x.addr = (na : Int) := ⟨x.addr.toNat, by omega⟩
                  have hna2 : na < a := by omega
                  have hfx : (F.map fun p : Pt => p.addr)[r]? = some (na : Int) := by rw [List.getElem?_map, hx, ← hna]; rfl
                  obtain ⟨g4, hA4, hg4, ⟨cu4, hB4⟩, hc4⟩ := own_addr HOf.out hx
                  have hne : g4 ≠ gF := HNG.out.2.2 g4 cu4 hB4
                  subst hA4
                  rw [hna] at hc4
                  have hB4w : Blk wr g4 27 cu4 := (KK.out g4 hne).trans hB4
                  have c4 : wr.cell? ⟨g4, r * 4, none⟩ = some (.int .i64 (na : Int)) := ((hB4w.cell _).trans (hB4.cell _).symm).trans hc4
                  obtain ⟨z0, z1⟩ := HFR3.out.at_ hna2 (nd_fresh HND2.out hfx)
                  have i4 : (na : Int) < (a : Int) := by omega
                  have HF4 : Hid (Fre (wr.setCell ⟨gF, na, none⟩ (.bool true)) gF a (X ++ (F.map fun p : Pt => p.addr).take (r + 1))) := Lib.hid (by
                    have h1 := HFR3.out.step hna2
                    rw [List.take_add_one, hfx, ← List.append_assoc]
                    exact h1)
                  have KK4 : Hid (∀ g', g' ≠ gF → (wr.setCell ⟨gF, na, none⟩ (.bool true)).heap[g']? = V2.heap[g']?) := Lib.hid fun g' hg' => (Below.heap_setCell _ ⟨gF, na, none⟩ _ g' hg').trans (KK.out g' hg')
                  have KS4 : Hid ((wr.setCell ⟨gF, na, none⟩ (.bool true)).heap.size = V2.heap.size) := Lib.hid (by rw [← KS.out]; simp [World.setCell])
                  have LW4 := Lib.hid (LW3.out.setCell (p := ⟨gF, na, none⟩) HGF.out (.bool true))
                  clear hx hxm hx0 hx1 hna hfx hB4 hB4w hne hc4 hg4 HFR3 KK KS LW3
                  go_wp2_with fail
                  go_roundw
                  case rel => exact ⟨r + 1, by omega, by go_num, by go_num, HF4, KK4, KS4, LW4⟩
                  case measure => simp [intOf]; omega
                · have i3 : ¬ ((r : Int) < (nf : Int)) := by omega
                  obtain rfl : nf = r := by omega
                  have zm : Blk wr gm 33 #[.int .i64 M.base, .slice Ae nm ce, .slice De M.dead.length de] := (KK.out gm HNG.out.2.1).trans HGM.out
                  have zg : Blk wr g 33 #[.int .i64 L.base, .slice A L.snaps.length c, .slice A' L.dead.length c'] := (KK.out g HNG.out.1).trans HS2.out.1
                  have y0 : wr.cell? ⟨gm, 0, none⟩ = some (.int .i64 M.base) := zm.cell 0
                  have y1 : wr.cell? ⟨gm, 1, none⟩ = some (.slice Ae nm ce) := zm.cell 1
                  have y2 : wr.cell? ⟨gm, 2, none⟩ = some (.slice De M.dead.length de) := zm.cell 2
                  have u0 : wr.cell? ⟨g, 0, none⟩ = some (.int .i64 L.base) := zg.cell 0
                  have u1 : wr.cell? ⟨g, 1, none⟩ = some (.slice A L.snaps.length c) := zg.cell 1
                  have u2 : wr.cell? ⟨g, 2, none⟩ = some (.slice A' L.dead.length c') := zg.cell 2
                  have v0 : wr.frozen? ⟨g, 0, none⟩ = false := zg.frozen 0
                  have v1 : wr.frozen? ⟨g, 1, none⟩ = false := zg.frozen 1
                  have v2 : wr.frozen? ⟨g, 2, none⟩ = false := zg.frozen 2
                  obtain ⟨W5, hW5⟩ : ∃ W5, W5 = ((wr.setCell ⟨g, 0, none⟩ (.int .i64 M.base)).setCell ⟨g, 1, none⟩ (.slice Ae nm ce)).setCell ⟨g, 2, none⟩ (.slice De M.dead.length de) := ⟨_, rfl⟩
                  have HW5 := Lib.hid hW5
                  have HSn : Hid (LS W5 g M Ae ce De de) := Lib.hid (by
                    obtain ⟨cF, hcF, _⟩ := HBF2.out
                    have h1 := HOe.out.notline hcF (by decide) (by decide) KK.out
                    rw [hW5, HNM.out]
                    exact ls_put zg h1)
                  have HFn : Hid (Fre W5 gF a (X ++ F.map fun p : Pt => p.addr)) := Lib.hid (by
                    have h1 := HFR3.out
                    rw [List.take_of_length_le (by rw [List.length_map, ← HNF.out]; exact Nat.le_refl _)] at h1
                    refine h1.keep ?_
                    rw [hW5]
                    exact put_far (fun e => HNG.out.1 e.symm))
                  have HNDn := Lib.hid (nd_end HND2.out)
                  have HJn : Hid (j + 1 + M.snaps.length ≤ 30) := Lib.hid (by have h1 := HJ.out; have h2 := HN1.out; rw [← HNM.out]; rw [← HN.out] at h1; omega)
                  have HBn : Hid (b - nf = (allB M).length) := Lib.hid (by have := HLEN.out; omega)
                  have LWn : Hid (Below w.heap.size w W5) := Lib.hid (by rw [hW5]; exact put_below LW3.out HG.out)
                  clear hW5 zm zg HFR3 KK KS LW3
                  go_upto_region 29 with (fail)
                  rw [← HW5.out]
                  clear HW5
                  go_wp2_with fail
                  go_roundw
                  case rel => exact ⟨j + 1, b - nf, M, Ae, ce, De, de, X ++ F.map fun p : Pt => p.addr, by omega, by omega, by go_num, by go_num, HJn, HSn, HOM, HBn, HFn, HNDn, LWn⟩
                  case measure => simp [intOf]; omega
            · have i1 : ¬ ((j : Int) < (len2 : Int)) := by omega
              obtain ⟨k, hk0⟩ : ∃ k : Nat, k = 0 := ⟨_, rfl⟩
              have hk : k < n := by omega
              obtain ⟨M, F, HM1, HM2, HM3, HM4⟩ := des_ls HS.out HO.out k (by rw [← hn]; exact hk)
              rw [← hn] at HM3 HM4
              obtain ⟨nm, hnm⟩ : ∃ nm, nm = M.snaps.length := ⟨_, rfl⟩
              have HNM := Lib.hid hnm
              have HOM := Lib.hid HM1
              have HPM := Lib.hid HM2
              have HN1 : Hid (nm + 1 = n) := Lib.hid (by rw [hnm]; exact HM3)
              have HDE := Lib.hid HM4
              clear hnm hn HM1 HM2 HM3 HM4
              go_wp2_with fail
              refine (HDE.out _ (by rw [hk0]; rfl)).mono ?_
              rintro e V1 ⟨v, f, rfl, ⟨Ae, ce, De, de, vse, rfl, hOe⟩, hf, b1⟩
              obtain ⟨Af, cf, hff, _, _, _, _, _⟩ := hf.shape (fun _ => rfl)
              obtain ⟨nf, hnf⟩ : ∃ nf, nf = F.length := ⟨_, rfl⟩
              have hff' : f = .slice Af nf cf := by rw [hnf]; exact hff
              clear hff
              subst hff'
              rw [← HNM.out]
              have HNF := Lib.hid hnf
              obtain ⟨V2, hV2⟩ : ∃ V2, V2 = V1.alloc (.cells #[.int .i64 M.base, .slice Ae nm ce, .slice De M.dead.length de] 33) := ⟨_, rfl⟩
              obtain ⟨gm, hgm⟩ : ∃ gm, gm = V1.heap.size := ⟨_, rfl⟩
              have hb2 : Below V1.heap.size V1 V2 := by rw [hV2]; exact (Below.refl _ _).alloc (Nat.le_refl _) _
              have b12 : Below wr.heap.size wr V2 := b1.trans (hb2.mono b1.size)
              have HX2 := Lib.hid (⟨hV2, hgm⟩ : _ ∧ _)
              have HGM : Hid (Blk V2 gm 33 #[.int .i64 M.base, .slice Ae nm ce, .slice De M.dead.length de]) := Lib.hid (by rw [hV2, hgm]; exact Blk.new _ _ _)
              have HGN : Hid (gm ≠ g) := Lib.hid (by have h1 := HS.out.1.lt; have h2 := b1.size; omega)
              have HOe := Lib.hid (hOe.below hb2 (Nat.le_refl _))
              have HOf : Hid (OwnP V2 0 (.slice Af nf cf) F) := Lib.hid (hf.below hb2 (Nat.le_refl _))
              have HS2 := Lib.hid (HS.out.below b12)
              have HFR2 : Hid (Fre V2 gF a (X ++ (F.map fun p : Pt => p.addr).take 0)) := Lib.hid (by simpa using HFR.out.below b12)
              have LW2 := Lib.hid (LW.out.trans (b12.mono LW.out.size))
              have HND2 := Lib.hid (nd_next HPM.out HND.out)
              have HLEN : Hid ((allB M).length + nf = b) := Lib.hid (by have h1 := HPM.out.length_eq; rw [List.length_append] at h1; have h2 := HBL.out; omega)
              have hnfb : nf ≤ b := by have := HLEN.out; omega
              have z := HS2.out.1
              have q1 : V2.cell? ⟨g, 1, none⟩ = some (.slice A (nm + 1) c) := by rw [HN1.out, HN.out]; exact z.cell 1
              have y1 : V2.cell? ⟨gm, 1, none⟩ = some (.slice Ae nm ce) := HGM.out.cell 1
              have HBF2 : Hid (Fre V2 gF a X) := Lib.hid (HFR.out.below b12)
              have HNG : Hid (g ≠ gF ∧ gm ≠ gF ∧ ∀ g4 cu, Blk V2 g4 27 cu → g4 ≠ gF) := Lib.hid (by
                obtain ⟨cF, hcF, _⟩ := HBF2.out
                exact ⟨Blk.ne_ HS2.out.1 hcF (by decide), Blk.ne_ HGM.out hcF (by decide), fun g4 cu h => Blk.ne_ h hcF (by decide)⟩)
              have hnm30 : nm ≤ 30 := by have := HN1.out; omega
              clear hV2 hgm hb2 b12 hOe hf b1 HDE hnf z p0 p1 p2 HFR LW HND HS
              go_upto_region 34 with (fail)
              rw [← HX2.out.1, ← HX2.out.2]
              clear HX2
              go_wp2_with fail
              go_loopw [8, 19] (fun v8 y wr => ∃ r : Nat, r ≤ nf ∧ v8 = .int .i64 ((b : Int) - (r : Int)) ∧ y = .int .i64 (r : Int) ∧ Hid (Fre wr gF a (X ++ (F.map fun p : Pt => p.addr).take r)) ∧ Hid (∀ g', g' ≠ gF → wr.heap[g']? = V2.heap[g']?) ∧ Hid (wr.heap.size = V2.heap.size) ∧ Hid (Below w.heap.size w wr)) (fun _ y _ => nf - (intOf y).toNat)
              case atStart => exact ⟨0, by omega, by simp, rfl, HFR2, Lib.hid (fun _ _ => rfl), Lib.hid rfl, LW2⟩
              case round =>
                clear HFR2 q1 y1
                obtain ⟨r, hr, rfl, rfl, HFR3, KK, KS, LW3⟩ := hrel
                by_cases hrl : r < nf
                · have i3 : (r : Int) < (nf : Int) := by omega
                  obtain ⟨x, hx⟩ : ∃ x, F[r]? = some x := ⟨_, List.getElem?_eq_getElem (by rw [← HNF.out]; exact hrl)⟩
                  have hxm : x ∈ allB L := HPM.out.mem_iff.1 (List.mem_append_right _ (List.mem_of_getElem? hx))
                  obtain ⟨hx0, hx1⟩ := HO.out.ad x hxm
                  obtain ⟨na, hna⟩ : ∃ na : Nat, x.addr = (na : Int) := ⟨x.addr.toNat, by omega⟩
                  have hna2 : na < a := by omega
                  have hfx : (F.map fun p : Pt => p.addr)[r]? = some (na : Int) := by rw [List.getElem?_map, hx, ← hna]; rfl
                  obtain ⟨g4, hA4, hg4, ⟨cu4, hB4⟩, hc4⟩ := own_addr HOf.out hx
                  have hne : g4 ≠ gF := HNG.out.2.2 g4 cu4 hB4
                  subst hA4
                  rw [hna] at hc4
                  have hB4w : Blk wr g4 27 cu4 := (KK.out g4 hne).trans hB4
                  have c4 : wr.cell? ⟨g4, r * 4, none⟩ = some (.int .i64 (na : Int)) := ((hB4w.cell _).trans (hB4.cell _).symm).trans hc4
                  obtain ⟨z0, z1⟩ := HFR3.out.at_ hna2 (nd_fresh HND2.out hfx)
                  have i4 : (na : Int) < (a : Int) := by omega
                  have HF4 : Hid (Fre (wr.setCell ⟨gF, na, none⟩ (.bool true)) gF a (X ++ (F.map fun p : Pt => p.addr).take (r + 1))) := Lib.hid (by
                    have h1 := HFR3.out.step hna2
                    rw [List.take_add_one, hfx, ← List.append_assoc]
                    exact h1)
                  have KK4 : Hid (∀ g', g' ≠ gF → (wr.setCell ⟨gF, na, none⟩ (.bool true)).heap[g']? = V2.heap[g']?) := Lib.hid fun g' hg' => (Below.heap_setCell _ ⟨gF, na, none⟩ _ g' hg').trans (KK.out g' hg')
                  have KS4 : Hid ((wr.setCell ⟨gF, na, none⟩ (.bool true)).heap.size = V2.heap.size) := Lib.hid (by rw [← KS.out]; simp [World.setCell])
                  have LW4 := Lib.hid (LW3.out.setCell (p := ⟨gF, na, none⟩) HGF.out (.bool true))
                  clear hx hxm hx0 hx1 hna hfx hB4 hB4w hne hc4 hg4 HFR3 KK KS LW3
                  go_wp2_with fail
                  go_roundw
                  case rel => exact ⟨r + 1, by omega, by go_num, by go_num, HF4, KK4, KS4, LW4⟩
                  case measure => simp [intOf]; omega
                · have i3 : ¬ ((r : Int) < (nf : Int)) := by omega
                  obtain rfl : nf = r := by omega
                  have zm : Blk wr gm 33 #[.int .i64 M.base, .slice Ae nm ce, .slice De M.dead.length de] := (KK.out gm HNG.out.2.1).trans HGM.out
                  have zg : Blk wr g 33 #[.int .i64 L.base, .slice A L.snaps.length c, .slice A' L.dead.length c'] := (KK.out g HNG.out.1).trans HS2.out.1
                  have y0 : wr.cell? ⟨gm, 0, none⟩ = some (.int .i64 M.base) := zm.cell 0
                  have y1 : wr.cell? ⟨gm, 1, none⟩ = some (.slice Ae nm ce) := zm.cell 1
                  have y2 : wr.cell? ⟨gm, 2, none⟩ = some (.slice De M.dead.length de) := zm.cell 2
                  have u0 : wr.cell? ⟨g, 0, none⟩ = some (.int .i64 L.base) := zg.cell 0
                  have u1 : wr.cell? ⟨g, 1, none⟩ = some (.slice A L.snaps.length c) := zg.cell 1
                  have u2 : wr.cell? ⟨g, 2, none⟩ = some (.slice A' L.dead.length c') := zg.cell 2
                  have v0 : wr.frozen? ⟨g, 0, none⟩ = false := zg.frozen 0
                  have v1 : wr.frozen? ⟨g, 1, none⟩ = false := zg.frozen 1
                  have v2 : wr.frozen? ⟨g, 2, none⟩ = false := zg.frozen 2
                  obtain ⟨W5, hW5⟩ : ∃ W5, W5 = ((wr.setCell ⟨g, 0, none⟩ (.int .i64 M.base)).setCell ⟨g, 1, none⟩ (.slice Ae nm ce)).setCell ⟨g, 2, none⟩ (.slice De M.dead.length de) := ⟨_, rfl⟩
                  have HW5 := Lib.hid hW5
                  have HSn : Hid (LS W5 g M Ae ce De de) := Lib.hid (by
                    obtain ⟨cF, hcF, _⟩ := HBF2.out
                    have h1 := HOe.out.notline hcF (by decide) (by decide) KK.out
                    rw [hW5, HNM.out]
                    exact ls_put zg h1)
                  have HFn : Hid (Fre W5 gF a (X ++ F.map fun p : Pt => p.addr)) := Lib.hid (by
                    have h1 := HFR3.out
                    rw [List.take_of_length_le (by rw [List.length_map, ← HNF.out]; exact Nat.le_refl _)] at h1
                    refine h1.keep ?_
                    rw [hW5]
                    exact put_far (fun e => HNG.out.1 e.symm))
                  have HNDn := Lib.hid (nd_end HND2.out)
                  have HJn : Hid (j + 1 + M.snaps.length ≤ 30) := Lib.hid (by have h1 := HJ.out; have h2 := HN1.out; rw [← HNM.out]; rw [← HN.out] at h1; omega)
                  have HBn : Hid (b - nf = (allB M).length) := Lib.hid (by have := HLEN.out; omega)
                  have LWn : Hid (Below w.heap.size w W5) := Lib.hid (by rw [hW5]; exact put_below LW3.out HG.out)
                  clear hW5 zm zg HFR3 KK KS LW3
                  go_upto_region 29 with (fail)
                  rw [← HW5.out]
                  clear HW5
                  go_wp2_with fail
                  go_roundw
                  case rel => exact ⟨j + 1, b - nf, M, Ae, ce, De, de, X ++ F.map fun p : Pt => p.addr, by omega, by omega, by go_num, by go_num, HJn, HSn, HOM, HBn, HFn, HNDn, LWn⟩
                  case measure => simp [intOf]; omega
end Dd
namespace deadOrders
theorem walk (a0 : Option Addr) (l0 : List Int) (cap0 : Nat) (a1 : Option Addr) (l1 : List Int) (cap1 : Nat) (W : World) (hy0 : Gr.RdG 1 Gr.csI W a0 l0) (hg0 : ∀ y ∈ l0, Gr.Z64' y) (hl0 : l0.length ≤ cap0) (hm0 : cap0 ≤ maxLen) (hn0 : a0 = none → cap0 = 0) (hy1 : Gr.RdG 1 Gr.csI W a1 l1) (hg1 : ∀ y ∈ l1, Gr.Z64' y) (hl1 : l1.length ≤ cap1) (hm1 : cap1 ≤ maxLen) (hn1 : a1 = none → cap1 = 0) :
    Calls Try.prog 7 #[.slice a0 l0.length cap0, .slice a1 l1.length cap1] W fun e w' => e = .returned (.bool true) ∧ Below W.heap.size W w' :=
  Dd.orders_walk W a0 l0 cap0 a1 l1 cap1 hy0 hl0 hm0 hy1 hl1 hm1
end deadOrders
end Go.Proofs.Ytpoacgofbbfhcaa
