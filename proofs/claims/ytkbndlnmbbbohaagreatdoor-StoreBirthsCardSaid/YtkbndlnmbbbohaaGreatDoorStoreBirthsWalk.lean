/-
  'hoardlaw09.StoreBirths' answers true. The conditions: the steps can be read, the sums' table is laid.
-/
import Derived.Test.YtkbndlnmbbbohaaGreatDoorShaLaidM
import Derived.Test.YtkbndlnmbbbohaaGreatDoorArrLawLayM
namespace Go.Proofs.YtkbndlnmbbbohaaGreatDoor.storeBirths
open Go Go.RowKit refRack Sto Arr
set_option maxRecDepth 100000
set_option linter.unusedVariables false
theorem one_cost : Arr.cost 5 1 = 4 := by decide
/-- ahead of a round -/
def Inv (B : Nat) (W : World) (rg p a r sp m i t : Nat) : Prop := ∃ v S, StoV B W p a r sp m 0 v S ∧ Run S 5 60 (4 * i) (4 * i) ∧ S.tx = t ∧ S.c0 = 0 ∧ S.c1 = 0 ∧ S.c2 = 0 ∧ S.c3 = i
def Rm (W : World) (rg r p wd : Nat) : Prop := Blk W rg 60 #[.pointer (some ⟨r, 0, none⟩), .pointer (some ⟨p, 0, none⟩), .pointer (some ⟨wd, 0, none⟩), .slice none 0 0]
/-- a byte is put -/
theorem put_one {B : Nat} (w : World) {rg p a r sp m i t wd : Nat} (h : Inv B w rg p a r sp m i t) (hx : Rm w rg r p wd) (hB : 0 < B) (hl : Laid w) (hi : i < 30) (ht : t ≤ 1000) :
    ∃ sm, ∃ ka : Int, Calls Tryz.prog 11 #[.pointer (some ⟨p, 0, none⟩), .slice (some ⟨w.heap.size, 0, none⟩) 1 1] (w.alloc (.cells #[.int .u8 1] 5)) fun e w' => e = .returned (.tuple #[.agg #[.int .i64 ka, .int .i64 1, .int .i64 (t : Int), .string sm], .int .i64 0]) ∧ Inv B w' rg p a r sp m (i + 1) t ∧ Rm w' rg r p wd ∧ Below B w w' := by
  obtain ⟨v, S, hs, hr, e1, e2, e3, e4, e5⟩ := h
  have hal : Below w.heap.size w (w.alloc (.cells #[.int .u8 1] 5)) := (Below.refl _ _).alloc (Nat.le_refl _) _
  have hd : Byt (w.alloc (.cells #[.int .u8 1] 5)) (some ⟨w.heap.size, 0, none⟩) [1] := ⟨by decide, .inr ⟨w.heap.size, 0, #[.int .u8 1], (0, 0), rfl, Blk.new w 5 #[.int .u8 1], fun j x hj => by
    have hj1 : j < 1 := (List.getElem?_eq_some_iff.1 hj).1
    obtain rfl : j = 0 := by omega
    injection hj with hj
    subst hj
    rfl⟩⟩
  refine ⟨sumS 1 (fun j => [1].getD j 0), ((4 * i : Nat) : Int), ?_⟩
  refine (put_run _ (hs.below hal) (hl.below hal hl.pos) hB hr (by omega) (by omega) w.heap.size 0 1 1 [1] hd rfl (by omega) (by omega) (Nat.le_refl _) (by decide) (by rw [one_cost]; omega) (by rw [one_cost]; omega) (by rw [one_cost]; omega)).mono ?_
  rintro e w' ⟨rfl, ⟨v', S', x, s3, r3, f1, f2, f3, f4, f5, _⟩, hk⟩
  refine ⟨by rw [e1]; rfl, ⟨v', S', s3, ?_, f1.trans e1, f2.trans e2, f3.trans e3, f4.trans e4, by rw [f5, e5]⟩, hk.kept _ _ (Blk.below hx hal (Blk.lt hx)) rfl, (hal.mono hs.le).trans hk.below⟩
  have h4 : 4 * i + Arr.cost 5 1 = 4 * (i + 1) := by rw [one_cost]; omega
  rw [h4] at r3
  exact r3
set_option maxHeartbeats 3200000 in
theorem walk (lA : Option Addr) (L lc : Nat) (y : Nat → Int) (w : World) (hy : Arr.RdZ w w.heap.size lA L y ∧ L ≤ lc ∧ lc ≤ maxLen) (hl : Laid w) :
    Calls Tryz.prog 5 #[.slice lA L lc] w fun e w' => e = .returned (.bool true) ∧ Below w.heap.size w w' := by
  have hpos := hl.pos
  have HY := Lib.hid hy.1
  have HYL := Lib.hid hy.2
  have HL := Lib.hid hl
  have HKN := Lib.hid (known_sto w hl)
  clear hy hl
  go_enter Tryz.func5, Tryz.ntmps5
  go_wp2_with fail
  refine HKN.out.mono ?_
  rintro e w1 ⟨rfl, b1⟩
  have B1 := Lib.hid b1
  have HL1 := Lib.hid (HL.out.below b1 HL.out.pos)
  have HF : Hid (Calls Tryz.prog 19 #[.int .i64 5, .int .i64 60, .slice none 0 0, .int .i64 1] w1 fun e w' => ∃ g r a p sp m wd, e = .returned (.tuple #[.pointer (some ⟨g, 0, none⟩), .bool true, .bool true]) ∧
      Blk w' g 60 #[.pointer (some ⟨r, 0, none⟩), .pointer (some ⟨p, 0, none⟩), .pointer (some ⟨wd, 0, none⟩), .slice none 0 0] ∧ StoV w1.heap.size w' p a r sp m 0 (.slice none 0 0) (new0 (RS.new 5 60) 1 1) ∧ Keep w1.heap.size w1 w') := Lib.hid (fresh_any w1 5 60 1 (by omega) (by omega) (by omega) (by omega) (by omega) (by omega))
  obtain ⟨B, hB⟩ : ∃ B, B = w1.heap.size := ⟨_, rfl⟩
  rw [← hB] at HF
  have HB : Hid (B = w1.heap.size) := Lib.hid hB
  have HBP : Hid (0 < B) := Lib.hid (by rw [hB]; exact HL1.out.pos)
  clear b1 HKN hB
  go_wp2_with fail
  refine HF.out.mono ?_
  rintro e w2 ⟨rg, r, a, p, sp, m, wd, rfl, x2, s2, k2⟩
  have X2 : Hid (Rm w2 rg r p wd) := Lib.hid x2
  have I2 : Hid (Inv B w2 rg p a r sp m 0 1) := Lib.hid ⟨_, _, s2, Run.new 5 60 1 (by omega) (by omega) (by omega) (by omega) s2.spc.good, rfl, rfl, rfl, rfl, rfl⟩
  have B2 : Hid (Below B w1 w2) := Lib.hid k2.below
  clear x2 s2 k2 HF
  go_wp2_with fail
  go_loopw [6, 7] (fun c y' wr => ∃ (i t : Nat), i ≤ L ∧ i ≤ 30 ∧ t ≤ 1 + 4 * i ∧ 1 ≤ t ∧ c = .int .i64 (t : Int) ∧ y' = .int .i64 (i : Int) ∧ Hid (Inv B wr rg p a r sp m i t) ∧ Hid (Rm wr rg r p wd) ∧ Hid (Below B w1 wr)) (fun _ y' _ => 30 - (intOf y').toNat)
  case atStart => exact ⟨0, 1, Nat.zero_le _, Nat.zero_le _, by omega, by omega, rfl, rfl, I2, X2, B2⟩
  case round =>
    obtain ⟨i, t, hi, hi30, ht, ht1, rfl, rfl, HI, HX, HBW⟩ := hrel
    have q1 : wr.cell? ⟨rg, 1, none⟩ = some (.pointer (some ⟨p, 0, none⟩)) := HX.out.cell 1
    by_cases hlt : i < L ∧ i < 30
    · obtain ⟨h1, h2⟩ := hlt
      have t1 : (i : Int) < (L : Int) := by omega
      have t2 : (i : Int) < 30 := by omega
      obtain ⟨b0, o0, eA, hb0, hc0, hc1, hc2⟩ := HY.out i h1
      have HBT : Hid (Below w.heap.size w wr) := Lib.hid (B1.out.trans (HBW.out.mono (by rw [HB.out]; exact B1.out.size)))
      have hcw : wr.cell? ⟨b0, o0 + i, none⟩ = some (.int .i64 (y i)) := (HBT.out.cell (p := ⟨b0, o0 + i, none⟩) hb0).trans hc0
      obtain ⟨n0, hn0, hn5⟩ := umod (y i) 5 (by omega) (by omega)
      have hn0 : wrap64 ((IntKind.u64.wrap (y i)).tmod 5) = (n0 : Int) := hn0
      have HYA := Lib.hid eA
      generalize y i = yi at *
      have t3 : I64 ((t : Int) + (n0 : Int)) := by unfold I64; omega
      have t4 : I64 ((t : Int) + (n0 : Int) - 1) := by unfold I64; omega
      subst eA
      clear hb0 hc0
      rcases Nat.eq_zero_or_pos n0 with rfl | hp
      · obtain ⟨t2, ht2⟩ : ∃ t2, t2 = t := ⟨_, rfl⟩
        have HBE : Hid (Calls Tryz.prog 20 #[.pointer (some ⟨p, 0, none⟩), .int .i64 ((t : Int) + (0 : Nat) - 1)] wr fun e w' => e = .returned (.int .i64 1) ∧ (Inv B w' rg p a r sp m i t2 ∧ Rm w' rg r p wd) ∧ Below B wr w') := Lib.hid (by
          obtain ⟨v, S, h, hr, e1, e2⟩ := HI.out
          refine (begin_no wr h _ (by omega) (by omega) (by rw [e1]; omega)).mono ?_
          rintro e w' ⟨rfl, h', hk⟩
          exact ⟨rfl, ⟨⟨v, S, h', hr, by rw [ht2]; exact e1, e2⟩, hk.kept _ _ HX.out rfl⟩, hk.below⟩)
        have u1 : ¬ ((t : Int) ≤ (t : Int) + ((0 : Nat) : Int) - 1) := by omega
        have u2 : max (t : Int) ((t : Int) + ((0 : Nat) : Int) - 1) = (t2 : Int) := by omega
        have u3 : max (t : Int) ((t : Int) - 1) = (t2 : Int) := by omega
        have u4 : ¬ ((t : Int) ≤ (t : Int) - 1) := by omega
        have ht2b : t2 ≤ 1 + 4 * (i + 1) ∧ 1 ≤ t2 := by omega
        clear ht2
        go_wp2_with fail
        refine HBE.out.mono ?_
        rintro e w5 ⟨rfl, I5, B5⟩
        have X5 : Hid (Rm w5 rg r p wd) := Lib.hid I5.2
        have J5 : Hid (Inv B w5 rg p a r sp m i t2) := Lib.hid I5.1
        have BW5 : Hid (Below B w1 w5) := Lib.hid (HBW.out.trans B5)
        have q5 : w5.cell? ⟨rg, 1, none⟩ = some (.pointer (some ⟨p, 0, none⟩)) := X5.out.cell 1
        obtain ⟨sm, ka, hpb⟩ := put_one w5 J5.out X5.out HBP.out (HL1.out.below BW5.out HBP.out) (by omega) (by omega)
        have HPB := Lib.hid hpb
        clear hpb
        clear I5 B5 HBE q1
        go_wp2_with fail
        refine HPB.out.mono ?_
        rintro e w6 ⟨rfl, J6, X6, B6⟩
        have hnew := Blk.new w6 38 #[.int .i64 0, .int .i64 0, .int .i64 0, .string ⟨#[]⟩]
        have d0 := hnew.cell 0
        have d1 := hnew.cell 1
        have d2 := hnew.cell 2
        have d3 := hnew.cell 3
        have z0 := hnew.frozen 0
        have z1 := hnew.frozen 1
        have z2 := hnew.frozen 2
        have z3 := hnew.frozen 3
        clear hnew
        go_upto_region 16 with (fail)
        obtain ⟨pb, hpb⟩ : ∃ pb, pb = w6.heap.size := ⟨_, rfl⟩
        obtain ⟨w7, hw7⟩ : ∃ w7, w7 = w6.alloc (.cells #[.int .i64 ka, .int .i64 1, .int .i64 (t2 : Int), .string sm] 38) := ⟨_, rfl⟩
        have hb7 : Blk w7 pb 38 #[.int .i64 ka, .int .i64 1, .int .i64 (t2 : Int), .string sm] := by rw [hw7, hpb]; exact Blk.new _ _ _
        have hbe : Below w6.heap.size w6 w7 := by rw [hw7]; exact (Below.refl _ _).alloc (Nat.le_refl _) _
        rw [← hw7, ← hpb]
        have J7 : Hid (Inv B w7 rg p a r sp m (i + 1) t2) := Lib.hid (by
          obtain ⟨v, S, hs, hr⟩ := J6
          exact ⟨v, S, hs.below hbe, hr⟩)
        have X7 : Hid (Rm w7 rg r p wd) := Lib.hid (Blk.below X6 hbe (Blk.lt X6))
        have B7 : Hid (Below B w1 w7) := Lib.hid ((BW5.out.trans B6).trans (hbe.mono (by obtain ⟨v, S, hs, _⟩ := J6; exact hs.le)))
        have HTX : Hid (Calls Tryz.prog 21 #[.pointer (some ⟨p, 0, none⟩)] w7 fun e w' => e = .returned (.int .i64 (t2 : Int)) ∧ Inv B w' rg p a r sp m (i + 1) t2 ∧ Rm w' rg r p wd ∧ Blk w' pb 38 #[.int .i64 ka, .int .i64 1, .int .i64 (t2 : Int), .string sm] ∧ Below B w7 w') := Lib.hid (by
          obtain ⟨v, S, hs, hr, e1, e2⟩ := J7.out
          refine (txg_any w7 hs).mono ?_
          rintro e w' ⟨rfl, h', hk⟩
          exact ⟨by rw [e1], ⟨v, S, h', hr, e1, e2⟩, hk.kept _ _ X7.out rfl, hk.kept _ _ hb7 rfl, hk.below⟩)
        have p1 : w7.cell? ⟨pb, 1, none⟩ = some (.int .i64 1) := hb7.cell 1
        have p2 : w7.cell? ⟨pb, 2, none⟩ = some (.int .i64 (t2 : Int)) := hb7.cell 2
        have p3 : w7.cell? ⟨rg, 1, none⟩ = some (.pointer (some ⟨p, 0, none⟩)) := X7.out.cell 1
        clear J6 X6 B6 hbe hb7 hw7 hpb d0 d1 d2 d3 z0 z1 z2 z3 HPB X5 J5 BW5 q5
        go_wp2_with fail
        refine HTX.out.mono ?_
        rintro e w8 ⟨rfl, J8, X8, hb8, B8⟩
        have p4 : w8.cell? ⟨pb, 1, none⟩ = some (.int .i64 1) := hb8.cell 1
        have J8 := Lib.hid J8
        have X8 := Lib.hid X8
        have B8 : Hid (Below B w1 w8) := Lib.hid (B7.out.trans B8)
        clear hb8 HTX
        go_wp2_with fail
        go_roundw
        case rel => exact ⟨i + 1, t2, by omega, by omega, ht2b.1, ht2b.2, rfl, by go_num, J8, X8, B8⟩
        case measure => simp [intOf]; omega
      · obtain ⟨t2, ht2⟩ : ∃ t2, t2 = t + n0 - 1 := ⟨_, rfl⟩
        have e0 : (t : Int) + (n0 : Int) - 1 = (t2 : Int) := by omega
        have HBE : Hid (Calls Tryz.prog 20 #[.pointer (some ⟨p, 0, none⟩), .int .i64 ((t : Int) + (n0 : Int) - 1)] wr fun e w' => e = .returned (.int .i64 0) ∧ (Inv B w' rg p a r sp m i t2 ∧ Rm w' rg r p wd) ∧ Below B wr w') := Lib.hid (by
          obtain ⟨v, S, h, hr, e1, e2⟩ := HI.out
          rw [e0]
          refine (begin_ok wr h t2 (by omega) (by rw [e1]; omega)).mono ?_
          rintro e w' ⟨rfl, h', hk⟩
          exact ⟨rfl, ⟨⟨v, _, h', ⟨hr.like, hr.f, hr.front, hr.all, hr.few, hr.cost⟩, rfl, e2⟩, hk.kept _ _ HX.out rfl⟩, hk.below⟩)
        have u1 : (t : Int) ≤ (t : Int) + (n0 : Int) - 1 := by omega
        have u2 : max (t : Int) ((t : Int) + (n0 : Int) - 1) = (t2 : Int) := by omega
        have ht2b : t2 ≤ 1 + 4 * (i + 1) ∧ 1 ≤ t2 := by omega
        clear ht2 e0
        go_wp2_with fail
        refine HBE.out.mono ?_
        rintro e w5 ⟨rfl, I5, B5⟩
        have X5 : Hid (Rm w5 rg r p wd) := Lib.hid I5.2
        have J5 : Hid (Inv B w5 rg p a r sp m i t2) := Lib.hid I5.1
        have BW5 : Hid (Below B w1 w5) := Lib.hid (HBW.out.trans B5)
        have q5 : w5.cell? ⟨rg, 1, none⟩ = some (.pointer (some ⟨p, 0, none⟩)) := X5.out.cell 1
        obtain ⟨sm, ka, hpb⟩ := put_one w5 J5.out X5.out HBP.out (HL1.out.below BW5.out HBP.out) (by omega) (by omega)
        have HPB := Lib.hid hpb
        clear hpb
        clear I5 B5 HBE q1
        go_wp2_with fail
        refine HPB.out.mono ?_
        rintro e w6 ⟨rfl, J6, X6, B6⟩
        have hnew := Blk.new w6 38 #[.int .i64 0, .int .i64 0, .int .i64 0, .string ⟨#[]⟩]
        have d0 := hnew.cell 0
        have d1 := hnew.cell 1
        have d2 := hnew.cell 2
        have d3 := hnew.cell 3
        have z0 := hnew.frozen 0
        have z1 := hnew.frozen 1
        have z2 := hnew.frozen 2
        have z3 := hnew.frozen 3
        clear hnew
        go_upto_region 16 with (fail)
        obtain ⟨pb, hpb⟩ : ∃ pb, pb = w6.heap.size := ⟨_, rfl⟩
        obtain ⟨w7, hw7⟩ : ∃ w7, w7 = w6.alloc (.cells #[.int .i64 ka, .int .i64 1, .int .i64 (t2 : Int), .string sm] 38) := ⟨_, rfl⟩
        have hb7 : Blk w7 pb 38 #[.int .i64 ka, .int .i64 1, .int .i64 (t2 : Int), .string sm] := by rw [hw7, hpb]; exact Blk.new _ _ _
        have hbe : Below w6.heap.size w6 w7 := by rw [hw7]; exact (Below.refl _ _).alloc (Nat.le_refl _) _
        rw [← hw7, ← hpb]
        have J7 : Hid (Inv B w7 rg p a r sp m (i + 1) t2) := Lib.hid (by
          obtain ⟨v, S, hs, hr⟩ := J6
          exact ⟨v, S, hs.below hbe, hr⟩)
        have X7 : Hid (Rm w7 rg r p wd) := Lib.hid (Blk.below X6 hbe (Blk.lt X6))
        have B7 : Hid (Below B w1 w7) := Lib.hid ((BW5.out.trans B6).trans (hbe.mono (by obtain ⟨v, S, hs, _⟩ := J6; exact hs.le)))
        have HTX : Hid (Calls Tryz.prog 21 #[.pointer (some ⟨p, 0, none⟩)] w7 fun e w' => e = .returned (.int .i64 (t2 : Int)) ∧ Inv B w' rg p a r sp m (i + 1) t2 ∧ Rm w' rg r p wd ∧ Blk w' pb 38 #[.int .i64 ka, .int .i64 1, .int .i64 (t2 : Int), .string sm] ∧ Below B w7 w') := Lib.hid (by
          obtain ⟨v, S, hs, hr, e1, e2⟩ := J7.out
          refine (txg_any w7 hs).mono ?_
          rintro e w' ⟨rfl, h', hk⟩
          exact ⟨by rw [e1], ⟨v, S, h', hr, e1, e2⟩, hk.kept _ _ X7.out rfl, hk.kept _ _ hb7 rfl, hk.below⟩)
        have p1 : w7.cell? ⟨pb, 1, none⟩ = some (.int .i64 1) := hb7.cell 1
        have p2 : w7.cell? ⟨pb, 2, none⟩ = some (.int .i64 (t2 : Int)) := hb7.cell 2
        have p3 : w7.cell? ⟨rg, 1, none⟩ = some (.pointer (some ⟨p, 0, none⟩)) := X7.out.cell 1
        clear J6 X6 B6 hbe hb7 hw7 hpb d0 d1 d2 d3 z0 z1 z2 z3 HPB X5 J5 BW5 q5
        go_wp2_with fail
        refine HTX.out.mono ?_
        rintro e w8 ⟨rfl, J8, X8, hb8, B8⟩
        have p4 : w8.cell? ⟨pb, 1, none⟩ = some (.int .i64 1) := hb8.cell 1
        have J8 := Lib.hid J8
        have X8 := Lib.hid X8
        have B8 : Hid (Below B w1 w8) := Lib.hid (B7.out.trans B8)
        clear hb8 HTX
        go_wp2_with fail
        go_roundw
        case rel => exact ⟨i + 1, t2, by omega, by omega, ht2b.1, ht2b.2, rfl, by go_num, J8, X8, B8⟩
        case measure => simp [intOf]; omega
    · have HBT : Hid (Below w.heap.size w wr) := Lib.hid (B1.out.trans (HBW.out.mono (by rw [HB.out]; exact B1.out.size)))
      have HCO : Hid (Calls Tryz.prog 17 #[.pointer (some ⟨p, 0, none⟩)] wr fun e w' => e = .returned (.agg #[.int .i64 0, .int .i64 0, .int .i64 0, .int .i64 0, .int .i64 (i : Int)]) ∧ Below wr.heap.size wr w') := Lib.hid (by
        obtain ⟨v, S, hs, hr, e1, e2, e3, e4, e5⟩ := HI.out
        have h := counts_any wr hs (by omega)
        unfold cntV at h
        rw [e2, e3, e4, e5] at h
        exact h)
      have hmin : min (L : Int) 30 = (i : Int) := by omega
      have hcase : i = L ∨ (i < L ∧ i = 30) := by omega
      rcases hcase with hc | ⟨hc, hc2⟩
      · have t1 : ¬ ((i : Int) < (L : Int)) := by omega
        clear hlt hc hi hi30
        go_wp2_with fail
        refine HCO.out.mono ?_
        rintro e w9 ⟨rfl, b9⟩
        have B9 := Lib.hid (HBT.out.trans (b9.mono HBT.out.size))
        have hfd : (Instr.field 50 (.agg #[.int .i64 0, .int .i64 0, .int .i64 0, .int .i64 0, .int .i64 (i : Int)]) 4).run Tryz.prog w9 = .ok (.int .i64 (i : Int)) w9 := by kernel_rfl
        clear b9
        go_wp2_with fail
        go_ret
        exact ⟨rfl, B9.out⟩
      · have t1 : (i : Int) < (L : Int) := by omega
        have t2 : ¬ ((i : Int) < 30) := by omega
        clear hlt hc hc2 hi hi30
        go_wp2_with fail
        refine HCO.out.mono ?_
        rintro e w9 ⟨rfl, b9⟩
        have B9 := Lib.hid (HBT.out.trans (b9.mono HBT.out.size))
        have hfd : (Instr.field 50 (.agg #[.int .i64 0, .int .i64 0, .int .i64 0, .int .i64 0, .int .i64 (i : Int)]) 4).run Tryz.prog w9 = .ok (.int .i64 (i : Int)) w9 := by kernel_rfl
        clear b9
        go_wp2_with fail
        go_ret
        exact ⟨rfl, B9.out⟩
end Go.Proofs.YtkbndlnmbbbohaaGreatDoor.storeBirths
