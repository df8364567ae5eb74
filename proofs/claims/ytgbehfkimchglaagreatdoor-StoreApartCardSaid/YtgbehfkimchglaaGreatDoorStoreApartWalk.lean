/-
 'hoardlaw09.StoreApart' answers true. The conditions: the numbers and the choices can be read, the sums' table is laid.
-/
import Derived.Test.YtgbehfkimchglaaGreatDoorStoApHeldM
import Derived.Test.YtgbehfkimchglaaGreatDoorShaLaidM
import Derived.Test.YtgbehfkimchglaaGreatDoorArrLawLayM
import Derived.Test.YtgbehfkimchglaaGreatDoorRefAnewM
namespace Go.Proofs.YtgbehfkimchglaaGreatDoor.storeApart
open Go Go.RowKit refRack Sto Arr
set_option maxRecDepth 100000
set_option linter.unusedVariables false
theorem umodA (a : Int) : ∃ n : Nat, ∃ k : Nat, wrap64 ((IntKind.u64.wrap a).tmod 1024) = (k : Int) ∧ wrap64 ((1 : Int) + (k : Int)) = (n : Int) ∧ (1 : Int) + (k : Int) = (n : Int) ∧ 1 ≤ n ∧ n ≤ 1024 := by
 have h0 : 0 ≤ IntKind.u64.wrap a := by rw [IntKind.wrap_u64]; omega
 have h1 := Int.tmod_nonneg 1024 h0
 have h2 := Int.tmod_lt_of_pos (IntKind.u64.wrap a) (show (0 : Int) < 1024 by omega)
 refine ⟨1 + ((IntKind.u64.wrap a).tmod 1024).toNat, ((IntKind.u64.wrap a).tmod 1024).toNat, ?_, ?_, by omega, by omega, by omega⟩
 ·generalize (IntKind.u64.wrap a).tmod 1024 = y at *
  unfold wrap64
  omega
 ·generalize (IntKind.u64.wrap a).tmod 1024 = y at *
  unfold wrap64
  omega
theorem bs_ptA (x0 x1 x2 : Int) (s : ByteArray) (w : World) : (Instr.buildSlice 41 1 #[(0, .agg #[.int .i64 x0, .int .i64 x1, .int .i64 x2, .string s])]).run Tryz.prog w = .ok (.slice (some ⟨w.heap.size, 0, none⟩) 1 1) (w.alloc (.cells #[.int .i64 x0, .int .i64 x1, .int .i64 x2, .string s] 73)) := by kernel_rfl
theorem sum_small {a b : Nat} (h : a + b ≤ 1000) : wrap64 ((a : Int) + (b : Int)) = (a : Int) + (b : Int) := by unfold wrap64; omega
theorem sub_one {q q1 : Nat} (h : q1 = q + 1) (h2 : q ≤ 1000) : wrap64 ((q1 : Int) - 1) = (q : Int) := by unfold wrap64; omega
structure A3 (B : Nat) (W0 W : World) (p a r sp m hb pb K : Nat) (lv : Value) (HH H' : Nat → Bool) (l1 l0 : List Lf) (ad n : Nat) (sm : ByteArray) : Prop where
 ap : Ap B W p a r sp m K H' l1
 pts : OwnPt W B lv (l0.map ptF)
 hel : Blk W hb 4 (heldA HH)
 pb_ : Blk W pb 73 #[.int .i64 (ad : Int), .int .i64 (n : Int), .int .i64 1, .string sm]
 bel : Below B W0 W
theorem A3.hold {B : Nat} {W0 w : World} {p a r sp m hb pb K : Nat} {lv : Value} {HH H' : Nat → Bool} {l1 l0 : List Lf} {ad n : Nat} {sm : ByteArray} (h : A3 B W0 w p a r sp m hb pb K lv HH H' l1 l0 ad n sm) (hlo : B ≤ hb) {c : Nat} (hc : c < 77) : A3 B W0 (w.setCell ⟨hb, c, none⟩ (.bool true)) p a r sp m hb pb K lv (fun j => decide (j = c) || HH j) H' l1 l0 ad n sm := by
 have ho : Only hb w (w.setCell ⟨hb, c, none⟩ (.bool true)) := (Only.refl hb w).setCell _ _
 obtain ⟨h1, h2⟩ := A1.hold h.ap h.hel hc
 refine ⟨h1, h.pts.keep fun q hq => ?_, h2, ?_, h.bel.trans (ho.below hlo h.ap.le)⟩
 ·obtain ⟨cur, hbk⟩ := h.pts.blk_of hq
  exact ho.block q hbk.lt (fun e => by injection e with e; exact blk_ne hbk h.hel (by decide) e)
 ·exact (ho.block pb h.pb_.lt (fun e => by injection e with e; exact blk_ne h.pb_ h.hel (by decide) e)).trans h.pb_
theorem app_a {B : Nat} {W0 w : World} {p a r sp m hb pb K : Nat} {lv : Value} {HH H' : Nat → Bool} {l1 l0 : List Lf} {ad n : Nat} {sm : ByteArray} (h : A3 B W0 w p a r sp m hb pb K lv HH H' l1 l0 ad n sm) (hne : ∀ g, lv.ownBlock = some g → g < pb) (hl : l0.length ≤ 1000) (ty : TypeId) :
  ∃ v' w', (Builtin.append_ #[41, 41] ty #[lv, .slice (some ⟨w.heap.size, 0, none⟩) 1 1]).run Tryz.prog (w.alloc (.cells #[.int .i64 (ad : Int), .int .i64 (n : Int), .int .i64 1, .string sm] 73)) = .ok v' w' ∧ A3 B W0 w' p a r sp m hb pb K v' HH H' l1 (l0 ++ [⟨ad, n, sm⟩]) ad n sm := by
 obtain ⟨v', w', e1, e2, e3, e4, e5, e6⟩ := app_l w h.ap h.pts (ptF ⟨ad, n, sm⟩) (by rw [List.length_map]; exact hl) h.hel h.bel ty
 refine ⟨v', w', e1, e2, ?_, e4, ?_, e5⟩
 ·rw [List.map_append]; exact e3
 ·exact (keep_row e6 h.pb_ fun q hq e => by have := hne q hq; omega).trans h.pb_
set_option maxHeartbeats 6400000 in
theorem walk (lA : Option Addr) (L lc : Nat) (y : Nat → Int) (mA : Option Addr) (L2 mc : Nat) (zz : Nat → Bool) (w : World) (hy : Arr.RdZ w w.heap.size lA L y ∧ L ≤ lc ∧ lc ≤ maxLen) (hz : RdO w w.heap.size mA L2 zz ∧ L2 ≤ mc ∧ mc ≤ maxLen) (hl : Laid w) :
  Calls Tryz.prog 4 #[.slice lA L lc, .slice mA L2 mc] w fun e w' => e = .returned (.bool true) ∧ Below w.heap.size w w' := by
 have hpos := hl.pos
 have HY := Lib.hid hy.1
 have HYL := Lib.hid hy.2
 have HZ := Lib.hid hz.1
 have HZL := Lib.hid hz.2
 have HL := Lib.hid hl
 have HKN := Lib.hid (known_sto w hl)
 clear hy hz hl
 go_enter Tryz.func4, Tryz.ntmps4
 go_wp2_with fail
 refine HKN.out.mono ?_
 rintro e w1 ⟨rfl, b1⟩
 have B1 := Lib.hid b1
 have HL1 := Lib.hid (HL.out.below b1 HL.out.pos)
 have HN := Lib.hid (new_any w1 7 12 (by omega) (by omega) (by omega) (by omega))
 obtain ⟨B, hB⟩ : ∃ B, B = w1.heap.size := ⟨_, rfl⟩
 have HB : Hid (B = w1.heap.size) := Lib.hid hB
 have HBP : Hid (0 < B) := Lib.hid (by rw [hB]; exact HL1.out.pos)
 rw [← hB] at HN
 clear b1 HKN hB
 go_wp2_with fail
 refine HN.out.mono ?_
 rintro e w2 ⟨⟨r, rfl, h2⟩, k2⟩
 have K2 := Lib.hid k2
 have HA := Lib.hid (new_ok w2 h2 (f := 1) (by show 5 ≤ 7; omega) (by show 1 < 12; omega))
 clear h2 k2 HN
 go_wp2_with fail
 refine HA.out.mono ?_
 rintro e w3 ⟨rfl, hw3, a3, k3⟩
 obtain ⟨a, ha⟩ : ∃ a, a = w2.heap.size := ⟨_, rfl⟩
 rw [← ha] at a3 ⊢
 have A3_ := Lib.hid a3
 have K3 := Lib.hid (K2.out.trans k3)
 have HST := Lib.hid (stonew_any w3 a3 1 (by omega) (by omega) (by decide))
 clear a3 k3 ha hw3 HA K2
 go_wp2_with fail
 refine HST.out.mono ?_
 rintro e w4 ⟨p, sp, m, rfl, s4, b4⟩
 have B4 : Hid (Below B w1 w4) := Lib.hid (K3.out.below.trans (b4.mono A3_.out.rack.le))
 have S4 := Lib.hid s4
 have HCL : Hid (Calls Tryz.prog 20 #[.pointer (some ⟨a, 0, none⟩)] w4 fun e w' => e = .returned (.int .i64 77) ∧ ∃ d, w' = w4.drewN d) := Lib.hid (cells_any w4 s4.arr)
 clear s4 b4 HST A3_ K3
 go_wp2_with fail
 refine HCL.out.mono ?_
 rintro e w4' ⟨rfl, d, hd⟩
 have hmk : (Instr.makeSlice 53 (.int .i64 77) (.int .i64 77)).run Tryz.prog w4' = .ok (.slice (some ⟨w4'.heap.size, 0, none⟩) 77 77) (w4'.alloc (.cells (Array.replicate 77 (.bool false)) 4)) := make_boolsA 77 (by omega) w4'
 have bd : Below w4.heap.size w4 w4' := by rw [hd]; exact below_drewN (Below.refl _ _) d
 obtain ⟨hb, hhb⟩ : ∃ hb, hb = w4'.heap.size := ⟨_, rfl⟩
 obtain ⟨w5, hw5⟩ : ∃ w5, w5 = w4'.alloc (.cells (Array.replicate 77 (.bool false)) 4) := ⟨_, rfl⟩
 have b5 : Below w4.heap.size w4 w5 := bd.trans (by rw [hw5]; exact ((Below.refl _ _).alloc (Nat.le_refl _) _).mono bd.size)
 have I5 : Hid (A1 B w1 w5 p a r sp m hb 0 (.slice none 0 0) (fun _ => false) [] []) := Lib.hid ⟨(ap_new S4.out).below b5, Gr.OwnG.nil _ _, by rw [heldA_none, hw5, hhb]; exact Blk.new _ _ _, B4.out.trans (b5.mono S4.out.le), by rw [hhb]; exact Nat.le_trans S4.out.le bd.size⟩
 have HW5 := Lib.hid hw5
 have HHB := Lib.hid hhb
 clear hd bd hw5 hhb b5 HCL S4 B4
 go_upto_region 9 with (fail)
 rw [← HW5.out, ← HHB.out]
 clear hmk HW5 HHB
 go_wp2_with fail
 go_loopw [12, 13] (fun lv iv wr => ∃ (i : Nat) (HH : Nat → Bool) (l : List Lf), i ≤ L ∧ i ≤ 30 ∧ iv = .int .i64 (i : Int) ∧ l.length ≤ i ∧ Hid (A1 B w1 wr p a r sp m hb i lv HH l l)) (fun _ iv _ => 30 - (intOf iv).toNat)
 case atStart => exact ⟨0, fun _ => false, [], Nat.zero_le _, Nat.zero_le _, rfl, Nat.le_refl _, I5⟩
 case round =>
  obtain ⟨i, HH, l, hi, hi30, rfl, hll, HI⟩ := hrel
  by_cases hlt : i < L ∧ i < 30
  ·obtain ⟨h1, h2⟩ := hlt
   have t1 : (i : Int) < (L : Int) := by omega
   have t2 : (i : Int) < 30 := by omega
   obtain ⟨b0, o0, eA, hb0, hc0, _, _⟩ := HY.out i h1
   have HBT : Hid (Below w.heap.size w wr) := Lib.hid (B1.out.trans (HI.out.bel.mono (by rw [HB.out]; exact B1.out.size)))
   have hcw : wr.cell? ⟨b0, o0 + i, none⟩ = some (.int .i64 (y i)) := (HBT.out.cell (p := ⟨b0, o0 + i, none⟩) hb0).trans hc0
   obtain ⟨n, k, hk1, hk2, hk3, h1n, hn1⟩ := umodA (y i)
   generalize y i = yi at *
   subst eA
   clear hb0 hc0 HBT
   have hmk := make_u8A n (by omega) wr
   obtain ⟨w6, hw6⟩ : ∃ w6, w6 = wr.alloc (.cells (Array.replicate n (.int .u8 0)) 5) := ⟨_, rfl⟩
   obtain ⟨gd, hgd⟩ : ∃ gd, gd = wr.heap.size := ⟨_, rfl⟩
   have b6 : Below wr.heap.size wr w6 := by rw [hw6]; exact (Below.refl _ _).alloc (Nat.le_refl _) _
   have hdt : Byt w6 (some ⟨gd, 0, none⟩) (List.replicate n 0) := by rw [hw6, hgd]; exact byt_zeros wr n
   have HI6 := Lib.hid (HI.out.below b6)
   have HPU := Lib.hid (put_ap w6 HI6.out.ap (HL1.out.below HI6.out.bel HBP.out) HBP.out hi30 gd n n (List.replicate n 0) hdt (by rw [List.length_replicate]) h1n hn1 (Nat.le_refl _) (by unfold maxLen; omega))
   have HW6 := Lib.hid hw6
   have HGD := Lib.hid hgd
   clear hw6 hgd b6 hdt HI
   go_wp2_with fail
   rw [← HW6.out, ← HGD.out]
   refine HPU.out.mono ?_
   clear hk1 hk2 hk3 hmk hcw HW6 HGD
   rintro e w7 ⟨h7, k7⟩
   rcases h7 with ⟨rfl, ap7⟩ | ⟨ad, sm, rfl, hadc, hno, ap7⟩
   ·have hnew := Blk.new w7 73 #[.int .i64 0, .int .i64 0, .int .i64 0, .string ⟨#[]⟩]
    have d0 := hnew.cell 0
    have d1 := hnew.cell 1
    have d2 := hnew.cell 2
    have d3 := hnew.cell 3
    have z0 := hnew.frozen 0
    have z1 := hnew.frozen 1
    have z2 := hnew.frozen 2
    have z3 := hnew.frozen 3
    clear hnew
    obtain ⟨a7, p7, x7, b7⟩ := HI6.out.keep k7 ap7
    have hal : Below w7.heap.size w7 (w7.alloc (.cells #[.int .i64 0, .int .i64 0, .int .i64 0, .string ⟨#[]⟩] 73)) := (Below.refl _ _).alloc (Nat.le_refl _) _
    have I7 : Hid (A1 B w1 (w7.alloc (.cells #[.int .i64 0, .int .i64 0, .int .i64 0, .string ⟨#[]⟩] 73)) p a r sp m hb (i + 1) u12 HH l l) := Lib.hid ((⟨a7, p7, x7, b7, HI6.out.lo⟩ : A1 B w1 w7 p a r sp m hb (i + 1) u12 HH l l).below hal)
    clear a7 p7 x7 b7 hal k7 ap7 HI6 HPU
    go_wp2_with fail
    go_roundw
    case rel => exact ⟨i + 1, HH, l, by omega, by omega, by go_num, by omega, I7⟩
    case measure => simp [intOf]; omega
   ·have hnew := Blk.new w7 73 #[.int .i64 0, .int .i64 0, .int .i64 0, .string ⟨#[]⟩]
    have d0 := hnew.cell 0
    have d1 := hnew.cell 1
    have d2 := hnew.cell 2
    have d3 := hnew.cell 3
    have z0 := hnew.frozen 0
    have z1 := hnew.frozen 1
    have z2 := hnew.frozen 2
    have z3 := hnew.frozen 3
    clear hnew
    obtain ⟨C, hC⟩ : ∃ C, C = Arr.cost 7 n := ⟨_, rfl⟩
    rw [← hC] at hadc hno ap7
    have hc1 := (cost7 h1n hn1).1
    have hc2 := (cost7 h1n hn1).2
    rw [← hC] at hc1 hc2
    have HC := Lib.hid hC
    obtain ⟨a7, p7, x7, b7⟩ := HI6.out.keep k7 ap7
    have HLO : Hid (B ≤ hb) := Lib.hid HI6.out.lo
    have hnl : ∀ g, u12.ownBlock = some g → g < w7.heap.size := fun g hg => Nat.lt_of_lt_of_le (HI6.out.pts.lt hg).1 k7.below.size
    have A7 := Lib.hid a7
    have P7 := Lib.hid p7
    have X7 := Lib.hid x7
    have B7 := Lib.hid b7
    have HNO := Lib.hid hno
    clear a7 p7 x7 b7 k7 ap7 HI6 HPU hno hC
    go_upto_region 14 with (fail)
    clear d0 d1 d2 d3 z0 z1 z2 z3
    obtain ⟨pb, hpb⟩ : ∃ pb, pb = w7.heap.size := ⟨_, rfl⟩
    obtain ⟨w8, hw8⟩ : ∃ w8, w8 = w7.alloc (.cells #[.int .i64 (ad : Int), .int .i64 (n : Int), .int .i64 1, .string sm] 73) := ⟨_, rfl⟩
    have hX8 : Blk w8 pb 73 #[.int .i64 (ad : Int), .int .i64 (n : Int), .int .i64 1, .string sm] := by rw [hw8, hpb]; exact Blk.new _ _ _
    have hbe : Below w7.heap.size w7 w8 := by rw [hw8]; exact (Below.refl _ _).alloc (Nat.le_refl _) _
    rw [← hpb] at hnl
    have HNL := Lib.hid hnl
    rw [← hw8, ← hpb]
    have I8 : Hid (A3 B w1 w8 p a r sp m hb pb (i + 1) u12 (fun z => decide (ad ≤ z ∧ z < ad) || HH z) (fun z => decide (ad ≤ z ∧ z < ad + C) || HH z) (l ++ [⟨ad, n, sm⟩]) l ad n sm) := Lib.hid ⟨A7.out.below hbe, P7.out.below hbe (Nat.le_refl _), by
     rw [heldA_congr (H' := HH) (fun c hc => by rw [decide_eq_false (by omega), Bool.false_or])]
     exact X7.out.below hbe X7.out.lt, hX8, B7.out.trans (hbe.mono A7.out.le)⟩
    have HCO : Hid (Calls Tryz.prog 22 #[.pointer (some ⟨a, 0, none⟩), .int .i64 (n : Int)] w8 fun e w' => e = .returned (.tuple #[.int .i64 (C : Int), .int .i64 0]) ∧ w' = w8) := Lib.hid (by rw [HC.out]; exact cost_ap w8 I8.out.ap n h1n hn1)
    have q80 := hX8.cell 0
    have q81 := hX8.cell 1
    clear hX8 hbe hw8 hpb hnl A7 P7 X7 B7
    go_wp2_with fail
    refine HCO.out.mono ?_
    rintro e w9 ⟨rfl, hw⟩
    replace hw := hw.symm
    subst hw
    clear HCO
    go_wp2_with fail
    go_loopw [18] (fun cv wz => ∃ c : Nat, ad ≤ c ∧ c ≤ ad + C ∧ cv = .int .i64 (c : Int) ∧ Hid (A3 B w1 wz p a r sp m hb pb (i + 1) u12 (fun z => decide (ad ≤ z ∧ z < c) || HH z) (fun z => decide (ad ≤ z ∧ z < ad + C) || HH z) (l ++ [⟨ad, n, sm⟩]) l ad n sm)) (fun cv _ => 200 - (intOf cv).toNat)
    case atStart => exact ⟨ad, Nat.le_refl _, by omega, rfl, I8⟩
    case round =>
     clear q80 q81 I8
     rename World => wz
     obtain ⟨c, hc3, hc4, rfl, I9⟩ := hrel
     have q90 := I9.out.pb_.cell 0
     have hwa := sum_small (a := ad) (b := C) (by omega)
     by_cases hcl : c < ad + C
     ·have t1 : (c : Int) < (ad : Int) + (C : Int) := by omega
      have t2 : ¬ ((c : Int) < 0) := by omega
      have t3 : ¬ ((77 : Int) ≤ (c : Int)) := by omega
      have hx := I9.out.hel.cell c
      rw [heldA_get (by omega)] at hx
      have hx2 : wz.cell? ⟨hb, c, none⟩ = some (.bool false) := by
       rw [hx, HNO.out c hc3 hcl, decide_eq_false (by omega)]
       rfl
      have hfz := I9.out.hel.frozen c
      have hix := index_bl hb 77 77 c (by omega) wz
      have I10 : Hid (A3 B w1 (wz.setCell ⟨hb, c, none⟩ (.bool true)) p a r sp m hb pb (i + 1) u12 (fun z => decide (ad ≤ z ∧ z < c + 1) || HH z) (fun z => decide (ad ≤ z ∧ z < ad + C) || HH z) (l ++ [⟨ad, n, sm⟩]) l ad n sm) := Lib.hid (by
       have h := I9.out.hold HLO.out (c := c) (by omega)
       refine ⟨h.ap, h.pts, ?_, h.pb_, h.bel⟩
       have h2 := h.hel
       rw [heldA_congr (H' := fun z => decide (ad ≤ z ∧ z < c + 1) || HH z) (fun z hz => by
        by_cases hz2 : z = c
        ·subst hz2
         rw [decide_eq_true rfl, decide_eq_true (show ad ≤ z ∧ z < z + 1 by omega), Bool.true_or, Bool.true_or]
        ·rw [decide_eq_false hz2, Bool.false_or]
         congr 1
         rw [Bool.eq_iff_iff, decide_eq_true_iff, decide_eq_true_iff]
         omega)] at h2
       exact h2)
      clear hx I9
      go_wp2_with fail
      go_roundw
      case rel => exact ⟨c + 1, by omega, by omega, by go_num, I10⟩
      case measure => simp [intOf]; omega
     ·obtain rfl : c = ad + C := by omega
      have t1 : ¬ (((ad + C : Nat) : Int) < (ad : Int) + (C : Int)) := by omega
      have q91 := I9.out.pb_.cell 1
      have q92 := I9.out.pb_.cell 2
      have q93 := I9.out.pb_.cell 3
      have hbs := bs_ptA (ad : Int) (n : Int) 1 sm wz
      have HLL : Hid (l.length ≤ 1000) := Lib.hid (by omega)
      clear hwa
      go_wp2_with (at_builtin; refine wpList_app_g rfl 41 (.tmp 113) (.tmp 115) rfl rfl rfl (fun ty => app_a I9.out HNL.out HLL.out ty) ?_; intro v11 w11 h11; refine of_hid ?_)
      refine Lib.hid ?_
      have I11 := Lib.hid h11
      clear h11 q90 q91 q92 q93 hbs I9
      have x0 := I11.out.pb_.cell 0
      have x1 := I11.out.pb_.cell 1
      have x2 := I11.out.pb_.cell 2
      have x3 := I11.out.pb_.cell 3
      obtain ⟨g11, c11, hv11⟩ := ownPt_shape I11.out.pts (by rw [List.length_map, List.length_append]; exact Nat.le_add_left _ _)
      rw [List.length_map, List.length_append] at hv11
      subst hv11
      obtain ⟨q1, hq1⟩ : ∃ q1, q1 = l.length + [(⟨ad, n, sm⟩ : Lf)].length := ⟨_, rfl⟩
      rw [← hq1] at I11 ⊢
      have hq2 : q1 = l.length + 1 := hq1
      have HQ := Lib.hid hq2
      obtain ⟨ql, hqll⟩ : ∃ ql, ql = l.length := ⟨_, rfl⟩
      have HQL := Lib.hid hqll
      have hsb : wrap64 ((q1 : Int) - 1) = (ql : Int) := by rw [hqll]; exact sub_one hq2 (by omega)
      have hsb2 : (q1 : Int) - 1 = (ql : Int) := by omega
      clear hqll
      clear hq1 hq2
      have hql : q1 ≤ i + 1 := by have h := HQ.out; omega
      by_cases hgv : i < L2
      ·have v1 : (i : Int) < (L2 : Int) := by omega
       obtain ⟨b2, o2, eA2, hb2, hc2b⟩ := HZ.out i hgv
       have HBZ : Hid (Below w.heap.size w w11) := Lib.hid (B1.out.trans (I11.out.bel.mono (by rw [HB.out]; exact B1.out.size)))
       have hcz : w11.cell? ⟨b2, o2 + i, none⟩ = some (.bool (zz i)) := (HBZ.out.cell (p := ⟨b2, o2 + i, none⟩) hb2).trans hc2b
       subst eA2
       clear hb2 hc2b HBZ
       cases hzi : zz i with
       | true =>
        rw [hzi] at hcz
        clear hzi
        have HLA : Hid (∀ c, (⟨ad, n, sm⟩ : Lf).in_ c → ¬ lfIn l c) := Lib.hid (ap_last I11.out.ap).1
        have HG1 := Lib.hid (give_ap w11 I11.out.ap (x := ⟨ad, n, sm⟩) (l' := l) (List.perm_append_singleton _ _))
        go_wp2_with fail
        refine HG1.out.mono ?_
        rintro e w12 ⟨rfl, a12, k12⟩
        have A12 := Lib.hid a12
        have K12 := Lib.hid k12
        have X12 : Hid (Blk w12 pb 73 #[.int .i64 (ad : Int), .int .i64 (n : Int), .int .i64 1, .string sm]) := Lib.hid (k12.kept _ _ I11.out.pb_ rfl)
        have y0 := X12.out.cell 0
        have y1 := X12.out.cell 1
        have y2 := X12.out.cell 2
        have y3 := X12.out.cell 3
        have HG2 := Lib.hid (give_no w12 a12 (x := ⟨ad, n, sm⟩) h1n hn1 (by have h := HC.out; show ad + Arr.cost 7 n ≤ 77; omega) HLA.out)
        clear a12 k12 HG1 x0 x1 x2 x3
        go_wp2_with fail
        refine HG2.out.mono ?_
        rintro e w13 ⟨rfl, a13, k13⟩
        have hsl := slice_pt g11 q1 c11 ql (by
         rw [HQL.out]
         have h := (I11.out.pts.shape (fun _ => rfl))
         obtain ⟨A, c', e, _, h2, _⟩ := h
         injection e with _ _ e3
         rw [List.length_map, List.length_append, ← e3] at h2
         exact Nat.le_trans (Nat.le_add_right _ _) h2) w13
        have I13 : Hid (A1 B w1 w13 p a r sp m hb (i + 1) (.slice (some ⟨g11, 0, none⟩) ql c11) (fun z => decide (ad ≤ z ∧ z < ad + C) || HH z) l l) := Lib.hid (by
         have hp : OwnPt w13 B (.slice (some ⟨g11, 0, none⟩) q1 c11) ((l ++ [(⟨ad, n, sm⟩ : Lf)]).map ptF) := I11.out.pts.keep fun q hq => by
          obtain ⟨cur, hbk⟩ := I11.out.pts.blk_of hq
          exact ((K12.out.trans k13).kept _ _ hbk rfl).trans hbk.symm
         rw [HQ.out, List.map_append] at hp
         have hp2 : OwnPt w13 B (.slice (some ⟨g11, 0, none⟩) ql c11) (l.map ptF) := by
          have h := OwnPt_take (l := l.map ptF) (x := ptF ⟨ad, n, sm⟩) (n := l.length) hp (by rw [List.length_map])
          rw [HQL.out]
          exact h
         exact ⟨a13, hp2, (K12.out.trans k13).kept _ _ I11.out.hel rfl, I11.out.bel.trans (K12.out.trans k13).below, HLO.out⟩)
        clear a13 k13 HG2 A12 K12 X12 I11 y0 y1 y2 y3
        go_wp2_with fail
        go_roundw
        case rel => exact ⟨i + 1, _, l, by omega, by omega, by go_num, by omega, I13⟩
        case measure => simp [intOf]; omega
       | false =>
        rw [hzi] at hcz
        clear hzi
        have I13 : Hid (A1 B w1 w11 p a r sp m hb (i + 1) (.slice (some ⟨g11, 0, none⟩) q1 c11) (fun z => decide (ad ≤ z ∧ z < ad + C) || HH z) (l ++ [⟨ad, n, sm⟩]) (l ++ [⟨ad, n, sm⟩])) := Lib.hid ⟨I11.out.ap, I11.out.pts, I11.out.hel, I11.out.bel, HLO.out⟩
        have HQ2 : Hid ((l ++ [(⟨ad, n, sm⟩ : Lf)]).length = q1) := Lib.hid (by rw [List.length_append, HQ.out]; rfl)
        clear I11 x0 x1 x2 x3
        go_wp2_with fail
        go_roundw
        case rel => exact ⟨i + 1, _, l ++ [⟨ad, n, sm⟩], by omega, by omega, by go_num, by rw [HQ2.out]; exact hql, I13⟩
        case measure => simp [intOf]; omega
      ·have v1 : ¬ ((i : Int) < (L2 : Int)) := by omega
       have I13 : Hid (A1 B w1 w11 p a r sp m hb (i + 1) (.slice (some ⟨g11, 0, none⟩) q1 c11) (fun z => decide (ad ≤ z ∧ z < ad + C) || HH z) (l ++ [⟨ad, n, sm⟩]) (l ++ [⟨ad, n, sm⟩])) := Lib.hid ⟨I11.out.ap, I11.out.pts, I11.out.hel, I11.out.bel, HLO.out⟩
       have HQ2 : Hid ((l ++ [(⟨ad, n, sm⟩ : Lf)]).length = q1) := Lib.hid (by rw [List.length_append, HQ.out]; rfl)
       clear I11 x0 x1 x2 x3
       go_wp2_with fail
       go_roundw
       case rel => exact ⟨i + 1, _, l ++ [⟨ad, n, sm⟩], by omega, by omega, by go_num, by rw [HQ2.out]; exact hql, I13⟩
       case measure => simp [intOf]; omega
  ·obtain ⟨A0, c0, hlv, _, _, _, _, _⟩ := HI.out.pts.shape (fun _ => rfl)
   rw [List.length_map] at hlv
   subst hlv
   obtain ⟨Kx, hKx⟩ : ∃ Kx, Kx = i := ⟨_, rfl⟩
   have I0 : Hid (Ap B wr p a r sp m Kx HH (l.drop 0) ∧ OwnPt wr B (.slice A0 l.length c0) (l.map ptF) ∧ Below B w1 wr) := Lib.hid ⟨by rw [hKx]; exact HI.out.ap, HI.out.pts, HI.out.bel⟩
   obtain ⟨q, hq⟩ : ∃ q, q = l.length := ⟨_, rfl⟩
   have HQ := Lib.hid hq
   rw [← hq] at I0 ⊢
   have hq30 : q ≤ 30 := by omega
   clear hq hKx HI
   have hcase : i = L ∨ (i < L ∧ i = 30) := by omega
   rcases hcase with hc | ⟨hc, hc2⟩
   ·have t1 : ¬ ((i : Int) < (L : Int)) := by omega
    clear hlt hc hi hi30 hll
    go_wp2_with fail
    go_loopw [19] (fun iv wz => ∃ k : Nat, k ≤ q ∧ iv = .int .i64 (k : Int) ∧ Hid (Ap B wz p a r sp m Kx HH (l.drop k) ∧ OwnPt wz B (.slice A0 q c0) (l.map ptF) ∧ Below B w1 wz)) (fun iv _ => 40 - (intOf iv).toNat)
    case atStart => exact ⟨0, Nat.zero_le _, rfl, I0⟩
    case round =>
     clear I0
     rename World => wz
     obtain ⟨k, hk, rfl, IK⟩ := hrel
     by_cases hkq : k < q
     ·have t1 : (k : Int) < (q : Int) := by omega
      obtain ⟨x, hx⟩ : ∃ x, l[k]? = some x := ⟨_, List.getElem?_eq_getElem (by rw [← HQ.out]; exact hkq)⟩
      obtain ⟨g0, hA0⟩ : ∃ g, A0 = some ⟨g, 0, none⟩ := by
       obtain ⟨g, c, e⟩ := ownPt_shape IK.out.2.1 (by rw [List.length_map, ← HQ.out]; omega)
       injection e with e
       exact ⟨g, e⟩
      subst hA0
      have hix := index_pt g0 q c0 k hkq wz
      have HG := Lib.hid (give_apK wz IK.out.1 hx)
      obtain ⟨xa, hxa⟩ : ∃ xa, xa = x.ad := ⟨_, rfl⟩
      obtain ⟨xn, hxn⟩ : ∃ xn, xn = x.n := ⟨_, rfl⟩
      obtain ⟨xs, hxs⟩ : ∃ xs, xs = x.sm := ⟨_, rfl⟩
      obtain ⟨x0, x1, x2, x3⟩ : wz.cell? ⟨g0, k * 4, none⟩ = some (.int .i64 (xa : Int)) ∧ wz.cell? ⟨g0, k * 4 + 1, none⟩ = some (.int .i64 (xn : Int)) ∧ wz.cell? ⟨g0, k * 4 + 2, none⟩ = some (.int .i64 1) ∧ wz.cell? ⟨g0, k * 4 + 3, none⟩ = some (.string xs) := by
       rw [hxa, hxn, hxs]
       exact cells_pt (x := ptF x) IK.out.2.1 (by rw [List.getElem?_map, hx]; rfl)
      rw [← hxa, ← hxn, ← hxs] at HG
      clear hx hxa hxn hxs
      go_wp2_with fail
      refine HG.out.mono ?_
      rintro e w15 ⟨rfl, a15, k15⟩
      have I15 : Hid (Ap B w15 p a r sp m Kx HH (l.drop (k + 1)) ∧ OwnPt w15 B (.slice (some ⟨g0, 0, none⟩) q c0) (l.map ptF) ∧ Below B w1 w15) := Lib.hid ⟨a15, IK.out.2.1.keep fun qq hqq => by
       obtain ⟨cur, hbk⟩ := IK.out.2.1.blk_of hqq
       exact (k15.kept _ _ hbk rfl).trans hbk.symm, IK.out.2.2.trans k15.below⟩
      clear a15 k15 HG IK hix x0 x1 x2 x3
      go_wp2_with fail
      go_roundw
      case rel => exact ⟨k + 1, by omega, by go_num, I15⟩
      case measure => simp [intOf]; omega
     ·obtain rfl : k = q := by omega
      have t1 : ¬ ((k : Int) < (k : Int)) := by omega
      have AE : Hid (Ap B wz p a r sp m Kx HH []) := Lib.hid (by
       have h := IK.out.1
       rw [HQ.out, List.drop_length] at h
       exact h)
      have HSE := Lib.hid (settle_ap wz AE.out)
      have BZ : Hid (Below B w1 wz) := Lib.hid IK.out.2.2
      clear IK AE
      go_wp2_with fail
      refine HSE.out.mono ?_
      rintro e w20 ⟨⟨zs, rfl⟩, d20, k20⟩
      have B20 := Lib.hid (BZ.out.trans k20.below)
      have HFR := Lib.hid (free_done w20 d20)
      clear d20 k20 HSE BZ
      go_wp2_with fail
      refine HFR.out.mono ?_
      rintro e w21 ⟨rfl, d21, k21⟩
      have B21 := Lib.hid (B20.out.trans k21.below)
      have D21 := Lib.hid d21
      have HCE := Lib.hid (cells_done w21 d21)
      clear d21 k21 HFR B20
      go_wp2_with fail
      refine HCE.out.mono ?_
      rintro e w22 ⟨rfl, d, hw22⟩
      have b22 : Below w21.heap.size w21 w22 := by rw [hw22]; exact below_drewN (Below.refl _ _) d
      have B22 : Hid (Below B w1 w22) := Lib.hid (B21.out.trans (b22.mono (by obtain ⟨v, S, hs, _⟩ := D21.out; exact hs.le)))
      have HUS := Lib.hid (used_done w22 (D21.out.below b22))
      clear hw22 b22 HCE D21 B21
      go_wp2_with fail
      refine HUS.out.mono ?_
      rintro e w23 ⟨⟨A9, c9, rfl⟩, b23⟩
      have B23 : Hid (Below w.heap.size w w23) := Lib.hid (B1.out.trans ((B22.out.trans b23).mono (by rw [HB.out]; exact B1.out.size)))
      clear b23 HUS B22
      go_wp2_with fail
      go_ret
      exact ⟨rfl, B23.out⟩
   ·have t1 : (i : Int) < (L : Int) := by omega
    have t2 : ¬ ((i : Int) < 30) := by omega
    clear hlt hc hc2 hi hi30 hll
    go_wp2_with fail
    go_loopw [19] (fun iv wz => ∃ k : Nat, k ≤ q ∧ iv = .int .i64 (k : Int) ∧ Hid (Ap B wz p a r sp m Kx HH (l.drop k) ∧ OwnPt wz B (.slice A0 q c0) (l.map ptF) ∧ Below B w1 wz)) (fun iv _ => 40 - (intOf iv).toNat)
    case atStart => exact ⟨0, Nat.zero_le _, rfl, I0⟩
    case round =>
     clear I0
     rename World => wz
     obtain ⟨k, hk, rfl, IK⟩ := hrel
     by_cases hkq : k < q
     ·have t1 : (k : Int) < (q : Int) := by omega
      obtain ⟨x, hx⟩ : ∃ x, l[k]? = some x := ⟨_, List.getElem?_eq_getElem (by rw [← HQ.out]; exact hkq)⟩
      obtain ⟨g0, hA0⟩ : ∃ g, A0 = some ⟨g, 0, none⟩ := by
       obtain ⟨g, c, e⟩ := ownPt_shape IK.out.2.1 (by rw [List.length_map, ← HQ.out]; omega)
       injection e with e
       exact ⟨g, e⟩
      subst hA0
      have hix := index_pt g0 q c0 k hkq wz
      have HG := Lib.hid (give_apK wz IK.out.1 hx)
      obtain ⟨xa, hxa⟩ : ∃ xa, xa = x.ad := ⟨_, rfl⟩
      obtain ⟨xn, hxn⟩ : ∃ xn, xn = x.n := ⟨_, rfl⟩
      obtain ⟨xs, hxs⟩ : ∃ xs, xs = x.sm := ⟨_, rfl⟩
      obtain ⟨x0, x1, x2, x3⟩ : wz.cell? ⟨g0, k * 4, none⟩ = some (.int .i64 (xa : Int)) ∧ wz.cell? ⟨g0, k * 4 + 1, none⟩ = some (.int .i64 (xn : Int)) ∧ wz.cell? ⟨g0, k * 4 + 2, none⟩ = some (.int .i64 1) ∧ wz.cell? ⟨g0, k * 4 + 3, none⟩ = some (.string xs) := by
       rw [hxa, hxn, hxs]
       exact cells_pt (x := ptF x) IK.out.2.1 (by rw [List.getElem?_map, hx]; rfl)
      rw [← hxa, ← hxn, ← hxs] at HG
      clear hx hxa hxn hxs
      go_wp2_with fail
      refine HG.out.mono ?_
      rintro e w15 ⟨rfl, a15, k15⟩
      have I15 : Hid (Ap B w15 p a r sp m Kx HH (l.drop (k + 1)) ∧ OwnPt w15 B (.slice (some ⟨g0, 0, none⟩) q c0) (l.map ptF) ∧ Below B w1 w15) := Lib.hid ⟨a15, IK.out.2.1.keep fun qq hqq => by
       obtain ⟨cur, hbk⟩ := IK.out.2.1.blk_of hqq
       exact (k15.kept _ _ hbk rfl).trans hbk.symm, IK.out.2.2.trans k15.below⟩
      clear a15 k15 HG IK hix x0 x1 x2 x3
      go_wp2_with fail
      go_roundw
      case rel => exact ⟨k + 1, by omega, by go_num, I15⟩
      case measure => simp [intOf]; omega
     ·obtain rfl : k = q := by omega
      have t1 : ¬ ((k : Int) < (k : Int)) := by omega
      have AE : Hid (Ap B wz p a r sp m Kx HH []) := Lib.hid (by
       have h := IK.out.1
       rw [HQ.out, List.drop_length] at h
       exact h)
      have HSE := Lib.hid (settle_ap wz AE.out)
      have BZ : Hid (Below B w1 wz) := Lib.hid IK.out.2.2
      clear IK AE
      go_wp2_with fail
      refine HSE.out.mono ?_
      rintro e w20 ⟨⟨zs, rfl⟩, d20, k20⟩
      have B20 := Lib.hid (BZ.out.trans k20.below)
      have HFR := Lib.hid (free_done w20 d20)
      clear d20 k20 HSE BZ
      go_wp2_with fail
      refine HFR.out.mono ?_
      rintro e w21 ⟨rfl, d21, k21⟩
      have B21 := Lib.hid (B20.out.trans k21.below)
      have D21 := Lib.hid d21
      have HCE := Lib.hid (cells_done w21 d21)
      clear d21 k21 HFR B20
      go_wp2_with fail
      refine HCE.out.mono ?_
      rintro e w22 ⟨rfl, d, hw22⟩
      have b22 : Below w21.heap.size w21 w22 := by rw [hw22]; exact below_drewN (Below.refl _ _) d
      have B22 : Hid (Below B w1 w22) := Lib.hid (B21.out.trans (b22.mono (by obtain ⟨v, S, hs, _⟩ := D21.out; exact hs.le)))
      have HUS := Lib.hid (used_done w22 (D21.out.below b22))
      clear hw22 b22 HCE D21 B21
      go_wp2_with fail
      refine HUS.out.mono ?_
      rintro e w23 ⟨⟨A9, c9, rfl⟩, b23⟩
      have B23 : Hid (Below w.heap.size w w23) := Lib.hid (B1.out.trans ((B22.out.trans b23).mono (by rw [HB.out]; exact B1.out.size)))
      clear b23 HUS B22
      go_wp2_with fail
      go_ret
      exact ⟨rfl, B23.out⟩
end Go.Proofs.YtgbehfkimchglaaGreatDoor.storeApart
