/-
 'hoardlaw09.StoreRemembers' answers true. The conditions: the numbers can be read, the sums' table is laid.
-/
import Derived.Test.YtkbndlnmbbbohaaGreatDoorShaLaidM
import Derived.Test.YtkbndlnmbbbohaaGreatDoorArrLawLayM
namespace Go.Proofs.YtkbndlnmbbbohaaGreatDoor.storeRemembers
open Go Go.RowKit refRack Sto Arr
set_option maxRecDepth 100000
set_option linter.unusedVariables false
theorem umodR (a k : Int) (hk : 0 < k) (hk2 : k ≤ 1000000) : ∃ n : Nat, wrap64 ((IntKind.u64.wrap a).tmod k) = (n : Int) ∧ (n : Int) < k := by
 have h0 : 0 ≤ IntKind.u64.wrap a := by rw [IntKind.wrap_u64]; omega
 have h1 := Int.tmod_nonneg k h0
 have h2 := Int.tmod_lt_of_pos (IntKind.u64.wrap a) hk
 refine ⟨((IntKind.u64.wrap a).tmod k).toNat, ?_, by omega⟩
 generalize (IntKind.u64.wrap a).tmod k = y at *
 unfold wrap64
 omega
def ptOf (i : Nat) : Pt4 := ⟨((4 * i : Nat) : Int), 2, 1, sm2 i⟩
def ptL (n : Nat) : List Pt4 := (List.range n).map ptOf
theorem ptL_succ (n : Nat) : ptL (n + 1) = ptL n ++ [ptOf n] := by unfold ptL; rw [List.range_succ, List.map_append]; rfl
theorem ptL_len (n : Nat) : (ptL n).length = n := by simp [ptL]
theorem ptL_get {n k : Nat} (h : k < n) : (ptL n)[k]? = some (ptOf k) := by unfold ptL; rw [List.getElem?_map, List.getElem?_range h]; rfl
structure L1 (B : Nat) (W0 W : World) (p a r sp m i : Nat) (pv yv : Value) : Prop where
 rem : Rem B W p a r sp m i (trim (List.range i)) 0 0
 pts : OwnPt W B pv (ptL i)
 you : Nr.OwnN W B yv (List.range i)
 bel : Below B W0 W
section
variable {B : Nat} {W0 w w' : World} {p a r sp m i : Nat} {pv yv : Value}
theorem put_one (w : World) (h : L1 B W0 w p a r sp m i pv yv) (hl : Laid w) (hB : 0 < B) (hi : i < 90) :
  Calls Tryz.prog 11 #[.pointer (some ⟨p, 0, none⟩), .slice (some ⟨w.heap.size, 0, none⟩) 2 2] (w.alloc (.cells #[.int .u8 (i : Int), .int .u8 1] 5)) fun e w' => e = .returned (.tuple #[.agg #[.int .i64 ((4 * i : Nat) : Int), .int .i64 2, .int .i64 1, .string (sm2 i)], .int .i64 0]) ∧ Rem B w' p a r sp m (i + 1) (trim (List.range (i + 1))) 0 0 ∧ OwnPt w' B pv (ptL i) ∧ Nr.OwnN w' B yv (List.range i) ∧ Below B W0 w' := by
 have hal : Below w.heap.size w (w.alloc (.cells #[.int .u8 (i : Int), .int .u8 1] 5)) := (Below.refl _ _).alloc (Nat.le_refl _) _
 have hd : Byt (w.alloc (.cells #[.int .u8 (i : Int), .int .u8 1] 5)) (some ⟨w.heap.size, 0, none⟩) (D2 i) := ⟨fun x hx => by simp [D2] at hx; omega, .inr ⟨w.heap.size, 0, #[.int .u8 (i : Int), .int .u8 1], (0, 0), rfl, Blk.new w 5 #[.int .u8 (i : Int), .int .u8 1], fun j x hj => by
  have hj1 : j < 2 := (List.getElem?_eq_some_iff.1 hj).1
  rcases (show j = 0 ∨ j = 1 by omega) with rfl | rfl <;> (injection hj with hj; subst hj; rfl)⟩⟩
 refine (put_rem _ (h.rem.below hal) (hl.below hal hl.pos) hB hi (fun x hx => List.mem_range.1 (List.mem_of_mem_drop hx)) w.heap.size 2 hd ⟨Nat.le_refl _, by decide⟩).mono ?_
 rintro e w' ⟨rfl, hr, hk⟩
 refine ⟨rfl, ?_, ?_, ?_, h.bel.trans ((hal.mono h.rem.le).trans hk.below)⟩
 ·rw [List.range_succ, trim_app]
  exact hr
 ·refine (h.pts.below hal (Nat.le_refl _)).keep fun g hg => ?_
  obtain ⟨cur, hb⟩ := (h.pts.below hal (Nat.le_refl _)).blk_of hg
  exact (hk.kept _ _ hb rfl).trans hb.symm
 ·refine (h.you.below hal (Nat.le_refl _)).keep fun g hg => ?_
  obtain ⟨cur, hb⟩ := (h.you.below hal (Nat.le_refl _)).blk_of hg
  exact (hk.kept _ _ hb rfl).trans hb.symm
end
section
variable {B : Nat} {w w' : World} {p a r sp m N c0 c1 : Nat} {y : List Nat}
theorem rem_map (h : Rem B w p a r sp m N y c0 c1) (hf : ∀ v S, StoV B w p a r sp m 0 v S → StoV B w' p a r sp m 0 v S) : Rem B w' p a r sp m N y c0 c1 := by
 obtain ⟨v, S, hs, h⟩ := h
 exact ⟨v, S, hf _ _ hs, h⟩
theorem app_p {W0 : World} {pv yv : Value} {i : Nat} {l : List Nat} (w : World) (hr : Rem B w p a r sp m N y c0 c1) (hp : OwnPt w B pv (ptL i)) (hy : Nr.OwnN w B yv l) (hb : Below B W0 w) (hi : i ≤ 1000) (ad : Int) (had : ad = ((4 * i : Nat) : Int)) (ty : TypeId) :
  ∃ v' w', (Builtin.append_ #[36, 36] ty #[pv, .slice (some ⟨w.heap.size, 0, none⟩) 1 1]).run Tryz.prog (w.alloc (.cells #[.int .i64 ad, .int .i64 2, .int .i64 1, .string (sm2 i)] 38)) = .ok v' w' ∧ Rem B w' p a r sp m N y c0 c1 ∧ OwnPt w' B v' (ptL (i + 1)) ∧ Nr.OwnN w' B yv l ∧ Below B W0 w' := by
 subst had
 obtain ⟨v', w', e1, e2, e3, e4⟩ := appPt hp (ptOf i) (by rw [ptL_len]; omega) hr.le ty
 rw [← ptL_succ] at e2
 refine ⟨v', w', e1, rem_map hr (fun v S hs => hs.rowP hp e3 e4), e2, hy.keep fun g hg => ?_, hb.trans e3⟩
 obtain ⟨cur, hbk⟩ := hy.blk_of hg
 refine keep_row e4 hbk fun q hq => ?_
 obtain ⟨cur2, hb2⟩ := hp.blk_of hq
 exact blk_ne hb2 hbk (by decide)
theorem app_y {W0 : World} {pv yv : Value} {l : List Nat} {lp : List Pt4} (w : World) (hr : Rem B w p a r sp m N y c0 c1) (hp : OwnPt w B pv lp) (hy : Nr.OwnN w B yv l) (hb : Below B W0 w) (hl : l.length ≤ 1000) (x : Nat) (ty : TypeId) :
  ∃ v' w', (Builtin.append_ #[22, 22] ty #[yv, .slice (some ⟨w.heap.size, 0, none⟩) 1 1]).run Tryz.prog (w.alloc (.cells #[.int .i64 (x : Int)] 3)) = .ok v' w' ∧ Rem B w' p a r sp m N y c0 c1 ∧ OwnPt w' B pv lp ∧ Nr.OwnN w' B v' (l ++ [x]) ∧ Below B W0 w' := by
 obtain ⟨v', w', e1, e2, e3, e4⟩ := Arr.appN hy x (by omega) hr.le ty
 refine ⟨v', w', e1, rem_map hr (fun v S hs => hs.rowN hy e3 e4), hp.keep fun g hg => ?_, e2, hb.trans e3⟩
 obtain ⟨cur, hbk⟩ := hp.blk_of hg
 refine keep_row e4 hbk fun q hq => ?_
 obtain ⟨cur2, hb2⟩ := hy.blk_of hq
 exact blk_ne hb2 hbk (by decide)
theorem app_o {W0 : World} {pv : Value} {g o n c : Nat} {l : List Nat} {lp : List Pt4} (w : World) (hr : Rem B w p a r sp m N y c0 c1) (hp : OwnPt w B pv lp) (hy : OwnY w B g o n c l) (hb : Below B W0 w) (hl : l.length ≤ 1000) (x : Nat) (ty : TypeId) :
  ∃ v' w', (Builtin.append_ #[22, 22] ty #[.slice (some ⟨g, o, none⟩) n c, .slice (some ⟨w.heap.size, 0, none⟩) 1 1]).run Tryz.prog (w.alloc (.cells #[.int .i64 (x : Int)] 3)) = .ok v' w' ∧ Rem B w' p a r sp m N y c0 c1 ∧ OwnPt w' B pv lp ∧ (∃ g' o' n' c', v' = .slice (some ⟨g', o', none⟩) n' c' ∧ OwnY w' B g' o' n' c' (l ++ [x])) ∧ Below B W0 w' := by
 obtain ⟨v', w', e1, ⟨g', o', n', c', e2, e3, _⟩, e4, e5⟩ := appY hy x (by omega) hr.le ty
 obtain ⟨cur, hX, _⟩ := hy.blk
 refine ⟨v', w', e1, rem_map hr (fun v S hs => hs.asideN hX e5), hp.keep fun q hq => ?_, ⟨g', o', n', c', e2, e3⟩, hb.trans e4⟩
 obtain ⟨cur2, hbk⟩ := hp.blk_of hq
 exact e5.block q hbk.lt (fun e => by injection e with e; exact blk_ne hbk hX (by decide) e)
end
theorem bs_pt (x0 x1 x2 : Int) (s : ByteArray) (w : World) : (Instr.buildSlice 36 1 #[(0, .agg #[.int .i64 x0, .int .i64 x1, .int .i64 x2, .string s])]).run Tryz.prog w = .ok (.slice (some ⟨w.heap.size, 0, none⟩) 1 1) (w.alloc (.cells #[.int .i64 x0, .int .i64 x1, .int .i64 x2, .string s] 38)) := by kernel_rfl
theorem bs_u8 (x y : Int) (w : World) : (Instr.buildSlice 41 2 #[(0, .int .u8 x), (1, .int .u8 y)]).run Tryz.prog w = .ok (.slice (some ⟨w.heap.size, 0, none⟩) 2 2) (w.alloc (.cells #[.int .u8 x, .int .u8 y] 5)) := by kernel_rfl
def atI (k : Nat) (y : List Nat) (j : Nat) : Int := if y.findIdx (· == k) < j then (y.findIdx (· == k) : Int) else -1
theorem atI_hit {k : Nat} {y : List Nat} (hn : y.Nodup) {j : Nat} (h : y[j]? = some k) : y.findIdx (· == k) = j := by
 obtain ⟨hj, e⟩ := List.getElem?_eq_some_iff.1 h
 have hm : k ∈ y := by rw [← e]; exact List.getElem_mem hj
 have hl := find_lt.2 hm
 have hg := find_get hm
 rw [List.getElem?_eq_getElem hl] at hg
 injection hg with hg
 have hp := List.pairwise_iff_getElem.1 hn
 rcases Nat.lt_trichotomy (y.findIdx (· == k)) j with h1 | h1 | h1
 ·exact absurd (hg.trans e.symm) (hp _ _ hl hj h1)
 ·exact h1
 ·exact absurd (e.trans hg.symm) (hp _ _ hj hl h1)
theorem atI_yes {k : Nat} {y : List Nat} (hn : y.Nodup) {j : Nat} (h : y[j]? = some k) : atI k y (j + 1) = (j : Int) := by
 unfold atI
 rw [atI_hit hn h, if_pos (by omega)]
theorem atI_no {k x : Nat} {y : List Nat} {j : Nat} (h : y[j]? = some x) (hx : x ≠ k) : atI k y (j + 1) = atI k y j := by
 unfold atI
 have hne : y.findIdx (· == k) ≠ j := fun e => by
  by_cases hm : k ∈ y
  ·have hg := find_get hm
   rw [e, h] at hg
   injection hg with hg
   exact hx hg
  ·have h1 : ¬ y.findIdx (· == k) < y.length := fun hl => hm (find_lt.1 hl)
   have := (List.getElem?_eq_some_iff.1 h).1
   omega
 by_cases h1 : y.findIdx (· == k) < j
 ·rw [if_pos h1, if_pos (by omega)]
 ·rw [if_neg h1, if_neg (by omega)]
theorem atI_zero (k : Nat) (y : List Nat) : atI k y 0 = -1 := by unfold atI; rw [if_neg (by omega)]
structure L2 (B : Nat) (W0 W : World) (p a r sp m N : Nat) (pv : Value) (g o n c : Nat) (l : List Nat) (c0 c1 : Nat) : Prop where
 rem : Rem B W p a r sp m N (trim l) c0 c1
 pts : OwnPt W B pv (ptL N)
 you : OwnY W B g o n c l
 bel : Below B W0 W
 nod : (trim l).Nodup
 lt : ∀ x ∈ l, x < N
theorem wrap_small (x : Int) (h : 0 ≤ x) (h2 : x ≤ 1000000) : wrap64 x = x := by unfold wrap64; omega
theorem sum_facts {G G2 c0 c1 e0 e1 i : Nat} (h1 : e0 + e1 = c0 + c1 + 1) (h2 : G = c0 + c1) (h3 : G2 = e0 + e1) (h4 : c0 + c1 = i) (hi : i ≤ 100) : wrap64 ((G : Int) + 1) = (G2 : Int) ∧ wrap64 ((e0 : Int) + (e1 : Int)) = (G2 : Int) :=
 ⟨(wrap_small _ (by omega) (by omega)).trans (by omega), (wrap_small _ (by omega) (by omega)).trans (by omega)⟩
theorem hit_facts {c0 e0 ka j : Nat} (h : e0 = c0 + 1) : (c0 : Int) < (e0 : Int) ∧ (0 : Int) ≤ (ka : Int) := ⟨by omega, by omega⟩
theorem add_one_int (ka : Nat) (h : ka ≤ 1000000) (W : World) : (binOp .add 3 (.int .i64 (ka : Int)) (.int .i64 1)).run Tryz.prog W = .ok (.int .i64 ((ka + 1 : Nat) : Int)) W := by
 have h1 : (binOp .add 3 (.int .i64 (ka : Int)) (.int .i64 1)).run Tryz.prog W = .ok (.int .i64 (IntKind.i64.wrap ((ka : Int) + 1))) W := by kernel_rfl
 rw [h1, show IntKind.i64.wrap ((ka : Int) + 1) = ((ka + 1 : Nat) : Int) by rw [IntKind.wrap_i64]; omega]
theorem counts_rem {B : Nat} (w : World) {p a r sp m N c0 c1 : Nat} {y : List Nat} (h : Rem B w p a r sp m N y c0 c1) (hc : c0 + c1 ≤ 100000) :
  Calls Tryz.prog 17 #[.pointer (some ⟨p, 0, none⟩)] w fun e w' => e = .returned (.agg #[.int .i64 ((c0 + c1 : Nat) : Int), .int .i64 (c0 : Int), .int .i64 (c1 : Int), .int .i64 0, .int .i64 (N : Int)]) ∧ Below w.heap.size w w' := by
 obtain ⟨v, S, hs, hr, e1, e2, e3, e4, e5, _⟩ := h
 have h := counts_any w hs (by omega)
 unfold cntV at h
 rw [e2, e3, e4, e5] at h
 exact h
set_option maxHeartbeats 6400000 in
theorem walk (a0 : Int) (lA : Option Addr) (L lc : Nat) (y : Nat → Int) (w : World) (w0 : (Lit.int .i64 a0).wf = true) (hy : Arr.RdZ w w.heap.size lA L y ∧ L ≤ lc ∧ lc ≤ maxLen) (hl : Laid w) :
  Calls Tryz.prog 4 #[.int .i64 a0, .slice lA L lc] w fun e w' => e = .returned (.bool true) ∧ Below w.heap.size w w' := by
 have hpos := hl.pos
 have HY := Lib.hid hy.1
 have HYL := Lib.hid hy.2
 have HL := Lib.hid hl
 have HKN := Lib.hid (known_sto w hl)
 obtain ⟨q0, hq0, hq1⟩ := umodR a0 90 (by omega) (by omega)
 clear hy hl
 go_enter Tryz.func4, Tryz.ntmps4
 go_wp2_with fail
 refine HKN.out.mono ?_
 rintro e w1 ⟨rfl, b1⟩
 have B1 := Lib.hid b1
 have HL1 := Lib.hid (HL.out.below b1 HL.out.pos)
 have HN := Lib.hid (new_any w1 5 400 (by omega) (by omega) (by omega) (by omega))
 obtain ⟨B, hB⟩ : ∃ B, B = w1.heap.size := ⟨_, rfl⟩
 have HB : Hid (B = w1.heap.size) := Lib.hid hB
 have HBP : Hid (0 < B) := Lib.hid (by rw [hB]; exact HL1.out.pos)
 rw [← hB] at HN
 clear b1 HKN hB
 go_wp2_with fail
 refine HN.out.mono ?_
 rintro e w2 ⟨⟨r, rfl, h2⟩, k2⟩
 have R2 := Lib.hid h2
 have K2 := Lib.hid k2
 have HA := Lib.hid (new_ok w2 h2 (f := 1) (by show 5 ≤ 5; omega) (by show 1 < 400; omega))
 clear h2 k2 HN
 go_wp2_with fail
 refine HA.out.mono ?_
 rintro e w3 ⟨rfl, hw3, a3, k3⟩
 obtain ⟨a, ha⟩ : ∃ a, a = w2.heap.size := ⟨_, rfl⟩
 rw [← ha] at a3 ⊢
 have A3 := Lib.hid a3
 have K3 := Lib.hid (K2.out.trans k3)
 have HST := Lib.hid (stonew_any w3 a3 1 (by omega) (by omega) (by decide))
 clear a3 k3 ha hw3 HA R2 K2
 go_wp2_with fail
 refine HST.out.mono ?_
 rintro e w4 ⟨p, sp, m, rfl, s4, b4⟩
 have B4 : Hid (Below B w1 w4) := Lib.hid (K3.out.below.trans (b4.mono A3.out.rack.le))
 have I4 : Hid (L1 B w1 w4 p a r sp m 0 (.slice none 0 0) (.slice none 0 0)) := Lib.hid ⟨⟨_, _, s4, Run.new 5 400 1 (by omega) (by omega) (by omega) (by omega) s4.spc.good, rfl, rfl, rfl, rfl, rfl, rfl, fun i hi => absurd hi (Nat.not_lt_zero _)⟩, Gr.OwnG.nil _ _, Gr.OwnG.nil _ _, B4.out⟩
 clear s4 b4 HST A3 K3
 obtain ⟨N, hN, hN1, hN2⟩ : ∃ N : Nat, (1 : Int) + (q0 : Int) = (N : Int) ∧ 1 ≤ N ∧ N ≤ 90 := ⟨1 + q0, by omega, by omega, by omega⟩
 have HNN := Lib.hid (⟨hN1, hN2⟩ : _ ∧ _)
 go_wp2_with fail
 clear hq0 hN
 go_loopw [11, 12, 13] (fun pv yv iv wr => ∃ i : Nat, i ≤ N ∧ iv = .int .i64 (i : Int) ∧ Hid (L1 B w1 wr p a r sp m i pv yv)) (fun _ _ iv _ => 90 - (intOf iv).toNat)
 case atStart => exact ⟨0, Nat.zero_le _, rfl, I4⟩
 case round =>
  obtain ⟨i, hi, rfl, HI⟩ := hrel
  by_cases hlt : i < N
  ·have t1 : (i : Int) < (N : Int) := by omega
   have hi90 : i < 90 := by omega
   have hw8 : IntKind.u8.wrap (i : Int) = (i : Int) := by rw [IntKind.wrap_u8]; omega
   have HPU := Lib.hid (put_one wr HI.out (HL1.out.below HI.out.bel HBP.out) HBP.out hi90)
   have hbu := bs_u8 (i : Int) 1 wr
   have HIL := Lib.hid hi90
   go_wp2_with fail
   refine HPU.out.mono ?_
   rintro e w5 ⟨rfl, r5, p5, y5, b5⟩
   have R5 := Lib.hid r5
   have P5 := Lib.hid p5
   have Y5 := Lib.hid y5
   have B5 := Lib.hid b5
   have hnew := Blk.new w5 38 #[.int .i64 0, .int .i64 0, .int .i64 0, .string ⟨#[]⟩]
   have d0 := hnew.cell 0
   have d1 := hnew.cell 1
   have d2 := hnew.cell 2
   have d3 := hnew.cell 3
   have z0 := hnew.frozen 0
   have z1 := hnew.frozen 1
   have z2 := hnew.frozen 2
   have z3 := hnew.frozen 3
   clear hnew r5 p5 y5 b5 HPU HI hbu
   obtain ⟨ad, had⟩ : ∃ ad : Int, ad = ((4 * i : Nat) : Int) := ⟨_, rfl⟩
   have HAD := Lib.hid had
   rw [← had]
   clear had
   obtain ⟨pb, hpb⟩ : ∃ pb, pb = w5.heap.size := ⟨_, rfl⟩
   obtain ⟨w6, hw6⟩ : ∃ w6, w6 = w5.alloc (.cells #[.int .i64 ad, .int .i64 2, .int .i64 1, .string (sm2 i)] 38) := ⟨_, rfl⟩
   have hb6 : Blk w6 pb 38 #[.int .i64 ad, .int .i64 2, .int .i64 1, .string (sm2 i)] := by rw [hw6, hpb]; exact Blk.new _ _ _
   have hbe : Below w5.heap.size w5 w6 := by rw [hw6]; exact (Below.refl _ _).alloc (Nat.le_refl _) _
   have q60 := hb6.cell 0
   have q61 := hb6.cell 1
   have q62 := hb6.cell 2
   have q63 := hb6.cell 3
   have hbs := bs_pt ad 2 1 (sm2 i) w6
   have R6 := Lib.hid (R5.out.below hbe)
   have P6 : Hid (OwnPt w6 B u11 (ptL i)) := Lib.hid (P5.out.below hbe (Nat.le_refl _))
   have Y6 : Hid (Nr.OwnN w6 B u12 (List.range i)) := Lib.hid (Y5.out.below hbe (Nat.le_refl _))
   have B6 : Hid (Below B w1 w6) := Lib.hid (B5.out.trans (hbe.mono R5.out.le))
   have HW6 := Lib.hid hw6
   have HPB := Lib.hid hpb
   clear hb6 hbe hw6 hpb R5 P5 Y5 B5
   go_upto_region 15 with (fail)
   rw [← HW6.out, ← HPB.out]
   clear d0 d1 d2 d3 z0 z1 z2 z3
   go_wp2_with (at_builtin; refine wpList_app_g rfl 36 (.tmp 70) (.tmp 72) rfl rfl rfl (fun ty => app_p w6 R6.out P6.out Y6.out B6.out (Nat.le_trans (Nat.le_of_lt HIL.out) (by omega)) ad HAD.out ty) ?_; intro v7 w7 h7; refine of_hid ?_)
   refine Lib.hid ?_
   have H7 := Lib.hid h7
   have hbs7 := Nr.bs_int (i : Int) w7
   clear h7 q60 q61 q62 q63 hbs R6 P6 Y6 B6 HW6 HPB
   go_wp2_with (at_builtin; refine wpList_app_g rfl 22 (.tmp 74) (.tmp 76) rfl rfl rfl (fun ty => app_y w7 H7.out.1 H7.out.2.1 H7.out.2.2.1 H7.out.2.2.2 (by rw [List.length_range]; exact Nat.le_trans (Nat.le_of_lt HIL.out) (by omega)) i ty) ?_; intro v8 w8 h8; refine of_hid ?_)
   refine Lib.hid ?_
   have H8 := Lib.hid h8
   clear h8 H7 hbs7
   go_wp2_with fail
   go_roundw
   case rel => exact ⟨i + 1, by omega, by go_num, Lib.hid ⟨H8.out.1, H8.out.2.1, by rw [List.range_succ]; exact H8.out.2.2.1, H8.out.2.2.2⟩⟩
   case measure => simp [intOf]; omega
  ·obtain rfl : i = N := by omega
   have hiN : 1 ≤ i := HNN.out.1
   obtain ⟨gp, cp, hpv⟩ := ownPt_shape HI.out.pts (by rw [ptL_len]; exact hiN)
   rw [ptL_len] at hpv
   obtain ⟨g0, c0', hyv, hoy⟩ : ∃ g c, u12 = .slice (some ⟨g, 0, none⟩) i c ∧ OwnY wr B g 0 i c (List.range i) := by
    rcases Nr.own_shape HI.out.you with ⟨_, e⟩ | ⟨g, c, e, _⟩
    ·have := congrArg List.length e
     rw [List.length_range] at this
     exact absurd this (by simp; omega)
    ·have e2 := e
     rw [List.length_range] at e2
     have h := HI.out.you
     rw [e] at h
     have h := OwnY.of h
     rw [List.length_range] at h
     exact ⟨g, c, e2, h⟩
   have HP0 : Hid (OwnPt wr B (.slice (some ⟨gp, 0, none⟩) i cp) (ptL i)) := Lib.hid (by rw [← hpv]; exact HI.out.pts)
   have I0 : Hid (L2 B w1 wr p a r sp m i (.slice (some ⟨gp, 0, none⟩) i cp) g0 0 i c0' (List.range i) 0 0) := Lib.hid ⟨HI.out.rem, HP0.out, hoy, HI.out.bel, nodup_trim List.nodup_range, fun x hx => List.mem_range.1 hx⟩
   obtain ⟨nn, hnn⟩ : ∃ nn, nn = i := ⟨_, rfl⟩
   have hN90 : nn ≤ 90 := by omega
   have hN1' : 1 ≤ nn := by omega
   rw [← hnn] at hpv hyv I0
   subst hpv hyv
   clear hi hlt HI HP0 hoy hiN
   rw [← hnn] at *
   clear hnn
   go_wp2_with fail
   go_loopw [12, 16] (fun yv iv wq => ∃ (i g o n c : Nat) (l : List Nat) (c0 c1 : Nat), i ≤ L ∧ i ≤ 100 ∧ yv = .slice (some ⟨g, o, none⟩) n c ∧ iv = .int .i64 (i : Int) ∧ n = l.length ∧ 1 ≤ n ∧ n ≤ 90 ∧ c0 + c1 = i ∧ Hid (L2 B w1 wq p a r sp m nn (.slice (some ⟨gp, 0, none⟩) nn cp) g o n c l c0 c1)) (fun _ iv _ => 100 - (intOf iv).toNat)
   case atStart => exact ⟨0, _, _, _, _, _, 0, 0, Nat.zero_le _, Nat.zero_le _, rfl, rfl, by rw [List.length_range], by omega, by omega, rfl, I0⟩
   case round =>
    rename World => wq
    obtain ⟨i, g, o, n, c, l, c0, c1, hi, hi100, rfl, rfl, hn, hn1, hn90, hcc, HI⟩ := hrel
    by_cases hlt : i < L ∧ i < 100
    ·obtain ⟨h1, h2⟩ := hlt
     have t1 : (i : Int) < (L : Int) := by omega
     have t2 : (i : Int) < 100 := by omega
     obtain ⟨b0, o0, eA, hb0, hc0, hc1, hc2⟩ := HY.out i h1
     have HBT : Hid (Below w.heap.size w wq) := Lib.hid (B1.out.trans (HI.out.bel.mono (by rw [HB.out]; exact B1.out.size)))
     have hcw : wq.cell? ⟨b0, o0 + i, none⟩ = some (.int .i64 (y i)) := (HBT.out.cell (p := ⟨b0, o0 + i, none⟩) hb0).trans hc0
     obtain ⟨k, hk, hkN⟩ := umodR (y i) (nn : Int) (by omega) (by omega)
     have huN : IntKind.u64.wrap (nn : Int) = (nn : Int) := by rw [IntKind.wrap_u64]; omega
     have hn0 : ¬ ((nn : Int) = 0) := by omega
     have HYA := Lib.hid eA
     have hkn : k < nn := by omega
     generalize y i = yi at *
     subst eA
     clear hb0 hc0
     obtain ⟨lo, hlo⟩ : ∃ lo, lo = n - 64 := ⟨_, rfl⟩
     have hmx : max ((n : Int) - 64) 0 = (lo : Int) := by omega
     have hlon : lo < n := by omega
     have hI64 : wrap64 ((n : Int) - 64) = (n : Int) - 64 := by unfold wrap64; omega
     have hnc := HI.out.you.le
     have hsl := slice_fromO g o n c lo (by omega) (by omega) wq
     obtain ⟨yl, hyl⟩ : ∃ yl, yl = trim l := ⟨_, rfl⟩
     have hyy : OwnY wq B g (o + lo) (n - lo) (c - lo) yl := by
      have h := HI.out.you.drop lo (by omega)
      rw [hyl]
      unfold trim
      rw [← hn, ← hlo]
      exact h
     have hyn : n - lo = yl.length := hyy.len
     have hy64 : yl.length ≤ 64 := by rw [hyl, trim_len]; omega
     have HYN : Hid (yl.Nodup ∧ (∀ x ∈ yl, x < nn) ∧ yl.length ≤ 64) := Lib.hid ⟨by rw [hyl]; exact HI.out.nod, fun x hx => HI.out.lt x (List.mem_of_mem_drop (by rw [hyl] at hx; exact hx)), hy64⟩
     have HR0 : Hid (Rem B wq p a r sp m nn yl c0 c1) := Lib.hid (by rw [hyl]; exact HI.out.rem)
     have HP0 : Hid (OwnPt wq B (.slice (some ⟨gp, 0, none⟩) nn cp) (ptL nn)) := Lib.hid HI.out.pts
     have HB0 : Hid (Below B w1 wq) := Lib.hid HI.out.bel
     have HY0 := Lib.hid hyy
     have h1n2 : 1 ≤ n - lo := by omega
     generalize n - lo = n2 at *
     generalize o + lo = o2 at *
     generalize c - lo = c2 at *
     have HLO := Lib.hid hlo
     have HCC := Lib.hid hcc
     clear HI hyy hyl hlo hnc hn hn1 hn90
     have HNL := Lib.hid hyn
     have HCO := Lib.hid (counts_rem wq HR0.out (by have h := HCC.out; omega))
     have hn2b : n2 ≤ 64 := by omega
     clear hyn hcc
     obtain ⟨G, hG⟩ : ∃ G : Nat, G = c0 + c1 := ⟨_, rfl⟩
     rw [← hG] at HCO
     have HG := Lib.hid hG
     clear hG
     go_wp2_with fail
     refine HCO.out.mono ?_
     rintro e w5 ⟨rfl, b5⟩
     have B5 := Lib.hid b5
     have R5 := Lib.hid (HR0.out.below b5)
     have hnew := Blk.new w5 50 #[.int .i64 0, .int .i64 0, .int .i64 0, .int .i64 0, .int .i64 0]
     have d0 := hnew.cell 0
     have d1 := hnew.cell 1
     have d2 := hnew.cell 2
     have d3 := hnew.cell 3
     have d4 := hnew.cell 4
     have z0 := hnew.frozen 0
     have z1 := hnew.frozen 1
     have z2 := hnew.frozen 2
     have z3 := hnew.frozen 3
     have z4 := hnew.frozen 4
     clear hnew
     clear b5 HCO hmx hsl hk hcw hI64 huN hkN hn0
     go_upto_region 25 with (fail)
     clear d0 d1 d2 d3 d4 z0 z1 z2 z3 z4
     obtain ⟨ca, hca⟩ : ∃ ca, ca = w5.heap.size := ⟨_, rfl⟩
     obtain ⟨w6, hw6⟩ : ∃ w6, w6 = w5.alloc (.cells #[.int .i64 (G : Int), .int .i64 (c0 : Int), .int .i64 (c1 : Int), .int .i64 0, .int .i64 (nn : Int)] 50) := ⟨_, rfl⟩
     have X6 : Hid (Blk w6 ca 50 #[.int .i64 (G : Int), .int .i64 (c0 : Int), .int .i64 (c1 : Int), .int .i64 0, .int .i64 (nn : Int)]) := Lib.hid (by rw [hw6, hca]; exact Blk.new _ _ _)
     have hbe : Below w5.heap.size w5 w6 := by rw [hw6]; exact (Below.refl _ _).alloc (Nat.le_refl _) _
     rw [← hw6, ← hca]
     have b06 : Below wq.heap.size wq w6 := B5.out.trans (hbe.mono B5.out.size)
     have R6 := Lib.hid (HR0.out.below b06)
     have P6 : Hid (OwnPt w6 B (.slice (some ⟨gp, 0, none⟩) nn cp) (ptL nn)) := Lib.hid (HP0.out.below b06 (Nat.le_refl _))
     have Y6 : Hid (OwnY w6 B g o2 n2 c2 yl) := Lib.hid (HY0.out.keep (b06.block g HY0.out.lt))
     have B6 : Hid (Below B w1 w6) := Lib.hid (HB0.out.trans (b06.mono HR0.out.le))
     have hix := index_pt gp nn cp k hkn w6
     obtain ⟨ad, had⟩ : ∃ ad : Int, ad = ((4 * k : Nat) : Int) := ⟨_, rfl⟩
     obtain ⟨y60, y61, y62, y63⟩ : w6.cell? ⟨gp, k * 4, none⟩ = some (.int .i64 ad) ∧ w6.cell? ⟨gp, k * 4 + 1, none⟩ = some (.int .i64 2) ∧ w6.cell? ⟨gp, k * 4 + 2, none⟩ = some (.int .i64 1) ∧ w6.cell? ⟨gp, k * 4 + 3, none⟩ = some (.string (sm2 k)) := by rw [had]; exact cells_pt P6.out (ptL_get hkn)
     have HGE : Hid (Calls Tryz.prog 18 #[.pointer (some ⟨p, 0, none⟩), .agg #[.int .i64 ad, .int .i64 2, .int .i64 1, .string (sm2 k)]] w6 fun e w' => ∃ vb, e = .returned (.tuple #[vb, .int .i64 0]) ∧ Got w' vb k ∧ (∃ e0 e1, Rem B w' p a r sp m nn ((if k ∈ yl then cutN k yl else oldN yl) ++ [k]) e0 e1 ∧ e0 + e1 = c0 + c1 + 1 ∧ ((k ∈ yl ∧ e0 = c0 + 1) ∨ (k ∉ yl ∧ e0 = c0))) ∧ KeepT B w6 w') := Lib.hid (by
      rw [had]
      refine (get_rem w6 R6.out (HL1.out.below B6.out HBP.out) HBP.out hN90 hy64 (by have h := HCC.out; omega) k hkn 1).mono ?_
      rintro e w' ⟨vb, he, hg, hr, hkk⟩
      refine ⟨vb, he, hg, ⟨_, _, hr, ?_, ?_⟩, hkk⟩
      ·by_cases hm : k ∈ yl
       ·rw [if_pos hm, if_pos hm]; omega
       ·rw [if_neg hm, if_neg hm]; omega
      ·by_cases hm : k ∈ yl
       ·exact .inl ⟨hm, if_pos hm⟩
       ·exact .inr ⟨hm, if_neg hm⟩)
     have hcl : wq.heap.size ≤ ca := by rw [hca]; exact B5.out.size
     clear had hbe b06 hw6 hca R5 B5 R6 HR0 HP0 HB0 HY0
     go_wp2_with fail
     refine HGE.out.mono ?_
     rintro e w7 ⟨vb, rfl, hgt, ⟨e0, e1, r7, hee, hoo⟩, k7⟩
     have R7 := Lib.hid r7
     have GT7 := Lib.hid hgt
     have HEE := Lib.hid hee
     have HOO := Lib.hid hoo
     have X7 : Hid (Blk w7 ca 50 #[.int .i64 (G : Int), .int .i64 (c0 : Int), .int .i64 (c1 : Int), .int .i64 0, .int .i64 (nn : Int)]) := Lib.hid (k7.kept _ _ X6.out rfl)
     have P7 : Hid (OwnPt w7 B (.slice (some ⟨gp, 0, none⟩) nn cp) (ptL nn)) := Lib.hid (P6.out.keep fun q hq => by
      obtain ⟨cur, hb⟩ := P6.out.blk_of hq
      exact (k7.kept _ _ hb rfl).trans hb.symm)
     have Y7 : Hid (OwnY w7 B g o2 n2 c2 yl) := Lib.hid (Y6.out.keep (by
      obtain ⟨cur, hb, _⟩ := Y6.out.blk
      exact (k7.kept _ _ hb rfl).trans hb.symm))
     have B7 : Hid (Below B w1 w7) := Lib.hid (B6.out.trans k7.below)
     have HCO := Lib.hid (counts_rem w7 r7 (by have h := HCC.out; omega))
     obtain ⟨G2, hG2⟩ : ∃ G2 : Nat, G2 = e0 + e1 := ⟨_, rfl⟩
     rw [← hG2] at HCO
     have HG2 := Lib.hid hG2
     clear hG2 r7 hgt hee hoo k7 hix y60 y61 y62 y63 HGE X6 P6 Y6 B6
     go_wp2_with fail
     refine HCO.out.mono ?_
     rintro e w8 ⟨rfl, b8⟩
     have B8 := Lib.hid b8
     have hnew := Blk.new w8 50 #[.int .i64 0, .int .i64 0, .int .i64 0, .int .i64 0, .int .i64 0]
     have d0 := hnew.cell 0
     have d1 := hnew.cell 1
     have d2 := hnew.cell 2
     have d3 := hnew.cell 3
     have d4 := hnew.cell 4
     have z0 := hnew.frozen 0
     have z1 := hnew.frozen 1
     have z2 := hnew.frozen 2
     have z3 := hnew.frozen 3
     have z4 := hnew.frozen 4
     clear hnew
     clear b8 HCO
     go_upto_region 27 with (fail)
     clear d0 d1 d2 d3 d4 z0 z1 z2 z3 z4
     obtain ⟨cb, hcb⟩ : ∃ cb, cb = w8.heap.size := ⟨_, rfl⟩
     obtain ⟨w9, hw9⟩ : ∃ w9, w9 = w8.alloc (.cells #[.int .i64 (G2 : Int), .int .i64 (e0 : Int), .int .i64 (e1 : Int), .int .i64 0, .int .i64 (nn : Int)] 50) := ⟨_, rfl⟩
     have X9 : Hid (Blk w9 cb 50 #[.int .i64 (G2 : Int), .int .i64 (e0 : Int), .int .i64 (e1 : Int), .int .i64 0, .int .i64 (nn : Int)]) := Lib.hid (by rw [hw9, hcb]; exact Blk.new _ _ _)
     have hbe : Below w8.heap.size w8 w9 := by rw [hw9]; exact (Below.refl _ _).alloc (Nat.le_refl _) _
     rw [← hw9, ← hcb]
     have b79 : Below w7.heap.size w7 w9 := B8.out.trans (hbe.mono B8.out.size)
     have R9 := Lib.hid (R7.out.below b79)
     have P9 : Hid (OwnPt w9 B (.slice (some ⟨gp, 0, none⟩) nn cp) (ptL nn)) := Lib.hid (P7.out.below b79 (Nat.le_refl _))
     have Y9 : Hid (OwnY w9 B g o2 n2 c2 yl) := Lib.hid (Y7.out.keep (b79.block g Y7.out.lt))
     have B9 : Hid (Below B w1 w9) := Lib.hid (B7.out.trans (b79.mono R7.out.le))
     have XX9 : Hid (Blk w9 ca 50 #[.int .i64 (G : Int), .int .i64 (c0 : Int), .int .i64 (c1 : Int), .int .i64 0, .int .i64 (nn : Int)]) := Lib.hid (X7.out.below b79 X7.out.lt)
     obtain ⟨V, hV, hVc⟩ : ∃ V : Value, V = vb ∧ (convert 41 9 V).run Tryz.prog w9 = .ok (.string (strB 2 fun j => (D2 k).getD j 0)) w9 := ⟨vb, rfl, (GT7.out.below b79).conv⟩
     subst hV
     clear hbe b79 hw9 hcb B8 R7 P7 Y7 B7 X7 GT7
     go_wp2_with fail
     go_loopw [22, 23] (fun av jv wz => ∃ j : Nat, j ≤ n2 ∧ av = .int .i64 (atI k yl j) ∧ jv = .int .i64 (j : Int) ∧ wz = w9) (fun _ jv _ => 64 - (intOf jv).toNat)
     case atStart => exact ⟨0, Nat.zero_le _, by rw [atI_zero], rfl, rfl⟩
     case round =>
      obtain ⟨j, hj, rfl, rfl, hwz⟩ := hrel
      rw [hwz]
      clear hwz
      by_cases hjn : j < n2
      ·have u1 : (j : Int) < (n2 : Int) := by omega
       obtain ⟨x, hx⟩ : ∃ x, yl[j]? = some x := ⟨_, List.getElem?_eq_getElem (by rw [← HNL.out]; exact hjn)⟩
       have hcx := Y9.out.cell hx
       have hiy := index_y g o2 n2 c2 j hjn w9
       by_cases hxk : x = k
       ·subst hxk
        have HAT := Lib.hid (atI_yes HYN.out.1 hx)
        clear hx
        go_wp2_with fail
        go_roundw
        case rel => exact ⟨j + 1, by omega, by rw [HAT.out], by go_num, by trivial⟩
        case measure => simp [intOf]; omega
       ·have hxk2 : ¬ ((x : Int) = (k : Int)) := by omega
        have HAT := Lib.hid (atI_no (k := k) hx hxk)
        obtain ⟨za, hza⟩ : ∃ za, za = atI k yl j := ⟨_, rfl⟩
        rw [← hza] at HAT ⊢
        clear hx hza
        go_wp2_with fail
        go_roundw
        case rel => exact ⟨j + 1, by omega, by rw [HAT.out], by go_num, by trivial⟩
        case measure => simp [intOf]; omega
      ·obtain rfl : j = n2 := by omega
       have u1 : ¬ ((j : Int) < (j : Int)) := by omega
       rcases HOO.out with ⟨hm, he0⟩ | ⟨hm, he0⟩
       ·obtain ⟨ka, hka⟩ : ∃ ka, ka = yl.findIdx (· == k) := ⟨_, rfl⟩
        have hkl : ka < j := by rw [hka, HNL.out]; exact find_lt.2 hm
        have hat : atI k yl j = (ka : Int) := by unfold atI; rw [← hka, if_pos hkl]
        obtain ⟨tc, tk⟩ := hit_facts (ka := ka) (j := j) he0
        have HM := Lib.hid hm
        have HKL := Lib.hid hkl
        rw [hat]
        have HKX := Lib.hid hka
        clear hat hka hm he0 hkl
        have hal : Below w9.heap.size w9 (w9.alloc (.cells #[.int .u8 (k : Int), .int .u8 1] 5)) := (Below.refl _ _).alloc (Nat.le_refl _) _
        have n90 := (X9.out.below hal X9.out.lt).cell 0
        have n91 := (X9.out.below hal X9.out.lt).cell 1
        have n92 := (X9.out.below hal X9.out.lt).cell 2
        have m90 := (XX9.out.below hal XX9.out.lt).cell 0
        have m91 := (XX9.out.below hal XX9.out.lt).cell 1
        clear hal
        have hw8 : IntKind.u8.wrap (k : Int) = (k : Int) := by rw [IntKind.wrap_u8]; omega
        have hbu := bs_u8 (k : Int) 1 w9
        have hcv := (got_new w9 k).conv
        obtain ⟨hwG, hwS⟩ := sum_facts HEE.out HG.out HG2.out HCC.out (Nat.le_of_lt h2)
        obtain ⟨ss, hss⟩ : ∃ ss, ss = strB 2 (fun j => (D2 k).getD j 0) := ⟨_, rfl⟩
        rw [← hss] at hVc hcv
        clear hss
        go_upto_region 36 with (fail)
        obtain ⟨w10, hw10⟩ : ∃ w10, w10 = w9.alloc (.cells #[.int .u8 (k : Int), .int .u8 1] 5) := ⟨_, rfl⟩
        rw [← hw10]
        have b10 : Below w9.heap.size w9 w10.drew := by rw [hw10]; exact ((Below.refl w9.heap.size w9).alloc (Nat.le_refl _) _).drew
        have R10 := Lib.hid (R9.out.below b10)
        have P10 : Hid (OwnPt w10.drew B (.slice (some ⟨gp, 0, none⟩) nn cp) (ptL nn)) := Lib.hid (P9.out.below b10 (Nat.le_refl _))
        have Y10 : Hid (OwnY w10.drew B g o2 j c2 yl) := Lib.hid (Y9.out.keep (b10.block g Y9.out.lt))
        have B10 : Hid (Below B w1 w10.drew) := Lib.hid (B9.out.trans (b10.mono R9.out.le))
        clear b10 hw10 n90 n91 n92 m90 m91 hbu hcv hVc R9 P9 Y9 B9 X9 XX9
        obtain ⟨oo, hsl2, hoo2⟩ := slice_fromE g o2 j c2 (ka + 1) HKL.out
        have HSL := Lib.hid hsl2
        have HOO2 := Lib.hid hoo2
        have HKA : Hid (ka < j) := HKL
        have HKC : Hid (ka ≤ c2) := Lib.hid (Nat.le_trans (Nat.le_of_lt HKL.out) Y10.out.le)
        have HYL2 : Hid (yl.length ≤ 100000) := Lib.hid (by have h := HYN.out.2.2; omega)
        have HKB : Hid (∀ W : World, (binOp .add 3 (.int .i64 (ka : Int)) (.int .i64 1)).run Tryz.prog W = .ok (.int .i64 ((ka + 1 : Nat) : Int)) W) := Lib.hid fun W => add_one_int ka (by have := HKL.out; omega) W
        clear hsl2 hoo2
        refine region_anyZ (fun W => True) 11 (by kernel_rfl) ?_
        refine takeG 1 (.move (.tmp 12)) (some 171) none (.slice (some ⟨g, o2, none⟩) j c2) (by kernel_rfl) (by kernel_rfl) (by kernel_rfl) (fun _ _ _ h => h) (fun o wq e hS => exec_move wq e (by kernel_rfl)) trivial ?_
        refine takeG 2 (.move (.tmp 22)) (some 172) none (.int .i64 (ka : Int)) (by kernel_rfl) (by kernel_rfl) (by kernel_rfl) (fun _ _ _ h => h) (fun o wq e hS => exec_move wq e (by kernel_rfl)) trivial ?_
        refine takeG 3 (.slice 22 (.tmp 171) .none (.some (.tmp 172)) .none) (some 173) none (.slice (some ⟨g, o2, none⟩) ka c2) (by kernel_rfl) (by kernel_rfl) (by kernel_rfl) (fun _ _ _ h => h) (fun o wq e hS => exec_slice (u := .slice (some ⟨g, o2, none⟩) j c2) wq e (by kernel_rfl) (by kernel_rfl) (by kernel_rfl) (by kernel_rfl) (slice_toO g o2 j c2 ka HKC.out _)) trivial ?_
        refine takeG 5 (.move (.tmp 12)) (some 175) none (.slice (some ⟨g, o2, none⟩) j c2) (by kernel_rfl) (by kernel_rfl) (by kernel_rfl) (fun _ _ _ h => h) (fun o wq e hS => exec_move wq e (by kernel_rfl)) trivial ?_
        refine takeG 6 (.move (.tmp 22)) (some 176) none (.int .i64 (ka : Int)) (by kernel_rfl) (by kernel_rfl) (by kernel_rfl) (fun _ _ _ h => h) (fun o wq e hS => exec_move wq e (by kernel_rfl)) trivial ?_
        refine takeG 7 (.binOp .add 3 (.tmp 176) (.const (.int .i64 1)) 3) (some 177) none (.int .i64 ((ka + 1 : Nat) : Int)) (by kernel_rfl) (by kernel_rfl) (by kernel_rfl) (fun _ _ _ h => h) (fun o wq e hS => exec_bin (u1 := .int .i64 (ka : Int)) (u2 := (.int .i64 1)) wq e (by kernel_rfl) (by kernel_rfl) (eqG_int ..) (HKB.out _)) trivial ?_
        refine takeG 8 (.slice 22 (.tmp 175) (.some (.tmp 177)) .none .none) (some 178) none (.slice (some ⟨g, oo, none⟩) (j - (ka + 1)) (c2 - (ka + 1))) (by kernel_rfl) (by kernel_rfl) (by kernel_rfl) (fun _ _ _ h => h) (fun o wq e hS => exec_slice (u := .slice (some ⟨g, o2, none⟩) j c2) wq e (by kernel_rfl) (by kernel_rfl) (by kernel_rfl) (by kernel_rfl) (HSL.out _)) trivial ?_
        refine loneG 0 (.buildSlice 22 0 #[]) (some 170) none (by kernel_rfl) (by kernel_rfl) (by kernel_rfl) ?_
        intro o' ho hod
        refine wp_val (exec_buildSlice0 ho (Nr.bs_none _)) ?_
        rw [hod]
        clear hod ho
        refine ⟨fun _ => trivial, ?_⟩
        refine loneG 4 (.call ⟨.builtin .append, #[(.tmp 170), (.tmp 173)], #[22, 22]⟩) (some 174) none (by kernel_rfl) (by kernel_rfl) (by kernel_rfl) ?_
        intro o' ho hod
        obtain ⟨v11, w11, hr11, hb11, hvc1, hvc2, hnx⟩ := cut_run Y10.out ka HKA.out HYL2.out o'.type
        refine Gr.wp_append 22 (.tmp 170) (.tmp 173) ho (by kernel_rfl) (by kernel_rfl) hr11 ?_
        rw [hod]
        clear hod ho hr11
        have HNX := Lib.hid hnx
        clear hnx
        refine ⟨fun _ => trivial, ?_⟩
        refine loneG 9 (.call ⟨.builtin .append, #[(.tmp 174), (.tmp 178)], #[22, 22]⟩) (some 179) none (by kernel_rfl) (by kernel_rfl) (by kernel_rfl) ?_
        intro o' ho hod
        obtain ⟨v12, w12, hr12, ho12, hb12⟩ := HNX.out o'.type oo HOO2.out
        refine Gr.wp_append 22 (.tmp 174) (.tmp 178) ho (by kernel_rfl) (by kernel_rfl) hr12 ?_
        rw [hod]
        clear hod ho hr12
        have HO12 := Lib.hid ho12
        have HB12 := Lib.hid hb12
        clear ho12 hb12
        refine ⟨fun _ => trivial, ?_⟩
        refine lastS 10 (.assign (.tmp 179)) (some 12) v12 (by kernel_rfl) (by kernel_rfl) (by kernel_rfl) trivial (fun o' e => exec_assign _ e (by kernel_rfl)) ?_
        simp only [put_some, put_none, List.setIfInBounds_toArray, List.set_cons_succ, List.set_cons_zero]
        have R12 := Lib.hid (R10.out.below HB12.out)
        have P12 : Hid (OwnPt w12 B (.slice (some ⟨gp, 0, none⟩) nn cp) (ptL nn)) := Lib.hid (P10.out.below HB12.out (Nat.le_refl _))
        have Y12 : Hid (Nr.OwnN w12 B v12 (cutN k yl)) := Lib.hid (by
         have h := HO12.out
         unfold cutN
         rw [← HKX.out]
         exact ⟨h.1, h.2.elim .inl fun ⟨g', cap, cur, h1, h2, h3⟩ => .inr ⟨g', cap, cur, h1, Nat.le_trans R10.out.le h2, h3⟩⟩)
        have B12 : Hid (Below B w1 w12) := Lib.hid (B10.out.trans (HB12.out.mono R10.out.le))
        have HCL : Hid ((cutN k yl).length + 1 = j) := Lib.hid (by rw [HNL.out]; exact cutN_len HM.out)
        have hbi := Nr.bs_int (k : Int) w12
        clear HO12 HB12 R10 P10 Y10 B10 HSL HOO2 HKB
        go_wp2_with (at_builtin; refine wpList_app_g rfl 22 (.tmp 180) (.tmp 182) rfl rfl rfl (fun ty => app_y w12 R12.out P12.out Y12.out B12.out (by have h := HCL.out; have h2 := HYN.out.2.2; have h3 := HNL.out; omega) k ty) ?_; intro v13 w13 h13; refine of_hid ?_)
        refine Lib.hid ?_
        obtain ⟨r13, p13, y13, b13⟩ := h13
        obtain ⟨g13, c13, e13, o13⟩ : ∃ g c, v13 = .slice (some ⟨g, 0, none⟩) j c ∧ OwnY w13 B g 0 j c (cutN k yl ++ [k]) := by
         have hl : (cutN k yl ++ [k]).length = j := by rw [List.length_append]; exact HCL.out
         rcases Nr.own_shape y13 with ⟨_, e⟩ | ⟨g, c, e, _⟩
         ·rw [e] at hl; simp at hl; omega
         ·rw [hl] at e
          rw [e] at y13
          have h := OwnY.of y13
          exact ⟨g, c, e, h⟩
        subst e13
        have I13 : Hid (L2 B w1 w13 p a r sp m nn (.slice (some ⟨gp, 0, none⟩) nn cp) g13 0 j c13 (cutN k yl ++ [k]) e0 e1) := Lib.hid (by
         have hl : (cutN k yl ++ [k]).length = j := by rw [List.length_append]; exact HCL.out
         have ht : trim (cutN k yl ++ [k]) = cutN k yl ++ [k] := trim_le (by rw [hl, HNL.out]; exact HYN.out.2.2)
         refine ⟨?_, p13, o13, b13, ?_, fun x hx => ?_⟩
         ·rw [ht]
          rw [if_pos HM.out] at r13
          exact r13
         ·rw [ht]; exact nodup_cut HYN.out.1 HM.out
         ·rcases List.mem_append.1 hx with h | h
          ·refine HYN.out.2.1 x ?_
           unfold cutN at h
           rcases List.mem_append.1 h with h | h
           ·exact List.mem_of_mem_take h
           ·exact List.mem_of_mem_drop h
          ·rw [List.mem_singleton.1 h]; exact hkn)
        have HL13 : Hid (j = (cutN k yl ++ [k]).length) := Lib.hid (by rw [List.length_append]; exact HCL.out.symm)
        clear r13 p13 y13 b13 o13 R12 P12 Y12 B12 hbi
        go_wp2_with fail
        go_roundw
        case rel => exact ⟨i + 1, g13, 0, j, c13, cutN k yl ++ [k], e0, e1, by omega, by omega, rfl, by go_num, HL13.out, by omega, by omega, by have h := HEE.out; have h2 := HCC.out; omega, I13⟩
        case measure => simp [intOf]; omega
       ·have hat : atI k yl j = -1 := by unfold atI; rw [if_neg (by rw [HNL.out]; exact fun h => hm (find_lt.1 h))]
        have tc : ¬ ((c0 : Int) < (e0 : Int)) := by rw [he0]; exact Int.lt_irrefl _
        rw [hat]
        have HM := Lib.hid hm
        clear hat hm he0
        have hal : Below w9.heap.size w9 (w9.alloc (.cells #[.int .u8 (k : Int), .int .u8 1] 5)) := (Below.refl _ _).alloc (Nat.le_refl _) _
        have n90 := (X9.out.below hal X9.out.lt).cell 0
        have n91 := (X9.out.below hal X9.out.lt).cell 1
        have n92 := (X9.out.below hal X9.out.lt).cell 2
        have m90 := (XX9.out.below hal XX9.out.lt).cell 0
        have m91 := (XX9.out.below hal XX9.out.lt).cell 1
        clear hal
        have hw8 : IntKind.u8.wrap (k : Int) = (k : Int) := by rw [IntKind.wrap_u8]; omega
        have hbu := bs_u8 (k : Int) 1 w9
        have hcv := (got_new w9 k).conv
        obtain ⟨hwG, hwS⟩ := sum_facts HEE.out HG.out HG2.out HCC.out (Nat.le_of_lt h2)
        obtain ⟨ss, hss⟩ : ∃ ss, ss = strB 2 (fun j => (D2 k).getD j 0) := ⟨_, rfl⟩
        rw [← hss] at hVc hcv
        clear hss
        go_upto_region 37 with (fail)
        obtain ⟨w10, hw10⟩ : ∃ w10, w10 = w9.alloc (.cells #[.int .u8 (k : Int), .int .u8 1] 5) := ⟨_, rfl⟩
        rw [← hw10]
        have b10 : Below w9.heap.size w9 w10 := by rw [hw10]; exact (Below.refl w9.heap.size w9).alloc (Nat.le_refl _) _
        have R10 := Lib.hid (R9.out.below b10)
        have P10 : Hid (OwnPt w10 B (.slice (some ⟨gp, 0, none⟩) nn cp) (ptL nn)) := Lib.hid (P9.out.below b10 (Nat.le_refl _))
        have Y10 : Hid (OwnY w10 B g o2 j c2 yl) := Lib.hid (Y9.out.keep (b10.block g Y9.out.lt))
        have B10 : Hid (Below B w1 w10) := Lib.hid (B9.out.trans (b10.mono R9.out.le))
        clear b10 hw10 n90 n91 n92 m90 m91 hbu hcv hVc R9 P9 Y9 B9 X9 XX9
        have hbi := Nr.bs_int (k : Int) w10
        go_wp2_with (at_builtin; refine wpList_app_g rfl 22 (.tmp 180) (.tmp 182) rfl rfl rfl (fun ty => app_o w10 R10.out P10.out Y10.out B10.out (by have h2 := HYN.out.2.2; omega) k ty) ?_; intro v13 w13 h13; refine of_hid ?_)
        refine Lib.hid ?_
        obtain ⟨r13, p13, ⟨g13, o13, n13, c13, e13, y13⟩, b13⟩ := h13
        subst e13
        have I13 : Hid (L2 B w1 w13 p a r sp m nn (.slice (some ⟨gp, 0, none⟩) nn cp) g13 o13 n13 c13 (yl ++ [k]) e0 e1) := Lib.hid (by
         have ht : trim (yl ++ [k]) = oldN yl ++ [k] := by rw [trim_app, trim_le HYN.out.2.2]
         refine ⟨?_, p13, y13, b13, nodup_trim (nodup_app HYN.out.1 HM.out), fun x hx => ?_⟩
         ·rw [ht]
          rw [if_neg HM.out] at r13
          exact r13
         ·rcases List.mem_append.1 hx with h | h
          ·exact HYN.out.2.1 x h
          ·rw [List.mem_singleton.1 h]; exact hkn)
        have HL13 := Lib.hid y13.len
        have hl13 : 1 ≤ n13 ∧ n13 ≤ 65 := by
         have h := y13.len
         rw [List.length_append] at h
         have h2 := HYN.out.2.2
         have h3 : ([k] : List Nat).length = 1 := rfl
         omega
        clear r13 p13 y13 b13 R10 P10 Y10 B10 hbi
        go_wp2_with fail
        go_roundw
        case rel => exact ⟨i + 1, g13, o13, n13, c13, yl ++ [k], e0, e1, by omega, by omega, rfl, by go_num, HL13.out, by omega, by omega, by have h := HEE.out; have h2 := HCC.out; omega, I13⟩
        case measure => simp [intOf]; omega
    ·have HBT : Hid (Below w.heap.size w wq) := Lib.hid (B1.out.trans (HI.out.bel.mono (by rw [HB.out]; exact B1.out.size)))
     have hcase : i = L ∨ (i < L ∧ i = 100) := by omega
     rcases hcase with hc | ⟨hc, hc2⟩
     ·have t1 : ¬ ((i : Int) < (L : Int)) := by omega
      clear hlt hc hi hi100
      go_wp2_with fail
      go_ret
      exact ⟨rfl, HBT.out⟩
     ·have t1 : (i : Int) < (L : Int) := by omega
      have t2 : ¬ ((i : Int) < 100) := by omega
      clear hlt hc hc2 hi hi100
      go_wp2_with fail
      go_ret
      exact ⟨rfl, HBT.out⟩
end Go.Proofs.YtkbndlnmbbbohaaGreatDoor.storeRemembers
