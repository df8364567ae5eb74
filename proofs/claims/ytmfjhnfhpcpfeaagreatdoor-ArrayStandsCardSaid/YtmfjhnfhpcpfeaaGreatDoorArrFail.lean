/-
  The law's 'fail': up to three drives are lost, or rot. Conditions: the rack is one; its rows of numbers can be read.
-/
import Derived.Test.YtmfjhnfhpcpfeaaGreatDoorArrArgsM
namespace Go.Proofs.YtmfjhnfhpcpfeaaGreatDoor
open Go Go.RowKit refRack
set_option maxRecDepth 100000
set_option linter.unusedVariables false
namespace Arr
theorem newIn_putWA (W : Nat → Wt) (i : Nat) (X : Nat → Nat) (d a k : Nat) : newIn (putW W i X) d a k = newIn W d a k :=
  newIn_congr fun j _ => by
    unfold putW
    by_cases e : j = i
    · rw [if_pos e, e]; exact ⟨rfl, rfl⟩
    · rw [if_neg e]; exact ⟨rfl, rfl⟩
theorem holds_rottedA (s : RS) (d a n d' a' : Nat) : (s.rotted d a n).holds d' a' = if d' = d ∧ a' = a then rotF (s.holds d a) n else s.holds d' a' := by
  cases hi : newIn s.W d a s.nw with
  | some i =>
    rw [rotted_some hi]
    unfold RS.holds
    show (match newIn (putW s.W i _) d' a' s.nw with | some k => (putW s.W i _ k).x | none => s.last d' a') = _
    rw [newIn_putWA, hi]
    by_cases e : d' = d ∧ a' = a
    · obtain ⟨rfl, rfl⟩ := e
      rw [if_pos ⟨rfl, rfl⟩, hi]
      show (putW s.W i _ i).x = _
      unfold putW
      rw [if_pos rfl]
    · rw [if_neg e]
      cases hk : newIn s.W d' a' s.nw with
      | none => rfl
      | some k =>
        have h1 := newIn_lt hi
        have h2 := newIn_lt hk
        show (putW s.W i _ k).x = (s.W k).x
        unfold putW
        rw [if_neg (fun x => e (by rw [x] at h2; exact ⟨h2.2.1.symm.trans h1.2.1, h2.2.2.symm.trans h1.2.2⟩))]
  | none =>
    rw [rotted_none hi]
    unfold RS.holds
    show (match newIn s.W d' a' s.nw with | some k => (s.W k).x | none => (if d' = d ∧ a' = a then rotF (s.last d a) n else s.last d' a')) = _
    rw [hi]
    by_cases e : d' = d ∧ a' = a
    · obtain ⟨rfl, rfl⟩ := e
      rw [if_pos ⟨rfl, rfl⟩, hi, if_pos ⟨rfl, rfl⟩]
    · cases hk : newIn s.W d' a' s.nw with
      | none => simp only [if_neg e]
      | some k => simp only [if_neg e]
theorem rotted_sameA (s : RS) (d a n : Nat) : (s.rotted d a n).nd = s.nd ∧ (s.rotted d a n).ns = s.ns ∧ (s.rotted d a n).off = s.off ∧ (s.rotted d a n).armed = s.armed ∧ (s.rotted d a n).gone = s.gone := by
  unfold RS.rotted
  split <;> exact ⟨rfl, rfl, rfl, rfl, rfl⟩
/-- what failing the drives of a list leaves of a rack; c writes more were spent -/
structure Fl (s t : RS) (l : List Nat) (c : Nat) : Prop where
  nd : t.nd = s.nd
  ns : t.ns = s.ns
  off : t.off = s.off
  armed : t.armed = s.armed
  cst : t.cost ≤ s.cost + c
  gone : ∀ d, d ∉ l → t.gone d = s.gone d
  goneL : ∀ d, t.gone d = true → s.gone d = true ∨ d ∈ l
  holds : ∀ d a, d ∉ l → t.holds d a = s.holds d a
theorem Fl.refl (s : RS) : Fl s s [] 0 := ⟨rfl, rfl, rfl, rfl, Nat.le_refl _, fun _ _ => rfl, fun _ h => .inl h, fun _ _ _ => rfl⟩
theorem Fl.wk {s t : RS} {l : List Nat} {c c' : Nat} (h : Fl s t l c) (hc : c ≤ c') : Fl s t l c' := ⟨h.nd, h.ns, h.off, h.armed, Nat.le_trans h.cst (by omega), h.gone, h.goneL, h.holds⟩
theorem Fl.more {s t : RS} {l : List Nat} {c : Nat} (h : Fl s t l c) (d : Nat) : Fl s t (d :: l) c :=
  ⟨h.nd, h.ns, h.off, h.armed, h.cst, fun d' hd => h.gone d' fun q => hd (List.mem_cons_of_mem _ q), fun d' hd => (h.goneL d' hd).imp id (List.mem_cons_of_mem _), fun d' a hd => h.holds d' a fun q => hd (List.mem_cons_of_mem _ q)⟩
theorem Fl.lose {s t : RS} {l : List Nat} {c : Nat} (h : Fl s t l c) {d : Nat} (hd : d ∈ l) : Fl s (t.lost d) l c := by
  refine ⟨h.nd, h.ns, h.off, h.armed, h.cst, fun d' hd' => ?_, fun d' hg => ?_, fun d' a hd' => ?_⟩
  · have hne : d' ≠ d := fun e => hd' (e ▸ hd)
    show (if d' = d then true else t.gone d') = _
    rw [if_neg hne]
    exact h.gone d' hd'
  · by_cases e : d' = d
    · exact .inr (e ▸ hd)
    · have hg : (if d' = d then true else t.gone d') = true := hg
      rw [if_neg e] at hg
      exact h.goneL d' hg
  · rw [holds_lost a (show d' ≠ d from fun e => hd' (by rw [e]; exact hd))]
    exact h.holds d' a hd'
theorem Fl.rot {s t : RS} {l : List Nat} {c : Nat} (h : Fl s t l c) {d : Nat} (hd : d ∈ l) (A n : Int) : Fl s (rotS t (d : Int) A n) l (c + 1) := by
  have hc := rotS_cost t (d : Int) A n
  have h2 := h.cst
  unfold refRack.rotS at *
  by_cases e : n < 0 ∨ t.why (d : Int) A ≠ 0
  · rw [if_pos e]
    exact ⟨h.nd, h.ns, h.off, h.armed, by omega, h.gone, h.goneL, h.holds⟩
  · rw [if_neg e] at hc ⊢
    rw [Int.toNat_natCast] at hc ⊢
    obtain ⟨r1, r2, r3, r4, r5⟩ := rotted_sameA t d A.toNat n.toNat
    exact ⟨r1.trans h.nd, r2.trans h.ns, r3.trans h.off, r4.trans h.armed, by omega, fun d' hd' => by rw [r5]; exact h.gone d' hd', fun d' hg => h.goneL d' (by rw [r5] at hg; exact hg), fun d' a hd' => by
      rw [holds_rottedA, if_neg (fun (q : d' = d ∧ a = A.toNat) => hd' (by rw [q.1]; exact hd))]
      exact h.holds d' a hd'⟩
theorem RdZ.mono {w : World} {B B' : Nat} {A : Option Addr} {n : Nat} {x : Nat → Int} (h : RdZ w B A n x) (hB : B ≤ B') : RdZ w B' A n x := fun i hi => by
  obtain ⟨b, o, h1, h2, h3⟩ := h i hi
  exact ⟨b, o, h1, by omega, h3⟩
theorem isB_mem {l : List Nat} (d : Nat) : (fun i => if i = d then true else decide (i ∈ l)) = fun i => decide (i ∈ d :: l) := by
  funext i
  by_cases e : i = d
  · simp [e]
  · simp [e]
set_option maxHeartbeats 6400000 in
theorem fail_any {B r : Nat} {s : RS} (w : World) (hR : RackAt B w r s) (h5 : 5 ≤ s.nd) (dr adr : Int) (D : ByteArray) (fA hA : Option Addr) (fn fc hn hc : Nat) (fx hx : Nat → Int) (hf : ∀ W, Keep B w W → RdZ W W.heap.size fA fn fx) (hh : ∀ W, Keep B w W → RdZ W W.heap.size hA hn hx) (hfn : fn ≤ fc ∧ fc ≤ maxLen) (hhn : hn ≤ hc ∧ hc ≤ maxLen) (hns : s.ns = 9) (hcost : s.cost ≤ 900000) :
    Calls Tryz.prog 26 #[.pointer (some ⟨r, 0, none⟩), .agg #[.int .i64 dr, .string D, .int .i64 adr, .slice fA fn fc, .slice hA hn hc]] w fun e w' => ∃ g t l, e = .returned (.slice (some ⟨g, 0, none⟩) s.nd s.nd) ∧ Blk w' g 4 (boolA s.nd fun i => decide (i ∈ l)) ∧ Fl s t l 27 ∧ l.length ≤ 3 ∧ (∀ d ∈ l, d < s.nd) ∧ RackAt B w' r t ∧ Keep B w w' := by
  have hnd1 : s.nd ≤ 16 := hR.1.nd2
  obtain ⟨wb, hwb⟩ : ∃ wb, wb = w.alloc (.cells #[.int .i64 dr, .string D, .int .i64 adr, .slice fA fn fc, .slice hA hn hc] 39) := ⟨_, rfl⟩
  have Rb : RackAt B wb r s := by rw [hwb]; exact hR.alloc _
  have Kb : Keep B w wb := by rw [hwb]; exact (Keep.refl B w).alloc hR.le _
  have Xb : Blk wb w.heap.size 39 #[.int .i64 dr, .string D, .int .i64 adr, .slice fA fn fc, .slice hA hn hc] := by rw [hwb]; exact Blk.new _ _ _
  have HDR := Lib.hid (drives_any wb r s Rb)
  have hmk := fun W => make_bools s.nd (by omega) W
  obtain ⟨w1, hw1⟩ : ∃ w1, w1 = wb.alloc (.cells (boolA s.nd fun _ => false) 4) := ⟨_, rfl⟩
  have R1 : Hid (RackAt B w1 r s) := Lib.hid (by rw [hw1]; exact Rb.alloc _)
  have K1 : Hid (Keep B w w1) := Lib.hid (by rw [hw1]; exact Kb.alloc Rb.le _)
  have X1 : Hid (Blk w1 w.heap.size 39 #[.int .i64 dr, .string D, .int .i64 adr, .slice fA fn fc, .slice hA hn hc]) := Lib.hid (by rw [hw1]; exact Xb.alloc _)
  have Y1 : Hid (Blk w1 wb.heap.size 4 (boolA s.nd fun i => decide (i ∈ ([] : List Nat)))) := Lib.hid (by rw [hw1]; simpa using Blk.new wb 4 (boolA s.nd fun _ => false))
  obtain ⟨z, hz⟩ : ∃ z, z = w.heap.size := ⟨_, rfl⟩
  obtain ⟨gb, hgb⟩ : ∃ gb, gb = wb.heap.size := ⟨_, rfl⟩
  rw [← hz] at X1
  rw [← hgb] at Y1
  have HF := Lib.hid hf
  have HH := Lib.hid hh
  have HZ := Lib.hid (⟨hwb, hw1, hz, hgb⟩ : _ ∧ _ ∧ _ ∧ _)
  have eN : IntKind.u64.wrap (s.nd : Int) = (s.nd : Int) := by rw [IntKind.wrap_u64]; omega
  have eN0 : ((s.nd : Int) = 0) = False := by simp; omega
  have hfl : fn ≤ 9223372036854775807 := by have := hfn.2; have := hfn.1; unfold maxLen at *; omega
  have hhl : hn ≤ 9223372036854775807 := by have := hhn.2; have := hhn.1; unfold maxLen at *; omega
  clear hf hh hwb hw1 hz hgb Rb Kb Xb
  go_enter Tryz.func26, Tryz.ntmps26
  go_wp2_with fail
  rw [← HZ.out.1, ← HZ.out.2.2.1]
  refine HDR.out.mono ?_
  rintro e w' ⟨rfl, rfl⟩
  clear HDR
  go_wp2_with fail
  rw [← HZ.out.2.1, ← HZ.out.2.2.2]
  have HGB : Hid (B ≤ gb ∧ w.heap.size ≤ gb) := Lib.hid (by
    have h1 := hR.le
    obtain ⟨q1, _, _, q4⟩ := HZ.out
    rw [q4, q1]
    simp
    omega)
  have HRL := Lib.hid hR.le
  have HGZ : Hid (z = w.heap.size ∧ z < gb) := Lib.hid (by
    obtain ⟨q1, _, q3, q4⟩ := HZ.out
    rw [q4, q3, q1]
    simp)
  go_loopw [6] (fun y wr => ∃ (i : Nat) (t : RS) (l : List Nat), i ≤ 3 ∧ i ≤ fn ∧ y = .int .i64 (i : Int) ∧ Hid (l.length ≤ i ∧ Fl s t l (9 * i) ∧ ∀ d ∈ l, d < s.nd) ∧ Hid (RackAt B wr r t) ∧ Hid (Keep B w wr) ∧ Hid (Blk wr gb 4 (boolA s.nd fun i => decide (i ∈ l))) ∧ Hid (Blk wr z 39 #[.int .i64 dr, .string D, .int .i64 adr, .slice fA fn fc, .slice hA hn hc])) (fun y _ => 3 - (intOf y).toNat)
  case atStart => exact ⟨0, s, [], by omega, by omega, rfl, Lib.hid ⟨by simp, Fl.refl s, fun d hd => by simp at hd⟩, R1, K1, Y1, X1⟩
  case round =>
    clear R1 K1 Y1 X1
    obtain ⟨i, t, l, hi3, hifn, rfl, HL, HRt, HK, HY, HX⟩ := hrel
    have q3 : wr.cell? ⟨z, 3, none⟩ = some (.slice fA fn fc) := HX.out.cell 3
    have q4 : wr.cell? ⟨z, 4, none⟩ = some (.slice hA hn hc) := HX.out.cell 4
    by_cases hlt : i < fn
    · by_cases hlt3 : i < 3
      · obtain ⟨yb, yo, ye, hyb, p1, hy1, hy2⟩ := HF.out wr HK.out i hlt
        obtain ⟨d, hd, hdN⟩ := umod (fx i) s.nd (by omega) (by omega)
        generalize fx i = yi at *
        have HDR := Lib.hid (fun k => drives_any (wr.drewN k) r t (HRt.out.drewN k))
        have htn : t.nd = s.nd := HL.out.2.1.nd
        rw [htn] at HDR
        have HTN := Lib.hid htn
        subst ye
        clear htn
        go_wp2_with fail
        go_quiet ((go_at_call 20; exact Calls.quiet_of_same (HDR.out _)))
        have hdec : decide ((i : Int) < 3) = true := decide_eq_true (by omega)
        rw [hd, hdec]
        have u1 : wr.cell? ⟨gb, d, none⟩ = some (.bool (decide (d ∈ l))) := by rw [HY.out.cell, boolA_get hdN]
        have u2 : wr.frozen? ⟨gb, d, none⟩ = false := HY.out.frozen d
        have HD := Lib.hid hdN
        have Rq : Hid (RackAt B (wr.drewN nq) r t) := Lib.hid (HRt.out.drewN nq)
        have Kq : Hid (Keep B w (wr.drewN nq)) := Lib.hid (HK.out.drewN nq)
        have Yq : Hid (Blk (wr.drewN nq) gb 4 (boolA s.nd fun i => decide (i ∈ l))) := Lib.hid (HY.out.drewN nq)
        have Xq : Hid (Blk (wr.drewN nq) z 39 #[.int .i64 dr, .string D, .int .i64 adr, .slice (some ⟨yb, yo, none⟩) fn fc, .slice hA hn hc]) := Lib.hid (HX.out.drewN nq)
        cases hdl : decide (d ∈ l) with
        | true =>
          rw [hdl] at u1
          clear hdl
          go_wp2_with fail
          go_roundw
          case rel => exact ⟨i + 1, t, l, by omega, by omega, by go_num, Lib.hid ⟨by have := HL.out.1; omega, ⟨HL.out.2.1.nd, HL.out.2.1.ns, HL.out.2.1.off, HL.out.2.1.armed, by have := HL.out.2.1.cst; omega, HL.out.2.1.gone, HL.out.2.1.goneL, HL.out.2.1.holds⟩, HL.out.2.2⟩, Rq, Kq, Yq, Xq⟩
          case measure => simp [intOf]; omega
        | false =>
          rw [hdl] at u1
          clear hdl q3 q4
          obtain ⟨w6, hw6⟩ : ∃ w6, w6 = (wr.drewN nq).setCell ⟨gb, d, none⟩ (.bool true) := ⟨_, rfl⟩
          have Y6 : Hid (Blk w6 gb 4 (boolA s.nd fun i => decide (i ∈ d :: l))) := Lib.hid (by
            have h := Yq.out.set_ d (.bool true)
            rw [boolA_set hdN, isB_mem] at h
            rw [hw6]
            exact h)
          have X6 : Hid (Blk w6 z 39 #[.int .i64 dr, .string D, .int .i64 adr, .slice (some ⟨yb, yo, none⟩) fn fc, .slice hA hn hc]) := Lib.hid (by
            rw [hw6]
            exact (Below.heap_setCell _ ⟨gb, d, none⟩ _ z (by show z ≠ gb; have := HGZ.out.2; omega)).trans Xq.out)
          have R6 : Hid (RackAt B w6 r t) := Lib.hid (by rw [hw6]; exact Rq.out.far Yq.out rfl rfl)
          have K6 : Hid (Keep B w w6) := Lib.hid (by
            rw [hw6]
            refine ⟨Kq.out.below.setCell (p := ⟨gb, d, none⟩) HGB.out.1 _, fun k o h1 h2 => ?_⟩
            refine (Below.heap_setCell _ ⟨gb, d, none⟩ _ k ?_).trans (Kq.out.kept k o h1 h2)
            have := (Array.getElem?_eq_some_iff.1 h1).1
            have := HGB.out.2
            show k ≠ gb
            omega)
          have F6 : Hid (Fl s t (d :: l) (9 * i)) := Lib.hid (HL.out.2.1.more d)
          have L6 : Hid ((d :: l).length ≤ i + 1 ∧ (∀ d' ∈ d :: l, d' < s.nd)) := Lib.hid ⟨by have := HL.out.1; simp; omega, fun d' hd' => by
            rcases List.mem_cons.1 hd' with rfl | h
            · exact HD.out
            · exact HL.out.2.2 d' h⟩
          have v4 : ((wr.drewN nq).setCell ⟨gb, d, none⟩ (.bool true)).cell? ⟨z, 4, none⟩ = some (.slice hA hn hc) := by rw [← hw6]; exact X6.out.cell 4
          have HW6 := Lib.hid hw6
          clear Rq Kq Yq Xq HX HY HK HRt HDR
          by_cases hi2 : i < hn
          · obtain ⟨hb, ho, he, hhb, p3, hh1, hh2⟩ := HH.out w6 K6.out i hi2
            subst he
            generalize hyh : hx i = yh at *
            have HYH := Lib.hid hyh
            clear hyh
            rw [hw6] at p3
            clear hw6
            cases hpb : (yh.tmod 2 != 0) with
            | true =>
              go_wp2_with fail
              rw [← HW6.out]
              clear hpb
              have HLO := Lib.hid (lose_in w6 R6.out d (by rw [HTN.out]; exact HD.out))
              refine HLO.out.mono ?_
              rintro e w7 ⟨rfl, h7, k7⟩
              have R7 := Lib.hid h7
              have K7 := Lib.hid (K6.out.trans k7)
              have Y7 : Hid (Blk w7 gb 4 (boolA s.nd fun i => decide (i ∈ d :: l))) := Lib.hid (k7.block Y6.out rfl)
              have X7 := Lib.hid (k7.block X6.out rfl)
              clear h7 k7 HLO
              go_wp2_with fail
              go_roundw
              case rel => exact ⟨i + 1, t.lost d, d :: l, by omega, by omega, by go_num, Lib.hid ⟨L6.out.1, (F6.out.lose (List.mem_cons_self ..)).wk (by omega), L6.out.2⟩, R7, K7, Y7, X7⟩
              case measure => simp [intOf]; omega
            | false =>
              go_wp2_with fail
              rw [← HW6.out]
              go_loopw [8] (fun y wr => ∃ (j : Nat) (t2 : RS), j ≤ 9 ∧ y = .int .i64 (j : Int) ∧ Hid (Fl s t2 (d :: l) (9 * i + j)) ∧ Hid (RackAt B wr r t2) ∧ Hid (Keep B w wr) ∧ Hid (Blk wr gb 4 (boolA s.nd fun i => decide (i ∈ d :: l))) ∧ Hid (Blk wr z 39 #[.int .i64 dr, .string D, .int .i64 adr, .slice (some ⟨yb, yo, none⟩) fn fc, .slice (some ⟨hb, ho, none⟩) hn hc])) (fun y _ => 9 - (intOf y).toNat)
              case atStart => exact ⟨0, t, by omega, rfl, F6, R6, K6, Y6, X6⟩
              case round =>
                clear R6 K6 Y6 X6 F6
                obtain ⟨j, t2, hj, rfl, F2, R2, K2, Y2, X2⟩ := hrel
                have HSC := Lib.hid (_root_.Go.Proofs.YtmfjhnfhpcpfeaaGreatDoor.sectors_any wr r t2 R2.out)
                have e9 : (t2.ns : Int) = 9 := by rw [F2.out.ns, hns]; rfl
                have q4 : wr.cell? ⟨z, 4, none⟩ = some (.slice (some ⟨hb, ho, none⟩) hn hc) := X2.out.cell 4
                go_wp2_with fail
                refine HSC.out.mono ?_
                rintro e w' ⟨rfl, hw'⟩
                have hw' := hw'.symm
                subst hw'
                rw [e9]
                clear HSC e9
                by_cases hj9 : j < 9
                · obtain ⟨hb', ho', he', _, p3, _, _⟩ := HH.out wr K2.out i hi2
                  injection he' with he'
                  injection he' with he1 he2
                  subst he1 he2
                  rw [HYH.out] at p3
                  go_wp2_with fail
                  · have HRO := Lib.hid (rot_tot wr r t2 (d : Int) (j : Int) ((j : Int) * 131 + (i : Int)) (by omega) (by have := F2.out.cst; omega) R2.out)
                    refine HRO.out.mono ?_
                    rintro e w7 ⟨rfl, h7, k7⟩
                    have R7 := Lib.hid h7
                    have K7 := Lib.hid (K2.out.trans k7)
                    have Y7 : Hid (Blk w7 gb 4 (boolA s.nd fun i => decide (i ∈ d :: l))) := Lib.hid (k7.block Y2.out rfl)
                    have X7 := Lib.hid (k7.block X2.out rfl)
                    clear h7 k7 HRO
                    go_wp2_with fail
                    go_roundw
                    case rel => exact ⟨j + 1, rotS t2 (d : Int) (j : Int) ((j : Int) * 131 + (i : Int)), by omega, by go_num, Lib.hid ((F2.out.rot (List.mem_cons_self ..) _ _).wk (by omega)), R7, K7, Y7, X7⟩
                    case measure => simp [intOf]; omega
                  · go_roundw
                    case rel => exact ⟨j + 1, t2, by omega, by go_num, Lib.hid (F2.out.wk (by omega)), R2, K2, Y2, X2⟩
                    case measure => simp [intOf]; omega
                · obtain rfl : j = 9 := by omega
                  go_wp2_with fail
                  go_roundw
                  case rel => exact ⟨i + 1, t2, d :: l, by omega, by omega, by go_num, Lib.hid ⟨L6.out.1, F2.out.wk (by omega), L6.out.2⟩, R2, K2, Y2, X2⟩
                  case measure => simp [intOf]; omega
          · have hi2' : ¬ ((i : Int) < (hn : Int)) := by omega
            clear hw6
            go_wp2_with fail
            rw [← HW6.out]
            go_loopw [8] (fun y wr => ∃ (j : Nat) (t2 : RS), j ≤ 9 ∧ y = .int .i64 (j : Int) ∧ Hid (Fl s t2 (d :: l) (9 * i + j)) ∧ Hid (RackAt B wr r t2) ∧ Hid (Keep B w wr) ∧ Hid (Blk wr gb 4 (boolA s.nd fun i => decide (i ∈ d :: l))) ∧ Hid (Blk wr z 39 #[.int .i64 dr, .string D, .int .i64 adr, .slice (some ⟨yb, yo, none⟩) fn fc, .slice hA hn hc])) (fun y _ => 9 - (intOf y).toNat)
            case atStart => exact ⟨0, t, by omega, rfl, F6, R6, K6, Y6, X6⟩
            case round =>
              clear R6 K6 Y6 X6 F6
              obtain ⟨j, t2, hj, rfl, F2, R2, K2, Y2, X2⟩ := hrel
              have HSC := Lib.hid (_root_.Go.Proofs.YtmfjhnfhpcpfeaaGreatDoor.sectors_any wr r t2 R2.out)
              have e9 : (t2.ns : Int) = 9 := by rw [F2.out.ns, hns]; rfl
              have q4 : wr.cell? ⟨z, 4, none⟩ = some (.slice hA hn hc) := X2.out.cell 4
              go_wp2_with fail
              refine HSC.out.mono ?_
              rintro e w' ⟨rfl, hw'⟩
              have hw' := hw'.symm
              subst hw'
              rw [e9]
              clear HSC e9
              by_cases hj9 : j < 9
              · go_wp2_with fail
                have HRO := Lib.hid (rot_tot wr r t2 (d : Int) (j : Int) ((j : Int) * 131 + (i : Int)) (by omega) (by have := F2.out.cst; omega) R2.out)
                refine HRO.out.mono ?_
                rintro e w7 ⟨rfl, h7, k7⟩
                have R7 := Lib.hid h7
                have K7 := Lib.hid (K2.out.trans k7)
                have Y7 : Hid (Blk w7 gb 4 (boolA s.nd fun i => decide (i ∈ d :: l))) := Lib.hid (k7.block Y2.out rfl)
                have X7 := Lib.hid (k7.block X2.out rfl)
                clear h7 k7 HRO
                go_wp2_with fail
                go_roundw
                case rel => exact ⟨j + 1, rotS t2 (d : Int) (j : Int) ((j : Int) * 131 + (i : Int)), by omega, by go_num, Lib.hid ((F2.out.rot (List.mem_cons_self ..) _ _).wk (by omega)), R7, K7, Y7, X7⟩
                case measure => simp [intOf]; omega
              · obtain rfl : j = 9 := by omega
                go_wp2_with fail
                go_roundw
                case rel => exact ⟨i + 1, t2, d :: l, by omega, by omega, by go_num, Lib.hid ⟨L6.out.1, F2.out.wk (by omega), L6.out.2⟩, R2, K2, Y2, X2⟩
                case measure => simp [intOf]; omega
      · have hlt3' : ¬ ((i : Int) < 3) := by omega
        go_wp2_with fail
        go_ret
        have h1 := HL.out.1
        first | exact ⟨gb, rfl, t, l, HY.out, HL.out.2.1.wk (by omega), by omega, HL.out.2.2, HRt.out, HK.out⟩ | exact ⟨gb, t, l, rfl, HY.out, HL.out.2.1.wk (by omega), by omega, HL.out.2.2, HRt.out, HK.out⟩
    · have hlt' : ¬ ((i : Int) < (fn : Int)) := by omega
      go_wp2_with fail
      go_ret
      have h1 := HL.out.1
      first | exact ⟨gb, rfl, t, l, HY.out, HL.out.2.1.wk (by omega), by omega, HL.out.2.2, HRt.out, HK.out⟩ | exact ⟨gb, t, l, rfl, HY.out, HL.out.2.1.wk (by omega), by omega, HL.out.2.2, HRt.out, HK.out⟩
end Arr
end Go.Proofs.YtmfjhnfhpcpfeaaGreatDoor
