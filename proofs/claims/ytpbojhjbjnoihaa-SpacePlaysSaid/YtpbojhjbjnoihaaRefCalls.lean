/-
  The document's calls of a space, told by what it keeps: Free, Ranges, Give, Settle, Reserve. Numbers of 64 bits.
-/
import Derived.Test.YtpbojhjbjnoihaaRefSpNew
namespace Go.Proofs.Ytpbojhjbjnoihaa
open Go Go.RowKit
set_option maxRecDepth 100000
set_option linter.unusedVariables false
namespace Rf
open Sp
theorem num_of {f : Nat → Int} {s : SS} (h : Tells f s) (hg : Sp.Good s) {k : Nat} (hk : k < 3) : numB (fun c => f c == (k : Int)) s.cells = cnt (s.S k) := by
  rw [(hg.ris k hk).numB (hg.in_ k hk)]
  refine numB_congr _ fun c hc => ?_
  have h1 := h.iff hg hc hk
  have h2 := memB_iff (s.S k) c
  cases hm : memB (s.S k) c with
  | true => have := h1.2 (h2.1 hm); simp; exact this
  | false =>
    rw [beq_eq_false_iff_ne]
    intro e
    have := h2.2 (h1.1 e)
    rw [hm] at this
    cases this
section
variable {w w' : World} {O : Nat → Prop} {b : Nat} {s : SS}
theorem RefS.size (h : RefS w O b s) : O b ∧ b < w.heap.size := by
  obtain ⟨h0, f, ⟨g, c, cs, h1, h2, h3, h4, h5⟩, _⟩ := h
  exact ⟨h4, h1.lt⟩
theorem RefS.drew (h : RefS w O b s) : RefS w.drew O b s := h
theorem free_rs (h : RefS w O b s) : Calls Try.prog 33 #[.pointer (some ⟨b, 0, none⟩)] w fun e w' => e = .returned (.int .i64 ((cnt (s.S 0) : Int) - (s.kept : Int))) ∧ Below w.heap.size w w' := by
  obtain ⟨h0, f, h1, h2⟩ := h
  have := free_rf h1 h0.hc.2 h0.kp
  rw [show (fun c => f c == 0) = (fun c => f c == ((0 : Nat) : Int)) from rfl, num_of h2 h0 (by omega)] at this
  exact this
theorem ranges_rs (h : RefS w O b s) (k : Nat) (hk : k < 3) : Calls Try.prog 34 #[.pointer (some ⟨b, 0, none⟩), .int .i64 (k : Int)] w fun e w' => ∃ v, e = .returned v ∧ OwnR w' w.heap.size v (s.S k) ∧ Below w.heap.size w w' := by
  obtain ⟨h0, f, h1, h2⟩ := h
  refine (ranges_rf h1 h0.hc.2 (k : Int)).mono ?_
  rintro e w' ⟨v, L, rfl, h3, h4, h5⟩
  have := h4.is h0 h2 hk
  subst this
  exact ⟨v, rfl, h3, h5⟩
end
section
variable {w : World} {O : Nat → Prop} {b : Nat} {s : SS}
theorem give_rs (h : RefS w O b s) (a j : Int) (ha1 : -9223372036854775808 ≤ a) (ha2 : a ≤ 9223372036854775807) (hj1 : -9223372036854775808 ≤ j) (hj2 : j ≤ 9223372036854775807) :
    Calls Try.prog 17 #[.pointer (some ⟨b, 0, none⟩), .int .i64 a, .int .i64 j] w fun e w' => e = .returned (.int .i64 (giveS s a j).1) ∧ RefS w' O b (giveS s a j).2 ∧ Frm O w w' := by
  have hsz := h.size
  obtain ⟨h0, f, h1, h2⟩ := h
  have hN := h0.hc.2
  have HI := Lib.hid (in_rf h1 hN a j ha1 ha2 hj1 hj2)
  have HRS : Hid (RefS w O b s) := Lib.hid ⟨h0, f, h1, h2⟩
  by_cases hno : j < 1 ∨ a < 0 ∨ (s.cells : Int) - j < a
  · have e1 : giveS s a j = (1, s) := if_pos hno
    have e2 : inZ s.cells a j = false := by
      unfold inZ
      simp only [Bool.and_eq_false_iff, decide_eq_false_iff_not]
      omega
    rw [e1]
    rw [e2] at HI
    clear h0 h1 h2 hN hno e1 e2 ha1 ha2 hj1 hj2 hsz
    go_enter Try.func17, Try.ntmps17
    go_wp2_with fail
    refine HI.out.mono ?_
    rintro e w2 ⟨rfl, hw⟩
    have hw := hw.symm
    subst hw
    go_wp2_with fail
    go_ret
    exact ⟨rfl, HRS.out, Frm.refl _ _⟩
  · obtain ⟨x, rfl⟩ : ∃ x : Nat, a = (x : Int) := ⟨a.toNat, by omega⟩
    obtain ⟨k, rfl⟩ : ∃ k : Nat, j = (k : Int) := ⟨j.toNat, by omega⟩
    have e2 : inZ s.cells (x : Int) (k : Int) = true := by
      unfold inZ
      simp only [Bool.and_eq_true, decide_eq_true_eq]
      omega
    rw [e2] at HI
    have e1 : giveS s (x : Int) (k : Int) = if hasL x (x + k) (s.S 1) then (0, s.mv 1 2 x (x + k)) else (7, s) := by
      unfold giveS
      rw [if_neg hno, Int.toNat_natCast, Int.toNat_natCast]
    have hxk : x + k ≤ s.cells := by omega
    have hk1 : x < x + k := by omega
    have HA := Lib.hid (all_rf h1 hN x k hxk 1)
    have HS := Lib.hid (set_rf h1 hN x k hxk 2)
    have hh := h2.has h0 (k := 1) (by omega) hk1 hxk
    have HE := Lib.hid e1
    cases hq : hasL x (x + k) (s.S 1) with
    | false =>
      rw [hq] at hh e1
      rw [e1]
      have HF : Hid (∀ e, SaysAll f 1 x (x + k) e → e = .returned (.bool false)) := Lib.hid fun e ⟨bb, e3, e4⟩ => by
        cases bb with
        | false => exact e3
        | true => exact absurd (hh.2 (e4.1 rfl)) (by decide)
      clear h0 h1 h2 hN hno e1 e2 ha1 ha2 hj1 hj2 hsz hxk hk1 hh HS HE hq
      go_enter Try.func17, Try.ntmps17
      go_wp2_with fail
      refine HI.out.mono ?_
      rintro e w2 ⟨rfl, hw⟩
      have hw := hw.symm
      subst hw
      go_wp2_with fail
      refine HA.out.mono ?_
      rintro e w2 ⟨he, hw⟩
      have he := HF.out e he
      have hw := hw.symm
      subst he hw
      go_wp2_with fail
      go_ret
      exact ⟨rfl, HRS.out, Frm.refl _ _⟩
    | true =>
      rw [hq] at hh e1
      rw [e1]
      have HF : Hid (∀ e, SaysAll f 1 x (x + k) e → e = .returned (.bool true)) := Lib.hid fun e ⟨bb, e3, e4⟩ => by
        cases bb with
        | true => exact e3
        | false => exact absurd (e4.2 (hh.1 rfl)) (by decide)
      have HG2 : Hid (Sp.Good (s.mv 1 2 x (x + k)) ∧ Tells (fset f x (x + k) 2) (s.mv 1 2 x (x + k))) := Lib.hid ⟨h0.mv (f := 1) (t := 2) (by decide) (by decide) (by decide) hk1 hq, h2.mv (p := 1) (t := 2) h0 (by decide) (by decide) (by decide) hk1 hq⟩
      clear h0 h1 h2 hN hno e1 e2 ha1 ha2 hj1 hj2 hsz hxk hk1 hh HE hq HRS
      go_enter Try.func17, Try.ntmps17
      go_wp2_with fail
      refine HI.out.mono ?_
      rintro e w2 ⟨rfl, hw⟩
      have hw := hw.symm
      subst hw
      go_wp2_with fail
      refine HA.out.mono ?_
      rintro e w2 ⟨he, hw⟩
      have he := HF.out e he
      have hw := hw.symm
      subst he hw
      go_wp2_with fail
      refine HS.out.mono ?_
      rintro e w2 ⟨rfl, r2, b2⟩
      have R2 := Lib.hid (⟨r2, b2⟩ : _ ∧ _)
      clear r2 b2
      go_wp2_with fail
      go_ret
      exact ⟨rfl, ⟨HG2.out.1, _, R2.out.1, HG2.out.2⟩, R2.out.2⟩
set_option maxHeartbeats 3200000 in
theorem settle_rs (h : RefS w O b s) : Calls Try.prog 18 #[.pointer (some ⟨b, 0, none⟩)] w fun e w' => e = .returned (.int .i64 (cnt (s.S 2) : Int)) ∧ RefS w' O b s.settled ∧ Frm O w w' := by
  obtain ⟨h0, f, h1, h2⟩ := h
  obtain ⟨N, hNe⟩ : ∃ N, N = s.cells := ⟨_, rfl⟩
  have hN : N ≤ 40000 := by rw [hNe]; exact h0.hc.2
  have hnum : numB (fun c => f c == 2) s.cells = cnt (s.S 2) := num_of h2 h0 (k := 2) (by omega)
  rw [← hNe] at hnum h1
  have HNUM := Lib.hid hnum
  have HF : Hid (Sp.Good s.settled ∧ Tells (fset2 f N) s.settled ∧ N = s.settled.cells) := Lib.hid ⟨h0.settled, by rw [hNe]; exact h2.settled h0, by rw [hNe]; rfl⟩
  obtain ⟨g, c, cs, x1, x2, x3, x4, x5⟩ := h1
  have hbg : b ≠ g := fun e => by
    subst e
    unfold Blk at x1 x2
    rw [x1] at x2
    injection x2 with x2
    injection x2 with _ x2
    exact absurd x2 (by decide)
  have HST : Hid (∃ cs', Blk w g 3 cs' ∧ ∀ i, i < N → cs'[i]? = some (.int .i64 (fset2 f 0 i))) := Lib.hid ⟨cs, x2, by rw [fset2_none]; exact x3⟩
  have HB1 := Lib.hid x1
  have HL : Hid (Frm O w w) := Lib.hid (Frm.refl _ _)
  have HBB := Lib.hid (⟨hbg, x4, x5⟩ : _ ∧ _ ∧ _)
  clear h0 h2 x1 x2 x3 x4 x5 hbg hNe hnum
  go_enter Try.func18, Try.ntmps18
  go_wp2_with fail
  go_loopw [3, 4] (fun u y wr => ∃ i : Nat, i ≤ N ∧ y = .int .i64 (i : Int) ∧ u = .int .i64 ((numB (fun c => f c == 2) i : Nat) : Int) ∧ Hid (∃ cs', Blk wr g 3 cs' ∧ ∀ j, j < N → cs'[j]? = some (.int .i64 (fset2 f i j))) ∧ Hid (Blk wr b 73 #[.slice (some ⟨g, 0, none⟩) N c, .int .i64 (s.kept : Int)]) ∧ Hid (Frm O w wr)) (fun _ y _ => N - (intOf y).toNat)
  case atStart => exact ⟨0, by omega, rfl, rfl, HST, HB1, HL⟩
  case round =>
    clear HST HB1 HL
    obtain ⟨i, hi, rfl, rfl, HST, HB1, HL⟩ := hrel
    have hnb := numB_le (fun c => f c == 2) i
    have c0 : wr.cell? ⟨b, 0, none⟩ = some (.slice (some ⟨g, 0, none⟩) N c) := HB1.out.cell 0
    by_cases hlt : i < N
    · have t1 : (i : Int) < (N : Int) := by omega
      obtain ⟨cs', x1, x2⟩ := HST.out
      have hfi : fset2 f i i = f i := by unfold fset2; rw [if_neg (by omega)]
      have hcell : wr.cell? ⟨g, i, none⟩ = some (.int .i64 (f i)) := by rw [← hfi]; exact (x1.cell i).trans (x2 i hlt)
      obtain ⟨nb, hnb2⟩ : ∃ nb, nb = numB (fun c => f c == 2) i := ⟨_, rfl⟩
      obtain ⟨v, hv⟩ : ∃ v, v = f i := ⟨_, rfl⟩
      have HN : Hid (numB (fun c => f c == 2) (i + 1) = nb + if v == 2 then 1 else 0) := Lib.hid (by rw [hnb2, hv]; rfl)
      rw [← hnb2] at hnb ⊢
      rw [← hv] at hcell
      have HV := Lib.hid hv
      by_cases hz : v = 2
      · subst hz
        have hfr := x1.frozen i
        have X := x1.set_ i (.int .i64 0)
        have hs : i < cs'.size := by
          have := x2 i hlt
          exact (Array.getElem?_eq_some_iff.1 this).1
        have HST2 : Hid (∃ cs', Blk (wr.setCell ⟨g, i, none⟩ (.int .i64 0)) g 3 cs' ∧ ∀ j, j < N → cs'[j]? = some (.int .i64 (fset2 f (i + 1) j))) := Lib.hid ⟨_, X, fun j hj => by
          rw [← fset2_yes f HV.out.symm, Array.getElem?_setIfInBounds]
          by_cases e : i = j
          · subst e
            rw [if_pos rfl, if_pos hs]
            show some (Value.int .i64 0) = some (Value.int .i64 (if i = i then 0 else fset2 f i i))
            rw [if_pos rfl]
          · rw [if_neg e]
            show cs'[j]? = some (Value.int .i64 (if j = i then 0 else fset2 f i j))
            rw [if_neg (fun x => e x.symm)]
            exact x2 j hj⟩
        have HB2 := Lib.hid (HB1.out.far (p := ⟨g, i, none⟩) HBB.out.1 (.int .i64 0))
        have HL2 : Hid (Frm O w (wr.setCell ⟨g, i, none⟩ (.int .i64 0))) := Lib.hid (HL.out.setCell (p := ⟨g, i, none⟩) HBB.out.2.2 _)
        have HN2 : Hid (numB (fun c => f c == 2) (i + 1) = nb + 1) := Lib.hid (by rw [HN.out]; simp)
        clear X x1 x2 hs HST HB1 HL hfi hv HN HV hnb2
        go_wp2_with fail
        go_roundw
        case rel => exact ⟨i + 1, by omega, by go_num, by rw [HN2.out]; go_num, HST2, HB2, HL2⟩
        case measure => simp [intOf]; omega
      · have hz1 : (v == 2) = false := by simp [hz]
        have HN2 : Hid (numB (fun c => f c == 2) (i + 1) = nb) := Lib.hid (by rw [HN.out, hz1]; simp)
        have HST2 : Hid (∃ cs', Blk wr g 3 cs' ∧ ∀ j, j < N → cs'[j]? = some (.int .i64 (fset2 f (i + 1) j))) := Lib.hid ⟨cs', x1, by rw [← fset2_no f (fun e => hz (HV.out.trans e))]; exact x2⟩
        clear x1 x2 HST hfi hv HN HV hnb2 hz
        go_wp2_with fail
        go_roundw
        case rel => exact ⟨i + 1, by omega, by go_num, by rw [HN2.out], HST2, HB1, HL⟩
        case measure => simp [intOf]; omega
    · obtain rfl : N = i := by omega
      have t1 : ¬ ((N : Int) < (N : Int)) := by omega
      clear hlt
      go_wp2_with fail
      go_ret
      rw [HNUM.out]
      obtain ⟨cs', x1, x2⟩ := HST.out
      obtain ⟨q1, q2, q3⟩ := HF.out
      exact ⟨rfl, ⟨q1, _, by rw [← q3]; exact ⟨g, c, cs', HB1.out, x1, x2, HBB.out.2.1, HBB.out.2.2⟩, q2⟩, HL.out⟩
set_option maxHeartbeats 1600000 in
theorem res_rs (h : RefS w O b s) (k : Int) (hk1 : -9223372036854775808 ≤ k) (hk2 : k ≤ 9223372036854775807) :
    Calls Try.prog 20 #[.pointer (some ⟨b, 0, none⟩), .int .i64 k] w fun e w' => e = .returned (.int .i64 (resS s k).1) ∧ RefS w' O b (resS s k).2 ∧ Frm O w w' := by
  have hsz := h.size
  have HF := Lib.hid (free_rs h)
  have HRS := Lib.hid h
  obtain ⟨h0, f, h1, h2⟩ := h
  have hkp := h0.kp
  have hcn : cnt (s.S 0) ≤ 40000 := by
    have := num_of h2 h0 (k := 0) (by omega)
    have h3 := numB_le (fun c => f c == ((0 : Nat) : Int)) s.cells
    have := h0.hc.2
    omega
  obtain ⟨g, c, cs, x1, x2, x3, x4, x5⟩ := h1
  obtain ⟨K, hK⟩ : ∃ K, K = s.kept := ⟨_, rfl⟩
  obtain ⟨n0, hn0⟩ : ∃ n0, n0 = cnt (s.S 0) := ⟨_, rfl⟩
  have hres : resS s k = if (K : Int) + k < 0 then (1, s) else if (n0 : Int) - (K : Int) < k then (5, s) else (0, { s with kept := ((K : Int) + k).toNat }) := by rw [hK, hn0]; rfl
  rw [← hK] at x1 hkp HF
  rw [← hn0] at hcn HF
  have c1 : w.cell? ⟨b, 1, none⟩ = some (.int .i64 (K : Int)) := x1.cell 1
  have hneg : IntKind.i64.wrap (-(K : Int)) = -(K : Int) := IntWalk.i64_in _ (by omega)
  by_cases h1 : (K : Int) + k < 0
  · rw [if_pos h1] at hres
    rw [hres]
    have e1 : k < 0 := by omega
    have e2 : k < -(K : Int) := by omega
    clear hres h0 h2 x1 x2 x3 x4 x5 hK hn0 hcn hsz h1
    go_enter Try.func20, Try.ntmps20
    go_wp2_with fail
    go_ret
    exact ⟨rfl, HRS.out, Frm.refl _ _⟩
  · rw [if_neg h1] at hres
    have HF2 : Hid (∀ W, W = w ∨ W = w.drew → True) := Lib.hid fun _ _ => trivial
    by_cases h3 : (n0 : Int) - (K : Int) < k
    · rw [if_pos h3] at hres
      rw [hres]
      by_cases e1 : k < 0
      · have e2 : ¬ (k < -(K : Int)) := by omega
        clear hres h0 h2 x1 x2 x3 x4 x5 hK hn0 hcn h1
        go_enter Try.func20, Try.ntmps20
        go_wp2_with fail
        refine HF.out.mono ?_
        rintro e w2 ⟨rfl, b2⟩
        have B2 := Lib.hid b2
        clear b2
        go_wp2_with fail
        go_ret
        exact ⟨rfl, HRS.out.keep B2.out, .of B2.out O⟩
      · clear hres h0 h2 x1 x2 x3 x4 x5 hK hn0 hcn h1
        go_enter Try.func20, Try.ntmps20
        go_wp2_with fail
        refine HF.out.mono ?_
        rintro e w2 ⟨rfl, b2⟩
        have B2 := Lib.hid b2
        clear b2
        go_wp2_with fail
        go_ret
        exact ⟨rfl, HRS.out.keep B2.out, .of B2.out O⟩
    · rw [if_neg h3] at hres
      rw [hres]
      obtain ⟨K2, hK2⟩ : ∃ K2, K2 = ((K : Int) + k).toNat := ⟨_, rfl⟩
      have ek : k = (K2 : Int) - (K : Int) := by omega
      rw [← hK2]
      have HEND : Hid (∀ w2, Below w.heap.size w w2 → w2.cell? ⟨b, 1, none⟩ = some (.int .i64 (K : Int)) ∧ w2.frozen? ⟨b, 1, none⟩ = false ∧ RefS (w2.setCell ⟨b, 1, none⟩ (.int .i64 (K2 : Int))) O b { s with kept := K2 } ∧ Frm O w (w2.setCell ⟨b, 1, none⟩ (.int .i64 (K2 : Int)))) := Lib.hid fun w2 hb => by
        have hbg : b ≠ g := fun e => by
          subst e
          unfold Blk at x1 x2
          rw [x1] at x2
          injection x2 with x2
          injection x2 with _ x2
          exact absurd x2 (by decide)
        have y1 := x1.below hb x1.lt
        have y2 := x2.below hb x2.lt
        refine ⟨y1.cell 1, y1.frozen 1, ⟨⟨h0.hc, h0.ris, h0.in_, h0.one, h0.all, by show K2 ≤ 1000000; omega⟩, f, ⟨g, c, cs, y1.set_ 1 _, y2.far (p := ⟨b, 1, none⟩) (fun e => hbg e.symm) _, x3, x4, x5⟩, h2⟩, (Frm.of hb O).setCell (p := ⟨b, 1, none⟩) hsz.1 _⟩
      have esum : (K : Int) + k = (K2 : Int) := by omega
      have hadd : IntKind.i64.wrap ((K : Int) + k) = (K2 : Int) := by rw [esum, IntWalk.i64_in _ (by omega)]
      by_cases e1 : k < 0
      · have e2 : ¬ (k < -(K : Int)) := by omega
        clear hres h0 h2 x1 x2 x3 x4 x5 hK hn0 hcn h1 hK2 ek esum
        go_enter Try.func20, Try.ntmps20
        go_wp2_with fail
        refine HF.out.mono ?_
        rintro e w2 ⟨rfl, b2⟩
        obtain ⟨d1, d2, d3, d4⟩ := HEND.out w2 b2
        have D := Lib.hid (⟨d3, d4⟩ : _ ∧ _)
        clear b2 d3 d4 c1 hneg
        go_wp2_with fail
        go_ret
        exact ⟨rfl, D.out.1, D.out.2⟩
      · clear hres h0 h2 x1 x2 x3 x4 x5 hK hn0 hcn h1 hK2 ek esum
        go_enter Try.func20, Try.ntmps20
        go_wp2_with fail
        refine HF.out.mono ?_
        rintro e w2 ⟨rfl, b2⟩
        obtain ⟨d1, d2, d3, d4⟩ := HEND.out w2 b2
        have D := Lib.hid (⟨d3, d4⟩ : _ ∧ _)
        clear b2 d3 d4 c1 hneg
        go_wp2_with fail
        go_ret
        exact ⟨rfl, D.out.1, D.out.2⟩
end
end Rf
end Go.Proofs.Ytpbojhjbjnoihaa
