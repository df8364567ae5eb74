/-
  The walk of 'IntentRooms': what is appended takes as many sectors as it needs, what has no room is refused and changes nothing. Conditions: the texts can be read, the sums' table is laid.
-/
import Derived.Test.YtikenhcglbfgpaaDoorIntentEdgesWalk
namespace Go.Proofs.YtikenhcglbfgpaaDoor
open Go Go.RowKit refRack
set_option maxRecDepth 100000
set_option linter.unusedVariables false
namespace intentRooms
open Itn
theorem short_any (s : ByteArray) (w : World) : Calls Tryd.prog 8 #[.string s] w fun e w' => (∃ x : ByteArray, x.size ≤ 300 ∧ e = .returned (.string x)) ∧ w' = w := by
  by_cases h : s.size ≤ 300
  · have i1 : ((s.size : Int) ≤ 300) := by omega
    go_enter Tryd.func8, Tryd.ntmps8
    go_wp2_with fail
    go_ret
    exact ⟨⟨_, h, rfl⟩, rfl⟩
  · have i1 : ¬ ((s.size : Int) ≤ 300) := by omega
    go_enter Tryd.func8, Tryd.ntmps8
    go_wp2_with fail
    go_ret
    exact ⟨⟨s.extract 0 300, by rw [ext_size _ _ _ (by omega)]; omega, rfl⟩, rfl⟩
/-- the law's rack, and what its log holds -/
structure Room (S : RS) (C : Nat) (ps : List Pc) (hv : List ByteArray) : Prop where
  nd : S.nd = 5
  ns : S.ns = 60
  cost : S.cost ≤ 5 * ps.length
  nw : S.nw ≤ 5 * ps.length
  log : LogR S 20 C 0 ps
  tells : Tells ps hv
theorem Room.start {C : Nat} (hC : C ≤ 30) : Room (RS.new 5 60) C [] [] := ⟨rfl, rfl, Nat.le_refl _, Nat.le_refl _, LogR.new 5 60 20 C 0 (by omega) (by omega) (by omega), tells_nil⟩
theorem Room.app {S : RS} {C : Nat} {ps : List Pc} {hv : List ByteArray} (h : Room S C ps hv) (t : ByteArray) (hn : ps.length + needN t.size ≤ C) : Room (putS S 20 0 ps.length (cutL t)) C (ps ++ cutL t) (hv ++ [t]) ∧ (putS S 20 0 ps.length (cutL t)).nw = S.nw + 5 * needN t.size := by
  obtain ⟨hk, hc⟩ := putS_like 20 0 (cutL t) S ps.length
  have hl := cutL_len t
  refine ⟨⟨hk.nd.trans h.nd, hk.ns.trans h.ns, ?_, ?_, h.log.app (cutL t) (by omega) (cutL_fit t), tells_app h.tells t⟩, ?_⟩
  · rw [List.length_append, hl]
    rw [h.nd, hl] at hc
    have := h.cost
    omega
  · rw [putS_nw, cntW_all h.log.gone, h.nd, List.length_append]
    have := h.nw
    omega
  · rw [putS_nw, cntW_all h.log.gone, h.nd, hl]
theorem ownS_keepL {l B base : Nat} {w w' : World} {v : Value} {hv : List ByteArray} (h : OwnS w base v hv) (k : KL l B w w') (hl : l < base) : OwnS w' base v hv := Gr.OwnG.keep h fun g hg => by
  obtain ⟨cur, e⟩ := Gr.OwnG.blk_of h hg
  rw [show w.heap[g]? = _ from e]
  exact k.kept g _ e rfl (by have := (Gr.OwnG.lt h hg).2; omega)
set_option maxHeartbeats 25600000 in
theorem walk (A0 : Option Addr) (L : List ByteArray) (c0 : Nat) (a1 : Int) (w : World) {p1 : Prop} (hrd0 : Gr.RdG 1 csS w A0 L) (_ : p1) (hl : Laid w) :
    Calls Tryd.prog 3 #[.slice A0 L.length c0, .int .i64 a1] w fun e w' => e = .returned (.bool true) ∧ Below w.heap.size w w' := by
  have HLD := Lib.hid hl
  have hpos := hl.pos
  have HA := Lib.hid hrd0
  obtain ⟨N, hN⟩ : ∃ N, N = L.length := ⟨_, rfl⟩
  have HN := Lib.hid hN
  rw [← hN]
  obtain ⟨q, hq0, hq⟩ := umodI a1 30 (by omega) (by omega)
  clear hl hrd0 hN
  go_enter Tryd.func3, Tryd.ntmps3
  go_wp2_with fail
  refine (known_at w HLD.out).mono ?_
  rintro e w0 ⟨rfl, b0⟩
  have B0 := Lib.hid b0
  have hpos0 : 0 < w0.heap.size := by have := b0.size; omega
  clear b0
  go_upto_region 4 with (fail)
  obtain ⟨C, hC⟩ : ∃ C, C = q + 1 := ⟨_, rfl⟩
  have hC2 : (1 : Int) + (q : Int) = (C : Int) := by omega
  have hC1 : 1 ≤ C ∧ C ≤ 30 := by omega
  rw [hC2]
  clear hC hC2 hq hq0
  go_wp2_with fail
  refine (new_any w0 5 60 (by omega) (by omega) (by omega) (by omega)).mono ?_
  rintro e w1 ⟨⟨r, rfl, h1⟩, k1⟩
  have H1 := Lib.hid h1
  have K1 := Lib.hid k1
  have LD1 := Lib.hid ((HLD.out.below B0.out hpos).below k1.below hpos0)
  clear h1 k1
  go_wp2_with fail
  have HO := Lib.hid (open_at w1 r _ 20 C 0 H1.out LD1.out hpos0 rfl (by show 20 + C ≤ 60; omega) (by omega) (by omega) (by omega) (by omega))
  rw [(LogR.new 5 60 20 C 0 (by omega) (by omega) (by omega)).col tells_nil] at HO
  refine HO.out.mono ?_
  rintro e w2 ⟨l, v, rfl, hll, hv, h2, x2, k2⟩
  have H2 := Lib.hid h2
  have K2 := Lib.hid (K1.out.trans k2).below
  have X2 : Hid (Blk w2 l 53 (logA r 20 C 0 ([] : List Pc).length)) := Lib.hid x2
  have HLL : Hid (w0.heap.size ≤ l) := Lib.hid (by have := K1.out.below.size; omega)
  have LD2 := Lib.hid (LD1.out.below k2.below hpos0)
  have HLB : Hid (l < w2.heap.size) := Lib.hid x2.lt
  obtain ⟨base, hbase⟩ : ∃ base, base = w2.heap.size := ⟨_, rfl⟩
  have HB2 : Hid (w0.heap.size ≤ base ∧ base ≤ w2.heap.size) := Lib.hid ⟨by have := K2.out.size; omega, by omega⟩
  rw [← hbase] at HLB
  have S2 : Hid (OwnS w2 base (.slice none 0 0) []) := Lib.hid (Gr.OwnG.nil _ _)
  have M2 := Lib.hid (Room.start hC1.2)
  clear hv h2 x2 k2 hll HO H1 K1 LD1 hbase
  have hz0 : (C : Int) = ((C - ([] : List Pc).length : Nat) : Int) := rfl
  go_wp2_with fail
  go_loopw [12, 11, 10] (fun y y11 y10 wr => ∃ (i : Nat) (S : RS) (ps : List Pc) (hv : List ByteArray), i ≤ 30 ∧ hv.length ≤ i ∧ ps.length ≤ C ∧ y = .int .i64 (i : Int) ∧ y11 = .int .i64 ((C - ps.length : Nat) : Int) ∧ Hid (OwnS wr base y10 hv) ∧ Hid (Room S C ps hv) ∧ Hid (RackAt w0.heap.size wr r S) ∧ Hid (Blk wr l 53 (logA r 20 C 0 ps.length)) ∧ Hid (Below w0.heap.size w0 wr) ∧ Hid (base ≤ wr.heap.size)) (fun y _ _ _ => 30 - (intOf y).toNat)
  case atStart => exact ⟨0, _, [], [], by omega, Nat.le_refl _, by simp, rfl, rfl, S2, M2, H2, X2, K2, Lib.hid HB2.out.2⟩
  case round =>
    clear S2 M2 H2 X2 K2 LD2 hz0
    obtain ⟨i, S, ps, hv, hi, hvl, hpl, rfl, rfl, SV, M, R, X, BW, HBS⟩ := hrel
    by_cases hlt : i < N
    · have i1 : (i : Int) < (N : Int) := by omega
      by_cases hlt2 : i < 30
      · have i2 : (i : Int) < 30 := by omega
        have hil : i < L.length := by have := HN.out; omega
        obtain ⟨x, hx⟩ : ∃ x, x = L[i] := ⟨_, rfl⟩
        have hxi : L[i]? = some x := by rw [hx]; exact List.getElem?_eq_getElem hil
        obtain ⟨b1, o1, e1, q1⟩ := rd_str (HA.out.below (B0.out.trans (BW.out.mono B0.out.size))) hxi
        subst e1
        clear hx hxi hil
        go_wp2_with fail
        refine (short_any x wr).mono ?_
        rintro e w' ⟨⟨t, ht300, rfl⟩, hw⟩
        replace hw := hw.symm
        subst hw
        clear q1
        go_upto_region 15 with (fail)
        have hnn : (if ((t.size : Int) + 55) / 56 < 1 then (1 : Int) else ((t.size : Int) + 55) / 56) = ((needN t.size : Nat) : Int) := by unfold needN; split <;> omega
        obtain ⟨n, hn⟩ : ∃ n, n = needN t.size := ⟨_, rfl⟩
        rw [hnn, ← hn]
        have hn6 : n ≤ 6 ∧ 1 ≤ n := by unfold needN at hn; omega
        have HNN := Lib.hid hn
        clear hnn hn i1
        go_wp2_with fail
        refine (pending_any wr r S R.out).mono ?_
        rintro e w' ⟨rfl, hw⟩
        replace hw := hw.symm
        subst hw
        obtain ⟨nw, hnw⟩ : ∃ nw, nw = S.nw := ⟨_, rfl⟩
        rw [← hnw]
        have hnw150 : nw ≤ 150 := by have := M.out.nw; omega
        have HNW := Lib.hid hnw
        clear hnw
        go_wp2_with fail
        by_cases hb : C < n
        · refine (app_no wr r l 20 C 0 ps.length t X.out hpl (by omega) (by omega) (by rw [← HNN.out]; omega)).mono ?_
          rintro e w' ⟨rfl, m, hw⟩
          replace hw := hw.symm
          subst hw
          have hE : appE C ps.length (needN t.size) = 14 := by unfold appE; rw [← HNN.out, if_pos hb]
          rw [hE]
          have j1 : (C : Int) < (n : Int) := by omega
          go_wp2_with fail
          refine (pending_any (wr.drewN m) r S (R.out.drewN m)).mono ?_
          rintro e w' ⟨rfl, hw⟩
          replace hw := hw.symm
          subst hw
          rw [← HNW.out]
          go_wp2_with fail
          refine (room_at (wr.drewN m) r l 20 C 0 ps.length (X.out.drewN m) hpl (by omega)).mono ?_
          rintro e w' ⟨rfl, m2, hw⟩
          replace hw := hw.symm
          subst hw
          go_wp2_with fail
          refine (need_at t (wr.drewN (m + m2)) (by omega)).mono ?_
          rintro e w' ⟨rfl, hw⟩
          replace hw := hw.symm
          subst hw
          rw [← HNN.out]
          have S9 : Hid (OwnS (wr.drewN (m + m2)) base u10 hv) := SV
          have R9 := Lib.hid (R.out.drewN (m + m2))
          have X9 : Hid (Blk (wr.drewN (m + m2)) l 53 (logA r 20 C 0 ps.length)) := X
          have W9 : Hid (Below w0.heap.size w0 (wr.drewN (m + m2))) := Lib.hid ⟨BW.out.os, BW.out.tape, BW.out.output, BW.out.size, BW.out.block⟩
          have Z9 : Hid (base ≤ (wr.drewN (m + m2)).heap.size) := HBS
          clear SV R X BW HBS
          go_wp2_with fail
          refine ⟨?_, ?measure⟩
          (repeat apply Exists.intro)
          refine ⟨?rel, rfl⟩
          case rel => exact ⟨i + 1, S, ps, hv, by omega, by omega, hpl, by go_num, rfl, S9, M, R9, X9, W9, Z9⟩
          case measure => simp [intOf]; omega
        · by_cases hs : C < ps.length + n
          · refine (app_no wr r l 20 C 0 ps.length t X.out hpl (by omega) (by omega) (by rw [← HNN.out]; omega)).mono ?_
            rintro e w' ⟨rfl, m, hw⟩
            replace hw := hw.symm
            subst hw
            have hE : appE C ps.length (needN t.size) = 5 := by unfold appE; rw [← HNN.out, if_neg hb]
            rw [hE]
            have j1 : ¬ ((C : Int) < (n : Int)) := by omega
            have j2 : ((C - ps.length : Nat) : Int) < (n : Int) := by omega
            go_wp2_with fail
            refine (pending_any (wr.drewN m) r S (R.out.drewN m)).mono ?_
            rintro e w' ⟨rfl, hw⟩
            replace hw := hw.symm
            subst hw
            rw [← HNW.out]
            go_wp2_with fail
            refine (room_at (wr.drewN m) r l 20 C 0 ps.length (X.out.drewN m) hpl (by omega)).mono ?_
            rintro e w' ⟨rfl, m2, hw⟩
            replace hw := hw.symm
            subst hw
            go_wp2_with fail
            refine (need_at t (wr.drewN (m + m2)) (by omega)).mono ?_
            rintro e w' ⟨rfl, hw⟩
            replace hw := hw.symm
            subst hw
            rw [← HNN.out]
            have S9 : Hid (OwnS (wr.drewN (m + m2)) base u10 hv) := SV
            have R9 := Lib.hid (R.out.drewN (m + m2))
            have X9 : Hid (Blk (wr.drewN (m + m2)) l 53 (logA r 20 C 0 ps.length)) := X
            have W9 : Hid (Below w0.heap.size w0 (wr.drewN (m + m2))) := Lib.hid ⟨BW.out.os, BW.out.tape, BW.out.output, BW.out.size, BW.out.block⟩
            have Z9 : Hid (base ≤ (wr.drewN (m + m2)).heap.size) := HBS
            clear SV R X BW HBS
            go_wp2_with fail
            refine ⟨?_, ?measure⟩
            (repeat apply Exists.intro)
            refine ⟨?rel, rfl⟩
            case rel => exact ⟨i + 1, S, ps, hv, by omega, by omega, hpl, by go_num, rfl, S9, M, R9, X9, W9, Z9⟩
            case measure => simp [intOf]; omega
          · have hpn : ps.length + needN t.size ≤ C := by rw [← HNN.out]; omega
            obtain ⟨hm3, hnw3⟩ := M.out.app t hpn
            have hc3 := M.out.cost
            refine (app_ok wr r l S 20 C 0 ps.length t R.out X.out (HLD.out.below (B0.out.trans (BW.out.mono B0.out.size)) hpos) hpos0 HLL.out M.out.log.calm (by rw [cntW_all M.out.log.gone, M.out.nd]; decide) (by rw [M.out.ns]; omega) hpn (by omega) (by omega) (by omega) (by rw [M.out.nd, ← HNN.out]; omega)).mono ?_
            rintro e w3 ⟨rfl, h3, x3, k3⟩
            obtain ⟨S', hS'⟩ : ∃ S', S' = putS S 20 0 ps.length (cutL t) := ⟨_, rfl⟩
            rw [← hS'] at h3 hm3 hnw3
            rw [← HNW.out, ← HNN.out] at hnw3
            have hps : (ps ++ cutL t).length = ps.length + n := by rw [List.length_append, cutL_len, ← HNN.out]
            obtain ⟨ps', hps'⟩ : ∃ ps', ps' = ps ++ cutL t := ⟨_, rfl⟩
            rw [← hps'] at hps hm3
            have R3 := Lib.hid h3
            have M3 := Lib.hid hm3
            have X3 : Hid (Blk w3 l 53 (logA r 20 C 0 ps'.length)) := Lib.hid (by rw [hps, HNN.out]; exact x3)
            have S3 := Lib.hid (ownS_keepL SV.out k3 HLB.out)
            have W3 : Hid (Below w0.heap.size w0 w3) := Lib.hid (BW.out.trans k3.below)
            have HZ : Hid (hv.length ≤ 1000000 ∧ base ≤ w3.heap.size) := Lib.hid ⟨by omega, by have := HBS.out; have := k3.below.size; omega⟩
            have hpl3 : ps'.length ≤ C := by rw [hps, HNN.out]; exact hpn
            have j1 : ¬ ((C : Int) < (n : Int)) := by omega
            have j2 : ¬ (((C - ps.length : Nat) : Int) < (n : Int)) := by omega
            clear hm3 hc3 h3 x3 k3 hS' hps' SV R X BW HBS M
            go_wp2_with fail
            refine (pending_any w3 r S' R3.out).mono ?_
            rintro e w' ⟨rfl, hw⟩
            replace hw := hw.symm
            subst hw
            rw [hnw3, show ((nw + 5 * n : Nat) : Int) = (nw : Int) + 5 * (n : Int) by omega]
            clear hnw3
            go_wp2_with (at_builtin; refine wpList_app_g rfl 22 (.tmp 84) (.tmp 86) rfl rfl rfl (fun ty => appS S3.out t HZ.out.1 HZ.out.2 ty) ?_; intro v7 W7 h7; refine of_hid ?_)
            refine Lib.hid ?_
            have hg7 := rowg_grown h7.2.2 h7.2.1
            have R7 := Lib.hid (rack_row R3.out hg7 (ownS_row S3.out))
            have X7 := Lib.hid (X3.out.grown hg7 (fun e => by have := (Gr.OwnG.lt S3.out e.symm).2; have := HLB.out; omega))
            have S7 := Lib.hid h7.1
            have W7b : Hid (Below w0.heap.size w0 W7) := Lib.hid (W3.out.trans (h7.2.1.mono HB2.out.1))
            have HZ7 : Hid (base ≤ W7.heap.size) := Lib.hid (by have := HZ.out.2; have := h7.2.2.1; omega)
            clear h7 hg7 R3 X3 S3 W3 HZ
            go_wp2_with fail
            refine (room_at W7 r l 20 C 0 ps'.length X7.out hpl3 (by omega)).mono ?_
            rintro e w' ⟨rfl, m2, hw⟩
            replace hw := hw.symm
            subst hw
            rw [show ((C - ps'.length : Nat) : Int) = ((C - ps.length : Nat) : Int) - (n : Int) by omega]
            go_wp2_with fail
            refine (need_at t (W7.drewN m2) (by omega)).mono ?_
            rintro e w' ⟨rfl, hw⟩
            replace hw := hw.symm
            subst hw
            rw [← HNN.out]
            have S9 : Hid (OwnS (W7.drewN m2) base v7 (hv ++ [t])) := S7
            have R9 := Lib.hid (R7.out.drewN m2)
            have X9 : Hid (Blk (W7.drewN m2) l 53 (logA r 20 C 0 ps'.length)) := X7
            have W9 : Hid (Below w0.heap.size w0 (W7.drewN m2)) := Lib.hid ⟨W7b.out.os, W7b.out.tape, W7b.out.output, W7b.out.size, W7b.out.block⟩
            have Z9 : Hid (base ≤ (W7.drewN m2).heap.size) := HZ7
            clear S7 R7 X7 W7b HZ7
            go_wp2_with fail
            refine ⟨?_, ?measure⟩
            (repeat apply Exists.intro)
            refine ⟨?rel, rfl⟩
            case rel => exact ⟨i + 1, S', ps', hv ++ [t], by omega, by rw [List.length_append]; simp; omega, hpl3, by go_num, by rw [show ((C - ps'.length : Nat) : Int) = ((C - ps.length : Nat) : Int) - (n : Int) by omega], S9, M3, R9, X9, W9, Z9⟩
            case measure => simp [intOf]; omega
      · have i2 : ¬ ((i : Int) < 30) := by omega
        have LDR := Lib.hid (HLD.out.below (B0.out.trans (BW.out.mono B0.out.size)) hpos)
        have HO := Lib.hid (open_at wr r S 20 C 0 R.out LDR.out hpos0 M.out.log.calm.1 (by rw [M.out.ns]; omega) hC1.1 (by omega) (by omega) (by omega))
        rw [M.out.log.col M.out.tells] at HO
        go_wp2_with fail
        refine HO.out.mono ?_
        rintro e w5 ⟨l2, v2, rfl, _, hv2, h5, x5, k5⟩
        obtain ⟨A2, c2, rfl, hr2, _⟩ := Gr.OwnG.shape hv2 (fun _ => rfl)
        obtain ⟨A3, c3, hu, hr3, _⟩ := Gr.OwnG.shape (ownS_keep SV.out k5) (fun _ => rfl)
        subst hu
        have HR2 := Lib.hid hr2
        have HR3 := Lib.hid hr3
        have X5 : Hid (Blk w5 l2 53 (logA r 20 C 0 ps.length)) := Lib.hid x5
        have W5 : Hid (Below w0.heap.size w0 w5) := Lib.hid (BW.out.trans k5.below)
        clear hv2 h5 x5 k5 hr2 hr3 HO LDR SV R X BW HBS M
        go_wp2_with fail
        refine (same_txts w5 hv A2 A3 hv.length c2 c3 rfl HR2.out HR3.out (by omega)).mono ?_
        rintro e w' ⟨rfl, m, hw⟩
        replace hw := hw.symm
        subst hw
        go_wp2_with fail
        refine (room_at (w5.drewN m) r l2 20 C 0 ps.length (X5.out.drewN m) hpl (by omega)).mono ?_
        rintro e w' ⟨rfl, m2, hw⟩
        replace hw := hw.symm
        subst hw
        go_wp2_with fail
        refine (base_at (w5.drewN (m + m2)) r l2 20 C 0 ps.length (X5.out.drewN (m + m2))).mono ?_
        rintro e w' ⟨rfl, hw⟩
        replace hw := hw.symm
        subst hw
        go_wp2_with fail
        go_ret
        exact ⟨rfl, B0.out.trans ((⟨W5.out.os, W5.out.tape, W5.out.output, W5.out.size, W5.out.block⟩ : Below w0.heap.size w0 (w5.drewN (m + m2))).mono B0.out.size)⟩
    · have i1 : ¬ ((i : Int) < (N : Int)) := by omega
      have LDR := Lib.hid (HLD.out.below (B0.out.trans (BW.out.mono B0.out.size)) hpos)
      have HO := Lib.hid (open_at wr r S 20 C 0 R.out LDR.out hpos0 M.out.log.calm.1 (by rw [M.out.ns]; omega) hC1.1 (by omega) (by omega) (by omega))
      rw [M.out.log.col M.out.tells] at HO
      go_wp2_with fail
      refine HO.out.mono ?_
      rintro e w5 ⟨l2, v2, rfl, _, hv2, h5, x5, k5⟩
      obtain ⟨A2, c2, rfl, hr2, _⟩ := Gr.OwnG.shape hv2 (fun _ => rfl)
      obtain ⟨A3, c3, hu, hr3, _⟩ := Gr.OwnG.shape (ownS_keep SV.out k5) (fun _ => rfl)
      subst hu
      have HR2 := Lib.hid hr2
      have HR3 := Lib.hid hr3
      have X5 : Hid (Blk w5 l2 53 (logA r 20 C 0 ps.length)) := Lib.hid x5
      have W5 : Hid (Below w0.heap.size w0 w5) := Lib.hid (BW.out.trans k5.below)
      clear hv2 h5 x5 k5 hr2 hr3 HO LDR SV R X BW HBS M
      go_wp2_with fail
      refine (same_txts w5 hv A2 A3 hv.length c2 c3 rfl HR2.out HR3.out (by omega)).mono ?_
      rintro e w' ⟨rfl, m, hw⟩
      replace hw := hw.symm
      subst hw
      go_wp2_with fail
      refine (room_at (w5.drewN m) r l2 20 C 0 ps.length (X5.out.drewN m) hpl (by omega)).mono ?_
      rintro e w' ⟨rfl, m2, hw⟩
      replace hw := hw.symm
      subst hw
      go_wp2_with fail
      refine (base_at (w5.drewN (m + m2)) r l2 20 C 0 ps.length (X5.out.drewN (m + m2))).mono ?_
      rintro e w' ⟨rfl, hw⟩
      replace hw := hw.symm
      subst hw
      go_wp2_with fail
      go_ret
      exact ⟨rfl, B0.out.trans ((⟨W5.out.os, W5.out.tape, W5.out.output, W5.out.size, W5.out.block⟩ : Below w0.heap.size w0 (w5.drewN (m + m2))).mono B0.out.size)⟩
end intentRooms
end Go.Proofs.YtikenhcglbfgpaaDoor
