/-
  The walk of 'ArrayFour': with four drives lost a block that lies on all of them is refused; one that lies on fewer of them is read.
-/
import Derived.Test.YtmfjhnfhpcpfeaaGreatDoorArrArgsM
namespace Go.Proofs.YtmfjhnfhpcpfeaaGreatDoor
open Go Go.RowKit refRack
set_option maxRecDepth 100000
set_option linter.unusedVariables false
namespace arrayFour
open Arr Cc
/-- a rack of which some drives are lost -/
structure LT (t : RS) (N n ad : Nat) (X : Nat → Nat) : Prop where
  nd : t.nd = N
  ns : t.ns = 9
  calm : t.calm
  cst : t.cost ≤ 32
  sound : Sound t 2 ad n X
theorem LT.lost {t : RS} {N n ad : Nat} {X : Nat → Nat} (h : LT t N n ad X) (d : Nat) : LT (t.lost d) N n ad X := ⟨h.nd, h.ns, h.calm, h.cst, h.sound.lost d⟩
set_option maxHeartbeats 6400000 in
theorem walk (dr adr : Int) (D : ByteArray) (fA hA : Option Addr) (fn fc hn hc : Nat) (fx hx : Nat → Int) (lA : Option Addr) (L lc : Nat) (y : Nat → Int) (w : World) (hbk : BlkIn w (.agg #[.int .i64 dr, .string D, .int .i64 adr, .slice fA fn fc, .slice hA hn hc]) dr adr D fA hA fn fc hn hc fx hx) (hy : Arr.RdZ w w.heap.size lA L y ∧ L ≤ lc ∧ lc ≤ maxLen) (hl : Laid w) :
    Calls Tryz.prog 5 #[.agg #[.int .i64 dr, .string D, .int .i64 adr, .slice fA fn fc, .slice hA hn hc], .slice lA L lc] w fun e w' => e = .returned (.bool true) ∧ Below w.heap.size w w' := by
  have hpos := hl.pos
  have HY := Lib.hid hy.1
  have HYL := Lib.hid hy.2
  clear hy hbk
  obtain ⟨wb, hwb⟩ : ∃ wb, wb = w.alloc (.cells #[.int .i64 dr, .string D, .int .i64 adr, .slice fA fn fc, .slice hA hn hc] 39) := ⟨_, rfl⟩
  have hbb : Below w.heap.size w wb := by rw [hwb]; exact (Below.refl _ _).alloc (Nat.le_refl _) _
  have XB : Hid (Blk wb w.heap.size 39 #[.int .i64 dr, .string D, .int .i64 adr, .slice fA fn fc, .slice hA hn hc]) := Lib.hid (by rw [hwb]; exact Blk.new _ _ _)
  have HBB := Lib.hid hbb
  have HLB : Hid (Laid wb) := Lib.hid (hl.below hbb hpos)
  have HKN := Lib.hid (known_arr wb HLB.out)
  obtain ⟨z, hz⟩ : ∃ z, z = w.heap.size := ⟨_, rfl⟩
  have HZ := Lib.hid hz
  have HWB := Lib.hid hwb
  clear hwb hz hbb hl
  go_enter Tryz.func5, Tryz.ntmps5
  go_wp2_with fail
  rw [← HWB.out, ← HZ.out]
  refine HKN.out.mono ?_
  rintro e w3 ⟨rfl, b3⟩
  have B3 : Hid (Below w.heap.size w w3) := Lib.hid (HBB.out.trans (b3.mono HBB.out.size))
  have X3 : Hid (Blk w3 z 39 #[.int .i64 dr, .string D, .int .i64 adr, .slice fA fn fc, .slice hA hn hc]) := Lib.hid (by rw [HZ.out]; exact XB.out.below b3 XB.out.lt)
  have q0 : w3.cell? ⟨z, 0, none⟩ = some (.int .i64 dr) := X3.out.cell 0
  have q1 : w3.cell? ⟨z, 1, none⟩ = some (.string D) := X3.out.cell 1
  have q2 : w3.cell? ⟨z, 2, none⟩ = some (.int .i64 adr) := X3.out.cell 2
  have q3 : w3.cell? ⟨z, 3, none⟩ = some (.slice fA fn fc) := X3.out.cell 3
  have q4 : w3.cell? ⟨z, 4, none⟩ = some (.slice hA hn hc) := X3.out.cell 4
  have HL3 : Hid (Laid w3) := Lib.hid (HLB.out.below b3 HLB.out.pos)
  clear b3 HKN
  go_wp2_with fail
  refine (lay_law w3 HL3.out.pos dr adr D fA hA fn fc hn hc).mono ?_
  rintro e w4 ⟨r, a, N, n, ad, X, hN, hN2, h1, h2, hX, had, rfl, hA4, k4⟩
  have HLBS := Lib.hid (layS_ok (ad := ad) hN hN2 h1 h2 X)
  generalize layS N n ad X = s at *
  have A4 := Lib.hid hA4
  have HX := Lib.hid hX
  have B4 : Hid (Below w.heap.size w w4) := Lib.hid (B3.out.trans (k4.below.mono B3.out.size))
  have HL4 : Hid (Laid w4) := Lib.hid (HL3.out.below k4.below HL3.out.pos)
  have HP3 : Hid (0 < w3.heap.size) := Lib.hid HL3.out.pos
  have HB3 : Hid (w.heap.size ≤ w3.heap.size) := Lib.hid B3.out.size
  generalize w3.heap.size = B at *
  clear hA4 k4 hX q0 q1 q2 q3 q4
  have KB : Hid (∀ W, Keep B w4 W → Below w.heap.size w W) := Lib.hid fun W hW => B4.out.trans (hW.below.mono HB3.out)
  have KL : Hid (∀ W, Keep B w4 W → Laid W) := Lib.hid fun W hW => HL4.out.below hW.below HP3.out
  have KY : Hid (∀ W, Keep B w4 W → Arr.RdZ W w.heap.size lA L y) := Lib.hid fun W hW => HY.out.below (KB.out W hW) (Nat.le_refl _)
  have hsn : (strB n X).size = n := strB_size _ _
  have HLT : Hid (LT s N n ad X) := Lib.hid ⟨HLBS.out.nd, HLBS.out.ns, HLBS.out.calm, HLBS.out.cost, HLBS.out.sound⟩
  have eN : IntKind.u64.wrap (N : Int) = (N : Int) := by rw [IntKind.wrap_u64]; omega
  have eN0 : ((N : Int) = 0) = False := by simp; omega
  clear HLBS HBB XB HLB X3 HL3
  have hyl : L ≤ lc ∧ lc ≤ maxLen := HYL.out
  have hL : L ≤ 9223372036854775807 := by have := hyl.2; unfold maxLen at this; omega
  clear hyl
  go_wp2_with fail
  go_loopw [10, 11] (fun c y' wr => ∃ (i cnt : Nat) (t : RS), i ≤ L ∧ cnt ≤ 4 ∧ c = .int .i64 (cnt : Int) ∧ y' = .int .i64 (i : Int) ∧ Hid (LT t N n ad X) ∧ Hid (Arr.At B wr a r 2 t) ∧ Hid (Keep B w4 wr)) (fun _ y' _ => L - (intOf y').toNat)
  case atStart => exact ⟨0, 0, s, Nat.zero_le _, by omega, rfl, rfl, HLT, A4, Lib.hid (Keep.refl _ _)⟩
  case round =>
    clear HLT A4
    obtain ⟨i, cnt, t, hi, hcnt, rfl, rfl, HT, HAt, HK⟩ := hrel
    by_cases hlt : i < L
    · by_cases hc4 : cnt < 4
      · obtain ⟨yb, yo, ye, hyb, p1, hy1, hy2⟩ := KY.out wr HK.out i hlt
        subst ye
        obtain ⟨d, hd, hdN⟩ := umod (y i) N (by omega) (by omega)
        generalize y i = yi at *
        have HDR := Lib.hid (fun k => drives_any (wr.drewN k) r t (HAt.out.rack.drewN k))
        rw [HT.out.nd] at HDR
        go_wp2_with fail
        go_quiet ((go_at_call 20; exact Calls.quiet_of_same (HDR.out _)))
        have HGN := Lib.hid (fun W (h : RackAt B W r t) => gone_any W r t (d : Int) h)
        have HD := Lib.hid hdN
        have e6 : t.isD (d : Int) = true := by rw [isD_nat, HT.out.nd, decide_eq_true hdN]
        rw [e6, Int.toNat_natCast, Bool.true_and] at HGN
        clear e6
        go_wp2_with fail
        refine (HGN.out _ (HAt.out.rack.drewN _)).mono ?_
        rintro e w6 ⟨rfl, hw6⟩
        have A6 : Hid (Arr.At B w6 a r 2 t) := Lib.hid (by rw [hw6]; exact HAt.out.drewN _)
        have K6 : Hid (Keep B w4 w6) := Lib.hid (by rw [hw6]; exact HK.out.drewN _)
        clear hw6 HGN HDR
        cases hgd : t.gone d with
        | true =>
          clear hgd
          go_wp2_with fail
          go_roundw
          case rel => exact ⟨i + 1, cnt, t, by omega, by omega, rfl, by go_num, HT, A6, K6⟩
          case measure => simp [intOf]; omega
        | false =>
          clear hgd
          have HLO := Lib.hid (lose_in w6 A6.out.rack d (by rw [HT.out.nd]; exact HD.out))
          go_wp2_with fail
          refine HLO.out.mono ?_
          rintro e w7 ⟨rfl, h7, k7⟩
          have A7 : Hid (Arr.At B w7 a r 2 (t.lost d)) := Lib.hid (A6.out.rack_ h7 k7 rfl rfl)
          have K7 : Hid (Keep B w4 w7) := Lib.hid (K6.out.trans k7)
          clear h7 k7 HLO
          go_wp2_with fail
          go_roundw
          case rel => exact ⟨i + 1, cnt + 1, t.lost d, by omega, by omega, by go_num, by go_num, Lib.hid (HT.out.lost d), A7, K7⟩
          case measure => simp [intOf]; omega
      · have hc4' : ¬ ((cnt : Int) < 4) := by omega
        have HDV := Lib.hid (drives_ok wr HAt.out ad n h1 h2 (by rw [HT.out.nd]; unfold cells; rw [HT.out.nd, HT.out.ns]; exact had))
        have HAD := Lib.hid had
        clear had
        go_wp2_with fail
        refine HDV.out.mono ?_
        rintro e w5 ⟨v5, rfl, h5, b5⟩
        have A5 : Hid (Arr.At B w5 a r 2 t) := Lib.hid (HAt.out.grown_ b5)
        have K5 : Hid (Keep B w4 w5) := Lib.hid (HK.out.new b5 HAt.out.rack.le)
        obtain ⟨vA, vc, rfl, hvc⟩ := ints_cell (Sq.own_ints h5)
        have HV5 := Lib.hid hvc
        have HDL : Hid (∀ d ∈ Sq.srt (drvL t.nd ad (min (cost t.nd n) t.nd)), d < N) := Lib.hid (by have := drv_lt (N := t.nd) (ad := ad) (m := min (cost t.nd n) t.nd) (by rw [HT.out.nd]; omega); rw [HT.out.nd] at this ⊢; exact this)
        have HDN : Hid ((Sq.srt (drvL t.nd ad (min (cost t.nd n) t.nd))).length ≤ 16) := Lib.hid (by rw [Sq.srt_length, drvL_length, HT.out.nd]; omega)
        have HGB : Hid (goneB t ad n = (Sq.srt (drvL t.nd ad (min (cost t.nd n) t.nd))).filter fun d => t.gone d) := Lib.hid rfl
        generalize Sq.srt (drvL t.nd ad (min (cost t.nd n) t.nd)) = dl at *
        generalize hdn : dl.length = dn at *
        have HDE := Lib.hid hdn
        have hdn16 : dn ≤ 16 := HDN.out
        clear h5 b5 hvc HDV hdn
        go_wp2_with fail
        go_loopw [15, 16] (fun c y' wr => ∃ (j : Nat), j ≤ dn ∧ c = .int .i64 ((((dl.take j).filter fun d => t.gone d).length : Nat) : Int) ∧ y' = .int .i64 (j : Int) ∧ Hid (wr = w5)) (fun _ y' _ => dn - (intOf y').toNat)
        case atStart => exact ⟨0, Nat.zero_le _, by simp, rfl, Lib.hid rfl⟩
        case round =>
          obtain ⟨j, hj, rfl, rfl, HWR⟩ := hrel
          obtain rfl := HWR.out
          by_cases hlj : j < dn
          · have hjl : j < dl.length := by have := HDE.out; omega
            have hx0 : dl[j]? = some dl[j] := List.getElem?_eq_getElem hjl
            obtain ⟨vb, vo, ve, hvb, p1⟩ := HV5.out j _ hx0
            have hdlt : dl[j] < N := HDL.out _ (List.getElem_mem hjl)
            have HTK : Hid (dl.take (j + 1) = dl.take j ++ [dl[j]]) := Lib.hid (by rw [List.take_add_one, hx0]; rfl)
            generalize dl[j] = x at *
            subst ve
            have HGN := Lib.hid (gone_any wr r t (x : Int) A5.out.rack)
            have e6 : t.isD (x : Int) = true := by rw [isD_nat, HT.out.nd, decide_eq_true hdlt]
            rw [e6, Int.toNat_natCast, Bool.true_and] at HGN
            have hcn : ((dl.take j).filter fun d => t.gone d).length ≤ 16 := by
              have := List.length_filter_le (fun d => t.gone d) (dl.take j)
              rw [List.length_take] at this
              omega
            clear e6 hx0 hjl
            generalize hcg : ((dl.take j).filter fun d => t.gone d).length = cj at *
            have HCJ := Lib.hid hcg
            clear hcg
            go_wp2_with fail
            refine HGN.out.mono ?_
            rintro e w6 ⟨rfl, hw6⟩
            have hw6 := hw6.symm
            subst hw6
            cases hgx : t.gone x with
            | true =>
              have HGX := Lib.hid hgx
              clear hgx
              go_wp2_with fail
              go_roundw
              case rel => exact ⟨j + 1, by omega, by rw [HTK.out, List.filter_append, List.length_append, HCJ.out, List.filter_cons, HGX.out]; go_num, by go_num, Lib.hid (by first | rfl | trivial)⟩
              case measure => simp [intOf]; omega
            | false =>
              have HGX := Lib.hid hgx
              clear hgx
              go_wp2_with fail
              go_roundw
              case rel => exact ⟨j + 1, by omega, by rw [HTK.out, List.filter_append, List.length_append, HCJ.out, List.filter_cons, HGX.out]; simp, by go_num, Lib.hid (by first | rfl | trivial)⟩
              case measure => simp [intOf]; omega
          · obtain rfl : j = dn := by omega
            have htk : dl.take j = dl := List.take_of_length_le (by have := HDE.out; omega)
            rw [htk, ← HGB.out]
            have HL6 : Hid (Laid wr) := Lib.hid (KL.out _ K5.out)
            have HSU := Lib.hid (sum_law n X wr HX.out (by omega) HL6.out)
            clear htk
            go_wp2_with fail
            refine HSU.out.mono ?_
            rintro e w7 ⟨rfl, b7⟩
            have A7 : Hid (Arr.At B w7 a r 2 t) := Lib.hid (A5.out.grown_ b7)
            have K7 : Hid (Keep B w4 w7) := Lib.hid (K5.out.new b7 A5.out.rack.le)
            have HCC : Hid (ad + cost t.nd n ≤ cells t 2) := Lib.hid (by unfold cells; rw [HT.out.nd, HT.out.ns]; exact HAD.out)
            clear b7 HSU
            by_cases hg3 : 3 < (goneB t ad n).length
            · have HRD := Lib.hid (readA_any w7 A7.out (KL.out _ K7.out) HP3.out HT.out.calm.1 ad n h1 h2 HCC.out (sumS n X) (strB_size _ _))
              have HWN := Lib.hid (fun W (h : Arr.At B W a r 2 t) (A : Option Addr) (c : Nat) => write_no W h A n c ad h1 h2 HCC.out hg3)
              have hgl : (goneB t ad n).length ≤ 16 := by
                rw [HGB.out]
                have := List.length_filter_le (fun d => t.gone d) dl
                have := HDE.out
                omega
              have HG3 := Lib.hid hg3
              have hg3i : (3 : Int) < (((goneB t ad n).length : Nat) : Int) := by omega
              generalize hgg : (goneB t ad n).length = gg at *
              have HGG := Lib.hid hgg
              clear hgg
              go_wp2_with fail
              refine HRD.out.mono ?_
              rintro e w8 ⟨hp8, h8, k8⟩
              have A8 : Hid (Arr.At B w8 a r 2 t) := Lib.hid (A7.out.rack_ h8 k8 rfl rfl)
              have K8 : Hid (Keep B w4 w8) := Lib.hid (K7.out.trans k8)
              rcases hp8 with ⟨rfl, _⟩ | ⟨m, q, gb, c, ov, q1, _⟩
              · clear h8 k8 HRD
                obtain ⟨c9, w9, hr9, ho9, hb9⟩ := conv_str n X w8 (fun j _ => HX.out j) (by unfold maxLen; omega)
                have HWN2 := Lib.hid (HWN.out w9 (A8.out.grown_ hb9) (some ⟨w8.heap.size, 0, none⟩) c9)
                have K9 : Hid (Keep B w4 w9) := Lib.hid (K8.out.new hb9 A8.out.rack.le)
                clear ho9 hb9 HWN
                go_wp2_with fail
                refine HWN2.out.mono ?_
                rintro e w10 ⟨rfl, b10⟩
                have B10 : Hid (Below w.heap.size w w10) := Lib.hid ((KB.out _ K9.out).trans (b10.mono (KB.out _ K9.out).size))
                clear b10
                go_wp2_with fail
                go_ret
                exact ⟨rfl, B10.out⟩
              · have := HGG.out; have := HG3.out; omega
            · have HRD := Lib.hid (read_sound w7 A7.out (KL.out _ K7.out) HP3.out HT.out.calm.1 ad n h1 h2 HCC.out X (fun j _ => HX.out j) HT.out.sound (by omega))
              have hg3i : ¬ (3 : Int) < (((goneB t ad n).length : Nat) : Int) := by omega
              have hg3n : (goneB t ad n).length ≤ 3 := by omega
              have HSR : Hid ((Sq.srt (goneB t ad n)).length = (goneB t ad n).length) := Lib.hid (Sq.srt_length _)
              go_wp2_with fail
              refine HRD.out.mono ?_
              rintro e w8 ⟨⟨gb, cb, ov, rfl, hb8, ho8⟩, h8, k8⟩
              have K8 : Hid (Keep B w4 w8) := Lib.hid (K7.out.trans k8)
              obtain ⟨oA, oc, rfl⟩ : ∃ oA oc, ov = .slice oA (goneB t ad n).length oc := by
                rcases Nr.own_shape ho8 with ⟨rfl, e⟩ | ⟨g, c, rfl, _⟩
                · have := HSR.out
                  rw [e] at this
                  exact ⟨none, 0, by rw [← this]; rfl⟩
                · exact ⟨_, _, by rw [HSR.out]⟩
              have cv := own_conv hb8 (fun j _ => HX.out j)
              generalize (goneB t ad n).length = gg at *
              clear hb8 ho8 h8 k8 HRD
              go_wp2_with fail
              go_ret
              exact ⟨rfl, KB.out _ K8.out⟩
    · have hlt' : ¬ ((i : Int) < (L : Int)) := by omega
      have HDV := Lib.hid (drives_ok wr HAt.out ad n h1 h2 (by rw [HT.out.nd]; unfold cells; rw [HT.out.nd, HT.out.ns]; exact had))
      have HAD := Lib.hid had
      clear had
      go_wp2_with fail
      refine HDV.out.mono ?_
      rintro e w5 ⟨v5, rfl, h5, b5⟩
      have A5 : Hid (Arr.At B w5 a r 2 t) := Lib.hid (HAt.out.grown_ b5)
      have K5 : Hid (Keep B w4 w5) := Lib.hid (HK.out.new b5 HAt.out.rack.le)
      obtain ⟨vA, vc, rfl, hvc⟩ := ints_cell (Sq.own_ints h5)
      have HV5 := Lib.hid hvc
      have HDL : Hid (∀ d ∈ Sq.srt (drvL t.nd ad (min (cost t.nd n) t.nd)), d < N) := Lib.hid (by have := drv_lt (N := t.nd) (ad := ad) (m := min (cost t.nd n) t.nd) (by rw [HT.out.nd]; omega); rw [HT.out.nd] at this ⊢; exact this)
      have HDN : Hid ((Sq.srt (drvL t.nd ad (min (cost t.nd n) t.nd))).length ≤ 16) := Lib.hid (by rw [Sq.srt_length, drvL_length, HT.out.nd]; omega)
      have HGB : Hid (goneB t ad n = (Sq.srt (drvL t.nd ad (min (cost t.nd n) t.nd))).filter fun d => t.gone d) := Lib.hid rfl
      generalize Sq.srt (drvL t.nd ad (min (cost t.nd n) t.nd)) = dl at *
      generalize hdn : dl.length = dn at *
      have HDE := Lib.hid hdn
      have hdn16 : dn ≤ 16 := HDN.out
      clear h5 b5 hvc HDV hdn
      go_wp2_with fail
      go_loopw [15, 16] (fun c y' wr => ∃ (j : Nat), j ≤ dn ∧ c = .int .i64 ((((dl.take j).filter fun d => t.gone d).length : Nat) : Int) ∧ y' = .int .i64 (j : Int) ∧ Hid (wr = w5)) (fun _ y' _ => dn - (intOf y').toNat)
      case atStart => exact ⟨0, Nat.zero_le _, by simp, rfl, Lib.hid rfl⟩
      case round =>
        obtain ⟨j, hj, rfl, rfl, HWR⟩ := hrel
        obtain rfl := HWR.out
        by_cases hlj : j < dn
        · have hjl : j < dl.length := by have := HDE.out; omega
          have hx0 : dl[j]? = some dl[j] := List.getElem?_eq_getElem hjl
          obtain ⟨vb, vo, ve, hvb, p1⟩ := HV5.out j _ hx0
          have hdlt : dl[j] < N := HDL.out _ (List.getElem_mem hjl)
          have HTK : Hid (dl.take (j + 1) = dl.take j ++ [dl[j]]) := Lib.hid (by rw [List.take_add_one, hx0]; rfl)
          generalize dl[j] = x at *
          subst ve
          have HGN := Lib.hid (gone_any wr r t (x : Int) A5.out.rack)
          have e6 : t.isD (x : Int) = true := by rw [isD_nat, HT.out.nd, decide_eq_true hdlt]
          rw [e6, Int.toNat_natCast, Bool.true_and] at HGN
          have hcn : ((dl.take j).filter fun d => t.gone d).length ≤ 16 := by
            have := List.length_filter_le (fun d => t.gone d) (dl.take j)
            rw [List.length_take] at this
            omega
          clear e6 hx0 hjl
          generalize hcg : ((dl.take j).filter fun d => t.gone d).length = cj at *
          have HCJ := Lib.hid hcg
          clear hcg
          go_wp2_with fail
          refine HGN.out.mono ?_
          rintro e w6 ⟨rfl, hw6⟩
          have hw6 := hw6.symm
          subst hw6
          cases hgx : t.gone x with
          | true =>
            have HGX := Lib.hid hgx
            clear hgx
            go_wp2_with fail
            go_roundw
            case rel => exact ⟨j + 1, by omega, by rw [HTK.out, List.filter_append, List.length_append, HCJ.out, List.filter_cons, HGX.out]; go_num, by go_num, Lib.hid (by first | rfl | trivial)⟩
            case measure => simp [intOf]; omega
          | false =>
            have HGX := Lib.hid hgx
            clear hgx
            go_wp2_with fail
            go_roundw
            case rel => exact ⟨j + 1, by omega, by rw [HTK.out, List.filter_append, List.length_append, HCJ.out, List.filter_cons, HGX.out]; simp, by go_num, Lib.hid (by first | rfl | trivial)⟩
            case measure => simp [intOf]; omega
        · obtain rfl : j = dn := by omega
          have htk : dl.take j = dl := List.take_of_length_le (by have := HDE.out; omega)
          rw [htk, ← HGB.out]
          have HL6 : Hid (Laid wr) := Lib.hid (KL.out _ K5.out)
          have HSU := Lib.hid (sum_law n X wr HX.out (by omega) HL6.out)
          clear htk
          go_wp2_with fail
          refine HSU.out.mono ?_
          rintro e w7 ⟨rfl, b7⟩
          have A7 : Hid (Arr.At B w7 a r 2 t) := Lib.hid (A5.out.grown_ b7)
          have K7 : Hid (Keep B w4 w7) := Lib.hid (K5.out.new b7 A5.out.rack.le)
          have HCC : Hid (ad + cost t.nd n ≤ cells t 2) := Lib.hid (by unfold cells; rw [HT.out.nd, HT.out.ns]; exact HAD.out)
          clear b7 HSU
          by_cases hg3 : 3 < (goneB t ad n).length
          · have HRD := Lib.hid (readA_any w7 A7.out (KL.out _ K7.out) HP3.out HT.out.calm.1 ad n h1 h2 HCC.out (sumS n X) (strB_size _ _))
            have HWN := Lib.hid (fun W (h : Arr.At B W a r 2 t) (A : Option Addr) (c : Nat) => write_no W h A n c ad h1 h2 HCC.out hg3)
            have hgl : (goneB t ad n).length ≤ 16 := by
              rw [HGB.out]
              have := List.length_filter_le (fun d => t.gone d) dl
              have := HDE.out
              omega
            have HG3 := Lib.hid hg3
            have hg3i : (3 : Int) < (((goneB t ad n).length : Nat) : Int) := by omega
            generalize hgg : (goneB t ad n).length = gg at *
            have HGG := Lib.hid hgg
            clear hgg
            go_wp2_with fail
            refine HRD.out.mono ?_
            rintro e w8 ⟨hp8, h8, k8⟩
            have A8 : Hid (Arr.At B w8 a r 2 t) := Lib.hid (A7.out.rack_ h8 k8 rfl rfl)
            have K8 : Hid (Keep B w4 w8) := Lib.hid (K7.out.trans k8)
            rcases hp8 with ⟨rfl, _⟩ | ⟨m, q, gb, c, ov, q1, _⟩
            · clear h8 k8 HRD
              obtain ⟨c9, w9, hr9, ho9, hb9⟩ := conv_str n X w8 (fun j _ => HX.out j) (by unfold maxLen; omega)
              have HWN2 := Lib.hid (HWN.out w9 (A8.out.grown_ hb9) (some ⟨w8.heap.size, 0, none⟩) c9)
              have K9 : Hid (Keep B w4 w9) := Lib.hid (K8.out.new hb9 A8.out.rack.le)
              clear ho9 hb9 HWN
              go_wp2_with fail
              refine HWN2.out.mono ?_
              rintro e w10 ⟨rfl, b10⟩
              have B10 : Hid (Below w.heap.size w w10) := Lib.hid ((KB.out _ K9.out).trans (b10.mono (KB.out _ K9.out).size))
              clear b10
              go_wp2_with fail
              go_ret
              exact ⟨rfl, B10.out⟩
            · have := HGG.out; have := HG3.out; omega
          · have HRD := Lib.hid (read_sound w7 A7.out (KL.out _ K7.out) HP3.out HT.out.calm.1 ad n h1 h2 HCC.out X (fun j _ => HX.out j) HT.out.sound (by omega))
            have hg3i : ¬ (3 : Int) < (((goneB t ad n).length : Nat) : Int) := by omega
            have hg3n : (goneB t ad n).length ≤ 3 := by omega
            have HSR : Hid ((Sq.srt (goneB t ad n)).length = (goneB t ad n).length) := Lib.hid (Sq.srt_length _)
            go_wp2_with fail
            refine HRD.out.mono ?_
            rintro e w8 ⟨⟨gb, cb, ov, rfl, hb8, ho8⟩, h8, k8⟩
            have K8 : Hid (Keep B w4 w8) := Lib.hid (K7.out.trans k8)
            obtain ⟨oA, oc, rfl⟩ : ∃ oA oc, ov = .slice oA (goneB t ad n).length oc := by
              rcases Nr.own_shape ho8 with ⟨rfl, e⟩ | ⟨g, c, rfl, _⟩
              · have := HSR.out
                rw [e] at this
                exact ⟨none, 0, by rw [← this]; rfl⟩
              · exact ⟨_, _, by rw [HSR.out]⟩
            have cv := own_conv hb8 (fun j _ => HX.out j)
            generalize (goneB t ad n).length = gg at *
            clear hb8 ho8 h8 k8 HRD
            go_wp2_with fail
            go_ret
            exact ⟨rfl, KB.out _ K8.out⟩
end arrayFour
end Go.Proofs.YtmfjhnfhpcpfeaaGreatDoor
