/-
  The walk of 'HoardErasures': a block is read as it was written, whichever three drives are lost: each three of them is tried.
-/
import Derived.Test.YtlhjpceaookanaaGreatDoorTopCutM
import Derived.Test.YtlhjpceaookanaaGreatDoorArrLawLayM
namespace Go.Proofs.YtlhjpceaookanaaGreatDoor
open Go Go.RowKit refRack
set_option maxRecDepth 100000
set_option linter.unusedVariables false
namespace hoardErasures
open Arr Cc Top
/-- a rack of which some of three drives are lost -/
structure L3 (s : RS) (N n ad : Nat) (X : Nat → Nat) (l : List Nat) : Prop where
  nd : s.nd = N
  ns : s.ns = 8
  off : s.off = false
  gone : ∀ d, s.gone d = true → d ∈ l
  sound : Sound s 1 ad n X
theorem L3.lost {s : RS} {N n ad : Nat} {X : Nat → Nat} {l : List Nat} (h : L3 s N n ad X l) (d : Nat) : L3 (s.lost d) N n ad X (d :: l) := ⟨h.nd, h.ns, h.off, fun d' hd => by
  have e : (if d' = d then true else s.gone d') = true := hd
  by_cases e2 : d' = d
  · rw [e2]; exact List.mem_cons_self
  · rw [if_neg e2] at e
    exact List.mem_cons_of_mem _ (h.gone d' e), h.sound.lost d⟩
theorem L3.few {s : RS} {N n ad : Nat} {X : Nat → Nat} {l : List Nat} (h : L3 s N n ad X l) : (goneB s ad n).length ≤ l.length := by
  refine List.Nodup.length_le_of_subset ?_ fun d hd => ?_
  · unfold goneB goneL
    refine List.Pairwise.filter _ ?_
    refine (Sq.srt_perm _).nodup_iff.2 ?_
    unfold drvL
    refine List.pairwise_map.2 (List.Pairwise.imp_of_mem (fun {i j} hi hj h => ?_) List.pairwise_lt_range)
    rw [List.mem_range] at hi hj
    intro e
    have h1 := Nat.sub_mod_eq_zero_of_mod_eq e.symm
    rw [show ad + j - (ad + i) = j - i by omega, Nat.mod_eq_of_lt (by omega)] at h1
    omega
  · unfold goneB goneL at hd
    exact h.gone d (List.mem_filter.1 hd).2
set_option maxHeartbeats 6400000 in
theorem walk (D : ByteArray) (dr adr : Int) (w : World) (w0 : D.size ≤ maxLen) (w1 : (Lit.int .i64 dr).wf = true) (w2 : (Lit.int .i64 adr).wf = true) (hl : Laid w) :
    Calls Tryz.prog 4 #[.string D, .int .i64 dr, .int .i64 adr] w fun e w' => e = .returned (.bool true) ∧ Below w.heap.size w w' := by
  have HLW := Lib.hid hl
  have HAW := Lib.hid (awake_any w)
  obtain ⟨n0, hat, hn0⟩ := umod dr 4 (by omega) (by omega)
  have hat : wrap64 ((IntKind.u64.wrap dr).tmod 4) = (n0 : Int) := hat
  obtain ⟨N, hN⟩ : ∃ N, N = n0 + 5 := ⟨_, rfl⟩
  have HN : Hid ((5 : Int) + (n0 : Int) = (N : Int)) := Lib.hid (by omega)
  have hN5 : 5 ≤ N := by omega
  have hN8 : N ≤ 8 := by omega
  clear hl hN
  go_enter Tryz.func4, Tryz.ntmps4
  go_wp2_with fail
  refine HAW.out.mono ?_
  rintro e w3 ⟨rfl, b3⟩
  have B3 := Lib.hid b3
  have L3' : Hid (Laid w3) := Lib.hid (HLW.out.below b3 HLW.out.pos)
  clear b3 HAW
  have HCU := Lib.hid (cut_any D 700 (by omega) (by omega) w3)
  obtain ⟨m, hm⟩ : ∃ m, m = cutN D.size 700 := ⟨_, rfl⟩
  have HX : Hid (∀ j, cutX D j < 256) := Lib.hid (cutX_lt D)
  rw [← hm] at HCU
  have hm1 : 1 ≤ m := by unfold cutN at hm; omega
  have hm2 : m ≤ 700 := by unfold cutN at hm; omega
  generalize cutX D = X at *
  clear hm
  go_wp2_with fail
  rw [HN.out]
  clear hat
  refine HCU.out.mono ?_
  rintro e w3' ⟨rfl, hw⟩
  have hw := hw.symm
  subst hw
  have hmM : m ≤ 140737488355327 := by omega
  go_wp2_with ((with_reducible refine wpList_conv_str rfl (.tmp 31) rfl rfl (fun j _ => HX.out j) (by unfold maxLen; omega) ?_); intro c4 w4 ho4 hb4; refine of_hid ?_)
  refine Lib.hid ?_
  obtain ⟨A4, q4, e4, h4a, h4b, h4c, _⟩ := ho4.shape (fun j _ => HX.out j)
  have B4 := Lib.hid (B3.out.trans (hb4.mono B3.out.size))
  have HS4 := Lib.hid (sum_any A4 m q4 w4.heap.size X w4 h4a HX.out (Nat.le_refl _) h4b h4c (by omega) (L3'.out.below hb4 L3'.out.pos))
  rw [e4]
  clear ho4 hb4 h4a h4b h4c e4 HCU hmM
  go_wp2_with fail
  refine HS4.out.mono ?_
  rintro e w5 ⟨rfl, b5⟩
  have B5 := Lib.hid (B4.out.trans (b5.mono B4.out.size))
  have HSE : Hid (strB 32 (M.sum m X) = sumS m X) := Lib.hid rfl
  rw [HSE.out]
  clear b5 HS4 HSE B3 B4 L3'
  obtain ⟨hr1, hr2, hr3⟩ := cost_room (n := m) hN5 (by omega) hm1 (by omega)
  have HCR : Hid (cost N m ≤ 32 ∧ 1 ≤ cost N m ∧ cost N m ≤ N * 7) := Lib.hid ⟨hr1, hr2, hr3⟩
  clear hr1 hr2 hr3
  have hsz : (strB m X).size = m := strB_size _ _
  go_wp2_with fail
  go_loopw [9] (fun y wr => ∃ i : Nat, i ≤ N ∧ y = .int .i64 (i : Int) ∧ Hid (Below w.heap.size w wr)) (fun y _ => N - (intOf y).toNat)
  case atStart => exact ⟨0, Nat.zero_le _, rfl, B5⟩
  case round =>
    clear B5
    obtain ⟨i, hi, rfl, HBi⟩ := hrel
    by_cases hlt : i < N
    · obtain ⟨wo, hwo⟩ : ∃ wo, wo = wr := ⟨_, rfl⟩
      subst hwo
      go_wp2_with fail
      go_loopw [10] (fun y wr => ∃ j : Nat, j ≤ N ∧ y = .int .i64 (j : Int) ∧ Hid (Below w.heap.size w wr)) (fun y _ => N - (intOf y).toNat)
      case atStart => exact ⟨i + 1, by omega, by go_num, HBi⟩
      case round =>
        clear HBi
        obtain ⟨j, hj, rfl, HBj⟩ := hrel
        by_cases hltj : j < N
        · obtain ⟨wo2, hwo2⟩ : ∃ wo2, wo2 = wr := ⟨_, rfl⟩
          subst hwo2
          go_wp2_with fail
          go_loopw [11] (fun y wr => ∃ k : Nat, k ≤ N ∧ y = .int .i64 (k : Int) ∧ Hid (Below w.heap.size w wr)) (fun y _ => N - (intOf y).toNat)
          case atStart => exact ⟨j + 1, by omega, by go_num, HBj⟩
          case round =>
            clear HBj
            obtain ⟨k, hk, rfl, HBk⟩ := hrel
            by_cases hltk : k < N
            · have HLW2 : Hid (Laid wr) := Lib.hid (HLW.out.below HBk.out HLW.out.pos)
              have HN1 := Lib.hid (new_any wr N 8 (by omega) (by omega) (by omega) (by omega))
              go_wp2_with fail
              refine HN1.out.mono ?_
              rintro e w6 ⟨⟨r, rfl, h6⟩, k6⟩
              have HA : Hid (Calls Tryz.prog 18 #[.pointer (some ⟨r, 0, none⟩), .int .i64 1] w6 fun e w' => e = .returned (.tuple #[.pointer (some ⟨w6.heap.size, 0, none⟩), .int .i64 0]) ∧ w' = w6.alloc (.cells (arrA r 1) 105) ∧ Arr.At wr.heap.size w' w6.heap.size r 1 (RS.new N 8) ∧ Keep wr.heap.size w6 w') := Lib.hid (new_ok w6 h6 hN5 (by show 1 < 8; decide))
              have K6 := Lib.hid k6
              clear h6 k6 HN1
              go_wp2_with fail
              refine HA.out.mono ?_
              rintro e w7 ⟨rfl, hw7, hA7, k7⟩
              clear hw7
              generalize w6.heap.size = a at *
              have A7 := Lib.hid hA7
              have K7 := Lib.hid (K6.out.trans k7)
              have HC : Hid (Calls Tryz.prog 7 #[.pointer (some ⟨a, 0, none⟩), .int .i64 (m : Int)] w7 fun e w' => e = .returned (.tuple #[.int .i64 ((cost N m : Nat) : Int), .int .i64 0]) ∧ w' = w7) := Lib.hid (cost_ok w7 A7.out m (by omega) (by omega))
              have hcl : cells (RS.new N 8) 1 = N * 7 := rfl
              have HCL := Lib.hid (cells_any w7 A7.out)
              rw [hcl] at HCL
              have hcc := HCR.out
              obtain ⟨C, hC⟩ : ∃ C, C = N * 7 := ⟨_, rfl⟩
              rw [← hC] at HCL hcc
              have HCE : Hid (cells (RS.new N 8) 1 = C) := Lib.hid (hcl.trans hC.symm)
              have hC2 : C ≤ 56 := by omega
              obtain ⟨q, hq⟩ : ∃ q, q = C - cost N m + 1 := ⟨_, rfl⟩
              obtain ⟨ad, had, hadk⟩ := umod adr q (by omega) (by omega)
              have HAD : Hid (ad + cost N m ≤ N * 7) := Lib.hid (by omega)
              have e1 : (C : Int) - ((cost N m : Nat) : Int) + 1 = (q : Int) := by omega
              have t2 : ¬ ((C : Int) < ((cost N m : Nat) : Int)) := by omega
              have hk1 : 1 ≤ q := by omega
              have hk2 : q ≤ 57 := by omega
              clear hcl hC hq hA7 k7 HA K6
              generalize hcg : cost N m = c at *
              have HCG := Lib.hid hcg
              clear hcg
              go_wp2_with fail
              refine HC.out.mono ?_
              rintro e w8 ⟨rfl, hw8⟩
              have hw8 := hw8.symm
              subst hw8
              clear HC
              go_wp2_with fail
              refine HCL.out.mono ?_
              rintro e w8 ⟨rfl, d, rfl⟩
              have A8 : Hid (Arr.At wr.heap.size (w7.drewN d) a r 1 (RS.new N 8)) := Lib.hid (A7.out.drewN d)
              have K8 : Hid (Keep wr.heap.size wr (w7.drewN d)) := Lib.hid (K7.out.drewN d)
              generalize w7.drewN d = w8 at *
              clear HCL A7 K7
              go_upto_region 21 with (fail)
              have HAT : Hid (wrap64 ((IntKind.u64.wrap adr).tmod (q : Int)) = (ad : Int)) := Lib.hid had
              have had32 : ad ≤ 56 := by have := HAD.out; have := HCG.out; omega
              clear had e1 t2 hk1 hk2 hadk
              go_wp2_with ((with_reducible refine wpList_conv_str rfl (.tmp 92) rfl rfl (fun j _ => HX.out j) (by unfold maxLen; omega) ?_); intro c9 w9 ho9 hb9; refine of_hid ?_)
              refine Lib.hid ?_
              obtain ⟨A9, q9, e9, h9a, h9b, h9c, _⟩ := ho9.shape (fun j _ => HX.out j)
              injection e9 with e9a _ e9b
              subst e9a e9b
              have hA9 : Arr.At wr.heap.size w9 a r 1 (RS.new N 8) := A8.out.grown_ hb9
              have K9 : Hid (Keep wr.heap.size wr w9) := Lib.hid (K8.out.new hb9 A8.out.rack.le)
              have HW : Hid (Calls Tryz.prog 20 #[.pointer (some ⟨a, 0, none⟩), .int .i64 (ad : Int), .slice (some ⟨w8.heap.size, 0, none⟩) m c9] w9 fun e w' => e = .returned (.int .i64 0) ∧ RackAt wr.heap.size w' r (wrAll (RS.new N 8) 1 ad (cellX N m X) (cost N m)) ∧ Keep wr.heap.size w9 w') := Lib.hid
                (write_ok w9 hA9 ⟨rfl, rfl⟩ _ m c9 ad w9.heap.size X h9a (fun j _ => HX.out j) (Nat.le_refl _) h9b h9c (by omega) (by omega) (by have h := HAD.out; have g := HCG.out; show ad + cost N m ≤ N * 7; omega) (by rw [goneB_none fun _ => rfl]; exact Nat.zero_le _) (by have g := HCG.out; have h := HAD.out; show 0 + cost N m ≤ 1000000; omega))
              have HA9 := Lib.hid hA9
              clear ho9 hb9 h9a h9b h9c hA9
              go_wp2_with fail
              rw [HAT.out]
              refine HW.out.mono ?_
              rintro e w10 ⟨rfl, h10, k10⟩
              have hl10 := wrAll_like (RS.new N 8) 1 ad (cellX N m X) (cost N m)
              have A10 : Hid (Arr.At wr.heap.size w10 a r 1 (wrAll (RS.new N 8) 1 ad (cellX N m X) (cost N m))) := Lib.hid (HA9.out.rack_ h10 k10 hl10.1.nd hl10.1.ns)
              have K10 := Lib.hid (K9.out.trans k10)
              have S10 : Hid (L3 (wrAll (RS.new N 8) 1 ad (cellX N m X) (cost N m)) N m ad X []) := Lib.hid ⟨hl10.1.nd, hl10.1.ns, hl10.1.off, fun d hd => (by rw [hl10.1.gone] at hd; cases hd), Sound.wrAll⟩
              generalize wrAll (RS.new N 8) 1 ad (cellX N m X) (cost N m) = s10 at *
              have HL1 := Lib.hid (lose_in w10 A10.out.rack i (by rw [S10.out.nd]; exact hlt))
              clear h10 k10 hl10 HW HA9 K9
              go_wp2_with fail
              refine HL1.out.mono ?_
              rintro e w11 ⟨rfl, h11, k11⟩
              have A11 : Hid (Arr.At wr.heap.size w11 a r 1 (s10.lost i)) := Lib.hid (A10.out.rack_ h11 k11 rfl rfl)
              have K11 := Lib.hid (K10.out.trans k11)
              have S11 := Lib.hid (S10.out.lost i)
              have HL2 := Lib.hid (lose_in w11 A11.out.rack j (by rw [S11.out.nd]; exact hltj))
              clear h11 k11 HL1 A10 K10 S10
              go_wp2_with fail
              refine HL2.out.mono ?_
              rintro e w12 ⟨rfl, h12, k12⟩
              have A12 : Hid (Arr.At wr.heap.size w12 a r 1 ((s10.lost i).lost j)) := Lib.hid (A11.out.rack_ h12 k12 rfl rfl)
              have K12 := Lib.hid (K11.out.trans k12)
              have S12 := Lib.hid (S11.out.lost j)
              have HL3 := Lib.hid (lose_in w12 A12.out.rack k (by rw [S12.out.nd]; exact hltk))
              clear h12 k12 HL2 A11 K11 S11
              go_wp2_with fail
              refine HL3.out.mono ?_
              rintro e w13 ⟨rfl, h13, k13⟩
              have A13 : Hid (Arr.At wr.heap.size w13 a r 1 (((s10.lost i).lost j).lost k)) := Lib.hid (A12.out.rack_ h13 k13 rfl rfl)
              have K13 := Lib.hid (K12.out.trans k13)
              have S13 := Lib.hid (S12.out.lost k)
              have HG3 : Hid ((goneB (((s10.lost i).lost j).lost k) ad m).length ≤ 3) := Lib.hid S13.out.few
              generalize ((s10.lost i).lost j).lost k = s13 at *
              have HRD := Lib.hid (read_sound w13 A13.out (HLW2.out.below (K13.out.below.mono (Nat.le_refl _)) HLW2.out.pos) HLW2.out.pos S13.out.off ad m (by omega) (by omega) (by rw [S13.out.nd]; unfold cells; rw [S13.out.nd, S13.out.ns, HCG.out]; exact HAD.out) X (fun j _ => HX.out j) S13.out.sound HG3.out)
              clear h13 k13 HL3 A12 K12 S12
              go_wp2_with fail
              refine HRD.out.mono ?_
              rintro e w14 ⟨⟨gb, cb, ov, rfl, hb14, ho14⟩, h14, k14⟩
              have K14 := Lib.hid (K13.out.trans k14)
              have cv := own_conv hb14 (fun j _ => HX.out j)
              obtain ⟨oA, on, oc, rfl, hon⟩ : ∃ oA on oc, ov = .slice oA on oc ∧ on ≤ 3 := by
                rcases Nr.own_shape ho14 with ⟨rfl, _⟩ | ⟨g, c, rfl, _⟩
                · exact ⟨none, 0, 0, rfl, by omega⟩
                · exact ⟨_, _, _, rfl, by rw [Sq.srt_length]; exact HG3.out⟩
              have t3 : ¬ ((3 : Int) < (on : Int)) := by omega
              clear hb14 ho14 h14 k14 HRD A13 K13
              go_wp2_with fail
              go_roundw
              case rel => exact ⟨k + 1, by omega, by go_num, Lib.hid (HBk.out.trans (K14.out.below.mono HBk.out.size))⟩
              case measure => simp [intOf]; omega
            · have hltk' : ¬ ((k : Int) < (N : Int)) := by omega
              go_wp2_with fail
              go_roundw
              case rel => exact ⟨j + 1, by omega, by go_num, HBk⟩
              case measure => simp [intOf]; omega
        · have hltj' : ¬ ((j : Int) < (N : Int)) := by omega
          go_wp2_with fail
          go_roundw
          case rel => exact ⟨i + 1, by omega, by go_num, HBj⟩
          case measure => simp [intOf]; omega
    · have hlt' : ¬ ((i : Int) < (N : Int)) := by omega
      go_wp2_with fail
      go_ret
      exact ⟨rfl, HBi.out⟩
end hoardErasures
end Go.Proofs.YtlhjpceaookanaaGreatDoor
