/-
  '(*intent.Log).write' by a contract. Conditions: the rack is one and calm, the sector is one of its, the sums' table is laid.
-/
import Derived.Test.YtikenhcglbfgpaaDoorItnLook
namespace Go.Proofs.YtikenhcglbfgpaaDoor
open Go Go.RowKit refRack
set_option maxRecDepth 100000
set_option linter.unusedVariables false
namespace Itn
open Lab (wall cntW wall_succ cntW_succ wall_like why_of)
section
variable {B : Nat}
theorem wr_s (w : World) (r : Nat) (s : RS) (q : Nat) (X : Nat → Nat) (gb d : Nat) (hc : s.calm) (hd : d < s.nd) (hq : q < s.ns) (hb : Blk w gb 5 (rowArr 128 X)) (hX : ∀ j, X j < 256) (hcost : s.cost + s.nd ≤ 1000000) (h : RackAt B w r (wall s q X d)) :
    Calls Tryd.prog 32 #[.pointer (some ⟨r, 0, none⟩), .int .i64 (d : Int), .int .i64 (q : Int), .slice (some ⟨gb, 0, none⟩) 128 128] w fun e w' => e = .returned (.int .i64 (secY s d)) ∧ RackAt B w' r (wall s q X (d + 1)) ∧ Keep B w w' := by
  obtain ⟨hl, hcs⟩ := wall_like s q X d
  have hwy : (wall s q X d).why (d : Int) (q : Int) = if s.gone d = true then 3 else 0 := by
    rw [why_of (by rw [hl.nd]; omega) (by rw [hl.ns]; exact hq), hl.gone]
  have hcl := hl.calm hc
  have hE : wrE (wall s q X d) (d : Int) (q : Int) 128 = secY s d := by
    unfold wrE secY
    rw [if_pos rfl, hwy, hcl.pow]
    by_cases hg : s.gone d = true
    · rw [if_pos hg, if_neg (by omega)]
    · rw [if_neg hg, if_pos rfl, if_pos rfl]
  have hS : wrS (wall s q X d) (d : Int) (q : Int) 128 X = wall s q X (d + 1) := by
    unfold wrS
    rw [hwy, hcl.pow, hcl.spent, wall_succ]
    by_cases hg : s.gone d = true
    · rw [if_pos hg, if_pos hg, if_neg (by omega)]
    · rw [if_neg hg, if_neg hg, if_pos ⟨rfl, rfl⟩, if_pos rfl, Int.toNat_natCast, Int.toNat_natCast]
  have := wr_tot w r (wall s q X d) (d : Int) (q : Int) gb 128 128 X hb (fun j _ => hX j) (by omega) h
  rw [hE, hS] at this
  exact this
def wrY (s : RS) (d : Nat) : Int := if cntW s d = 0 then 4 else 0
theorem wrY_succ (s : RS) (d : Nat) : wrY s (d + 1) = if s.gone d = true then wrY s d else 0 := by
  unfold wrY
  rw [cntW_succ]
  by_cases hg : s.gone d = true
  · rw [if_pos hg, if_pos hg]
  · rw [if_neg hg, if_neg hg, if_neg (by omega)]
set_option maxHeartbeats 3200000 in
theorem write_at (w : World) (r l : Nat) (s : RS) (first count base used k : Nat) (pl : Bool) (ps : ByteArray) (h : RackAt B w r s) (hx : Blk w l 53 (logA r first count base used)) (hl : Laid w) (hB : 0 < B) (hc : s.calm) (hq : first + k < s.ns) (hps : ps.size ≤ 56) (hbs : base ≤ 1000000) (hfk : first + k ≤ 1000000) (hcost : s.cost + s.nd ≤ 1000000) :
    Calls Tryd.prog 24 #[.pointer (some ⟨l, 0, none⟩), .int .i64 (k : Int), .agg #[.bool pl, .string ps]] w fun e w' => e = .returned (.int .i64 (wrY s s.nd)) ∧ RackAt B w' r (wall s (first + k) (lst (pcL (base : Int) (k : Int) ⟨pl, ps⟩)) s.nd) ∧ Keep B w w' := by
  have hle := h.le
  have HLD := Lib.hid hl
  have HCM := Lib.hid hc
  have HQ := Lib.hid hq
  have HFK := Lib.hid hfk
  have HCO := Lib.hid hcost
  have hoki : OkI (base : Int) (k : Int) ⟨pl, ps⟩ := ⟨⟨by omega, by omega⟩, ⟨by omega, by omega⟩, hps⟩
  have HOKI := Lib.hid hoki
  obtain ⟨XX, hXX⟩ : ∃ XX, XX = lst (pcL (base : Int) (k : Int) ⟨pl, ps⟩) := ⟨_, rfl⟩
  have HXL : Hid (∀ j, XX j < 256) := Lib.hid fun j => by rw [hXX]; exact lst_lt (pcL_lt hoki) j
  have HLN : Hid ((pcL (base : Int) (k : Int) ⟨pl, ps⟩).length = 128) := Lib.hid (pcL_length hoki)
  rw [← hXX]
  have HXX := Lib.hid hXX
  obtain ⟨W, hW⟩ : ∃ W, W = w.alloc (.cells #[.bool pl, .string ps] 59) := ⟨_, rfl⟩
  obtain ⟨g5, hg5⟩ : ∃ g5, g5 = w.heap.size := ⟨_, rfl⟩
  have R0 : Hid (RackAt B W r s) := Lib.hid (by rw [hW]; exact h.alloc _)
  have K0 : Hid (Keep B w W) := Lib.hid (by rw [hW]; exact (Keep.refl B w).alloc hle _)
  have X0 : Hid (Blk W l 53 (logA r first count base used)) := Lib.hid (by rw [hW]; exact hx.alloc _)
  have G0 : Hid (Blk W g5 59 #[.bool pl, .string ps]) := Lib.hid (by rw [hW, hg5]; exact Blk.new _ _ _)
  have HX := Lib.hid (⟨hW, hg5⟩ : _ ∧ _)
  obtain ⟨nd, hnd⟩ : ∃ nd, nd = s.nd := ⟨_, rfl⟩
  have HND := Lib.hid hnd
  have hnd16 : nd ≤ 16 := by rw [hnd]; exact h.1.nd2
  rw [← hnd]
  have HRD := Lib.hid R0.out.drew
  have KD := Lib.hid K0.out.drew
  have XD : Hid (Blk W.drew l 53 (logA r first count base used)) := X0
  have GD : Hid (Blk W.drew g5 59 #[.bool pl, .string ps]) := G0
  have HS0 : Hid (W.drew.cell? ⟨l, 3, none⟩ = some (.int .i64 (base : Int)) ∧ Blk W.drew g5 59 #[.bool pl, .string ps]) := Lib.hid ⟨XD.out.cell 3, GD.out⟩
  clear h hx hl hc hq hfk hbs hcost hoki hXX hW hg5 hnd hps
  go_enter Tryd.func24, Tryd.ntmps24
  go_upto_region 1 with (fail)
  rw [← HX.out.1, ← HX.out.2]
  clear HX
  refine region_anyZ (fun W => W.cell? ⟨l, 3, none⟩ = some (.int .i64 (base : Int)) ∧ Blk W g5 59 #[.bool pl, .string ps]) 12 (by kernel_rfl) ?_
  refine takeG 0 (.move (.tmp 0)) (some 12) none (.pointer (some ⟨l, 0, none⟩)) (by kernel_rfl) (by kernel_rfl) (by kernel_rfl) (fun _ _ _ h => h) (fun o' wq e hS => exec_move wq e (by kernel_rfl)) HS0.out ?_
  refine takeG 1 (.nilCheck (.tmp 12)) (some 13) none (.pointer (some ⟨l, 0, none⟩)) (by kernel_rfl) (by kernel_rfl) (by kernel_rfl) (fun _ _ _ h => h) (fun o' wq e hS => exec_nil wq e (by kernel_rfl)) HS0.out ?_
  refine takeG 2 (.fieldAddr 53 (.tmp 13) 3) (some 14) none (.pointer (some ⟨l, 3, none⟩)) (by kernel_rfl) (by kernel_rfl) (by kernel_rfl) (fun _ _ _ h => h) (fun o' wq e hS => exec_field (u := .pointer (some ⟨l, 0, none⟩)) wq e (by kernel_rfl) (by kernel_rfl)) HS0.out ?_
  refine takeG 3 (.load 3 (.tmp 14)) (some 15) none (.int .i64 (base : Int)) (by kernel_rfl) (by kernel_rfl) (by kernel_rfl) (fun _ _ _ h => h) (fun o' wq e hS => exec_load (x := (.tmp 14)) e (by kernel_rfl) (load_one Tryd.underlying3 (by kernel_rfl) hS.1)) HS0.out ?_
  refine takeG 4 (.move (.tmp 1)) (some 16) none (.int .i64 (k : Int)) (by kernel_rfl) (by kernel_rfl) (by kernel_rfl) (fun _ _ _ h => h) (fun o' wq e hS => exec_move wq e (by kernel_rfl)) HS0.out ?_
  refine takeG 5 (.load 59 (.tmp 5)) (some 17) none (.agg #[.bool pl, .string ps]) (by kernel_rfl) (by kernel_rfl) (by kernel_rfl) (fun _ _ _ h => h) (fun o' wq e hS => exec_load (x := (.tmp 5)) e (by kernel_rfl) (load_blk hS.2 Tryd.underlying59 rfl isize_piece)) HS0.out ?_
  refine loneG 6 (.call ⟨.value (.func 30), #[(.tmp 15), (.tmp 16), (.tmp 17)], #[3, 3, 59]⟩) (some 18) none (by kernel_rfl) (by kernel_rfl) (by kernel_rfl) ?_
  intro o' ho hod
  refine wp_callC (f := 30) (args := #[.int .i64 (base : Int), .int .i64 (k : Int), .agg #[.bool pl, .string ps]]) (by cases o'; cases ho; kernel_rfl) (spell_at (base : Int) (k : Int) ⟨pl, ps⟩ _ HOKI.out (HLD.out.below KD.out.below hB)) ?_
  rintro e w2 ⟨⟨v2, rfl, hv2⟩, b2⟩
  refine ⟨_, rfl, ?_⟩
  rw [hod]
  clear hod ho
  have R2 := Lib.hid (HRD.out.below b2)
  have K2 := Lib.hid (KD.out.new b2 HRD.out.le)
  have X2 := Lib.hid (XD.out.new_ b2)
  have G2 := Lib.hid (GD.out.new_ b2)
  obtain ⟨gb, hv2e, hgb⟩ : ∃ gb, v2 = .slice (some ⟨gb, 0, none⟩) 128 128 ∧ Blk w2 gb 5 (rowArr 128 XX) := by
    rcases hv2 with ⟨e, _⟩ | ⟨_, g, e, _, hb⟩
    · have := HLN.out; rw [e] at this; cases this
    · exact ⟨g, e, by rw [HXX.out]; exact hb⟩
  subst hv2e
  have HGB := Lib.hid hgb
  have HS1 : Hid (w2.cell? ⟨l, 3, none⟩ = some (.int .i64 (base : Int)) ∧ Blk w2 g5 59 #[.bool pl, .string ps]) := Lib.hid ⟨X2.out.cell 3, G2.out⟩
  clear b2 hv2 hgb
  refine ⟨fun _ => HS1.out, ?_⟩

  refine takeG 7 (.move (.tmp 18)) (some 11) none (.tuple #[.slice (some ⟨gb, 0, none⟩) 128 128, .int .i64 0]) (by kernel_rfl) (by kernel_rfl) (by kernel_rfl) (fun _ _ _ h => h) (fun o' wq e hS => exec_move wq e (by kernel_rfl)) HS1.out ?_
  refine takeG 8 (.extract (.tmp 11) 0) (some 19) none (.slice (some ⟨gb, 0, none⟩) 128 128) (by kernel_rfl) (by kernel_rfl) (by kernel_rfl) (fun _ _ _ h => h) (fun o' wq e hS => exec_ext (vs := #[.slice (some ⟨gb, 0, none⟩) 128 128, .int .i64 0]) wq e (by kernel_rfl) (by rfl)) HS1.out ?_
  refine takeG 9 (.extract (.tmp 11) 1) (some 20) none (.int .i64 0) (by kernel_rfl) (by kernel_rfl) (by kernel_rfl) (fun _ _ _ h => h) (fun o' wq e hS => exec_ext (vs := #[.slice (some ⟨gb, 0, none⟩) 128 128, .int .i64 0]) wq e (by kernel_rfl) (by rfl)) HS1.out ?_
  refine takeG 10 (.assign (.tmp 19)) (some 7) none (.slice (some ⟨gb, 0, none⟩) 128 128) (by kernel_rfl) (by kernel_rfl) (by kernel_rfl) (fun _ _ _ h => h) (fun o' wq e hS => exec_assign wq e (by kernel_rfl)) HS1.out ?_
  refine lastS 11 (.assign (.tmp 20)) (some 8) (.int .i64 0) (by kernel_rfl) (by kernel_rfl) (by kernel_rfl) HS1.out (fun o' e => exec_assign _ e (by kernel_rfl)) ?_
  simp only [put_some, put_none, List.setIfInBounds_toArray, List.set_cons_succ, List.set_cons_zero]
  clear HS0 HS1 HRD KD XD GD R0 K0 X0 G0 G2
  have c0 : w2.cell? ⟨l, 0, none⟩ = some (.pointer (some ⟨r, 0, none⟩)) := X2.out.cell 0
  go_wp2_with fail
  refine (drives_any w2 r s R2.out).mono ?_
  rintro e w' ⟨rfl, rfl⟩
  rw [← HND.out]
  have HY0 : Hid ((4 : Int) = wrY s 0) := Lib.hid rfl
  have R3 : Hid (RackAt B w' r (wall s (first + k) XX 0)) := R2
  clear c0 R2
  go_wp2_with fail
  go_loopw [9, 29] (fun v y wr => ∃ (d : Nat) (ve : Int), d ≤ nd ∧ y = .int .i64 (d : Int) ∧ v = .int .i64 ve ∧ Hid (ve = wrY s d) ∧ Hid (RackAt B wr r (wall s (first + k) XX d)) ∧ Hid (Keep B w wr) ∧ Hid (Blk wr l 53 (logA r first count base used)) ∧ Hid (Blk wr gb 5 (rowArr 128 XX))) (fun _ y _ => nd - (intOf y).toNat)
  case atStart => exact ⟨0, 4, by omega, rfl, rfl, HY0, R3, K2, X2, HGB⟩
  case round =>
    clear HY0 R3 K2 X2 HGB
    obtain ⟨d, ve, hd, rfl, rfl, HY, R, K, X, GB⟩ := hrel
    by_cases hlt : d < nd
    · have i1 : (d : Int) < (nd : Int) := by omega
      have hdn : d < s.nd := by rw [← HND.out]; exact hlt
      have HRD := Lib.hid R.out.drew
      have KD := Lib.hid K.out.drew
      have XD : Hid (Blk wr.drew l 53 (logA r first count base used)) := X
      have GBD : Hid (Blk wr.drew gb 5 (rowArr 128 XX)) := GB
      have HS0 : Hid (wr.drew.cell? ⟨l, 0, none⟩ = some (.pointer (some ⟨r, 0, none⟩)) ∧ wr.drew.cell? ⟨l, 1, none⟩ = some (.int .i64 (first : Int))) := Lib.hid ⟨XD.out.cell 0, XD.out.cell 1⟩
      go_upto_region 8 with (fail)
      refine region_anyZ (fun W => W.cell? ⟨l, 0, none⟩ = some (.pointer (some ⟨r, 0, none⟩)) ∧ W.cell? ⟨l, 1, none⟩ = some (.int .i64 (first : Int))) 13 (by kernel_rfl) ?_
      refine takeG 0 (.move (.tmp 0)) (some 32) none (.pointer (some ⟨l, 0, none⟩)) (by kernel_rfl) (by kernel_rfl) (by kernel_rfl) (fun _ _ _ h => h) (fun o' wq e hS => exec_move wq e (by kernel_rfl)) HS0.out ?_
      refine takeG 1 (.nilCheck (.tmp 32)) (some 33) none (.pointer (some ⟨l, 0, none⟩)) (by kernel_rfl) (by kernel_rfl) (by kernel_rfl) (fun _ _ _ h => h) (fun o' wq e hS => exec_nil wq e (by kernel_rfl)) HS0.out ?_
      refine takeG 2 (.fieldAddr 53 (.tmp 33) 0) (some 34) none (.pointer (some ⟨l, 0, none⟩)) (by kernel_rfl) (by kernel_rfl) (by kernel_rfl) (fun _ _ _ h => h) (fun o' wq e hS => exec_field (u := .pointer (some ⟨l, 0, none⟩)) wq e (by kernel_rfl) (by kernel_rfl)) HS0.out ?_
      refine takeG 3 (.load 25 (.tmp 34)) (some 35) none (.pointer (some ⟨r, 0, none⟩)) (by kernel_rfl) (by kernel_rfl) (by kernel_rfl) (fun _ _ _ h => h) (fun o' wq e hS => exec_load (x := (.tmp 34)) e (by kernel_rfl) (load_one Tryd.underlying25 (by kernel_rfl) hS.1)) HS0.out ?_
      refine takeG 4 (.move (.tmp 10)) (some 36) none (.int .i64 (d : Int)) (by kernel_rfl) (by kernel_rfl) (by kernel_rfl) (fun _ _ _ h => h) (fun o' wq e hS => exec_move wq e (by kernel_rfl)) HS0.out ?_
      refine takeG 5 (.move (.tmp 0)) (some 37) none (.pointer (some ⟨l, 0, none⟩)) (by kernel_rfl) (by kernel_rfl) (by kernel_rfl) (fun _ _ _ h => h) (fun o' wq e hS => exec_move wq e (by kernel_rfl)) HS0.out ?_
      refine takeG 6 (.nilCheck (.tmp 37)) (some 38) none (.pointer (some ⟨l, 0, none⟩)) (by kernel_rfl) (by kernel_rfl) (by kernel_rfl) (fun _ _ _ h => h) (fun o' wq e hS => exec_nil wq e (by kernel_rfl)) HS0.out ?_
      refine takeG 7 (.fieldAddr 53 (.tmp 38) 1) (some 39) none (.pointer (some ⟨l, 1, none⟩)) (by kernel_rfl) (by kernel_rfl) (by kernel_rfl) (fun _ _ _ h => h) (fun o' wq e hS => exec_field (u := .pointer (some ⟨l, 0, none⟩)) wq e (by kernel_rfl) (by kernel_rfl)) HS0.out ?_
      refine takeG 8 (.load 3 (.tmp 39)) (some 40) none (.int .i64 (first : Int)) (by kernel_rfl) (by kernel_rfl) (by kernel_rfl) (fun _ _ _ h => h) (fun o' wq e hS => exec_load (x := (.tmp 39)) e (by kernel_rfl) (load_one Tryd.underlying3 (by kernel_rfl) hS.2)) HS0.out ?_
      refine takeG 9 (.move (.tmp 1)) (some 41) none (.int .i64 (k : Int)) (by kernel_rfl) (by kernel_rfl) (by kernel_rfl) (fun _ _ _ h => h) (fun o' wq e hS => exec_move wq e (by kernel_rfl)) HS0.out ?_
      refine takeG 10 (.binOp .add 3 (.tmp 40) (.tmp 41) 3) (some 42) none (.int .i64 ((first + k : Nat) : Int)) (by kernel_rfl) (by kernel_rfl) (by kernel_rfl) (fun _ _ _ h => h) (fun o' wq e hS => exec_bin (u1 := .int .i64 (first : Int)) (u2 := .int .i64 (k : Int)) wq e (by kernel_rfl) (by kernel_rfl) (eqG_int ..) (add_fk HFK.out _)) HS0.out ?_
      refine takeG 11 (.move (.tmp 7)) (some 43) none (.slice (some ⟨gb, 0, none⟩) 128 128) (by kernel_rfl) (by kernel_rfl) (by kernel_rfl) (fun _ _ _ h => h) (fun o' wq e hS => exec_move wq e (by kernel_rfl)) HS0.out ?_
      refine loneG 12 (.call ⟨.value (.func 32), #[(.tmp 35), (.tmp 36), (.tmp 42), (.tmp 43)], #[25, 3, 3, 38]⟩) (some 44) none (by kernel_rfl) (by kernel_rfl) (by kernel_rfl) ?_
      intro o' ho hod
      refine wp_callC (f := 32) (args := #[.pointer (some ⟨r, 0, none⟩), .int .i64 (d : Int), .int .i64 ((first + k : Nat) : Int), .slice (some ⟨gb, 0, none⟩) 128 128]) (by cases o'; cases ho; kernel_rfl) (wr_s _ r s (first + k) XX gb d HCM.out hdn HQ.out GBD.out HXL.out HCO.out HRD.out) ?_
      rintro e w4 ⟨rfl, h4, k4⟩
      refine ⟨_, rfl, ?_⟩
      rw [hod]
      clear hod ho
      have R4 := Lib.hid h4
      have K4 := Lib.hid (KD.out.trans k4)
      have X4 := Lib.hid (k4.block XD.out rfl)
      have B4 := Lib.hid (k4.block GBD.out rfl)
      have HS1 : Hid (w4.cell? ⟨l, 0, none⟩ = some (.pointer (some ⟨r, 0, none⟩)) ∧ w4.cell? ⟨l, 1, none⟩ = some (.int .i64 (first : Int))) := Lib.hid ⟨X4.out.cell 0, X4.out.cell 1⟩
      clear h4 k4
      refine ⟨fun _ => HS1.out, ?_⟩
      refine AnyZ.done (by kernel_rfl) ?_

      simp only [put_some, put_none, List.setIfInBounds_toArray, List.set_cons_succ, List.set_cons_zero]
      have hys := wrY_succ s d
      by_cases hg : s.gone d = true
      · have hy : secY s d = 3 := by unfold secY; rw [if_pos hg]
        rw [if_pos hg] at hys
        have HY2 : Hid (ve = wrY s (d + 1)) := Lib.hid (by rw [hys]; exact HY.out)
        rw [hy]
        clear HS0 HS1 HRD KD XD GBD R K X GB hys hg hy HY
        go_wp2_with fail
        go_roundw
        case rel => exact ⟨d + 1, ve, by omega, by go_num, rfl, HY2, R4, K4, X4, B4⟩
        case measure => simp [intOf]; omega
      · have hy : secY s d = 0 := by unfold secY; rw [if_neg hg]
        rw [if_neg hg] at hys
        have HY2 : Hid ((0 : Int) = wrY s (d + 1)) := Lib.hid hys.symm
        rw [hy]
        clear HS0 HS1 HRD KD XD GBD R K X GB hys hg hy HY
        go_wp2_with fail
        go_roundw
        case rel => exact ⟨d + 1, 0, by omega, by go_num, rfl, HY2, R4, K4, X4, B4⟩
        case measure => simp [intOf]; omega
    · have i1 : ¬ ((d : Int) < (nd : Int)) := by omega
      obtain rfl : nd = d := by omega
      go_wp2_with fail
      go_ret
      exact ⟨by rw [HY.out]; rfl, R.out, K.out⟩
end
end Itn
end Go.Proofs.YtikenhcglbfgpaaDoor
