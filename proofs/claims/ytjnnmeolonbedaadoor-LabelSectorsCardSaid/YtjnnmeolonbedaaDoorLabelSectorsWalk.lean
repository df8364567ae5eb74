/-
  The walk of 'LabelSectors': for all records and bytes Encode and Decode answer what the document says; a record comes back.
-/
import Derived.Test.YtjnnmeolonbedaaDoorLabDocM
import Derived.Test.YtjnnmeolonbedaaDoorDrawSeqM
namespace Go.Proofs.YtjnnmeolonbedaaDoor
open Go Go.RowKit refRack Lab
set_option maxRecDepth 100000
set_option linter.unusedVariables false
namespace Lab
open Classical in
noncomputable def decA (L : List Nat) : U × Int := if h : ∃ u, Is L u then (h.choose, 0) else (zeroU, 2)
theorem decA_is {L : List Nat} {u : U} (h : Is L u) : decA L = (u, 0) := by
  have hx : ∃ u, Is L u := ⟨u, h⟩
  unfold decA
  rw [dif_pos hx]
  exact congrArg (·, (0 : Int)) (hx.choose_spec.one h)
theorem decA_no {L : List Nat} (h : ∀ u, ¬ Is L u) : decA L = (zeroU, 2) := by
  unfold decA
  rw [dif_neg (fun ⟨u, hu⟩ => h u hu)]
theorem dec_eq {L : List Nat} {e : Ending} (h : DecU L e) : e = .returned (.tuple #[.agg (uA (decA L).1), .int .i64 (decA L).2]) := by
  rcases h with ⟨u, hu, rfl⟩ | ⟨hn, rfl⟩
  · rw [decA_is hu]
  · rw [decA_no hn]; rfl
theorem outB_lt {u : U} (hf : FitU u) : ∀ b ∈ outB u, b < 256 := by
  unfold outB
  split
  · rename_i h
    exact encL_lt (ok_p ⟨h, hf⟩) hf
  · intro b hb; cases hb
theorem load_uberR {W : World} {g : Nat} {u : U} (h : Blk W g 31 (uA u)) : (Instr.loadAt 31 (.pointer (some ⟨g, 0, none⟩))).run Tryd.prog W = .ok (.agg (uA u)) W := load_blk h Tryd.underlying31 rfl isize_uberR
theorem neq_uberR (u : U) (W : World) : (binOp .neq 31 (.agg (uA u)) (.agg (uA u))).run Tryd.prog W = .ok (.bool false) W := by
  unfold uA
  simp [go_sem, run_eql_struct]
theorem neq_strS (s : ByteArray) (W : World) : (binOp .neq 9 (.string s) (.string s)).run Tryd.prog W = .ok (.bool false) W := by
  simp [go_sem]
theorem neq_intE (x : Int) (W : World) : (binOp .neq 28 (.int .i64 x) (.int .i64 x)).run Tryd.prog W = .ok (.bool false) W := by
  simp [go_sem]
set_option maxHeartbeats 1600000 in
theorem law_of (u : U) (w : World) :
    Calls Tryd.prog 10 #[.agg (uA u)] w fun e w' => e = .returned (.agg (uA u)) ∧ Below w.heap.size w w' := by
  obtain ⟨t, ⟨a, z, b, s⟩⟩ := u
  simp only [uA]
  have L1 : Hid (Below w.heap.size w ((w.alloc (.cells #[.int .i64 t, .int .i64 a, .int .i64 z, .int .i64 b, .string s] 25)).alloc (.cells #[.int .i64 0, .int .i64 0, .int .i64 0, .int .i64 0, .string ⟨#[]⟩] 31))) := Lib.hid (((Below.refl _ _).alloc (Nat.le_refl _) _).alloc (by simp) _)
  have X1 : Hid (Blk ((w.alloc (.cells #[.int .i64 t, .int .i64 a, .int .i64 z, .int .i64 b, .string s] 25)).alloc (.cells #[.int .i64 0, .int .i64 0, .int .i64 0, .int .i64 0, .string ⟨#[]⟩] 31)) w.heap.size 25 #[.int .i64 t, .int .i64 a, .int .i64 z, .int .i64 b, .string s]) := Lib.hid ((Blk.new _ _ _).alloc _)
  have Y1 : Hid (Blk ((w.alloc (.cells #[.int .i64 t, .int .i64 a, .int .i64 z, .int .i64 b, .string s] 25)).alloc (.cells #[.int .i64 0, .int .i64 0, .int .i64 0, .int .i64 0, .string ⟨#[]⟩] 31)) (w.heap.size + 1) 31 #[.int .i64 0, .int .i64 0, .int .i64 0, .int .i64 0, .string ⟨#[]⟩]) := Lib.hid (by
    have h := Blk.new (w.alloc (.cells #[.int .i64 t, .int .i64 a, .int .i64 z, .int .i64 b, .string s] 25)) 31 #[.int .i64 0, .int .i64 0, .int .i64 0, .int .i64 0, .string ⟨#[]⟩]
    have e : (w.alloc (.cells #[.int .i64 t, .int .i64 a, .int .i64 z, .int .i64 b, .string s] 25)).heap.size = w.heap.size + 1 := by simp
    rw [e] at h
    exact h)
  go_enter Tryd.func10, Tryd.ntmps10
  go_upto_region 1 with (fail)
  generalize hw1 : (w.alloc (.cells #[.int .i64 t, .int .i64 a, .int .i64 z, .int .i64 b, .string s] 25)).alloc (.cells #[.int .i64 0, .int .i64 0, .int .i64 0, .int .i64 0, .string ⟨#[]⟩] 31) = w1 at *
  obtain ⟨g, hg⟩ : ∃ g, g = w.heap.size := ⟨_, rfl⟩
  rw [← hg] at X1 Y1 L1 ⊢
  clear hw1
  have HG := Lib.hid hg
  obtain ⟨⟨d0, d1, d2, d3, d4⟩, _, _, _, _, _⟩ := uber_facts X1.out
  obtain ⟨⟨f0, f1, f2, f3, f4⟩, e0, e1, e2, e3, e4⟩ := uber_facts Y1.out
  clear hg
  go_wp2_with fail
  refine bodyPost_ret (results_cell rfl rfl (set5_loadR Y1.out _ _ _ _ _)) rfl ?_
  exact ⟨rfl, by rw [← HG.out]; exact set5_below (g := g + 1) L1.out (Nat.le_succ g) _ _ _ _ _⟩
end Lab
namespace labelSectors
set_option maxHeartbeats 3200000 in
theorem walk (u : U) (A3 : Option Addr) (L : List Nat) (c3 : Nat) (w : World) (hf : FitU u)
    (h3 : RdB w w.heap.size A3 L.length (lst L)) (hL : ∀ x ∈ L, x < 256) (lc3 : L.length ≤ c3) (cm3 : c3 ≤ maxLen) (hl : Laid w) :
    Calls Tryd.prog 3 #[.agg (uA u), .slice A3 L.length c3] w fun e w' => e = .returned (.bool true) ∧ Below w.heap.size w w' := by
  have HLD := Lib.hid hl
  have hpos := hl.pos
  have H3 := Lib.hid h3
  have HL := Lib.hid hL
  have C3 := Lib.hid cm3
  have HF := Lib.hid hf
  have HOF := Lib.hid fun W => law_of u W
  have HDE := Lib.hid fun W => docEncode_lab u W hf
  have HEN := Lib.hid fun W => encode_lab u W hf
  have HSB := Lib.hid (outB_lt hf)
  have L0 : Hid (Below w.heap.size w (w.alloc (.cells (uA u) 25))) := Lib.hid ((Below.refl _ _).alloc (Nat.le_refl _) _)
  have X0 : Hid (Blk (w.alloc (.cells (uA u) 25)) w.heap.size 25 (uA u)) := Lib.hid (Blk.new _ _ _)
  have HBK : Hid (encE u = 0 → decA (outB u) = (u, 0) ∧ (outB u).length = 128) := Lib.hid fun h => by
    have hok : okU u = true := by
      unfold encE at h
      by_cases e : okU u = true
      · exact e
      · rw [if_neg e] at h; omega
    have e : outB u = encL u := if_pos hok
    rw [e]
    exact ⟨decA_is ⟨⟨hok, HF.out⟩, rfl⟩, encL_length (ok_p ⟨hok, HF.out⟩) HF.out⟩
  unfold maxLen at cm3
  obtain ⟨SL, hSL⟩ : ∃ SL, SL = outB u := ⟨_, rfl⟩
  obtain ⟨SE, hSE⟩ : ∃ SE, SE = encE u := ⟨_, rfl⟩
  rw [← hSL, ← hSE] at HDE HEN HBK
  rw [← hSL] at HSB
  clear h3 hL hl hf hSL hSE
  obtain ⟨t, ⟨a, z, b, s⟩⟩ := u
  simp only [uA] at L0 X0 HOF HDE HEN ⊢
  by_cases hbig : 1000 < L.length
  · have t1 : (1000 : Int) < (L.length : Int) := by omega
    go_enter Tryd.func3, Tryd.ntmps3
    go_wp2_with fail
    refine (law_known _ (HLD.out.below L0.out hpos)).mono ?_
    rintro e w1 ⟨rfl, b1⟩
    have L1 := Lib.hid (L0.out.trans (b1.mono L0.out.size))
    clear b1 L0 X0
    go_wp2_with fail
    refine (law_known _ (HLD.out.below L1.out hpos)).mono ?_
    rintro e w2 ⟨rfl, b2⟩
    have L2 := Lib.hid (L1.out.trans (b2.mono L1.out.size))
    clear b2 L1
    go_wp2_with fail
    go_ret
    exact ⟨rfl, L2.out⟩
  have t1 : (L.length : Int) ≤ 1000 := by omega
  have hL1000 : L.length ≤ 1000 := by omega
  clear hbig
  go_enter Tryd.func3, Tryd.ntmps3
  go_wp2_with fail
  refine (law_known _ (HLD.out.below L0.out hpos)).mono ?_
  rintro e w1 ⟨rfl, b1⟩
  have L1 := Lib.hid (L0.out.trans (b1.mono L0.out.size))
  have X1 := Lib.hid (X0.out.below b1 X0.out.lt)
  clear b1 L0 X0
  obtain ⟨⟨d0, d1, d2, d3, d4⟩, _, _, _, _, _⟩ := uber_facts X1.out
  go_wp2_with fail
  refine (HOF.out _).mono ?_
  rintro e w2 ⟨rfl, b2⟩
  have L2 := Lib.hid (L1.out.trans (b2.mono L1.out.size))
  have X2 := Lib.hid (X1.out.below b2 X1.out.lt)
  clear b2 L1 X1 d0 d1 d2 d3 d4
  go_wp2_with fail
  refine (HDE.out _).mono ?_
  rintro e w3 ⟨rfl, b3⟩
  have L3 := Lib.hid (L2.out.trans (b3.mono L2.out.size))
  have X3 := Lib.hid (X2.out.below b3 X2.out.lt)
  clear b3 L2 X2 HDE
  obtain ⟨⟨d0, d1, d2, d3, d4⟩, _, _, _, _, _⟩ := uber_facts X3.out
  go_wp2_with fail
  refine (HEN.out _ (HLD.out.below L3.out hpos)).mono ?_
  rintro e w4 ⟨⟨v4, rfl, ho4⟩, b4⟩
  obtain ⟨A5, c5, rfl, hr5, lc5, cm5, _, _⟩ := ho4.own.shape HSB.out
  have R4 : Hid (RdB w4 w4.heap.size A5 SL.length (lst SL)) := Lib.hid hr5
  have C5 := Lib.hid cm5
  have L4 := Lib.hid (L3.out.trans (b4.mono L3.out.size))
  have X4 := Lib.hid (X3.out.below b4 X3.out.lt)
  unfold maxLen at cm5
  clear b4 L3 X3 HEN ho4 hr5 d0 d1 d2 d3 d4
  have S4 := conv_lst (c := c3) (H3.out.below L4.out (Nat.le_refl _))
  go_wp2_with fail
  clear S4
  refine (docDecode_lab L w4 HL.out hL1000).mono ?_
  rintro e w5 ⟨hd5, b5⟩
  obtain rfl := dec_eq hd5
  obtain ⟨D, hD⟩ : ∃ D, D = decA L := ⟨_, rfl⟩
  rw [← hD]
  have HD := Lib.hid hD
  obtain ⟨⟨dt, ⟨da, dz, db, ds⟩⟩, de⟩ := D
  simp only [uA]
  have L5 : Hid (Below w.heap.size w (w5.alloc (.cells #[.int .i64 dt, .int .i64 da, .int .i64 dz, .int .i64 db, .string ds] 31))) := Lib.hid ((L4.out.trans (b5.mono L4.out.size)).alloc (L4.out.trans (b5.mono L4.out.size)).size _)
  have X5 : Hid (Blk (w5.alloc (.cells #[.int .i64 dt, .int .i64 da, .int .i64 dz, .int .i64 db, .string ds] 31)) w.heap.size 25 #[.int .i64 t, .int .i64 a, .int .i64 z, .int .i64 b, .string s]) := Lib.hid ((X4.out.below b5 X4.out.lt).alloc _)
  have Y5 : Hid (Blk (w5.alloc (.cells #[.int .i64 dt, .int .i64 da, .int .i64 dz, .int .i64 db, .string ds] 31)) w5.heap.size 31 (uA ⟨dt, ⟨da, dz, db, ds⟩⟩)) := Lib.hid (Blk.new _ _ _)
  have R5 : Hid (RdB (w5.alloc (.cells #[.int .i64 dt, .int .i64 da, .int .i64 dz, .int .i64 db, .string ds] 31)) w4.heap.size A5 SL.length (lst SL)) := Lib.hid (R4.out.below (b5.alloc b5.size _) (Nat.le_refl _))
  have z5 : w4.heap.size ≤ (w5.alloc (.cells #[.int .i64 dt, .int .i64 da, .int .i64 dz, .int .i64 db, .string ds] 31)).heap.size := (b5.alloc b5.size _).size
  clear hd5 b5 hD L4 X4 R4
  go_wp2_with fail
  generalize hw6 : w5.alloc (.cells #[.int .i64 dt, .int .i64 da, .int .i64 dz, .int .i64 db, .string ds] 31) = w6 at *
  generalize hg9 : w5.heap.size = g9 at *
  clear hw6 hg9
  refine (decode_lab A3 L c3 w.heap.size w6 (H3.out.below L5.out (Nat.le_refl _)) L5.out.size HL.out lc3 C3.out (HLD.out.below L5.out hpos)).mono ?_
  rintro e w7 ⟨hd7, b7⟩
  obtain rfl := dec_eq hd7
  rw [← HD.out]
  simp only [uA]
  have L7 : Hid (Below w.heap.size w (w7.alloc (.cells #[.int .i64 dt, .int .i64 da, .int .i64 dz, .int .i64 db, .string ds] 25))) := Lib.hid ((L5.out.trans (b7.mono L5.out.size)).alloc (L5.out.trans (b7.mono L5.out.size)).size _)
  have X7 : Hid (Blk (w7.alloc (.cells #[.int .i64 dt, .int .i64 da, .int .i64 dz, .int .i64 db, .string ds] 25)) w.heap.size 25 (uA ⟨t, ⟨a, z, b, s⟩⟩)) := Lib.hid ((X5.out.below b7 X5.out.lt).alloc _)
  have Y7 : Hid (Blk (w7.alloc (.cells #[.int .i64 dt, .int .i64 da, .int .i64 dz, .int .i64 db, .string ds] 25)) g9 31 (uA ⟨dt, ⟨da, dz, db, ds⟩⟩)) := Lib.hid ((Y5.out.below b7 Y5.out.lt).alloc _)
  have Z7 : Hid (Blk (w7.alloc (.cells #[.int .i64 dt, .int .i64 da, .int .i64 dz, .int .i64 db, .string ds] 25)) w7.heap.size 25 (uA ⟨dt, ⟨da, dz, db, ds⟩⟩)) := Lib.hid (Blk.new _ _ _)
  have R7 : Hid (RdB (w7.alloc (.cells #[.int .i64 dt, .int .i64 da, .int .i64 dz, .int .i64 db, .string ds] 25)) w4.heap.size A5 SL.length (lst SL)) := Lib.hid (R5.out.below ((b7.alloc b7.size _).mono z5) (Nat.le_refl _))
  have z7 : w4.heap.size ≤ (w7.alloc (.cells #[.int .i64 dt, .int .i64 da, .int .i64 dz, .int .i64 db, .string ds] 25)).heap.size := Nat.le_trans z5 (b7.alloc b7.size _).size
  clear hd7 b7 HD L5 X5 Y5 R5 z5
  go_upto_region 7 with (fail)
  generalize hw8 : w7.alloc (.cells #[.int .i64 dt, .int .i64 da, .int .i64 dz, .int .i64 db, .string ds] 25) = w8 at *
  generalize hg11 : w7.heap.size = g11 at *
  clear hw8 hg11
  obtain ⟨DU, hDU⟩ : ∃ DU : U, DU = ⟨dt, ⟨da, dz, db, ds⟩⟩ := ⟨_, rfl⟩
  rw [← hDU] at Y7 Z7
  clear hDU
  obtain ⟨TT, hTT⟩ : ∃ TT, TT = K.txt SL := ⟨_, rfl⟩
  rw [← hTT]
  have HTT := Lib.hid hTT
  clear hTT
  obtain ⟨B, hB⟩ : ∃ B, B = w4.heap.size := ⟨_, rfl⟩
  rw [← hB] at R7 z7
  clear hB
  have HS := Lib.hid (⟨Y7.out.drew, Z7.out.drew, R7.out⟩ : Blk w8.drew g9 31 (uA DU) ∧ Blk w8.drew g11 25 (uA DU) ∧ RdB w8.drew B A5 SL.length (lst SL))
  clear Y7 Z7 R7
  refine region_anyZ (fun w' => Blk w' g9 31 (uA DU) ∧ Blk w' g11 25 (uA DU) ∧ RdB w' B A5 SL.length (lst SL)) 20 (by kernel_rfl) ?_
  refine takeG 0 (.move (.tmp 5)) (some 45) none (.string TT) (by kernel_rfl) (by kernel_rfl) (by kernel_rfl) (fun _ _ _ h => h) (fun o wq e hS => exec_move wq e (by kernel_rfl)) HS.out ?_
  refine takeG 1 (.move (.tmp 7)) (some 46) none (.slice A5 SL.length c5) (by kernel_rfl) (by kernel_rfl) (by kernel_rfl) (fun _ _ _ h => h) (fun o wq e hS => exec_move wq e (by kernel_rfl)) HS.out ?_
  refine takeG 2 (.convert 26 9 (.tmp 46)) (some 47) none (.string TT) (by kernel_rfl) (by kernel_rfl) (by kernel_rfl) (fun _ _ _ h => h) (fun o wq e hS => exec_conv (u := .slice A5 SL.length c5) wq e (by kernel_rfl) ((conv_lst hS.2.2).trans (by rw [← HTT.out]))) HS.out ?_
  refine takeG 3 (.binOp .neq 9 (.tmp 45) (.tmp 47) 9) (some 48) none (.bool false) (by kernel_rfl) (by kernel_rfl) (by kernel_rfl) (fun _ _ _ h => h) (fun o wq e hS => exec_bin (u1 := .string TT) (u2 := .string TT) wq e (by kernel_rfl) (by kernel_rfl) (eqG_str ..) (neq_strS TT _)) HS.out ?_
  refine takeG 4 (.move (.tmp 48)) (some 49) none (.bool false) (by kernel_rfl) (by kernel_rfl) (by kernel_rfl) (fun _ _ _ h => h) (fun o wq e hS => exec_move wq e (by kernel_rfl)) HS.out ?_
  refine takeG 5 (.move (.tmp 6)) (some 50) (some (4, false)) (.int .i64 SE) (by kernel_rfl) (by kernel_rfl) (by kernel_rfl) (fun _ _ _ h => h) (fun o wq e hS => exec_move wq e (by kernel_rfl)) HS.out ?_
  refine takeG 6 (.move (.tmp 8)) (some 51) (some (4, false)) (.int .i64 SE) (by kernel_rfl) (by kernel_rfl) (by kernel_rfl) (fun _ _ _ h => h) (fun o wq e hS => exec_move wq e (by kernel_rfl)) HS.out ?_
  refine takeG 7 (.binOp .neq 28 (.tmp 50) (.tmp 51) 28) (some 52) (some (4, false)) (.bool false) (by kernel_rfl) (by kernel_rfl) (by kernel_rfl) (fun _ _ _ h => h) (fun o wq e hS => exec_bin (u1 := .int .i64 SE) (u2 := .int .i64 SE) wq e (by kernel_rfl) (by kernel_rfl) (eqG_int ..) (neq_intE SE _)) HS.out ?_
  refine takeG 8 (.pick (.tmp 49) (.const (Value.bool true)) (.tmp 52)) (some 53) none (.bool false) (by kernel_rfl) (by kernel_rfl) (by kernel_rfl) (fun _ _ _ h => h) (fun o wq e hS => exec_pick (b := false) wq e (by kernel_rfl) (by kernel_rfl)) HS.out ?_
  refine takeG 9 (.move (.tmp 53)) (some 54) none (.bool false) (by kernel_rfl) (by kernel_rfl) (by kernel_rfl) (fun _ _ _ h => h) (fun o wq e hS => exec_move wq e (by kernel_rfl)) HS.out ?_
  refine takeG 10 (.load 31 (.tmp 9)) (some 55) (some (9, false)) (.agg (uA DU)) (by kernel_rfl) (by kernel_rfl) (by kernel_rfl) (fun _ _ _ h => h) (fun o wq e hS => exec_load (x := (.tmp 9)) e (by kernel_rfl) (load_uberR hS.1)) HS.out ?_
  refine takeG 11 (.load 25 (.tmp 11)) (some 56) (some (9, false)) (.agg (uA DU)) (by kernel_rfl) (by kernel_rfl) (by kernel_rfl) (fun _ _ _ h => h) (fun o wq e hS => exec_load (x := (.tmp 11)) e (by kernel_rfl) (load_uber hS.2.1)) HS.out ?_
  refine loneG 12 (.call ⟨.value (.func 10), #[(.tmp 56)], #[25]⟩) (some 57) (some (9, false)) (by kernel_rfl) (by kernel_rfl) (by kernel_rfl) ?_
  intro o ho hod
  refine wp_callC (f := 10) (args := #[.agg (uA DU)]) (by cases o; cases ho; kernel_rfl) (law_of DU _) ?_
  rintro e w10 ⟨rfl, b10⟩
  refine ⟨.agg (uA DU), rfl, ?_⟩
  rw [hod]
  clear hod ho
  have HS9 := Lib.hid (⟨HS.out.1.new_ (b10 : Below w8.drew.heap.size w8.drew w10), HS.out.2.1.new_ (b10 : Below w8.drew.heap.size w8.drew w10), HS.out.2.2.below (b10.mono z7 : Below B w8.drew w10) (Nat.le_refl _)⟩ : Blk w10 g9 31 (uA DU) ∧ Blk w10 g11 25 (uA DU) ∧ RdB w10 B A5 SL.length (lst SL))
  have L10 := Lib.hid (L7.out.drew.trans (b10.mono L7.out.drew.size))
  have X10 := Lib.hid (X7.out.drew.new_ (b10 : Below w8.drew.heap.size w8.drew w10))
  have HR := Lib.hid HS9.out.2.2
  have z10 : B ≤ w10.heap.size := Nat.le_trans z7 b10.size
  clear b10 L7 X7 HS
  refine ⟨fun _ => HS9.out, ?_⟩
  refine takeG 13 (.binOp .neq 31 (.tmp 55) (.tmp 57) 31) (some 58) (some (9, false)) (.bool false) (by kernel_rfl) (by kernel_rfl) (by kernel_rfl) (fun _ _ _ h => h) (fun o wq e hS => exec_bin (u1 := .agg (uA DU)) (u2 := .agg (uA DU)) wq e (by kernel_rfl) (by kernel_rfl) (eqG_agg _ _ _ _ _ _ (by kernel_rfl) _) (neq_uberR DU _)) HS9.out ?_
  refine takeG 14 (.pick (.tmp 54) (.const (Value.bool true)) (.tmp 58)) (some 59) none (.bool false) (by kernel_rfl) (by kernel_rfl) (by kernel_rfl) (fun _ _ _ h => h) (fun o wq e hS => exec_pick (b := false) wq e (by kernel_rfl) (by kernel_rfl)) HS9.out ?_
  refine takeG 15 (.move (.tmp 59)) (some 60) none (.bool false) (by kernel_rfl) (by kernel_rfl) (by kernel_rfl) (fun _ _ _ h => h) (fun o wq e hS => exec_move wq e (by kernel_rfl)) HS9.out ?_
  refine takeG 16 (.move (.tmp 10)) (some 61) (some (15, false)) (.int .i64 de) (by kernel_rfl) (by kernel_rfl) (by kernel_rfl) (fun _ _ _ h => h) (fun o wq e hS => exec_move wq e (by kernel_rfl)) HS9.out ?_
  refine takeG 17 (.move (.tmp 12)) (some 62) (some (15, false)) (.int .i64 de) (by kernel_rfl) (by kernel_rfl) (by kernel_rfl) (fun _ _ _ h => h) (fun o wq e hS => exec_move wq e (by kernel_rfl)) HS9.out ?_
  refine takeG 18 (.binOp .neq 28 (.tmp 61) (.tmp 62) 28) (some 63) (some (15, false)) (.bool false) (by kernel_rfl) (by kernel_rfl) (by kernel_rfl) (fun _ _ _ h => h) (fun o wq e hS => exec_bin (u1 := .int .i64 de) (u2 := .int .i64 de) wq e (by kernel_rfl) (by kernel_rfl) (eqG_int ..) (neq_intE de _)) HS9.out ?_
  refine lastS 19 (.pick (.tmp 60) (.const (Value.bool true)) (.tmp 63)) (some 64) (.bool false) (by kernel_rfl) (by kernel_rfl) (by kernel_rfl) HS9.out (fun o e => exec_pick (b := false) _ e (by kernel_rfl) (by kernel_rfl)) ?_
  simp only [put_some, put_none, List.setIfInBounds_toArray, List.set_cons_succ, List.set_cons_zero]
  by_cases hz : SE = 0
  · have HB := HBK.out hz
    obtain ⟨hbk, h128⟩ := HB
    have HB1 := Lib.hid hbk
    rw [hz]
    clear hbk hz h128 HBK HOF
    go_wp2_with fail
    refine (decode_lab A5 SL c5 B w10 HR.out z10 HSB.out lc5 C5.out (HLD.out.below L10.out hpos)).mono ?_
    rintro e w11 ⟨hd11, b11⟩
    obtain rfl := dec_eq hd11
    rw [HB1.out]
    simp only [uA]
    have L11 : Hid (Below w.heap.size w (w11.alloc (.cells #[.int .i64 t, .int .i64 a, .int .i64 z, .int .i64 b, .string s] 25))) := Lib.hid ((L10.out.trans (b11.mono L10.out.size)).alloc (L10.out.trans (b11.mono L10.out.size)).size _)
    have X11 : Hid (Blk (w11.alloc (.cells #[.int .i64 t, .int .i64 a, .int .i64 z, .int .i64 b, .string s] 25)) w.heap.size 25 #[.int .i64 t, .int .i64 a, .int .i64 z, .int .i64 b, .string s]) := Lib.hid ((X10.out.below b11 X10.out.lt).alloc _)
    have Z11 : Hid (Blk (w11.alloc (.cells #[.int .i64 t, .int .i64 a, .int .i64 z, .int .i64 b, .string s] 25)) w11.heap.size 25 #[.int .i64 t, .int .i64 a, .int .i64 z, .int .i64 b, .string s]) := Lib.hid (Blk.new _ _ _)
    clear hd11 b11 HR L10 X10 HB1
    go_upto_region 12 with (fail)
    generalize hw12 : w11.alloc (.cells #[.int .i64 t, .int .i64 a, .int .i64 z, .int .i64 b, .string s] 25) = w12 at *
    generalize hg13 : w11.heap.size = g13 at *
    generalize hg2 : w.heap.size = g2 at *
    have HG2 := Lib.hid hg2
    clear hw12 hg13 hg2
    obtain ⟨⟨d0, d1, d2, d3, d4⟩, _, _, _, _, _⟩ := uber_facts X11.out
    obtain ⟨⟨f0, f1, f2, f3, f4⟩, _, _, _, _, _⟩ := uber_facts Z11.out
    clear X11 Z11 HLD
    go_wp2_with fail
    go_ret
    exact ⟨rfl, by rw [HG2.out]; exact L11.out⟩
  · have hne : (SE != 0) = true := by simpa using hz
    clear hz HBK HOF
    go_wp2_with fail
    go_ret
    exact ⟨rfl, L10.out⟩
end labelSectors
end Go.Proofs.YtjnnmeolonbedaaDoor
