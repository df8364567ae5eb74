/-
  'hoardlaw08.known' answers true. Conditions: the sums' table is laid.
-/
import Derived.Test.YtjnnmeolonbedaaDoorLawArgsM
import Derived.Test.YtjnnmeolonbedaaDoorLabDecM
import Derived.Deep.DeepCutAuto
namespace Go.Proofs.YtjnnmeolonbedaaDoor
open Go Go.RowKit refRack
set_option maxRecDepth 100000
set_option linter.unusedVariables false
namespace Lab
theorem new_calm (nd ns : Nat) : (RS.new nd ns).calm := ⟨rfl, rfl⟩
/-- a record in a new rack: there, and the newest -/
theorem known_wrote : wroteL (RS.new 5 9) (rec_ 5 9) = (wall (RS.new 5 9) 5 (lst (encL (rec_ 5 9))) 5, 5, 0) :=
  wroteL_calm (new_calm 5 9) (by show 8 < 9; omega) (t := 5) (p := P 9) (rec_ok (by omega) (by omega)).1
theorem known_newest : newU (wall (RS.new 5 9) 5 (lst (encL (rec_ 5 9))) 5) = (rec_ 5 9, 0) := by
  obtain ⟨hl, _⟩ := wall_like (RS.new 5 9) 5 (lst (encL (rec_ 5 9))) 5
  have hh : ∀ d a, (wall (RS.new 5 9) 5 (lst (encL (rec_ 5 9))) 5).holds d a = if d < 5 ∧ (RS.new 5 9).gone d = false ∧ a = 5 then lst (encL (rec_ 5 9)) else zeros := fun d a => wall_holds _ _ _ d a 5
  generalize wall (RS.new 5 9) 5 (lst (encL (rec_ 5 9))) 5 = s at *
  have h1 : s.nd = 5 := hl.nd
  have h2 : s.ns = 9 := hl.ns
  have h3 : s.off = false := hl.off
  have h4 : ∀ d, s.gone d = false := fun d => by rw [hl.gone]; rfl
  have hok : Ok (rec_ 5 9) := rec_ok (by omega) (by omega)
  refine newU_is h3 (by omega) (by show (1 : Int) ≤ 5; omega) ⟨0, 5, by omega, by omega, ?_⟩ fun d a hd ha => ?_
  · exact (look_rec h3 (by omega) (by omega) (h4 0) hok (fun j _ => by rw [hh, if_pos ⟨by omega, rfl, rfl⟩]) rec_mod).1
  · by_cases e : a = 5
    · subst e
      exact .inl (look_rec h3 hd (by omega) (h4 d) hok (fun j _ => by rw [hh, if_pos ⟨by omega, rfl, rfl⟩]) rec_mod).1
    · refine .inr ?_
      rw [(look_none h3 hd (by omega) (h4 d) (by rw [hh, if_neg (fun q => e q.2.2)]; rfl)).1]
      show (0 : Int) < 5
      omega
set_option maxHeartbeats 1600000 in
theorem law_known (w : World) (hl : Laid w) :
    Calls Tryd.prog 8 #[] w fun e w' => e = .returned (.bool true) ∧ Below w.heap.size w w' := by
  have HLD := Lib.hid hl
  have hpos := hl.pos
  clear hl
  go_enter Tryd.func8, Tryd.ntmps8
  go_wp2_with fail
  refine (new_any w 5 9 (by omega) (by omega) (by omega) (by omega)).mono ?_
  rintro e w1 ⟨⟨r, rfl, h1⟩, k1⟩
  have H1 := Lib.hid h1
  have K1 := Lib.hid k1
  clear h1 k1
  go_wp2_with fail
  refine (law_ptrL 9 _ (by omega)).mono ?_
  rintro e w2 ⟨pa, pz, pb, ps, hp, rfl, b2⟩
  have H2 := Lib.hid (H1.out.below b2)
  have K2 := Lib.hid (K1.out.new b2 H1.out.le)
  have HU : Hid ((#[.int .i64 5, .int .i64 pa, .int .i64 pz, .int .i64 pb, .string ps] : Array Value) = uA (rec_ 5 9)) := Lib.hid (uA_rec (t := 5) hp)
  clear b2 H1 K1 hp
  go_wp2_with fail
  rw [HU.out]
  have HW := Lib.hid (write_lab w2 r _ (rec_ 5 9) H2.out (rec_ok (by omega) (by omega)).2 (HLD.out.below K2.out.below hpos) hpos (by show 0 + 5 ≤ 1000000; omega))
  rw [known_wrote] at HW
  refine HW.out.mono ?_
  rintro e w3 ⟨rfl, h3, k3⟩
  have H3 := Lib.hid h3
  have K3 := Lib.hid (K2.out.trans k3)
  clear h3 k3 H2 K2 HW
  dsimp only
  go_wp2_with fail
  have HN := Lib.hid (newest_lab w3 r _ H3.out (HLD.out.below K3.out.below hpos) hpos)
  rw [known_newest] at HN
  refine HN.out.mono ?_
  rintro e w4 ⟨rfl, h4, k4⟩
  have L4 := Lib.hid (K3.out.trans k4).below
  clear h4 k4 H3 K3 HN
  rw [← HU.out]
  have L6 : Hid (Below w.heap.size w (w4.alloc (.cells #[.int .i64 5, .int .i64 pa, .int .i64 pz, .int .i64 pb, .string ps] 25))) := Lib.hid (L4.out.alloc L4.out.size _)
  have HS : Hid (Blk (w4.alloc (.cells #[.int .i64 5, .int .i64 pa, .int .i64 pz, .int .i64 pb, .string ps] 25)).drew w4.heap.size 25 (uA (rec_ 5 9))) := Lib.hid (by rw [← HU.out]; exact Blk.new _ _ _)
  go_wp2_with fail
  generalize hw6 : w4.alloc (.cells #[.int .i64 5, .int .i64 pa, .int .i64 pz, .int .i64 pb, .string ps] 25) = w6 at *
  generalize hg5 : w4.heap.size = g5 at *
  clear hw6 hg5 HU L4
  refine region_anyZ (fun w' => Blk w' g5 25 (uA (rec_ 5 9))) 21 (by kernel_rfl) ?_
  refine takeG 0 (.move (.tmp 2)) (some 23) none (.int .i64 0) (by kernel_rfl) (by kernel_rfl) (by kernel_rfl) (fun _ _ _ h => h) (fun o wq e hS => exec_move wq e (by kernel_rfl)) HS.out ?_
  refine takeG 1 (.binOp .eql 28 (.tmp 23) (.const (.int .i64 0)) 28) (some 24) none (.bool true) (by kernel_rfl) (by kernel_rfl) (by kernel_rfl) (fun _ _ _ h => h) (fun o wq e hS => exec_bin (u1 := .int .i64 0) (u2 := (.int .i64 0)) wq e (by kernel_rfl) (by kernel_rfl) (eqG_int ..) (by kernel_rfl)) HS.out ?_
  refine takeG 2 (.move (.tmp 24)) (some 25) none (.bool true) (by kernel_rfl) (by kernel_rfl) (by kernel_rfl) (fun _ _ _ h => h) (fun o wq e hS => exec_move wq e (by kernel_rfl)) HS.out ?_
  refine takeG 3 (.move (.tmp 4)) (some 26) (some (2, true)) (.int .i64 0) (by kernel_rfl) (by kernel_rfl) (by kernel_rfl) (fun _ _ _ h => h) (fun o wq e hS => exec_move wq e (by kernel_rfl)) HS.out ?_
  refine takeG 4 (.binOp .eql 28 (.tmp 26) (.const (.int .i64 0)) 28) (some 27) (some (2, true)) (.bool true) (by kernel_rfl) (by kernel_rfl) (by kernel_rfl) (fun _ _ _ h => h) (fun o wq e hS => exec_bin (u1 := .int .i64 0) (u2 := (.int .i64 0)) wq e (by kernel_rfl) (by kernel_rfl) (eqG_int ..) (by kernel_rfl)) HS.out ?_
  refine takeG 5 (.pick (.tmp 25) (.tmp 27) (.const (Value.bool false))) (some 28) none (.bool true) (by kernel_rfl) (by kernel_rfl) (by kernel_rfl) (fun _ _ _ h => h) (fun o wq e hS => exec_pick (b := true) wq e (by kernel_rfl) (by kernel_rfl)) HS.out ?_
  refine takeG 6 (.move (.tmp 28)) (some 29) none (.bool true) (by kernel_rfl) (by kernel_rfl) (by kernel_rfl) (fun _ _ _ h => h) (fun o wq e hS => exec_move wq e (by kernel_rfl)) HS.out ?_
  refine takeG 7 (.move (.tmp 3)) (some 30) (some (6, true)) (.int .i64 5) (by kernel_rfl) (by kernel_rfl) (by kernel_rfl) (fun _ _ _ h => h) (fun o wq e hS => exec_move wq e (by kernel_rfl)) HS.out ?_
  refine takeG 8 (.binOp .eql 3 (.tmp 30) (.const (.int .i64 5)) 3) (some 31) (some (6, true)) (.bool true) (by kernel_rfl) (by kernel_rfl) (by kernel_rfl) (fun _ _ _ h => h) (fun o wq e hS => exec_bin (u1 := .int .i64 5) (u2 := (.int .i64 5)) wq e (by kernel_rfl) (by kernel_rfl) (eqG_int ..) (by kernel_rfl)) HS.out ?_
  refine takeG 9 (.pick (.tmp 29) (.tmp 31) (.const (Value.bool false))) (some 32) none (.bool true) (by kernel_rfl) (by kernel_rfl) (by kernel_rfl) (fun _ _ _ h => h) (fun o wq e hS => exec_pick (b := true) wq e (by kernel_rfl) (by kernel_rfl)) HS.out ?_
  refine takeG 10 (.move (.tmp 32)) (some 33) none (.bool true) (by kernel_rfl) (by kernel_rfl) (by kernel_rfl) (fun _ _ _ h => h) (fun o wq e hS => exec_move wq e (by kernel_rfl)) HS.out ?_
  refine takeG 11 (.move (.tmp 6)) (some 34) (some (10, true)) (.int .i64 0) (by kernel_rfl) (by kernel_rfl) (by kernel_rfl) (fun _ _ _ h => h) (fun o wq e hS => exec_move wq e (by kernel_rfl)) HS.out ?_
  refine takeG 12 (.binOp .eql 28 (.tmp 34) (.const (.int .i64 0)) 28) (some 35) (some (10, true)) (.bool true) (by kernel_rfl) (by kernel_rfl) (by kernel_rfl) (fun _ _ _ h => h) (fun o wq e hS => exec_bin (u1 := .int .i64 0) (u2 := (.int .i64 0)) wq e (by kernel_rfl) (by kernel_rfl) (eqG_int ..) (by kernel_rfl)) HS.out ?_
  refine takeG 13 (.pick (.tmp 33) (.tmp 35) (.const (Value.bool false))) (some 36) none (.bool true) (by kernel_rfl) (by kernel_rfl) (by kernel_rfl) (fun _ _ _ h => h) (fun o wq e hS => exec_pick (b := true) wq e (by kernel_rfl) (by kernel_rfl)) HS.out ?_
  refine takeG 14 (.move (.tmp 36)) (some 37) none (.bool true) (by kernel_rfl) (by kernel_rfl) (by kernel_rfl) (fun _ _ _ h => h) (fun o wq e hS => exec_move wq e (by kernel_rfl)) HS.out ?_
  refine takeG 15 (.load 25 (.tmp 5)) (some 38) (some (14, true)) (.agg (uA (rec_ 5 9))) (by kernel_rfl) (by kernel_rfl) (by kernel_rfl) (fun _ _ _ h => h) (fun o wq e hS => exec_load (x := (.tmp 5)) e (by kernel_rfl) (load_uber hS)) HS.out ?_
  refine loneG 16 (.call ⟨.value (.func 16), #[(.const (.int .i64 9))], #[3]⟩) (some 39) (some (14, true)) (by kernel_rfl) (by kernel_rfl) (by kernel_rfl) ?_
  intro o ho hod
  refine wp_callC (f := 16) (args := #[.int .i64 9]) (by cases o; cases ho; kernel_rfl) (law_ptr 9 _ (by omega)) ?_
  rintro e w7 ⟨rfl, b7⟩
  refine ⟨.agg (ptA (P 9)), rfl, ?_⟩
  rw [hod]
  clear hod ho
  have HS7 := Lib.hid (HS.out.new_ (b7 : Below w6.drew.heap.size w6.drew w7))
  have L7 := Lib.hid (L6.out.drew.trans (b7.mono L6.out.drew.size))
  clear b7 L6 HS
  refine ⟨fun _ => HS7.out, ?_⟩
  refine takeG 17 (.build 25 #[(0, (.const (.int .i64 5))), (1, (.tmp 39))]) (some 40) (some (14, true)) (.agg (uA (rec_ 5 9))) (by kernel_rfl) (by kernel_rfl) (by kernel_rfl) (fun _ _ _ h => h) (fun o wq e hS => exec_bld2 (u0 := (.int .i64 5)) (u1 := .agg (ptA (P 9))) wq e (by kernel_rfl) (by kernel_rfl) (build_uber 5 (P 9) _)) HS7.out ?_
  refine takeG 18 (.binOp .eql 25 (.tmp 38) (.tmp 40) 25) (some 41) (some (14, true)) (.bool true) (by kernel_rfl) (by kernel_rfl) (by kernel_rfl) (fun _ _ _ h => h) (fun o wq e hS => exec_bin (u1 := .agg (uA (rec_ 5 9))) (u2 := .agg (uA (rec_ 5 9))) wq e (by kernel_rfl) (by kernel_rfl) (eqG_agg _ _ _ _ _ _ (by kernel_rfl) _) (eq_uber (rec_ 5 9) _)) HS7.out ?_
  refine takeG 19 (.pick (.tmp 37) (.tmp 41) (.const (Value.bool false))) (some 42) none (.bool true) (by kernel_rfl) (by kernel_rfl) (by kernel_rfl) (fun _ _ _ h => h) (fun o wq e hS => exec_pick (b := true) wq e (by kernel_rfl) (by kernel_rfl)) HS7.out ?_
  refine lastS 20 (.assign (.tmp 42)) (some 0) (.bool true) (by kernel_rfl) (by kernel_rfl) (by kernel_rfl) HS7.out (fun o e => exec_assign _ e (by kernel_rfl)) ?_
  simp only [put_some, put_none, List.setIfInBounds_toArray, List.set_cons_succ, List.set_cons_zero]
  go_wp2_with fail
  go_ret
  exact ⟨rfl, L7.out⟩
end Lab
end Go.Proofs.YtjnnmeolonbedaaDoor
namespace Go.Proofs.YtjnnmeolonbedaaDoor
open Go Go.RowKit
set_option maxRecDepth 100000
set_option linter.unusedVariables false
namespace Lab
theorem isize_uberR : (Tryd.prog.info? 31).map (·.size) = some 5 := by kernel_rfl
theorem set5_loadR {w : World} {g : Nat} {x0 x1 x2 x3 x4 : Value} (h : Blk w g 31 #[x0, x1, x2, x3, x4]) (a b c d e : Value) : (loadVar 31 ⟨g, 0, none⟩).run Tryd.prog (set5 w g a b c d e) = .ok (.agg #[a, b, c, d, e]) (set5 w g a b c d e) :=
  loadVar_blk (set5_blk h a b c d e) Tryd.underlying31 rfl isize_uberR
set_option maxHeartbeats 1600000 in
theorem docEncode_lab (u : U) (w : World) (hf : FitU u) :
    Calls Tryd.prog 9 #[.agg (uA u)] w fun e w' => e = .returned (.tuple #[.string (K.txt (outB u)), .int .i64 (encE u)]) ∧ Below w.heap.size w w' := by
  have HF := Lib.hid hf
  have HP := Lib.hid fun W => docPtr_any u.p W hf.2
  have L1 : Hid (Below w.heap.size w (w.alloc (.cells (uA u) 31))) := Lib.hid ((Below.refl _ _).alloc (Nat.le_refl _) _)
  have X1 : Hid (Blk (w.alloc (.cells (uA u) 31)) w.heap.size 31 (uA u)) := Lib.hid (Blk.new _ _ _)
  clear hf
  by_cases hp : K.okP u.p = true
  · have HG := Lib.hid (its_good hp HF.out)
    have HS := Lib.hid (secE_its hp HF.out)
    have HSL := Lib.hid (secL_its hp HF.out)
    have HE : Hid (encE u = if 1 ≤ u.t then 0 else 2) := Lib.hid (by unfold encE okU; rw [hp]; simp)
    have HO : Hid (outB u = if 1 ≤ u.t then encL u else []) := Lib.hid (by unfold outB okU; rw [hp]; simp)
    have HPE : Hid (K.ptrE u.p = 0) := Lib.hid (by unfold K.ptrE; rw [if_pos hp])
    have RN := Lib.hid fun (W : World) => rdi_new W (itsU u)
    rw [HPE.out] at HP
    obtain ⟨t, ⟨a, z, b, s⟩⟩ := u
    simp only [its_cells] at RN
    unfold ptA at HP
    unfold uA at L1 X1 ⊢
    dsimp only at HP L1 X1 HE HO ⊢
    obtain ⟨PS, hPS⟩ : ∃ PS, PS = K.ptrS ⟨a, z, b, s⟩ := ⟨_, rfl⟩
    rw [← hPS] at HP RN
    have d0 := X1.out.cell 0
    have d1 := X1.out.cell 1
    have d2 := X1.out.cell 2
    have d3 := X1.out.cell 3
    have d4 := X1.out.cell 4
    simp only [List.getElem?_toArray, List.getElem?_cons_zero, List.getElem?_cons_succ] at d0 d1 d2 d3 d4
    clear hp HPE HF hPS
    by_cases ht : 1 ≤ t
    · have t1 : decide (t < 1) = false := by simp; omega
      rw [HE.out, HO.out, if_pos ht, if_pos ht]
      obtain ⟨TT, hTT⟩ : ∃ TT, TT = K.txt (encL ⟨t, ⟨a, z, b, s⟩⟩) := ⟨_, rfl⟩
      rw [← hTT]
      have HTT := Lib.hid hTT
      clear HE HO ht hTT
      go_enter Tryd.func9, Tryd.ntmps9
      go_wp2_with fail
      refine (HP.out _).mono ?_
      rintro e w2 ⟨rfl, hl2⟩
      have L2 := Lib.hid (L1.out.trans (hl2.mono (by simp)))
      have X2 := Lib.hid (X1.out.below hl2 (by simp))
      have s2 := L2.out.size
      clear d0 d1 d2 d3 d4
      have d0 := X2.out.cell 0
      simp only [List.getElem?_toArray, List.getElem?_cons_zero, List.getElem?_cons_succ] at d0
      have R3 := Lib.hid (RN.out w2)
      have L3 : Hid (Below w.heap.size w (w2.alloc (.cells #[.int .i64 1, .int .i64 77, .string ⟨#[]⟩, .int .i64 1, .int .i64 t, .string ⟨#[]⟩, .int .i64 2, .int .i64 0, .string PS] 61))) := Lib.hid (L2.out.alloc s2 _)
      clear hl2 X1 L1 RN
      go_wp2_with fail
      refine (docSector_any (some ⟨w2.heap.size, 0, none⟩) (itsU ⟨t, ⟨a, z, b, s⟩⟩) 3 (w2.heap.size + 1) _ R3.out (by simp) HG.out (Nat.le_refl _) (by unfold maxLen; omega)).mono ?_
      rintro e w4 ⟨rfl, hl4⟩
      have L4 := Lib.hid (L3.out.trans (hl4.mono L3.out.size))
      rw [HSL.out, HS.out, ← HTT.out]
      clear hl4 d0 L3 R3 HTT
      go_wp2_with fail
      go_ret2
      exact ⟨rfl, L4.out⟩
    · have t1 : decide (t < 1) = true := by simp; omega
      rw [HE.out, HO.out, if_neg ht, if_neg ht]
      clear HE HO ht
      go_enter Tryd.func9, Tryd.ntmps9
      go_wp2_with fail
      refine (HP.out _).mono ?_
      rintro e w2 ⟨rfl, hl2⟩
      have L2 := Lib.hid (L1.out.trans (hl2.mono (by simp)))
      have X2 := Lib.hid (X1.out.below hl2 (by simp))
      clear d0 d1 d2 d3 d4
      have d0 := X2.out.cell 0
      simp only [List.getElem?_toArray, List.getElem?_cons_zero, List.getElem?_cons_succ] at d0
      clear hl2 X1 L1 RN
      go_wp2_with fail
      go_ret2
      exact ⟨rfl, L2.out⟩
  · have hp' : K.okP u.p = false := by simpa using hp
    have HE : Hid (encE u = 2) := Lib.hid (by unfold encE okU; rw [hp']; simp)
    have HO : Hid (outB u = []) := Lib.hid (by unfold outB okU; rw [hp']; simp)
    have HPE : Hid (K.ptrE u.p = 2) := Lib.hid (by unfold K.ptrE; rw [if_neg hp])
    rw [HPE.out] at HP
    rw [HE.out, HO.out]
    obtain ⟨t, ⟨a, z, b, s⟩⟩ := u
    unfold ptA at HP
    unfold uA at L1 X1 ⊢
    dsimp only at HP L1 X1 ⊢
    obtain ⟨PS, hPS⟩ : ∃ PS, PS = K.ptrS ⟨a, z, b, s⟩ := ⟨_, rfl⟩
    rw [← hPS] at HP
    have d0 := X1.out.cell 0
    have d1 := X1.out.cell 1
    have d2 := X1.out.cell 2
    have d3 := X1.out.cell 3
    have d4 := X1.out.cell 4
    simp only [List.getElem?_toArray, List.getElem?_cons_zero, List.getElem?_cons_succ] at d0 d1 d2 d3 d4
    clear hp hp' HPE HF hPS HE HO
    by_cases ht : t < 1
    · have t1 : decide (t < 1) = true := by simpa using ht
      go_enter Tryd.func9, Tryd.ntmps9
      go_wp2_with fail
      refine (HP.out _).mono ?_
      rintro e w2 ⟨rfl, hl2⟩
      have L2 := Lib.hid (L1.out.trans (hl2.mono (by simp)))
      have X2 := Lib.hid (X1.out.below hl2 (by simp))
      clear d0 d1 d2 d3 d4
      have d0 := X2.out.cell 0
      simp only [List.getElem?_toArray, List.getElem?_cons_zero, List.getElem?_cons_succ] at d0
      clear hl2 X1 L1
      go_wp2_with fail
      go_ret2
      exact ⟨rfl, L2.out⟩
    · have t1 : decide (t < 1) = false := by simpa using ht
      go_enter Tryd.func9, Tryd.ntmps9
      go_wp2_with fail
      refine (HP.out _).mono ?_
      rintro e w2 ⟨rfl, hl2⟩
      have L2 := Lib.hid (L1.out.trans (hl2.mono (by simp)))
      have X2 := Lib.hid (X1.out.below hl2 (by simp))
      clear d0 d1 d2 d3 d4
      have d0 := X2.out.cell 0
      simp only [List.getElem?_toArray, List.getElem?_cons_zero, List.getElem?_cons_succ] at d0
      clear hl2 X1 L1
      go_wp2_with fail
      go_ret2
      exact ⟨rfl, L2.out⟩
set_option maxHeartbeats 3200000 in
theorem docDecode_lab (L : List Nat) (w : World) (hL : ∀ x ∈ L, x < 256) (hsz : L.length ≤ 1000) :
    Calls Tryd.prog 12 #[.string (K.txt L)] w fun e w' => DecU L e ∧ Below w.heap.size w w' := by
  have X0 : Hid (Blk (w.alloc (.cells #[.int .i64 0, .int .i64 0, .int .i64 0, .int .i64 0, .string ⟨#[]⟩] 31)) w.heap.size 31 #[.int .i64 0, .int .i64 0, .int .i64 0, .int .i64 0, .string ⟨#[]⟩]) := Lib.hid (Blk.new _ _ _)
  have L0 : Hid (Below w.heap.size w (w.alloc (.cells #[.int .i64 0, .int .i64 0, .int .i64 0, .int .i64 0, .string ⟨#[]⟩] 31))) := Lib.hid ((Below.refl _ _).alloc (Nat.le_refl _) _)
  have HU := Lib.hid (docUnsector_any L (w.alloc (.cells #[.int .i64 0, .int .i64 0, .int .i64 0, .int .i64 0, .string ⟨#[]⟩] 31)) hL hsz)
  have HL := Lib.hid hL
  clear hL
  obtain ⟨TL, hTL⟩ : ∃ TL, TL = K.txt L := ⟨_, rfl⟩
  rw [← hTL] at HU ⊢
  have HTL := Lib.hid hTL
  clear hTL
  go_enter Tryd.func12, Tryd.ntmps12
  go_wp2_with fail
  refine HU.out.mono ?_
  rintro e w1 ⟨hu, hl1⟩
  obtain ⟨A1, c1, rfl, r1, lc1, cm1⟩ := hu
  have L1 := Lib.hid (L0.out.trans (hl1.mono (by simp)))
  have X1 := Lib.hid (X0.out.below hl1 (by simp))
  have s1 := L1.out.size
  clear hl1 X0 L0 HU
  obtain ⟨⟨d0, d1, d2, d3, d4⟩, e0, e1, e2, e3, e4⟩ := uber_facts X1.out
  by_cases hE : unsE L = 0
  rotate_left
  · have HN := Lib.hid (not_is hE)
    obtain ⟨ue, hue⟩ : ∃ ue, ue = unsE L := ⟨_, rfl⟩
    rw [← hue] at hE ⊢
    have t1 : (ue != 0) = true := by simpa using hE
    clear hE hue r1 lc1 cm1
    go_wp2_with fail
    refine bodyPost_ret (results_cell2 rfl rfl (set5_loadR X1.out _ _ _ _ _) rfl) rfl ?_
    exact ⟨.inr ⟨HN.out, rfl⟩, set5_below L1.out (Nat.le_refl _) _ _ _ _ _⟩
  have HE := Lib.hid hE
  rw [hE]
  clear hE
  by_cases h3 : (unsL L).length = 3
  rotate_left
  · have HN := Lib.hid (not_is3 h3)
    obtain ⟨n1, hn1⟩ : ∃ n1, n1 = (unsL L).length := ⟨_, rfl⟩
    rw [← hn1] at h3 lc1 ⊢
    have t1 : ((n1 : Int) != 3) = true := by simp; omega
    clear h3 hn1 r1
    go_wp2_with fail
    refine bodyPost_ret (results_cell2 rfl rfl (set5_loadR X1.out _ _ _ _ _) rfl) rfl ?_
    exact ⟨.inr ⟨HN.out, rfl⟩, set5_below L1.out (Nat.le_refl _) _ _ _ _ _⟩
  obtain ⟨l, hl⟩ : ∃ l, l = unsL L := ⟨_, rfl⟩
  rw [← hl] at h3 r1 lc1 ⊢
  match l, h3 with
  | [x0, x1, x2], _ =>
  have HLL := Lib.hid hl.symm
  clear hl
  obtain ⟨b, o, hA, hb, a0, a1, a2⟩ := r1 0 x0 rfl
  obtain ⟨b', o', hA', _, b0, b1, b2⟩ := r1 1 x1 rfl
  rw [hA] at hA'; injection hA' with hA'; injection hA' with q1 q2; subst q1; subst q2
  obtain ⟨b', o', hA', _, g0, g1, g2⟩ := r1 2 x2 rfl
  rw [hA] at hA'; injection hA' with hA'; injection hA' with q1 q2; subst q1; subst q2
  subst hA
  rw [show o + 0 * 3 = o by omega] at a0 a1 a2
  rw [show o + 1 * 3 = o + 3 by omega] at b0 b1 b2
  rw [show o + 2 * 3 = o + 6 by omega] at g0 g1 g2
  rw [show o + 3 + 1 = o + 4 by omega] at b1
  rw [show o + 6 + 2 = o + 8 by omega] at g2
  have hx2 : Hid (x2.s.size ≤ maxLen) := Lib.hid (by
    have hr := ((uns_zero HL.out HE.out).2 x2 (by rw [HLL.out]; simp)).cases
    unfold maxLen
    rcases hr with h | h
    · rw [h.2]; show 0 ≤ _; exact Nat.zero_le _
    · omega)
  have hln : ([x0, x1, x2] : List K.It).length = 3 := rfl
  rw [hln] at lc1 ⊢
  clear hln r1 b0 b2 g0 g1
  obtain ⟨y0, n0, z0⟩ := x0
  obtain ⟨y1, n1, z1⟩ := x1
  obtain ⟨y2, n2, z2⟩ := x2
  dsimp only at a0 a1 a2 b1 g2 hx2
  have HUP := Lib.hid fun W => docUnptr_any z2 W hx2.out
  unfold maxLen at cm1
  go_wp2_with fail
  refine (HUP.out _).mono ?_
  rintro e w3 ⟨hup, hl3⟩
  have L3 := Lib.hid (L1.out.trans (hl3.mono s1))
  have X3 := Lib.hid (X1.out.below hl3 X1.out.lt)
  have k0 := (hl3.cell (p := ⟨b, o, none⟩) hb).trans a0
  have k1 := (hl3.cell (p := ⟨b, o + 1, none⟩) hb).trans a1
  have k2 := (hl3.cell (p := ⟨b, o + 2, none⟩) hb).trans a2
  have k4 := (hl3.cell (p := ⟨b, o + 4, none⟩) hb).trans b1
  have s3 := L3.out.size
  have hb3 : b < w3.heap.size := Nat.lt_of_lt_of_le hb hl3.size
  have hg3 := X1.out.lt
  clear hl3 a0 a1 a2 b1 g2 d0 d1 d2 d3 d4 e0 e1 e2 e3 e4 HUP L1 X1
  rcases hup with ⟨hq, rfl⟩ | ⟨p, hq, hfp, hok, rfl⟩
  · have HN : Hid (∀ u, ¬ Is L u) := Lib.hid fun u hu => by
      obtain ⟨_, _, h2⟩ := is_items hu HLL.out
      injection h2 with _ _ h2
      rw [h2, unP_ptrS (ok_p hu.1) hu.1.2.2] at hq
      cases hq
    have X4 := Lib.hid (X3.out.alloc (.cells #[.int .i64 0, .int .i64 0, .int .i64 0, .string ⟨#[]⟩] 23))
    have L4 := Lib.hid (L3.out.alloc s3 (.cells #[.int .i64 0, .int .i64 0, .int .i64 0, .string ⟨#[]⟩] 23))
    obtain ⟨⟨d0, d1, d2, d3, d4⟩, e0, e1, e2, e3, e4⟩ := uber_facts X4.out
    simp only [ptA, K.zeroP]
    clear hq k0 k1 k2 k4 hx2 HE HLL
    go_wp2_with fail
    refine bodyPost_ret (results_cell2 rfl rfl (set5_loadR X4.out _ _ _ _ _) rfl) rfl ?_
    exact ⟨.inr ⟨HN.out, rfl⟩, set5_below L4.out (Nat.le_refl _) _ _ _ _ _⟩
  · have HQ := Lib.hid hq
    have HFP := Lib.hid hfp
    have HOK := Lib.hid hok
    have HNIS : Hid (∀ v, Is L v → v = ⟨n1, p⟩ ∧ okU ⟨n1, p⟩ = true) := Lib.hid fun v hv => by
      obtain ⟨_, h1, h2⟩ := is_items hv HLL.out
      injection h1 with _ h1 _
      injection h2 with _ _ h2
      have h3 := HQ.out
      rw [h2, unP_ptrS (ok_p hv.1) hv.1.2.2] at h3
      injection h3 with h3
      have e : v = ⟨n1, p⟩ := by
        obtain ⟨vt, vp⟩ := v
        dsimp only at h1 h3
        rw [h1, h3]
      exact ⟨e, by rw [← e]; exact hv.1.1⟩
    have HFU : Hid (FitU ⟨n1, p⟩) := Lib.hid ⟨good_of HL.out HE.out ⟨y1, n1, z1⟩ (by rw [HLL.out]; simp), hfp⟩
    have HDE := Lib.hid fun W => docEncode_lab ⟨n1, p⟩ W HFU.out
    obtain ⟨pa, pz, pb, ps⟩ := p
    simp only [ptA]
    unfold uA at HDE
    dsimp only at HDE
    have bW : Below w3.heap.size w3 (w3.alloc (.cells #[.int .i64 pa, .int .i64 pz, .int .i64 pb, .string ps] 23)) := (Below.refl _ _).alloc (Nat.le_refl _) _
    have X4 := Lib.hid (X3.out.alloc (.cells #[.int .i64 pa, .int .i64 pz, .int .i64 pb, .string ps] 23))
    have L4 := Lib.hid (L3.out.alloc s3 (.cells #[.int .i64 pa, .int .i64 pz, .int .i64 pb, .string ps] 23))
    have Y4 := Lib.hid (Blk.new w3 23 #[.int .i64 pa, .int .i64 pz, .int .i64 pb, .string ps])
    have j4 := (bW.cell (p := ⟨b, o + 4, none⟩) hb3).trans k4
    obtain ⟨⟨f0, f1, f2, f3⟩, _, _, _, _⟩ := ptr_facts Y4.out
    have c31 : 3 ≤ c1 := lc1
    have hs4 : Hid (w.heap.size ≤ (w3.alloc (.cells #[.int .i64 pa, .int .i64 pz, .int .i64 pb, .string ps] 23)).heap.size) := Lib.hid L4.out.size
    have hb4 : b < (w3.alloc (.cells #[.int .i64 pa, .int .i64 pz, .int .i64 pb, .string ps] 23)).heap.size := by simp; omega
    have hy4 := Y4.out.lt
    clear hq hfp hok k0 k1 k2 k4 hx2 bW X3 L3
    go_upto_region 7 with (fail)
    generalize hw4 : w3.alloc (.cells #[.int .i64 pa, .int .i64 pz, .int .i64 pb, .string ps] 23) = w4 at *
    generalize hg6 : w3.heap.size = g6 at *
    clear hw4 hg6
    go_region
    have X5 : Hid (Blk (w4.alloc (.cells #[.int .i64 n1, .int .i64 pa, .int .i64 pz, .int .i64 pb, .string ps] 31)).drew w.heap.size 31 #[.int .i64 0, .int .i64 0, .int .i64 0, .int .i64 0, .string ⟨#[]⟩]) := Lib.hid ((X4.out.alloc _).drew)
    have L5 : Hid (Below w.heap.size w (w4.alloc (.cells #[.int .i64 n1, .int .i64 pa, .int .i64 pz, .int .i64 pb, .string ps] 31)).drew) := Lib.hid ((L4.out.alloc hs4.out _).drew)
    have Y5 : Hid (Blk (w4.alloc (.cells #[.int .i64 n1, .int .i64 pa, .int .i64 pz, .int .i64 pb, .string ps] 31)).drew w4.heap.size 31 #[.int .i64 n1, .int .i64 pa, .int .i64 pz, .int .i64 pb, .string ps]) := Lib.hid ((Blk.new _ _ _).drew)
    generalize hw5 : (w4.alloc (.cells #[.int .i64 n1, .int .i64 pa, .int .i64 pz, .int .i64 pb, .string ps] 31)).drew = w5 at *
    generalize hg7 : w4.heap.size = g7 at *
    clear hw5 hg7 X4 L4 Y4 f0 f1 f2 f3 j4
    obtain ⟨⟨i0, i1, i2, i3, i4⟩, _, _, _, _, _⟩ := uber_facts Y5.out
    go_wp2_with fail
    refine (HDE.out _).mono ?_
    rintro e w6 ⟨rfl, hl6⟩
    have L6 := Lib.hid (L5.out.trans (hl6.mono L5.out.size))
    have X6 := Lib.hid (X5.out.below hl6 X5.out.lt)
    have Y6 := Lib.hid (Y5.out.below hl6 Y5.out.lt)
    obtain ⟨⟨d0, d1, d2, d3, d4⟩, e0, e1, e2, e3, e4⟩ := uber_facts X6.out
    clear hl6 i0 i1 i2 i3 i4 X5 Y5 L5 HDE
    obtain ⟨⟨i0, i1, i2, i3, i4⟩, _, _, _, _, _⟩ := uber_facts Y6.out
    by_cases hok : okU ⟨n1, ⟨pa, pz, pb, ps⟩⟩ = true
    rotate_left
    · have HN : Hid (∀ u, ¬ Is L u) := Lib.hid fun u hu => hok (HNIS.out u hu).2
      have hee : encE ⟨n1, ⟨pa, pz, pb, ps⟩⟩ = 2 := if_neg hok
      rw [hee]
      generalize K.txt (outB ⟨n1, ⟨pa, pz, pb, ps⟩⟩) = TT
      clear hok hee HNIS HQ HFP HOK HFU HE HLL HTL
      go_wp2_with fail
      refine bodyPost_ret (results_cell2 rfl rfl (set5_loadR X6.out _ _ _ _ _) rfl) rfl ?_
      exact ⟨.inr ⟨HN.out, rfl⟩, set5_below L6.out (Nat.le_refl _) _ _ _ _ _⟩
    · have hee : encE ⟨n1, ⟨pa, pz, pb, ps⟩⟩ = 0 := if_pos hok
      have heb : outB ⟨n1, ⟨pa, pz, pb, ps⟩⟩ = encL ⟨n1, ⟨pa, pz, pb, ps⟩⟩ := if_pos hok
      rw [hee, heb]
      by_cases hLe : encL ⟨n1, ⟨pa, pz, pb, ps⟩⟩ = L
      · have HI : Hid (Is L ⟨n1, ⟨pa, pz, pb, ps⟩⟩) := Lib.hid ⟨⟨hok, HFU.out⟩, hLe.symm⟩
        rw [hLe, ← HTL.out]
        have t1 : (TL.toList == TL.toList) = true := beq_self_eq_true _
        clear hok hee heb hLe HNIS HQ HFP HOK HFU HE HLL HTL
        go_wp2_with fail
        refine bodyPost_ret (results_cell2 rfl rfl (set5_loadR X6.out _ _ _ _ _) rfl) rfl ?_
        exact ⟨.inl ⟨_, HI.out, rfl⟩, set5_below L6.out (Nat.le_refl _) _ _ _ _ _⟩
      · have HN : Hid (∀ u, ¬ Is L u) := Lib.hid fun u hu => hLe (by rw [← (HNIS.out u hu).1]; exact hu.2.symm)
        have t1 := txt_ne (encL_lt (by have h := hok; unfold okU at h; rw [Bool.and_eq_true] at h; exact h.2) HFU.out) HL.out hLe
        rw [← HTL.out] at t1
        obtain ⟨TT, hTT⟩ : ∃ TT, TT = K.txt (encL ⟨n1, ⟨pa, pz, pb, ps⟩⟩) := ⟨_, rfl⟩
        rw [← hTT] at t1 ⊢
        clear hok hee heb hLe hTT HNIS HQ HFP HOK HFU HE HLL HTL
        go_wp2_with fail
        refine bodyPost_ret (results_cell2 rfl rfl (set5_loadR X6.out _ _ _ _ _) rfl) rfl ?_
        exact ⟨.inr ⟨HN.out, rfl⟩, set5_below L6.out (Nat.le_refl _) _ _ _ _ _⟩
end Lab
end Go.Proofs.YtjnnmeolonbedaaDoor
