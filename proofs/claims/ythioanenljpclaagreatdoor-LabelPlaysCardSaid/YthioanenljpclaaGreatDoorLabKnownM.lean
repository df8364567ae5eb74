/-
  The document's 'DocSlots', and the program's 'Slots' of any number, by contracts. Conditions: those that each theorem types.
-/
import Derived.Test.YthioanenljpclaaGreatDoorLabRefN
import Derived.Test.YthioanenljpclaaGreatDoorLawIntsM
namespace Go.Proofs.YthioanenljpclaaGreatDoor
open Go Go.RowKit refRack
set_option maxRecDepth 100000
set_option linter.unusedVariables false
namespace Lab
def csI (x : Int) : List Value := [.int .i64 x]
abbrev OwnI (w : World) (base : Nat) (v : Value) (l : List Int) : Prop := Gr.OwnG 3 1 csI w base v l
theorem info_intR : (Tryz.prog.info? 3).map (fun i => (i.zero, i.size, i.bytes)) = some (some (.int .i64 0), 1, 8) := by kernel_rfl
theorem appI {w : World} {base : Nat} {v : Value} {l : List Int} (h : OwnI w base v l) (x : Int) (hl : l.length ≤ 1000) (hb : base ≤ w.heap.size) (ty : TypeId) :
    ∃ v' w', (Builtin.append_ #[32, 32] ty #[v, .slice (some ⟨w.heap.size, 0, none⟩) 1 1]).run Tryz.prog (w.alloc (.cells #[.int .i64 x] 3)) = .ok v' w' ∧ OwnI w' base v' (l ++ [x]) ∧ Below base w w' ∧ (∀ k, k < w.heap.size → v.ownBlock ≠ some k → w'.heap[k]? = w.heap[k]?) := by
  have hB : Below base w (w.alloc (.cells (csI x).toArray 3)) := (Below.refl _ _).alloc hb _
  have hB2 : Below w.heap.size w (w.alloc (.cells (csI x).toArray 3)) := (Below.refl _ _).alloc (Nat.le_refl _) _
  have hs : (w.alloc (.cells (csI x).toArray 3)).heap.size = w.heap.size + 1 := by simp
  obtain ⟨v', w', e1, e2, e3, e4⟩ := Gr.run_append_b (m := [x]) (c := 1) (k := 1) (cs := csI) (fun _ => rfl) (fun x u hu => by simp [csI] at hu; subst hu; rfl) Tryz.underlying32 info_intR rfl (by omega) ty (h.below hB2 (Nat.le_refl _)) (ad := ⟨w.heap.size, 0, none⟩) (Gr.one_cells x w 3) (by simp; omega) (by
      have h1 : ([x] : List Int).length = 1 := rfl
      rw [h1]
      omega) (by rw [hs]; omega)
  exact ⟨v', w', e1, e2, hB.trans ⟨e3.os, e3.tape, e3.output, e3.size, fun g hg => e3.block g (by omega) (fun e => by have := (h.lt e.symm).2; omega)⟩, fun k hk hne => (e3.block k (by omega) (fun e => hne e.symm)).trans (hB2.block k hk)⟩
theorem bs_intR (x : Int) (w : World) : (Instr.buildSlice 32 1 #[(0, .int .i64 x)]).run Tryz.prog w = .ok (.slice (some ⟨w.heap.size, 0, none⟩) 1 1) (w.alloc (.cells #[.int .i64 x] 3)) := by kernel_rfl
/-- what the document tells of a drive's slots -/
noncomputable def slL (t : RS) (d : Nat) : List Int := (List.range 8).map fun a => (wslot t d a).t
section
variable {B : Nat}
set_option maxHeartbeats 3200000 in
theorem dslots_bad (w : World) (g : Nat) (t : RS) (D : Int) (h : TAt B w g t) (h1 : 0 < t.nd) (hbad : ¬ 8 < t.ns ∨ t.isD D = false) :
    Calls Tryz.prog 29 #[.pointer (some ⟨g, 0, none⟩), .int .i64 D] w fun e w' => e = .returned (.tuple #[.slice none 0 0, .int .i64 1]) ∧ w' = w := by
  have HR := Lib.hid (right_k w g t h h1)
  have HI : Hid (Calls Tryz.prog 42 #[.pointer (some ⟨g, 0, none⟩), .int .i64 D] w fun e w' => e = .returned (.bool (t.isD D)) ∧ w' = w) := Lib.hid (by
    obtain ⟨vL, vG, vW, H, C, hk⟩ := h
    exact is_k w g t D hk)
  clear h h1
  by_cases h8 : 8 < t.ns
  · rw [decide_eq_true h8] at HR
    have hi : t.isD D = false := hbad.resolve_left (fun h => h h8)
    rw [hi] at HI
    clear hbad h8 hi
    go_enter Tryz.func29, Tryz.ntmps29
    go_wp2_with fail
    refine HR.out.mono ?_
    rintro e w' ⟨rfl, hw⟩
    rw [hw]
    clear hw
    go_wp2_with fail
    refine HI.out.mono ?_
    rintro e w' ⟨rfl, hw⟩
    rw [hw]
    clear hw
    go_wp2_with fail
    go_ret2
    exact ⟨rfl, rfl⟩
  · rw [decide_eq_false h8] at HR
    clear hbad h8 HI
    go_enter Tryz.func29, Tryz.ntmps29
    go_wp2_with fail
    refine HR.out.mono ?_
    rintro e w' ⟨rfl, hw⟩
    rw [hw]
    clear hw
    go_wp2_with fail
    go_ret2
    exact ⟨rfl, rfl⟩
set_option maxHeartbeats 3200000 in
theorem dslots_no (w : World) (g : Nat) (t : RS) (d : Nat) (h : TAt B w g t) (hd : d < t.nd) (h8 : 8 < t.ns) (hy : t.deny (d : Int) 0 ≠ 0) :
    Calls Tryz.prog 29 #[.pointer (some ⟨g, 0, none⟩), .int .i64 (d : Int)] w fun e w' => e = .returned (.tuple #[.slice none 0 0, .int .i64 (t.deny (d : Int) 0)]) ∧ w' = w := by
  have HR := Lib.hid (right_k w g t h (by omega))
  rw [decide_eq_true h8] at HR
  have hi : t.isD (d : Int) = true := by unfold RS.isD; simp; omega
  have HI : Hid (Calls Tryz.prog 42 #[.pointer (some ⟨g, 0, none⟩), .int .i64 (d : Int)] w fun e w' => e = .returned (.bool true) ∧ w' = w) := Lib.hid (by
    obtain ⟨vL, vG, vW, H, C, hk⟩ := h
    rw [← hi]
    exact is_k w g t _ hk)
  have HW := Lib.hid (whole_no w g t d h hy)
  obtain ⟨y, hyy⟩ : ∃ y, y = t.deny (d : Int) 0 := ⟨_, rfl⟩
  rw [← hyy] at hy HW ⊢
  clear h h8 hi hd hyy
  go_enter Tryz.func29, Tryz.ntmps29
  go_wp2_with fail
  refine HR.out.mono ?_
  rintro e w' ⟨rfl, hw⟩
  rw [hw]
  clear hw
  go_wp2_with fail
  refine HI.out.mono ?_
  rintro e w' ⟨rfl, hw⟩
  rw [hw]
  clear hw
  go_wp2_with fail
  refine HW.out.mono ?_
  rintro e w' ⟨rfl, hw⟩
  rw [hw]
  clear hw
  go_wp2_with fail
  go_ret2
  exact ⟨rfl, rfl⟩
set_option maxHeartbeats 3200000 in
theorem dslots_yes (w : World) (g : Nat) (t : RS) (d : Nat) (h : TAt B w g t) (hd : d < t.nd) (h8 : 8 < t.ns) (hy : t.deny (d : Int) 0 = 0) (hX : ∀ a j, j < 128 → t.holds d a j < 256) :
    Calls Tryz.prog 29 #[.pointer (some ⟨g, 0, none⟩), .int .i64 (d : Int)] w fun e w' => (∃ v, e = .returned (.tuple #[v, .int .i64 0]) ∧ OwnI w' w.heap.size v (slL t d)) ∧ Below w.heap.size w w' := by
  have HR := Lib.hid (right_k w g t h (by omega))
  rw [decide_eq_true h8] at HR
  have hi : t.isD (d : Int) = true := by unfold RS.isD; simp; omega
  have HI : Hid (Calls Tryz.prog 42 #[.pointer (some ⟨g, 0, none⟩), .int .i64 (d : Int)] w fun e w' => e = .returned (.bool true) ∧ w' = w) := Lib.hid (by
    obtain ⟨vL, vG, vW, H, C, hk⟩ := h
    rw [← hi]
    exact is_k w g t _ hk)
  have HW := Lib.hid (whole_yes w g t d h h8 hy hX)
  clear h h8 hi hd hy hX
  go_enter Tryz.func29, Tryz.ntmps29
  go_wp2_with fail
  refine HR.out.mono ?_
  rintro e w' ⟨rfl, hw⟩
  rw [hw]
  clear hw
  go_wp2_with fail
  refine HI.out.mono ?_
  rintro e w' ⟨rfl, hw⟩
  rw [hw]
  clear hw
  go_wp2_with fail
  refine HW.out.mono ?_
  rintro e w1 ⟨⟨v, rfl, ho⟩, b1⟩
  obtain ⟨gl, cl, hv, hgl⟩ := ownU_shape ho (by rw [List.length_map, List.length_range]; omega)
  rw [List.length_map, List.length_range] at hv
  subst hv
  have O1 := Lib.hid ho
  have B1 := Lib.hid b1
  have HGL : Hid (gl < w1.heap.size) := Lib.hid (ho.lt rfl).1
  clear ho b1 HW hgl
  go_wp2_with fail
  go_loopw [8, 9] (fun ov iv wr => ∃ k : Nat, k ≤ 8 ∧ iv = .int .i64 (k : Int) ∧ Hid (OwnI wr w1.heap.size ov ((List.range k).map fun a => (wslot t d a).t) ∧ Below w1.heap.size w1 wr)) (fun _ iv _ => 8 - (intOf iv).toNat)
  case atStart => exact ⟨0, by omega, rfl, Lib.hid ⟨Gr.OwnG.nil _ _, Below.refl _ _⟩⟩
  case round =>
    obtain ⟨k, hk, rfl, HK⟩ := hrel
    by_cases hlt : k < 8
    · have t1 : (k : Int) < 8 := by omega
      have HO : Hid (OwnU wr w.heap.size (.slice (some ⟨gl, 0, none⟩) 8 cl) ((List.range 8).map (wslot t d))) := Lib.hid (O1.out.below HK.out.2 (Nat.le_refl _))
      obtain ⟨x0, _⟩ := cells_uR HO.out (k := k) (x := wslot t d k) (by rw [List.getElem?_map, List.getElem?_range hlt]; rfl)
      have hix := index_uR gl 8 cl k hlt wr
      obtain ⟨xt, hxt⟩ : ∃ xt, xt = (wslot t d k).t := ⟨_, rfl⟩
      rw [← hxt] at x0
      have HXT := Lib.hid hxt
      have hbs := bs_intR xt wr
      have HLE : Hid (((List.range k).map fun a => (wslot t d a).t).length ≤ 1000) := Lib.hid (by rw [List.length_map, List.length_range]; omega)
      clear hxt
      go_wp2_with (at_builtin; refine wpList_app_gL rfl 32 (.tmp 34) (.tmp 40) rfl rfl rfl (fun ty => appI HK.out.1 xt HLE.out HK.out.2.size ty) ?_; intro v5 W5 h5; refine of_hid ?_)
      refine Lib.hid ?_
      have H5 : Hid (OwnI W5 w1.heap.size v5 ((List.range (k + 1)).map fun a => (wslot t d a).t) ∧ Below w1.heap.size w1 W5) := Lib.hid (by
        rw [List.range_succ, List.map_append, List.map_cons, List.map_nil, ← HXT.out]
        exact ⟨h5.1, HK.out.2.trans h5.2.1⟩)
      clear h5 hbs x0 hix HK HO
      go_wp2_with fail
      go_roundw
      case rel => exact ⟨k + 1, by omega, by go_num, H5⟩
      case measure => simp [intOf]; omega
    · obtain rfl : k = 8 := by omega
      have t1 : ¬ (((8 : Nat) : Int) < 8) := by omega
      go_wp2_with fail
      go_ret2
      have h := HK.out.1
      refine ⟨⟨_, rfl, ⟨h.1, h.2.elim .inl fun ⟨g', cap, cur, e1, e2, e3⟩ => .inr ⟨g', cap, cur, e1, Nat.le_trans B1.out.size e2, e3⟩⟩⟩, B1.out.trans (HK.out.2.mono B1.out.size)⟩
end
end Lab
end Go.Proofs.YthioanenljpclaaGreatDoor
namespace Go.Proofs.YthioanenljpclaaGreatDoor
open Go Go.RowKit refRack
set_option maxRecDepth 100000
set_option linter.unusedVariables false
namespace Lab
theorem spent_left (s : RS) : s.spent.left ≤ s.left := by
  unfold RS.spent
  split
  · exact Nat.le_refl _
  · split
    · exact Nat.le_refl _
    · split
      · exact Nat.le_refl _
      · exact Nat.sub_le _ _
theorem wrS_more (s : RS) (D A : Int) (m : Nat) (X : Nat → Nat) : (wrS s D A m X).left ≤ s.left ∧ (wrS s D A m X).nw ≤ s.nw + 1 ∧ (wrS s D A m X).nd = s.nd ∧ (wrS s D A m X).ns = s.ns := by
  have h1 := spent_left s
  have h2 := (spent_same s).2.2.1
  have h3 := (spent_same s).1
  have h4 := (spent_same s).2.1
  unfold wrS
  split
  · split
    · exact ⟨h1, by show s.spent.nw + 1 ≤ s.nw + 1; omega, h3, h4⟩
    · exact ⟨h1, by omega, h3, h4⟩
  · exact ⟨Nat.le_refl _, Nat.le_succ _, rfl, rfl⟩
theorem wr_step {q : Int} {X : Nat → Nat} {nd k n : Nat} {s : RS} (hk : k < nd) : WR q X (nd - k) k s n = if wrE s (k : Int) q 128 = 16 then (wrS s (k : Int) q 128 X, 0, 16) else WR q X (nd - (k + 1)) (k + 1) (wrS s (k : Int) q 128 X) (if wrE s (k : Int) q 128 = 0 then n + 1 else n) := by
  rw [show nd - k = (nd - (k + 1)) + 1 by omega]
  rfl
/-- ahead of a drive -/
structure WM (B : Nat) (w0 W : World) (g b nd ns L M : Nat) (s : RS) (u : U) : Prop where
  at_ : TAt B W g s
  kp : KeepR B w0 W
  ub : Blk W b 43 (uA u)
  nd_ : s.nd = nd
  ns_ : s.ns = ns
  lf : s.left ≤ L
  nw_ : s.nw ≤ M
section
variable {B : Nat}
set_option maxHeartbeats 6400000 in
theorem write_k8 (w : World) (g : Nat) (t : RS) (u : U) (h : TAt B w g t) (hBw : B ≤ w.heap.size) (h1 : 0 < t.nd) (h16 : t.nd ≤ 16) (hf : FitU u) (hl : t.left ≤ 9223372036854775807) (hn : t.nw ≤ 1000000) :
    Calls Tryz.prog 9 #[.pointer (some ⟨g, 0, none⟩), .agg (uA u)] w fun e w' => e = .returned (.tuple #[.int .i64 (wroteL t u).2.1, .int .i64 (wroteL t u).2.2]) ∧ TAt B w' g (wroteL t u).1 ∧ KeepR B w w' := by
  obtain ⟨b, hb⟩ : ∃ b, b = w.heap.size := ⟨_, rfl⟩
  obtain ⟨wa, hwa⟩ : ∃ wa, wa = w.alloc (.cells (uA u) 43) := ⟨_, rfl⟩
  have hba : Below w.heap.size w wa := by rw [hwa]; exact (Below.refl _ _).alloc (Nat.le_refl _) _
  have XB : Hid (Blk wa b 43 (uA u)) := Lib.hid (by rw [hwa, hb]; exact Blk.new _ _ _)
  have HR := Lib.hid (right_k wa g t (h.below hba) h1)
  have KA : Hid (KeepR B w wa) := Lib.hid ((KeepR.refl B w).new hba hBw)
  have HEN := Lib.hid (docEncode_lab u wa hf)
  have HTA : Hid (TAt B wa g t) := Lib.hid (h.below hba)
  have HFU := Lib.hid hf
  have HWA := Lib.hid hwa
  have HB0 := Lib.hid hb
  have HBW := Lib.hid hBw
  have HNW : Hid (t.left ≤ 9223372036854775807 ∧ t.nw ≤ 1000000) := Lib.hid ⟨hl, hn⟩
  clear h hba hf hwa hb hBw hl hn
  by_cases h8 : 8 < t.ns
  rotate_left
  · have hW : Hid (wroteL t u = (t, 0, 1)) := Lib.hid (by unfold wroteL; rw [if_neg h8])
    rw [hW.out]
    rw [decide_eq_false h8] at HR
    obtain ⟨ut, ⟨pa, pz, pb, ps⟩⟩ := u
    simp only [uA] at *
    clear h8 HEN
    go_enter Tryz.func9, Tryz.ntmps9
    go_wp2_with fail
    rw [← HWA.out]
    refine HR.out.mono ?_
    rintro e w' ⟨rfl, hw⟩
    rw [hw]
    clear hw
    go_wp2_with fail
    go_ret2
    exact ⟨rfl, HTA.out, KA.out⟩
  rw [decide_eq_true h8] at HR
  by_cases hok : okU u = true
  rotate_left
  · have hW : Hid (wroteL t u = (t, 0, 2)) := Lib.hid (by unfold wroteL; rw [if_pos h8, if_neg hok])
    have hE : encE u = 2 := by unfold encE; rw [if_neg hok]
    rw [hW.out]
    rw [hE] at HEN
    obtain ⟨ut, ⟨pa, pz, pb, ps⟩⟩ := u
    obtain ⟨OT, hOT⟩ : ∃ OT, OT = K.txt (outB ⟨ut, ⟨pa, pz, pb, ps⟩⟩) := ⟨_, rfl⟩
    rw [← hOT] at HEN
    simp only [uA] at *
    obtain ⟨⟨d0, d1, d2, d3, d4⟩, z0, z1, z2, z3, z4⟩ := uberR_facts XB.out
    clear h8 hok hE hOT
    go_enter Tryz.func9, Tryz.ntmps9
    go_wp2_with fail
    rw [← HWA.out, ← HB0.out]
    refine HR.out.mono ?_
    rintro e w' ⟨rfl, hw⟩
    rw [hw]
    clear hw
    go_wp2_with fail
    refine HEN.out.mono ?_
    rintro e w2 ⟨rfl, b2⟩
    have T2 := Lib.hid (HTA.out.below b2)
    have K2 := Lib.hid (KA.out.new b2 (Nat.le_trans HBW.out KA.out.below.size))
    clear b2
    go_wp2_with fail
    go_ret2
    exact ⟨rfl, T2.out, K2.out⟩
  have hE : encE u = 0 := by unfold encE; rw [if_pos hok]
  have hV : outB u = encL u := by unfold outB; rw [if_pos hok]
  rw [hE, hV] at HEN
  have hp : K.okP u.p = true := by unfold okU at hok; rw [Bool.and_eq_true] at hok; exact hok.2
  have HLN : (encL u).length = 128 := encL_length hp HFU.out
  obtain ⟨X, hX⟩ : ∃ X, X = lst (encL u) := ⟨_, rfl⟩
  have hTX : K.txt (encL u) = strB 128 X := by rw [hX, ← HLN, strB_lst]
  rw [hTX] at HEN
  obtain ⟨q, hq⟩ : ∃ q, q = u.t.tmod 8 := ⟨_, rfl⟩
  have hq8 := wrap8 u.t
  obtain ⟨nd, hnd⟩ : ∃ nd, nd = t.nd := ⟨_, rfl⟩
  obtain ⟨fin, hfin⟩ : ∃ fin, fin = WR q X nd 0 t 0 := ⟨_, rfl⟩
  have hW : Hid (wroteL t u = fin) := Lib.hid (by unfold wroteL; rw [if_pos h8, if_pos hok, hfin, hq, hX, hnd])
  rw [hW.out]
  have HFIN : Hid (WR q X (nd - 0) 0 t 0 = fin) := Lib.hid hfin.symm
  have HND := Lib.hid hnd
  have hnd16 : nd ≤ 16 := by rw [hnd]; exact h16
  have hnd0 : 0 < nd := by rw [hnd]; exact h1
  obtain ⟨SX, hSX⟩ : ∃ SX, SX = strB 128 X := ⟨_, rfl⟩
  rw [← hSX] at HEN
  have HSX := Lib.hid hSX
  obtain ⟨ut, ⟨pa, pz, pb, ps⟩⟩ := u
  have hq9 : ut.tmod 8 = q := hq.symm
  have hq8 : wrap64 (ut.tmod 8) = ut.tmod 8 := hq8
  rw [hq9] at hq8
  obtain ⟨⟨d0, d1, d2, d3, d4⟩, z0, z1, z2, z3, z4⟩ := uberR_facts (show Blk wa b 43 #[.int .i64 ut, .int .i64 pa, .int .i64 pz, .int .i64 pb, .string ps] from XB.out)
  have HNS := Lib.hid (rfl : t.ns = t.ns)
  simp only [uA] at HEN
  clear h8 hok hE hV hp HLN hTX hX hfin hW hnd hq hSX h1 h16 HFU
  go_enter Tryz.func9, Tryz.ntmps9
  go_wp2_with fail
  rw [← HWA.out, ← HB0.out]
  refine HR.out.mono ?_
  rintro e w' ⟨rfl, hw⟩
  rw [hw]
  clear hw HR
  go_wp2_with fail
  refine HEN.out.mono ?_
  rintro e w2 ⟨rfl, b2⟩
  have M2 : Hid (WM B w w2 g b nd t.ns t.left (t.nw + 0) t ⟨ut, ⟨pa, pz, pb, ps⟩⟩) := Lib.hid ⟨HTA.out.below b2, KA.out.new b2 (Nat.le_trans HBW.out KA.out.below.size), XB.out.below b2 XB.out.lt, HND.out.symm, rfl, Nat.le_refl _, Nat.le_refl _⟩
  obtain ⟨L, hL⟩ : ∃ L, L = t.left := ⟨_, rfl⟩
  obtain ⟨M, hM⟩ : ∃ M, M = t.nw := ⟨_, rfl⟩
  obtain ⟨ns, hns⟩ : ∃ ns, ns = t.ns := ⟨_, rfl⟩
  have HLM : Hid (L ≤ 9223372036854775807 ∧ M ≤ 1000000) := Lib.hid (by rw [hL, hM]; exact HNW.out)
  rw [← hL, ← hM, ← hns] at M2
  clear b2 HEN d0 d1 d2 d3 d4 z0 z1 z2 z3 z4 HTA KA XB hL hM hns HND HNW HNS
  go_wp2_with fail
  go_loopw [8, 9] (fun nv dv wr => ∃ (k n : Nat) (s : RS), k ≤ nd ∧ nv = .int .i64 (n : Int) ∧ dv = .int .i64 (k : Int) ∧ n ≤ k ∧ Hid (WR q X (nd - k) k s n = fin) ∧ Hid (WM B w wr g b nd ns L (M + k) s ⟨ut, ⟨pa, pz, pb, ps⟩⟩)) (fun _ dv _ => nd - (intOf dv).toNat)
  case atStart => exact ⟨0, 0, t, Nat.zero_le _, rfl, rfl, Nat.le_refl _, HFIN, M2⟩
  case round =>
    clear HFIN M2
    obtain ⟨k, n, s, hk, rfl, rfl, hnk, W3, M3⟩ := hrel
    rename World => w3
    obtain ⟨vL, vG, vW, Hh, Cc, hkk⟩ := M3.out.at_
    obtain ⟨lh, lc, hvl, _⟩ := hkk.head (d := 0) (by rw [M3.out.nd_]; exact hnd0)
    subst hvl
    have c0 : w3.cell? ⟨g, 0, none⟩ = some (.slice (some ⟨lh, 0, none⟩) nd lc) := by rw [← M3.out.nd_]; exact hkk.c0
    clear hkk
    by_cases hkn : k < nd
    · have t1 : (k : Int) < (nd : Int) := by omega
      rw [wr_step hkn] at W3
      have HM := Lib.hid (wrS_more s (k : Int) q 128 X)
      have HWR := Lib.hid (wr_tot_k w3 g s (k : Int) q 128 X (by have := M3.out.lf; have := HLM.out.1; omega) (by have := M3.out.nw_; have := HLM.out.2; omega) M3.out.at_)
      rw [← HSX.out] at HWR
      obtain ⟨s2, hs2⟩ : ∃ s2, s2 = wrS s (k : Int) q 128 X := ⟨_, rfl⟩
      obtain ⟨y, hy⟩ : ∃ y, y = wrE s (k : Int) q 128 := ⟨_, rfl⟩
      rw [← hs2] at W3 HWR HM
      rw [← hy] at W3 HWR
      have x0 : w3.cell? ⟨b, 0, none⟩ = some (.int .i64 ut) := M3.out.ub.cell 0
      clear hs2 hy
      go_wp2_with fail
      refine HWR.out.mono ?_
      rintro e w5 ⟨rfl, t5, k5⟩
      have M5 : Hid (WM B w w5 g b nd ns L (M + (k + 1)) s2 ⟨ut, ⟨pa, pz, pb, ps⟩⟩) := Lib.hid ⟨t5, M3.out.kp.trans k5, k5.kept b _ M3.out.ub rfl, HM.out.2.2.1.trans M3.out.nd_, HM.out.2.2.2.trans M3.out.ns_, Nat.le_trans HM.out.1 M3.out.lf, by have := HM.out.2.1; have := M3.out.nw_; omega⟩
      clear t5 k5 HWR HM M3 x0 c0
      by_cases hy16 : y = 16
      · subst hy16
        rw [if_pos rfl] at W3
        go_wp2_with fail
        go_ret2
        rw [← W3.out]
        exact ⟨rfl, M5.out.at_, M5.out.kp⟩
      · rw [if_neg hy16] at W3
        by_cases hy0 : y = 0
        · rw [if_pos hy0] at W3
          subst hy0
          go_wp2_with fail
          go_roundw
          case rel => exact ⟨k + 1, n + 1, s2, by omega, by go_num, by go_num, by omega, W3, M5⟩
          case measure => simp [intOf]; omega
        · rw [if_neg hy0] at W3
          go_wp2_with fail
          go_roundw
          case rel => exact ⟨k + 1, n, s2, by omega, rfl, by go_num, by omega, W3, M5⟩
          case measure => simp [intOf]; omega
    · obtain rfl : k = nd := by omega
      have t1 : ¬ ((k : Int) < (k : Int)) := by omega
      have hz : (s, ((n : Nat) : Int), if n = 0 then (4 : Int) else 0) = fin := by
        have h := W3.out
        rw [Nat.sub_self] at h
        exact h
      have HZ := Lib.hid hz
      clear hz W3
      by_cases hn0 : n = 0
      · subst hn0
        go_wp2_with fail
        go_ret2
        rw [← HZ.out]
        exact ⟨rfl, M3.out.at_, M3.out.kp⟩
      · have hn1 : ¬ ((n : Int) = 0) := by omega
        go_wp2_with fail
        go_ret2
        rw [← HZ.out, if_neg hn0]
        exact ⟨rfl, M3.out.at_, M3.out.kp⟩
end
end Lab
end Go.Proofs.YthioanenljpclaaGreatDoor
namespace Go.Proofs.YthioanenljpclaaGreatDoor
open Go Go.RowKit refRack
set_option maxRecDepth 100000
set_option linter.unusedVariables false
namespace Lab
theorem new_calm (nd ns : Nat) : (RS.new nd ns).calm := ⟨rfl, rfl⟩
/-- a record in a new rack: there, and the newest -/
theorem known_wrote : wroteL (RS.new 5 9) (rec_ 5 9) = (wall (RS.new 5 9) 5 (lst (encL (rec_ 5 9))) 5, 5, 0) :=
  wroteL_calm (new_calm 5 9) (by show 8 < 9; omega) (t := 5) (p := P 9) (rec_ok (by omega) (by omega)).1
theorem known_newest : newU (wall (RS.new 5 9) 5 (lst (encL (rec_ 5 9))) 5) = (rec_ 5 9, 0) := by
  obtain ⟨hl, _⟩ := wall_like (RS.new 5 9) 5 (lst (encL (rec_ 5 9))) 5
  have hh : ∀ d a, (wall (RS.new 5 9) 5 (lst (encL (rec_ 5 9))) 5).holds d a = if d < 5 ∧ (RS.new 5 9).gone d = false ∧ a = 5 then lst (encL (rec_ 5 9)) else zeros := fun d a => wall_holds _ _ _ d a 5
  generalize wall (RS.new 5 9) 5 (lst (encL (rec_ 5 9))) 5 = s at *
  have h1 : s.nd = 5 := hl.nd
  have h2 : s.ns = 9 := hl.ns
  have h3 : s.off = false := hl.off
  have h4 : ∀ d, s.gone d = false := fun d => by rw [hl.gone]; rfl
  have hok : Ok (rec_ 5 9) := rec_ok (by omega) (by omega)
  refine newU_is h3 (by omega) (by show (1 : Int) ≤ 5; omega) ⟨0, 5, by omega, by omega, ?_⟩ fun d a hd ha => ?_
  · exact (look_rec h3 (by omega) (by omega) (h4 0) hok (fun j _ => by rw [hh, if_pos ⟨by omega, rfl, rfl⟩]) rec_mod).1
  · by_cases e : a = 5
    · subst e
      exact .inl (look_rec h3 hd (by omega) (h4 d) hok (fun j _ => by rw [hh, if_pos ⟨by omega, rfl, rfl⟩]) rec_mod).1
    · refine .inr ?_
      rw [(look_none h3 hd (by omega) (h4 d) (by rw [hh, if_neg (fun q => e q.2.2)]; rfl)).1]
      show (0 : Int) < 5
      omega
set_option maxHeartbeats 1600000 in
theorem law_known (w : World) (hl : Laid w) :
    Calls Tryz.prog 4 #[] w fun e w' => e = .returned (.bool true) ∧ Below w.heap.size w w' := by
  have HLD := Lib.hid hl
  have hpos := hl.pos
  clear hl
  go_enter Tryz.func4, Tryz.ntmps4
  go_wp2_with fail
  refine (new_any w 5 9 (by omega) (by omega) (by omega) (by omega)).mono ?_
  rintro e w1 ⟨⟨r, rfl, h1⟩, k1⟩
  have H1 := Lib.hid h1
  have K1 := Lib.hid k1
  clear h1 k1
  go_wp2_with fail
  refine (law_ptrL 9 _ (by omega)).mono ?_
  rintro e w2 ⟨pa, pz, pb, ps, hp, rfl, b2⟩
  have H2 := Lib.hid (H1.out.below b2)
  have K2 := Lib.hid (K1.out.new b2 H1.out.le)
  have HU : Hid ((#[.int .i64 5, .int .i64 pa, .int .i64 pz, .int .i64 pb, .string ps] : Array Value) = uA (rec_ 5 9)) := Lib.hid (uA_rec (t := 5) hp)
  clear b2 H1 K1 hp
  go_wp2_with fail
  rw [HU.out]
  have HW := Lib.hid (write_lab w2 r _ (rec_ 5 9) H2.out (rec_ok (by omega) (by omega)).2 (HLD.out.below K2.out.below hpos) hpos (by show 0 + 5 ≤ 1000000; omega))
  rw [known_wrote] at HW
  refine HW.out.mono ?_
  rintro e w3 ⟨rfl, h3, k3⟩
  have H3 := Lib.hid h3
  have K3 := Lib.hid (K2.out.trans k3)
  clear h3 k3 H2 K2 HW
  dsimp only
  go_wp2_with fail
  have HN := Lib.hid (newest_lab w3 r _ H3.out (HLD.out.below K3.out.below hpos) hpos)
  rw [known_newest] at HN
  refine HN.out.mono ?_
  rintro e w4 ⟨rfl, h4, k4⟩
  have L4 := Lib.hid (K3.out.trans k4).below
  clear h4 k4 H3 K3 HN
  rw [← HU.out]
  have L6 : Hid (Below w.heap.size w (w4.alloc (.cells #[.int .i64 5, .int .i64 pa, .int .i64 pz, .int .i64 pb, .string ps] 41))) := Lib.hid (L4.out.alloc L4.out.size _)
  have HS : Hid (Blk (w4.alloc (.cells #[.int .i64 5, .int .i64 pa, .int .i64 pz, .int .i64 pb, .string ps] 41)).drew w4.heap.size 41 (uA (rec_ 5 9))) := Lib.hid (by rw [← HU.out]; exact Blk.new _ _ _)
  go_wp2_with fail
  generalize hw6 : w4.alloc (.cells #[.int .i64 5, .int .i64 pa, .int .i64 pz, .int .i64 pb, .string ps] 41) = w6 at *
  generalize hg5 : w4.heap.size = g5 at *
  clear hw6 hg5 HU L4
  refine region_anyZ (fun w' => Blk w' g5 41 (uA (rec_ 5 9))) 21 (by kernel_rfl) ?_
  refine takeG 0 (.move (.tmp 2)) (some 23) none (.int .i64 0) (by kernel_rfl) (by kernel_rfl) (by kernel_rfl) (fun _ _ _ h => h) (fun o wq e hS => exec_move wq e (by kernel_rfl)) HS.out ?_
  refine takeG 1 (.binOp .eql 26 (.tmp 23) (.const (.int .i64 0)) 26) (some 24) none (.bool true) (by kernel_rfl) (by kernel_rfl) (by kernel_rfl) (fun _ _ _ h => h) (fun o wq e hS => exec_bin (u1 := .int .i64 0) (u2 := (.int .i64 0)) wq e (by kernel_rfl) (by kernel_rfl) (eqG_int ..) (by kernel_rfl)) HS.out ?_
  refine takeG 2 (.move (.tmp 24)) (some 25) none (.bool true) (by kernel_rfl) (by kernel_rfl) (by kernel_rfl) (fun _ _ _ h => h) (fun o wq e hS => exec_move wq e (by kernel_rfl)) HS.out ?_
  refine takeG 3 (.move (.tmp 4)) (some 26) (some (2, true)) (.int .i64 0) (by kernel_rfl) (by kernel_rfl) (by kernel_rfl) (fun _ _ _ h => h) (fun o wq e hS => exec_move wq e (by kernel_rfl)) HS.out ?_
  refine takeG 4 (.binOp .eql 26 (.tmp 26) (.const (.int .i64 0)) 26) (some 27) (some (2, true)) (.bool true) (by kernel_rfl) (by kernel_rfl) (by kernel_rfl) (fun _ _ _ h => h) (fun o wq e hS => exec_bin (u1 := .int .i64 0) (u2 := (.int .i64 0)) wq e (by kernel_rfl) (by kernel_rfl) (eqG_int ..) (by kernel_rfl)) HS.out ?_
  refine takeG 5 (.pick (.tmp 25) (.tmp 27) (.const (Value.bool false))) (some 28) none (.bool true) (by kernel_rfl) (by kernel_rfl) (by kernel_rfl) (fun _ _ _ h => h) (fun o wq e hS => exec_pick (b := true) wq e (by kernel_rfl) (by kernel_rfl)) HS.out ?_
  refine takeG 6 (.move (.tmp 28)) (some 29) none (.bool true) (by kernel_rfl) (by kernel_rfl) (by kernel_rfl) (fun _ _ _ h => h) (fun o wq e hS => exec_move wq e (by kernel_rfl)) HS.out ?_
  refine takeG 7 (.move (.tmp 3)) (some 30) (some (6, true)) (.int .i64 5) (by kernel_rfl) (by kernel_rfl) (by kernel_rfl) (fun _ _ _ h => h) (fun o wq e hS => exec_move wq e (by kernel_rfl)) HS.out ?_
  refine takeG 8 (.binOp .eql 3 (.tmp 30) (.const (.int .i64 5)) 3) (some 31) (some (6, true)) (.bool true) (by kernel_rfl) (by kernel_rfl) (by kernel_rfl) (fun _ _ _ h => h) (fun o wq e hS => exec_bin (u1 := .int .i64 5) (u2 := (.int .i64 5)) wq e (by kernel_rfl) (by kernel_rfl) (eqG_int ..) (by kernel_rfl)) HS.out ?_
  refine takeG 9 (.pick (.tmp 29) (.tmp 31) (.const (Value.bool false))) (some 32) none (.bool true) (by kernel_rfl) (by kernel_rfl) (by kernel_rfl) (fun _ _ _ h => h) (fun o wq e hS => exec_pick (b := true) wq e (by kernel_rfl) (by kernel_rfl)) HS.out ?_
  refine takeG 10 (.move (.tmp 32)) (some 33) none (.bool true) (by kernel_rfl) (by kernel_rfl) (by kernel_rfl) (fun _ _ _ h => h) (fun o wq e hS => exec_move wq e (by kernel_rfl)) HS.out ?_
  refine takeG 11 (.move (.tmp 6)) (some 34) (some (10, true)) (.int .i64 0) (by kernel_rfl) (by kernel_rfl) (by kernel_rfl) (fun _ _ _ h => h) (fun o wq e hS => exec_move wq e (by kernel_rfl)) HS.out ?_
  refine takeG 12 (.binOp .eql 26 (.tmp 34) (.const (.int .i64 0)) 26) (some 35) (some (10, true)) (.bool true) (by kernel_rfl) (by kernel_rfl) (by kernel_rfl) (fun _ _ _ h => h) (fun o wq e hS => exec_bin (u1 := .int .i64 0) (u2 := (.int .i64 0)) wq e (by kernel_rfl) (by kernel_rfl) (eqG_int ..) (by kernel_rfl)) HS.out ?_
  refine takeG 13 (.pick (.tmp 33) (.tmp 35) (.const (Value.bool false))) (some 36) none (.bool true) (by kernel_rfl) (by kernel_rfl) (by kernel_rfl) (fun _ _ _ h => h) (fun o wq e hS => exec_pick (b := true) wq e (by kernel_rfl) (by kernel_rfl)) HS.out ?_
  refine takeG 14 (.move (.tmp 36)) (some 37) none (.bool true) (by kernel_rfl) (by kernel_rfl) (by kernel_rfl) (fun _ _ _ h => h) (fun o wq e hS => exec_move wq e (by kernel_rfl)) HS.out ?_
  refine takeG 15 (.load 41 (.tmp 5)) (some 38) (some (14, true)) (.agg (uA (rec_ 5 9))) (by kernel_rfl) (by kernel_rfl) (by kernel_rfl) (fun _ _ _ h => h) (fun o wq e hS => exec_load (x := (.tmp 5)) e (by kernel_rfl) (load_uber hS)) HS.out ?_
  refine loneG 16 (.call ⟨.value (.func 8), #[(.const (.int .i64 9))], #[3]⟩) (some 39) (some (14, true)) (by kernel_rfl) (by kernel_rfl) (by kernel_rfl) ?_
  intro o ho hod
  refine wp_callC (f := 8) (args := #[.int .i64 9]) (by cases o; cases ho; kernel_rfl) (law_ptr 9 _ (by omega)) ?_
  rintro e w7 ⟨rfl, b7⟩
  refine ⟨.agg (ptA (P 9)), rfl, ?_⟩
  rw [hod]
  clear hod ho
  have HS7 := Lib.hid (HS.out.new_ (b7 : Below w6.drew.heap.size w6.drew w7))
  have L7 := Lib.hid (L6.out.drew.trans (b7.mono L6.out.drew.size))
  clear b7 L6 HS
  refine ⟨fun _ => HS7.out, ?_⟩
  refine takeG 17 (.build 41 #[(0, (.const (.int .i64 5))), (1, (.tmp 39))]) (some 40) (some (14, true)) (.agg (uA (rec_ 5 9))) (by kernel_rfl) (by kernel_rfl) (by kernel_rfl) (fun _ _ _ h => h) (fun o wq e hS => exec_bld2 (u0 := (.int .i64 5)) (u1 := .agg (ptA (P 9))) wq e (by kernel_rfl) (by kernel_rfl) (build_uber 5 (P 9) _)) HS7.out ?_
  refine takeG 18 (.binOp .eql 41 (.tmp 38) (.tmp 40) 41) (some 41) (some (14, true)) (.bool true) (by kernel_rfl) (by kernel_rfl) (by kernel_rfl) (fun _ _ _ h => h) (fun o wq e hS => exec_bin (u1 := .agg (uA (rec_ 5 9))) (u2 := .agg (uA (rec_ 5 9))) wq e (by kernel_rfl) (by kernel_rfl) (eqG_agg _ _ _ _ _ _ (by kernel_rfl) _) (eq_uber (rec_ 5 9) _)) HS7.out ?_
  refine takeG 19 (.pick (.tmp 37) (.tmp 41) (.const (Value.bool false))) (some 42) none (.bool true) (by kernel_rfl) (by kernel_rfl) (by kernel_rfl) (fun _ _ _ h => h) (fun o wq e hS => exec_pick (b := true) wq e (by kernel_rfl) (by kernel_rfl)) HS7.out ?_
  refine lastS 20 (.assign (.tmp 42)) (some 0) (.bool true) (by kernel_rfl) (by kernel_rfl) (by kernel_rfl) HS7.out (fun o e => exec_assign _ e (by kernel_rfl)) ?_
  simp only [put_some, put_none, List.setIfInBounds_toArray, List.set_cons_succ, List.set_cons_zero]
  go_wp2_with fail
  go_ret
  exact ⟨rfl, L7.out⟩
end Lab
end Go.Proofs.YthioanenljpclaaGreatDoor
