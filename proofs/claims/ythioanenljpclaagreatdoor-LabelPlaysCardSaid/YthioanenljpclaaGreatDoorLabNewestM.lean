/-
  'label.Write' by a contract. Conditions: the rack is one, the record's numbers are ints.
-/
import Derived.Test.YthioanenljpclaaGreatDoorLabLookM
namespace Go.Proofs.YthioanenljpclaaGreatDoor
open Go Go.RowKit refRack
set_option maxRecDepth 100000
set_option linter.unusedVariables false
namespace Lab
theorem wrS_nd (s : RS) (D A : Int) (m : Nat) (X : Nat → Nat) : (wrS s D A m X).nd = s.nd ∧ (wrS s D A m X).ns = s.ns := by
  have h := spent_same s
  unfold wrS
  split
  · split
    · exact ⟨h.1, h.2.1⟩
    · exact ⟨h.1, h.2.1⟩
  · exact ⟨rfl, rfl⟩
/-- one write to each drive from k on, f of them: what the rack is then, the count, the error -/
def WR (q : Int) (X : Nat → Nat) : Nat → Nat → RS → Nat → RS × Int × Int
  | 0, _, s, n => (s, (n : Int), if n = 0 then 4 else 0)
  | f + 1, k, s, n => if wrE s (k : Int) q 128 = 16 then (wrS s (k : Int) q 128 X, 0, 16) else WR q X f (k + 1) (wrS s (k : Int) q 128 X) (if wrE s (k : Int) q 128 = 0 then n + 1 else n)
noncomputable def wroteL (s : RS) (u : U) : RS × Int × Int := if 8 < s.ns then (if okU u = true then WR (u.t.tmod 8) (lst (encL u)) s.nd 0 s 0 else (s, 0, 2)) else (s, 0, 1)
section
variable {B : Nat}
set_option maxHeartbeats 3200000 in
theorem write_lab (w : World) (r : Nat) (s : RS) (u : U) (h : RackAt B w r s) (hf : FitU u) (hl : Laid w) (hB : 0 < B) (hc : s.cost + s.nd ≤ 1000000) :
    Calls Tryz.prog 7 #[.pointer (some ⟨r, 0, none⟩), .agg (uA u)] w fun e w' => e = .returned (.tuple #[.int .i64 (wroteL s u).2.1, .int .i64 (wroteL s u).2.2]) ∧ RackAt B w' r (wroteL s u).1 ∧ Keep B w w' := by
  have hle := h.le
  have K0 : Hid (Keep B w (w.alloc (.cells (uA u) 41))) := Lib.hid ((Keep.refl B w).alloc hle _)
  have X0 : Hid (Blk (w.alloc (.cells (uA u) 41)) w.heap.size 41 (uA u)) := Lib.hid (Blk.new _ _ _)
  have R0 := Lib.hid (h.alloc (.cells (uA u) 41))
  have HF := Lib.hid (fits_any _ r s R0.out)
  have HEN := Lib.hid (encode_lab u (w.alloc (.cells (uA u) 41)) hf (hl.alloc _))
  have HFU := Lib.hid hf
  have HOK := Lib.hid h.1
  have HC := Lib.hid hc
  clear h hl hf hc
  by_cases h8 : 8 < s.ns
  rotate_left
  · have hW : Hid (wroteL s u = (s, 0, 1)) := Lib.hid (by unfold wroteL; rw [if_neg h8])
    rw [hW.out]
    rw [show decide (8 < s.ns) = false by simpa using h8] at HF
    obtain ⟨t, ⟨pa, pz, pb, ps⟩⟩ := u
    simp only [uA] at *
    clear h8 HEN X0
    go_enter Tryz.func7, Tryz.ntmps7
    go_wp2_with fail
    refine HF.out.mono ?_
    rintro e w' ⟨rfl, rfl⟩
    go_wp2_with fail
    go_ret2
    exact ⟨rfl, R0.out, K0.out⟩
  rw [show decide (8 < s.ns) = true by simpa using h8] at HF
  by_cases hok : okU u = true
  rotate_left
  · have hW : Hid (wroteL s u = (s, 0, 2)) := Lib.hid (by unfold wroteL; rw [if_pos h8, if_neg hok])
    have hE : encE u = 2 := by unfold encE; rw [if_neg hok]
    rw [hW.out]
    rw [hE] at HEN
    have hV : Hid (outB u = []) := Lib.hid (by unfold outB; rw [if_neg hok])
    rw [hV.out] at HEN
    obtain ⟨t, ⟨pa, pz, pb, ps⟩⟩ := u
    simp only [uA] at *
    clear h8 hok hE hV
    go_enter Tryz.func7, Tryz.ntmps7
    go_wp2_with fail
    refine HF.out.mono ?_
    rintro e w' ⟨rfl, rfl⟩
    go_wp2_with fail
    refine HEN.out.mono ?_
    rintro e w2 ⟨⟨v, rfl, hv⟩, b2⟩
    have R2 := Lib.hid (R0.out.below b2)
    have K2 := Lib.hid (K0.out.new b2 R0.out.le)
    obtain rfl : v = .slice none 0 0 := by
      rcases hv with ⟨_, e⟩ | ⟨e, _⟩
      · exact e
      · cases e
    clear b2 hv
    go_wp2_with fail
    go_ret2
    exact ⟨rfl, R2.out, K2.out⟩
  have hE : encE u = 0 := by unfold encE; rw [if_pos hok]
  have hV : outB u = encL u := by unfold outB; rw [if_pos hok]
  rw [hE, hV] at HEN
  have HLN : Hid ((encL u).length = 128) := Lib.hid (by
    have hp : K.okP u.p = true := by unfold okU at hok; rw [Bool.and_eq_true] at hok; exact hok.2
    exact encL_length hp HFU.out)
  have HLT : Hid (∀ j, lst (encL u) j < 256) := Lib.hid (fun j => by
    have hp : K.okP u.p = true := by unfold okU at hok; rw [Bool.and_eq_true] at hok; exact hok.2
    exact lst_lt (encL_lt hp HFU.out) j)
  have ht1 : Hid (1 ≤ u.t) := Lib.hid (by unfold okU at hok; rw [Bool.and_eq_true] at hok; exact of_decide_eq_true hok.1)
  obtain ⟨q, hq⟩ : ∃ q, q = u.t.tmod 8 := ⟨_, rfl⟩
  obtain ⟨X, hX⟩ : ∃ X, X = lst (encL u) := ⟨_, rfl⟩
  have hW : Hid (wroteL s u = WR q X s.nd 0 s 0) := Lib.hid (by unfold wroteL; rw [if_pos h8, if_pos hok, hq, hX])
  rw [hW.out]
  rw [← hX] at HLT
  have HSL : Hid (∀ W, Calls Tryz.prog 35 #[.int .i64 u.t] W fun e w' => e = .returned (.int .i64 q) ∧ W = w') := Lib.hid fun W => by
    rw [hq]
    exact slot_any u.t W
  have HXX := Lib.hid hX
  obtain ⟨t, ⟨pa, pz, pb, ps⟩⟩ := u
  simp only [uA] at *
  obtain ⟨EL, hEL⟩ : ∃ EL, EL = encL ⟨t, ⟨pa, pz, pb, ps⟩⟩ := ⟨_, rfl⟩
  rw [← hEL] at HEN HLN HXX
  obtain ⟨nd, hnd⟩ : ∃ nd, nd = s.nd := ⟨_, rfl⟩
  rw [← hnd]
  have HND := Lib.hid hnd
  have hnd16 : nd ≤ 16 := by rw [hnd]; exact HOK.out.nd2
  obtain ⟨fin, hfin⟩ : ∃ fin, fin = WR q X nd 0 s 0 := ⟨_, rfl⟩
  rw [← hfin]
  have HFIN := Lib.hid hfin
  clear h8 hok hE hV hq hX hEL hnd hfin hW ht1
  go_enter Tryz.func7, Tryz.ntmps7
  go_wp2_with fail
  refine HF.out.mono ?_
  rintro e w' ⟨rfl, rfl⟩
  go_wp2_with fail
  refine HEN.out.mono ?_
  rintro e w2 ⟨⟨v, rfl, hv⟩, b2⟩
  have R2 := Lib.hid (R0.out.below b2)
  have K2 := Lib.hid (K0.out.new b2 R0.out.le)
  have X2 := Lib.hid (X0.out.new_ b2)
  obtain ⟨gb, rfl, hgb⟩ : ∃ gb, v = .slice (some ⟨gb, 0, none⟩) 128 128 ∧ Blk w2 gb 5 (rowArr 128 X) := by
    rcases hv with ⟨e, _⟩ | ⟨_, g, e, _, hb⟩
    · have := HLN.out; rw [e] at this; cases this
    · exact ⟨g, e, by rw [HXX.out]; exact hb⟩
  have G2 := Lib.hid hgb
  clear b2 hv hgb HF HEN K0 X0 R0
  go_wp2_with fail
  refine (drives_any w2 r s R2.out).mono ?_
  rintro e w' ⟨rfl, rfl⟩
  rw [← HND.out]
  go_wp2_with fail
  go_loopw [8, 9, 23] (fun x z i wr => ∃ (k n : Nat) (s' : RS), k ≤ nd ∧ n ≤ k ∧ x = .int .i64 n ∧ i = .int .i64 k ∧ Hid (WR q X (nd - k) k s' n = fin) ∧ Hid (s'.cost ≤ s.cost + k ∧ s'.nd = nd) ∧ Hid (RackAt B wr r s') ∧ Hid (Keep B w wr) ∧
    Hid (Blk wr w.heap.size 41 #[.int .i64 t, .int .i64 pa, .int .i64 pz, .int .i64 pb, .string ps]) ∧ Hid (Blk wr gb 5 (rowArr 128 X))) (fun _ _ i _ => nd - (intOf i).toNat)
  case atStart => exact ⟨0, 0, s, by omega, by omega, rfl, rfl, Lib.hid HFIN.out.symm, Lib.hid ⟨by omega, HND.out.symm⟩, R2, K2, X2, G2⟩
  case round =>
    obtain ⟨k, n, s', hk, hn, rfl, rfl, W3, C3, R3, K3, X3, G3⟩ := hrel
    clear R2 K2 X2 G2
    by_cases hkn : k < nd
    · have t1 : decide (k < nd) = true := by simpa using hkn
      obtain ⟨⟨d0, d1, d2, d3, d4⟩, e0, e1, e2, e3, e4⟩ := uber_facts X3.out
      have hstep : WR q X (nd - k) k s' n = if wrE s' (k : Int) q 128 = 16 then (wrS s' (k : Int) q 128 X, 0, 16) else WR q X (nd - (k + 1)) (k + 1) (wrS s' (k : Int) q 128 X) (if wrE s' (k : Int) q 128 = 0 then n + 1 else n) := by
        rw [show nd - k = (nd - (k + 1)) + 1 by omega]
        rfl
      rw [hstep] at W3
      clear hstep
      obtain ⟨y, hy⟩ : ∃ y, y = wrE s' (k : Int) q 128 := ⟨_, rfl⟩
      have HWT := Lib.hid fun W (hR : RackAt B W r s') (hG : Blk W gb 5 (rowArr 128 X)) => wr_tot W r s' (k : Int) q gb 128 128 X hG (fun j _ => HLT.out j) (by have := C3.out.1; have := HC.out; have := HND.out; omega) hR
      rw [← hy] at W3 HWT
      have C4 : Hid ((wrS s' (k : Int) q 128 X).cost ≤ s.cost + (k + 1) ∧ (wrS s' (k : Int) q 128 X).nd = nd) := Lib.hid ⟨by have := C3.out.1; have := wrS_cost s' (k : Int) q 128 X; omega, by rw [(wrS_nd s' (k : Int) q 128 X).1]; exact C3.out.2⟩
      obtain ⟨s4, hs4⟩ : ∃ s4, s4 = wrS s' (k : Int) q 128 X := ⟨_, rfl⟩
      rw [← hs4] at W3 HWT C4
      clear hy hs4 C3
      go_wp2_with fail
      refine (HSL.out _).mono ?_
      rintro e w' ⟨rfl, rfl⟩
      go_wp2_with fail
      refine (HWT.out _ R3.out G3.out).mono ?_
      rintro e w5 ⟨rfl, h5, k5⟩
      have R5 := Lib.hid h5
      have K5 := Lib.hid (K3.out.trans k5)
      have X5 := Lib.hid (k5.block X3.out rfl)
      have G5 := Lib.hid (k5.block G3.out rfl)
      clear h5 k5 R3 K3 X3 G3 d0 d1 d2 d3 d4 e0 e1 e2 e3 e4 HWT t1
      by_cases hy0 : y = 0
      · subst hy0
        rw [if_neg (by omega), if_pos rfl] at W3
        go_wp2_with fail
        go_roundw
        case rel => exact ⟨k + 1, n + 1, s4, by omega, by omega, by go_num, by go_num, W3, C4, R5, K5, X5, G5⟩
        case measure => simp [intOf]; omega
      by_cases hy16 : y = 16
      · subst hy16
        rw [if_pos rfl] at W3
        have W4 : Hid (fin = (s4, 0, 16)) := Lib.hid W3.out.symm
        clear W3
        have t2 : ((16 : Int) == 0) = false := rfl
        go_wp2_with fail
        go_ret2
        rw [W4.out]
        exact ⟨rfl, R5.out, K5.out⟩
      · have t2 : (y == 0) = false := by simpa using hy0
        have t3 : (y == 16) = false := by simpa using hy16
        rw [if_neg hy16, if_neg hy0] at W3
        clear hy0 hy16
        go_wp2_with fail
        go_roundw
        case rel => exact ⟨k + 1, n, s4, by omega, by omega, by go_num, by go_num, W3, C4, R5, K5, X5, G5⟩
        case measure => simp [intOf]; omega
    · have t1 : decide (k < nd) = false := by simpa using hkn
      have e : nd - k = 0 := by omega
      rw [e] at W3
      have W4 : Hid (fin = (s', (n : Int), if n = 0 then 4 else 0)) := Lib.hid W3.out.symm
      clear e W3
      by_cases hn0 : n = 0
      · subst hn0
        have t2 : ((0 : Nat) : Int) == 0 := rfl
        go_wp2_with fail
        go_ret2
        rw [W4.out]
        exact ⟨rfl, R3.out, K3.out⟩
      · have t2 : ((n : Int) == 0) = false := by simp; omega
        go_wp2_with fail
        go_ret2
        rw [W4.out, if_neg hn0]
        exact ⟨rfl, R3.out, K3.out⟩
end
end Lab
end Go.Proofs.YthioanenljpclaaGreatDoor
namespace Go.Proofs.YthioanenljpclaaGreatDoor
open Go Go.RowKit refRack
set_option maxRecDepth 100000
set_option linter.unusedVariables false
namespace Lab
def stepU (b u : U) : U := if b.t < u.t then u else b
/-- the newest of a drive's slots from a on, f of them, and b; none where the power is off -/
noncomputable def NRow (s : RS) (d : Nat) : Nat → Nat → U → Option U
  | 0, _, b => some b
  | f + 1, a, b => if lookE s d a = 16 then none else NRow s d f (a + 1) (stepU b (lookU s d a))
noncomputable def NAll (s : RS) : Nat → Nat → U → Option U
  | 0, _, b => some b
  | f + 1, d, b => (NRow s d 8 0 b).bind (NAll s f (d + 1))
def pickN : Option U → U × Int
  | none => (zeroU, 16)
  | some b => if b.t = 0 then (zeroU, 7) else (b, 0)
noncomputable def newU (s : RS) : U × Int := if 8 < s.ns then pickN (NAll s s.nd 0 zeroU) else (zeroU, 1)
section
variable {B : Nat}
set_option maxHeartbeats 1600000 in
theorem newest_lab (w : World) (r : Nat) (s : RS) (h : RackAt B w r s) (hl : Laid w) (hB : 0 < B) :
    Calls Tryz.prog 25 #[.pointer (some ⟨r, 0, none⟩)] w fun e w' => e = .returned (.tuple #[.agg (uA (newU s).1), .int .i64 (newU s).2]) ∧ RackAt B w' r s ∧ Keep B w w' := by
  have hle := h.le
  have K0 : Hid (Keep B w (w.alloc (.cells #[.int .i64 0, .int .i64 0, .int .i64 0, .int .i64 0, .string ⟨#[]⟩] 41))) := Lib.hid ((Keep.refl B w).alloc hle _)
  have X0 : Hid (Blk (w.alloc (.cells #[.int .i64 0, .int .i64 0, .int .i64 0, .int .i64 0, .string ⟨#[]⟩] 41)) w.heap.size 41 #[.int .i64 0, .int .i64 0, .int .i64 0, .int .i64 0, .string ⟨#[]⟩]) := Lib.hid (Blk.new _ _ _)
  have R0 := Lib.hid (h.alloc (.cells #[.int .i64 0, .int .i64 0, .int .i64 0, .int .i64 0, .string ⟨#[]⟩] 41))
  have HF := Lib.hid (fits_any _ r s R0.out)
  have HLD := Lib.hid hl
  have HOK := Lib.hid h.1
  clear h hl
  by_cases h8 : 8 < s.ns
  rotate_left
  · have hW : Hid (newU s = (zeroU, 1)) := Lib.hid (by unfold newU; rw [if_neg h8])
    rw [hW.out]
    rw [show decide (8 < s.ns) = false by simpa using h8] at HF
    obtain ⟨⟨d0, d1, d2, d3, d4⟩, e0, e1, e2, e3, e4⟩ := uber_facts X0.out
    clear h8 hW
    go_enter Tryz.func25, Tryz.ntmps25
    go_wp2_with fail
    refine HF.out.mono ?_
    rintro e w' ⟨rfl, rfl⟩
    go_wp2_with fail
    refine bodyPost_ret (results_cell2 rfl rfl (loadVar_blk X0.out Tryz.underlying41 rfl isize_uber) rfl) rfl ?_
    exact ⟨rfl, R0.out, K0.out⟩
  rw [show decide (8 < s.ns) = true by simpa using h8] at HF
  obtain ⟨fin, hfin⟩ : ∃ fin, fin = NAll s s.nd 0 zeroU := ⟨_, rfl⟩
  have hW : Hid (newU s = pickN fin) := Lib.hid (by
    unfold newU
    rw [if_pos h8]
    exact congrArg pickN hfin.symm)
  obtain ⟨ans, hans⟩ : ∃ ans, ans = newU s := ⟨_, rfl⟩
  rw [← hans]
  rw [← hans] at hW
  obtain ⟨nd, hnd⟩ : ∃ nd, nd = s.nd := ⟨_, rfl⟩
  rw [← hnd] at hfin
  have HND := Lib.hid hnd
  have HFIN := Lib.hid hfin
  have hnd16 : nd ≤ 16 := by rw [hnd]; exact HOK.out.nd2
  clear h8 hfin hans hnd
  have K1 := Lib.hid (K0.out.alloc R0.out.le (.cells #[.int .i64 0, .int .i64 0, .int .i64 0, .int .i64 0, .string ⟨#[]⟩] 41))
  have X1 := Lib.hid (X0.out.alloc (.cells #[.int .i64 0, .int .i64 0, .int .i64 0, .int .i64 0, .string ⟨#[]⟩] 41))
  have R1 := Lib.hid (R0.out.alloc (.cells #[.int .i64 0, .int .i64 0, .int .i64 0, .int .i64 0, .string ⟨#[]⟩] 41))
  have Y1 := Lib.hid (Blk.new (w.alloc (.cells #[.int .i64 0, .int .i64 0, .int .i64 0, .int .i64 0, .string ⟨#[]⟩] 41)) 41 #[.int .i64 0, .int .i64 0, .int .i64 0, .int .i64 0, .string ⟨#[]⟩])
  go_enter Tryz.func25, Tryz.ntmps25
  go_wp2_with fail
  refine HF.out.mono ?_
  rintro e w' ⟨rfl, rfl⟩
  go_wp2_with fail
  obtain ⟨W1, hW1⟩ : ∃ W1, W1 = (w.alloc (.cells #[.int .i64 0, .int .i64 0, .int .i64 0, .int .i64 0, .string ⟨#[]⟩] 41)).alloc (.cells #[.int .i64 0, .int .i64 0, .int .i64 0, .int .i64 0, .string ⟨#[]⟩] 41) := ⟨_, rfl⟩
  have hg4 : (w.alloc (.cells #[.int .i64 0, .int .i64 0, .int .i64 0, .int .i64 0, .string ⟨#[]⟩] 41)).heap.size = w.heap.size + 1 := by simp
  rw [hg4] at Y1
  rw [← hW1] at K1 X1 R1 Y1 ⊢
  clear hW1 hg4 HF K0 X0 R0
  refine (drives_any _ r s R1.out).mono ?_
  rintro e w' ⟨rfl, rfl⟩
  rw [← HND.out]
  go_wp2_with fail
  go_loopw [5, 6, 7, 8, 15, 18] (fun _ _ _ _ i _ wr => ∃ (d : Nat) (b : U), d ≤ nd ∧ i = .int .i64 d ∧ Hid (NAll s (nd - d) d b = fin) ∧ Hid (RackAt B wr r s) ∧ Hid (Keep B w wr) ∧
    Hid (Blk wr w.heap.size 41 #[.int .i64 0, .int .i64 0, .int .i64 0, .int .i64 0, .string ⟨#[]⟩]) ∧ Hid (Blk wr (w.heap.size + 1) 41 (uA b))) (fun _ _ _ _ i _ _ => nd - (intOf i).toNat)
  case atStart => exact ⟨0, zeroU, by omega, rfl, Lib.hid HFIN.out.symm, R1, K1, X1, Y1⟩
  case round =>
    obtain ⟨d, b, hd, rfl, W3, R3, K3, X3, Y3⟩ := hrel
    clear R1 K1 X1 Y1
    by_cases hdn : d < nd
    · have t1 : decide (d < nd) = true := by simpa using hdn
      have hstep : NAll s (nd - d) d b = (NRow s d 8 0 b).bind (NAll s (nd - (d + 1)) (d + 1)) := by
        rw [show nd - d = (nd - (d + 1)) + 1 by omega]
        rfl
      rw [hstep] at W3
      clear hstep
      go_wp2_with fail
      clear t1
      go_loopw [6, 7, 8, 18] (fun _ _ _ i wr => ∃ (a : Nat) (b : U), a ≤ 8 ∧ i = .int .i64 a ∧ Hid ((NRow s d (8 - a) a b).bind (NAll s (nd - (d + 1)) (d + 1)) = fin) ∧ Hid (RackAt B wr r s) ∧ Hid (Keep B w wr) ∧
        Hid (Blk wr w.heap.size 41 #[.int .i64 0, .int .i64 0, .int .i64 0, .int .i64 0, .string ⟨#[]⟩]) ∧ Hid (Blk wr (w.heap.size + 1) 41 (uA b))) (fun _ _ _ i _ => 8 - (intOf i).toNat)
      case atStart => exact ⟨0, b, by omega, rfl, W3, R3, K3, X3, Y3⟩
      case round =>
        obtain ⟨a, b, ha, rfl, W4, R4, K4, X4, Y4⟩ := hrel
        clear W3 R3 K3 X3 Y3
        by_cases ha8 : a < 8
        · have t1 : decide ((a : Int) < 8) = true := by simp; omega
          have hstep : NRow s d (8 - a) a b = if lookE s d a = 16 then none else NRow s d (8 - (a + 1)) (a + 1) (stepU b (lookU s d a)) := by
            rw [show 8 - a = (8 - (a + 1)) + 1 by omega]
            rfl
          rw [hstep] at W4
          clear hstep
          have HLK := Lib.hid (look_any wr r s d a R4.out (HLD.out.below K4.out.below hB) hB)
          obtain ⟨y, hy⟩ : ∃ y, y = lookE s d a := ⟨_, rfl⟩
          obtain ⟨u, hu⟩ : ∃ u, u = lookU s d a := ⟨_, rfl⟩
          rw [← hy, ← hu] at W4 HLK
          clear hy hu
          go_wp2_with fail
          refine HLK.out.mono ?_
          rintro e w5 ⟨rfl, h5, k5⟩
          obtain ⟨ut, ⟨ua, uz, ub, us⟩⟩ := u
          obtain ⟨bt, ⟨ba, bz, bb, bs⟩⟩ := b
          simp only [uA] at Y4 ⊢
          have bV : Below w5.heap.size w5 (w5.alloc (.cells #[.int .i64 ut, .int .i64 ua, .int .i64 uz, .int .i64 ub, .string us] 41)) := (Below.refl _ _).alloc (Nat.le_refl _) _
          have R5 := Lib.hid (h5.below bV)
          have K5 := Lib.hid ((K4.out.trans k5).new bV h5.le)
          have X5 := Lib.hid ((k5.block X4.out rfl).new_ bV)
          have Y5 := Lib.hid ((k5.block Y4.out rfl).new_ bV)
          have Z5 := Lib.hid (Blk.new w5 41 #[.int .i64 ut, .int .i64 ua, .int .i64 uz, .int .i64 ub, .string us])
          obtain ⟨⟨d0, d1, d2, d3, d4⟩, e0, e1, e2, e3, e4⟩ := uber_facts X5.out
          obtain ⟨⟨f0, f1, f2, f3, f4⟩, i0, i1, i2, i3, i4⟩ := uber_facts Y5.out
          obtain ⟨⟨j0, j1, j2, j3, j4⟩, _, _, _, _, _⟩ := uber_facts Z5.out
          have hB5 : Hid (B ≤ (w5.alloc (.cells #[.int .i64 ut, .int .i64 ua, .int .i64 uz, .int .i64 ub, .string us] 41)).heap.size) := Lib.hid R5.out.le
          have hne : Hid (w.heap.size ≠ w.heap.size + 1) := Lib.hid (by omega)
          clear h5 k5 bV R4 K4 X4 Y4 HLK t1
          by_cases hy16 : y = 16
          · subst hy16
            rw [if_pos rfl] at W4
            have HA : Hid (ans = (zeroU, 16)) := Lib.hid (by rw [hW.out, ← W4.out]; rfl)
            clear W4 f0 f1 f2 f3 f4 i0 i1 i2 i3 i4 j0 j1 j2 j3 j4
            go_wp2_with fail
            refine bodyPost_ret (results_cell2 rfl rfl (set5_load X5.out _ _ _ _ _) rfl) rfl ?_
            exact ⟨by rw [HA.out]; rfl, R5.out.set5 X5.out _ _ _ _ _, K5.out.set5 hle hB5.out (Nat.le_refl _) _ _ _ _ _⟩
          have t2 : (y == 16) = false := by simpa using hy16
          rw [if_neg hy16] at W4
          clear hy16
          by_cases hgt : bt < ut
          · have t3 : decide (bt < ut) = true := by simpa using hgt
            have hst : stepU ⟨bt, ⟨ba, bz, bb, bs⟩⟩ ⟨ut, ⟨ua, uz, ub, us⟩⟩ = ⟨ut, ⟨ua, uz, ub, us⟩⟩ := if_pos hgt
            rw [hst] at W4
            have R6 := Lib.hid (R5.out.set5 Y5.out (.int .i64 ut) (.int .i64 ua) (.int .i64 uz) (.int .i64 ub) (.string us))
            have K6 := Lib.hid (K5.out.set5 (g := w.heap.size + 1) (by omega) hB5.out (by omega) (.int .i64 ut) (.int .i64 ua) (.int .i64 uz) (.int .i64 ub) (.string us))
            have X6 := Lib.hid (X5.out.grown (grown_set5 _ (w.heap.size + 1) (.int .i64 ut) (.int .i64 ua) (.int .i64 uz) (.int .i64 ub) (.string us)) (fun e => hne.out (by injection e)))
            have Y6 := Lib.hid (set5_blk Y5.out (.int .i64 ut) (.int .i64 ua) (.int .i64 uz) (.int .i64 ub) (.string us))
            clear hst hgt R5 K5 X5 Y5 Z5
            unfold set5 at R6 K6 X6 Y6
            go_wp2_with fail
            go_roundw
            case rel => exact ⟨a + 1, ⟨ut, ⟨ua, uz, ub, us⟩⟩, by omega, by go_num, W4, R6, K6, X6, Y6⟩
            case measure => simp [intOf]; omega
          · have t3 : decide (bt < ut) = false := by simpa using hgt
            have hst : stepU ⟨bt, ⟨ba, bz, bb, bs⟩⟩ ⟨ut, ⟨ua, uz, ub, us⟩⟩ = ⟨bt, ⟨ba, bz, bb, bs⟩⟩ := if_neg hgt
            rw [hst] at W4
            clear hst hgt
            go_wp2_with fail
            go_roundw
            case rel => exact ⟨a + 1, ⟨bt, ⟨ba, bz, bb, bs⟩⟩, by omega, by go_num, W4, R5, K5, X5, Y5⟩
            case measure => simp [intOf]; omega
        · have t1 : decide ((a : Int) < 8) = false := by simp; omega
          have e8 : 8 - a = 0 := by omega
          rw [e8] at W4
          have W5 : Hid (NAll s (nd - (d + 1)) (d + 1) b = fin) := Lib.hid W4.out
          clear W4 e8
          go_wp2_with fail
          go_roundw
          case rel => exact ⟨d + 1, b, by omega, by go_num, W5, R4, K4, X4, Y4⟩
          case measure => simp [intOf]; omega
    · have t1 : decide (d < nd) = false := by simpa using hdn
      have e : nd - d = 0 := by omega
      rw [e] at W3
      have W4 : Hid (fin = some b) := Lib.hid W3.out.symm
      obtain ⟨bt, ⟨ba, bz, bb, bs⟩⟩ := b
      simp only [uA] at Y3
      obtain ⟨⟨d0, d1, d2, d3, d4⟩, e0, e1, e2, e3, e4⟩ := uber_facts X3.out
      obtain ⟨⟨f0, f1, f2, f3, f4⟩, _, _, _, _, _⟩ := uber_facts Y3.out
      have hB3 : Hid (B ≤ wr.heap.size) := Lib.hid R3.out.le
      clear e W3
      by_cases hb0 : bt = 0
      · have HA : Hid (ans = (zeroU, 7)) := Lib.hid (by rw [hW.out, W4.out]; exact if_pos hb0)
        subst hb0
        clear W4
        go_wp2_with fail
        refine bodyPost_ret (results_cell2 rfl rfl (set5_load X3.out _ _ _ _ _) rfl) rfl ?_
        exact ⟨by rw [HA.out]; rfl, R3.out.set5 X3.out _ _ _ _ _, K3.out.set5 hle hB3.out (Nat.le_refl _) _ _ _ _ _⟩
      · have HA : Hid (ans = (⟨bt, ⟨ba, bz, bb, bs⟩⟩, 0)) := Lib.hid (by rw [hW.out, W4.out]; exact if_neg hb0)
        have t2 : (bt == 0) = false := by simpa using hb0
        clear W4 hb0
        go_wp2_with fail
        refine bodyPost_ret (results_cell2 rfl rfl (set5_load X3.out _ _ _ _ _) rfl) rfl ?_
        exact ⟨by rw [HA.out]; rfl, R3.out.set5 X3.out _ _ _ _ _, K3.out.set5 hle hB3.out (Nat.le_refl _) _ _ _ _ _⟩
end
end Lab
end Go.Proofs.YthioanenljpclaaGreatDoor
