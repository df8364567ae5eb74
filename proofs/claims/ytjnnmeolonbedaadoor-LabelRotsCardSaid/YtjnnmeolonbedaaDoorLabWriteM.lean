/-
  'label.fits', 'label.slot', 'label.look' by contracts. Conditions: the rack is one.
-/
import Derived.Test.YtjnnmeolonbedaaDoorLabDecM
import Derived.Test.YtjnnmeolonbedaaDoorLawCalmM
namespace Go.Proofs.YtjnnmeolonbedaaDoor
open Go Go.RowKit refRack
set_option maxRecDepth 100000
set_option linter.unusedVariables false
namespace Lab
/-- the bytes of a sector -/
def sec (s : RS) (d a : Nat) : List Nat := (List.range 128).map (s.holds d a)
theorem sec_length (s : RS) (d a : Nat) : (sec s d a).length = 128 := by simp [sec]
theorem sec_lst (s : RS) (d a j : Nat) (h : j < 128) : lst (sec s d a) j = s.holds d a j := by
  unfold lst sec
  rw [List.getD_eq_getElem?_getD]
  simp [h]
theorem sec_lt {s : RS} (h : s.ok) (d a : Nat) : ∀ b ∈ sec s d a, b < 256 := fun b hb => by
  unfold sec at hb
  rw [List.mem_map] at hb
  obtain ⟨j, hj, rfl⟩ := hb
  exact RS.holds_lt h d a j (by simpa using hj)
/-- the record in a slot, if there is one -/
def Has (s : RS) (d a : Nat) (u : U) : Prop := Is (sec s d a) u ∧ u.t.tmod 8 = (a : Int)
open Classical in
noncomputable def found (s : RS) (d a : Nat) : Option U := if h : ∃ u, Has s d a u then some h.choose else none
theorem found_some {s : RS} {d a : Nat} {u : U} (h : Has s d a u) : found s d a = some u := by
  have hx : ∃ u, Has s d a u := ⟨u, h⟩
  unfold found
  rw [dif_pos hx]
  exact congrArg some (hx.choose_spec.1.one h.1)
theorem found_none {s : RS} {d a : Nat} (h : ∀ u, ¬ Has s d a u) : found s d a = none := by
  unfold found
  rw [dif_neg (fun ⟨u, hu⟩ => h u hu)]
theorem found_has {s : RS} {d a : Nat} {u : U} (h : found s d a = some u) : Has s d a u := by
  by_cases hx : ∃ u, Has s d a u
  · have h2 := h
    unfold found at h2
    rw [dif_pos hx] at h2
    injection h2 with h2
    rw [← h2]
    exact hx.choose_spec
  · unfold found at h
    rw [dif_neg hx] at h
    cases h
noncomputable def lookU (s : RS) (d a : Nat) : U := if s.deny (d : Int) (a : Int) = 0 then (found s d a).getD zeroU else zeroU
noncomputable def lookE (s : RS) (d a : Nat) : Int := if s.deny (d : Int) (a : Int) = 0 then (if (found s d a).isSome = true then 0 else 7) else s.deny (d : Int) (a : Int)
theorem rdb_own {w : World} {B n : Nat} {v : Value} {X : Nat → Nat} (h : w.ownsRow B 5 1 v n (rowL n X)) (hn : 0 < n) (hX : ∀ j, j < n → X j < 256) : ∃ A c, v = .slice A n c ∧ RdB w w.heap.size A n X ∧ n ≤ c ∧ c ≤ maxLen := by
  rcases h.2 with ⟨rfl, h0⟩ | ⟨g, cap, cur, rfl, h1, h2, h3, h4, _⟩
  · omega
  · refine ⟨_, _, rfl, fun j hj => ⟨g, 0, rfl, (Array.getElem?_eq_some_iff.1 h2).1, ?_, hX j hj⟩, h3, h4⟩
    rw [Nat.zero_add, h.cellAt j (by omega)]
    exact rowL_get X hj
section
variable {B : Nat}
theorem fits_any (w : World) (r : Nat) (s : RS) (h : RackAt B w r s) :
    Calls Tryd.prog 32 #[.pointer (some ⟨r, 0, none⟩)] w fun e w' => e = .returned (.bool (decide (8 < s.ns))) ∧ w = w' := by
  have HS := Lib.hid (sectors_any w r s h)
  have hns := h.1.ns2
  clear h
  by_cases h8 : 8 < s.ns
  · have t1 : decide ((8 : Int) < (s.ns : Int)) = true := by simp; omega
    have t2 : decide (8 < s.ns) = true := by simp; omega
    rw [t2]
    clear t2
    go_enter Tryd.func32, Tryd.ntmps32
    go_wp2_with fail
    refine HS.out.mono ?_
    rintro e w' ⟨rfl, rfl⟩
    go_wp2_with fail
    go_ret
    exact ⟨rfl, rfl⟩
  · have t1 : decide ((8 : Int) < (s.ns : Int)) = false := by simp; omega
    have t2 : decide (8 < s.ns) = false := by simp; omega
    rw [t2]
    clear t2
    go_enter Tryd.func32, Tryd.ntmps32
    go_wp2_with fail
    refine HS.out.mono ?_
    rintro e w' ⟨rfl, rfl⟩
    go_wp2_with fail
    go_ret
    exact ⟨rfl, rfl⟩
theorem slot_any (t : Int) (w : World) : Calls Tryd.prog 35 #[.int .i64 t] w fun e w' => e = .returned (.int .i64 (t.tmod 8)) ∧ w = w' := by
  have h1 : -8 < t.tmod 8 ∧ t.tmod 8 < 8 := by
    have h2 := Int.emod_nonneg t (show (8 : Int) ≠ 0 by omega)
    rcases Int.le_total 0 t with h | h
    · rw [Int.tmod_eq_emod_of_nonneg h]; omega
    · have e : t.tmod 8 = -((-t).tmod 8) := by rw [Int.neg_tmod]; omega
      rw [e, Int.tmod_eq_emod_of_nonneg (by omega)]
      omega
  have hw : IntKind.i64.wrap (t.tmod 8) = t.tmod 8 := by rw [IntKind.wrap_i64]; omega
  have HW := Lib.hid hw
  clear h1 hw
  go_enter Tryd.func35, Tryd.ntmps35
  go_wp2_with fail
  go_ret
  first
  | exact ⟨rfl, rfl⟩
  | exact ⟨by rw [HW.out], rfl⟩
  | (simp [HW.out])
theorem grown_set5 (w : World) (g : Nat) (a b c d e : Value) : w.grownBy (set5 w g a b c d e) (some g) := by
  have tr : ∀ {x y z : World}, x.grownBy y (some g) → y.grownBy z (some g) → x.grownBy z (some g) := fun h k =>
    ⟨k.os.trans h.os, k.tape.trans h.tape, k.output.trans h.output, Nat.le_trans h.size k.size, fun i hi hne => (k.block i (Nat.lt_of_lt_of_le hi h.size) hne).trans (h.block i hi hne)⟩
  unfold set5
  exact tr (tr (tr (tr (grown_set w g 0 a) (grown_set _ g 1 b)) (grown_set _ g 2 c)) (grown_set _ g 3 d)) (grown_set _ g 4 e)
theorem _root_.Go.Proofs.YtjnnmeolonbedaaDoor.RackAt.set5 {w : World} {r g : Nat} {s : RS} {cs : Array Value} (h : RackAt B w r s) (hg : Blk w g 25 cs) (a b c d e : Value) : RackAt B (set5 w g a b c d e) r s := h.grownFar hg rfl (grown_set5 w g a b c d e)
theorem _root_.Go.Proofs.YtjnnmeolonbedaaDoor.Keep.set5 {a0 w : World} {g : Nat} (h : Keep B a0 w) (hB : B ≤ g) (hs : B ≤ w.heap.size) (ha : a0.heap.size ≤ g) (a b c d e : Value) : Keep B a0 (set5 w g a b c d e) := h.grownNew (grown_set5 w g a b c d e) hB hs ha
theorem rdb_sec {w : World} {Bb : Nat} {A : Option Addr} {s : RS} {d a : Nat} (h : RdB w Bb A 128 (s.holds d a)) : RdB w Bb A (sec s d a).length (lst (sec s d a)) := fun j hj => by
  rw [sec_length] at hj
  rw [sec_lst s d a j hj]
  exact h j hj
set_option maxHeartbeats 3200000 in
theorem look_any (w : World) (r : Nat) (s : RS) (d a : Nat) (h : RackAt B w r s) (hl : Laid w) (hB : 0 < B) :
    Calls Tryd.prog 39 #[.pointer (some ⟨r, 0, none⟩), .int .i64 (d : Int), .int .i64 (a : Int)] w fun e w' => e = .returned (.tuple #[.agg (uA (lookU s d a)), .int .i64 (lookE s d a)]) ∧ RackAt B w' r s ∧ Keep B w w' := by
  have hle := h.le
  have K0 : Hid (Keep B w (w.alloc (.cells #[.int .i64 0, .int .i64 0, .int .i64 0, .int .i64 0, .string ⟨#[]⟩] 25))) := Lib.hid ((Keep.refl B w).alloc hle _)
  have X0 : Hid (Blk (w.alloc (.cells #[.int .i64 0, .int .i64 0, .int .i64 0, .int .i64 0, .string ⟨#[]⟩] 25)) w.heap.size 25 #[.int .i64 0, .int .i64 0, .int .i64 0, .int .i64 0, .string ⟨#[]⟩]) := Lib.hid (Blk.new _ _ _)
  have HR := Lib.hid (read_tot _ r s (d : Int) (a : Int) (h.alloc (.cells #[.int .i64 0, .int .i64 0, .int .i64 0, .int .i64 0, .string ⟨#[]⟩] 25)))
  have HOK := Lib.hid h.1
  have HLD := Lib.hid hl
  clear h hl
  obtain ⟨y, hy⟩ : ∃ y, y = s.deny (d : Int) (a : Int) := ⟨_, rfl⟩
  rw [← hy] at HR
  have HY := Lib.hid hy
  by_cases h0 : y = 0
  rotate_left
  · have hU : Hid (lookU s d a = zeroU) := Lib.hid (by unfold lookU; rw [if_neg (by rw [← hy]; exact h0)])
    have hE : Hid (lookE s d a = y) := Lib.hid (by unfold lookE; rw [if_neg (by rw [← hy]; exact h0), ← hy])
    rw [hU.out, hE.out]
    have t1 : (y != 0) = true := by simpa using h0
    clear hy h0 hU hE
    go_enter Tryd.func39, Tryd.ntmps39
    go_wp2_with fail
    refine HR.out.mono ?_
    rintro e w2 ⟨⟨v, rfl, ho⟩, h2, k2⟩
    have R2 := Lib.hid h2
    have K2 := Lib.hid (K0.out.trans k2)
    have X2 := Lib.hid (k2.block X0.out rfl)
    obtain ⟨⟨d0, d1, d2, d3, d4⟩, e0, e1, e2, e3, e4⟩ := uber_facts X2.out
    obtain ⟨A, c, rfl⟩ : ∃ A c, v = .slice A (rdN s (d : Int) (a : Int)) c := by
      rcases ho.2 with ⟨e, e2⟩ | ⟨l, cap, cur, e, _⟩
      · exact ⟨none, 0, by rw [e, e2]⟩
      · exact ⟨_, cap, e⟩
    clear ho h2 k2 K0 X0 HR
    go_wp2_with fail
    refine bodyPost_ret (results_cell2 rfl rfl (set5_load X2.out _ _ _ _ _) rfl) rfl ?_
    exact ⟨rfl, R2.out.set5 X2.out _ _ _ _ _, K2.out.set5 hle (Nat.le_trans hle K2.out.below.size) (Nat.le_refl _) _ _ _ _ _⟩
  · subst h0
    have hN : rdN s (d : Int) (a : Int) = 128 := by unfold rdN; rw [if_pos hy.symm]
    rw [hN] at HR
    simp only [Int.toNat_natCast] at HR
    have HU : Hid (lookU s d a = (found s d a).getD zeroU) := Lib.hid (by unfold lookU; rw [if_pos hy.symm])
    have HE : Hid (lookE s d a = if (found s d a).isSome = true then 0 else 7) := Lib.hid (by unfold lookE; rw [if_pos hy.symm])
    clear hy hN HY
    go_enter Tryd.func39, Tryd.ntmps39
    go_wp2_with fail
    refine HR.out.mono ?_
    rintro e w2 ⟨⟨v, rfl, ho⟩, h2, k2⟩
    have R2 := Lib.hid h2
    have K2 := Lib.hid (K0.out.trans k2)
    have X2 := Lib.hid (k2.block X0.out rfl)
    obtain ⟨A, c, rfl, hr, hlc, hcm⟩ := rdb_own ho (by omega) (fun j hj => RS.holds_lt HOK.out d a j hj)
    have RB := Lib.hid (rdb_sec hr)
    have HCM := Lib.hid hcm
    have HDC := Lib.hid (decode_lab A (sec s d a) c w2.heap.size w2 RB.out (Nat.le_refl _) (sec_lt HOK.out d a) (by rw [sec_length]; exact hlc) hcm ((HLD.out.below K2.out.below hB)))
    rw [sec_length] at HDC
    clear ho h2 k2 K0 X0 HR hr hcm
    go_wp2_with fail
    refine HDC.out.mono ?_
    rintro e w3 ⟨hd3, b3⟩
    have R3 := Lib.hid (R2.out.below b3)
    have K3 := Lib.hid (K2.out.new b3 (Nat.le_trans hle K2.out.below.size))
    have X3 := Lib.hid (X2.out.new_ b3)
    have HX3 := Lib.hid X3.out.lt
    clear b3 HDC R2 K2 X2 RB
    rcases hd3 with ⟨u, hu, rfl⟩ | ⟨hno, rfl⟩
    · have HIS := Lib.hid hu
      obtain ⟨t, ⟨pa, pz, pb, ps⟩⟩ := u
      simp only [uA]
      have X4 := Lib.hid (X3.out.alloc (.cells #[.int .i64 t, .int .i64 pa, .int .i64 pz, .int .i64 pb, .string ps] 25))
      have K4 := Lib.hid (K3.out.alloc (Nat.le_trans hle K3.out.below.size) (.cells #[.int .i64 t, .int .i64 pa, .int .i64 pz, .int .i64 pb, .string ps] 25))
      have R4 := Lib.hid (R3.out.alloc (.cells #[.int .i64 t, .int .i64 pa, .int .i64 pz, .int .i64 pb, .string ps] 25))
      have Y4 := Lib.hid (Blk.new w3 25 #[.int .i64 t, .int .i64 pa, .int .i64 pz, .int .i64 pb, .string ps])
      obtain ⟨⟨d0, d1, d2, d3, d4⟩, e0, e1, e2, e3, e4⟩ := uber_facts X4.out
      obtain ⟨⟨f0, f1, f2, f3, f4⟩, _, _, _, _, _⟩ := uber_facts Y4.out
      obtain ⟨q, hq⟩ : ∃ q, q = t.tmod 8 := ⟨_, rfl⟩
      have HSL : Hid (∀ W, Calls Tryd.prog 35 #[.int .i64 t] W fun e w' => e = .returned (.int .i64 q) ∧ W = w') := Lib.hid fun W => by
        rw [hq]
        exact slot_any t W
      clear hu R3 K3 X3
      by_cases hqa : q = (a : Int)
      · have HF : Hid (found s d a = some ⟨t, ⟨pa, pz, pb, ps⟩⟩) := Lib.hid (found_some ⟨HIS.out, by show t.tmod 8 = _; rw [← hq]; exact hqa⟩)
        have HV : Hid (Ending.returned (.tuple #[.agg #[.int .i64 t, .int .i64 pa, .int .i64 pz, .int .i64 pb, .string ps], .int .i64 0]) = .returned (.tuple #[.agg (uA (lookU s d a)), .int .i64 (lookE s d a)])) := Lib.hid (by rw [HU.out, HE.out, HF.out]; rfl)
        subst hqa
        have t1 : ((a : Int) != (a : Int)) = false := by simp
        clear HF HIS hq HU HE
        go_wp2_with fail
        refine (HSL.out _).mono ?_
        rintro e w' ⟨rfl, rfl⟩
        go_wp2_with fail
        refine bodyPost_ret (results_cell2 rfl rfl (set5_load X4.out _ _ _ _ _) rfl) rfl ?_
        exact ⟨HV.out, R4.out.set5 X4.out _ _ _ _ _, K4.out.set5 hle (Nat.le_trans hle K4.out.below.size) (Nat.le_refl _) _ _ _ _ _⟩
      · have HF : Hid (found s d a = none) := Lib.hid (found_none fun v hv => by
          have := hv.1.one HIS.out
          subst this
          exact hqa (hq.trans hv.2))
        have HV : Hid (Ending.returned (.tuple #[.agg #[.int .i64 0, .int .i64 0, .int .i64 0, .int .i64 0, .string ⟨#[]⟩], .int .i64 7]) = .returned (.tuple #[.agg (uA (lookU s d a)), .int .i64 (lookE s d a)])) := Lib.hid (by rw [HU.out, HE.out, HF.out]; rfl)
        have t1 : (q != (a : Int)) = true := by simpa using hqa
        clear HF HIS hq HU HE hqa
        go_wp2_with fail
        refine (HSL.out _).mono ?_
        rintro e w' ⟨rfl, rfl⟩
        go_wp2_with fail
        refine bodyPost_ret (results_cell2 rfl rfl (set5_load X4.out _ _ _ _ _) rfl) rfl ?_
        exact ⟨HV.out, R4.out.set5 X4.out _ _ _ _ _, K4.out.set5 hle (Nat.le_trans hle K4.out.below.size) (Nat.le_refl _) _ _ _ _ _⟩
    · have HF : Hid (found s d a = none) := Lib.hid (found_none fun v hv => hno v hv.1)
      have HV : Hid (Ending.returned (.tuple #[.agg #[.int .i64 0, .int .i64 0, .int .i64 0, .int .i64 0, .string ⟨#[]⟩], .int .i64 7]) = .returned (.tuple #[.agg (uA (lookU s d a)), .int .i64 (lookE s d a)])) := Lib.hid (by rw [HU.out, HE.out, HF.out]; rfl)
      have X4 := Lib.hid (X3.out.alloc (.cells #[.int .i64 0, .int .i64 0, .int .i64 0, .int .i64 0, .string ⟨#[]⟩] 25))
      have K4 := Lib.hid (K3.out.alloc (Nat.le_trans hle K3.out.below.size) (.cells #[.int .i64 0, .int .i64 0, .int .i64 0, .int .i64 0, .string ⟨#[]⟩] 25))
      have R4 := Lib.hid (R3.out.alloc (.cells #[.int .i64 0, .int .i64 0, .int .i64 0, .int .i64 0, .string ⟨#[]⟩] 25))
      obtain ⟨⟨d0, d1, d2, d3, d4⟩, e0, e1, e2, e3, e4⟩ := uber_facts X4.out
      clear HF hno HU HE R3 K3 X3
      go_wp2_with fail
      refine bodyPost_ret (results_cell2 rfl rfl (set5_load X4.out _ _ _ _ _) rfl) rfl ?_
      exact ⟨HV.out, R4.out.set5 X4.out _ _ _ _ _, K4.out.set5 hle (Nat.le_trans hle K4.out.below.size) (Nat.le_refl _) _ _ _ _ _⟩
end
end Lab
end Go.Proofs.YtjnnmeolonbedaaDoor
namespace Go.Proofs.YtjnnmeolonbedaaDoor
open Go Go.RowKit refRack
set_option maxRecDepth 100000
set_option linter.unusedVariables false
namespace Lab
theorem wrS_nd (s : RS) (D A : Int) (m : Nat) (X : Nat → Nat) : (wrS s D A m X).nd = s.nd ∧ (wrS s D A m X).ns = s.ns := by
  have h := spent_same s
  unfold wrS
  split
  · split
    · exact ⟨h.1, h.2.1⟩
    · exact ⟨h.1, h.2.1⟩
  · exact ⟨rfl, rfl⟩
/-- one write to each drive from k on, f of them: what the rack is then, the count, the error -/
def WR (q : Int) (X : Nat → Nat) : Nat → Nat → RS → Nat → RS × Int × Int
  | 0, _, s, n => (s, (n : Int), if n = 0 then 4 else 0)
  | f + 1, k, s, n => if wrE s (k : Int) q 128 = 16 then (wrS s (k : Int) q 128 X, 0, 16) else WR q X f (k + 1) (wrS s (k : Int) q 128 X) (if wrE s (k : Int) q 128 = 0 then n + 1 else n)
noncomputable def wroteL (s : RS) (u : U) : RS × Int × Int := if 8 < s.ns then (if okU u = true then WR (u.t.tmod 8) (lst (encL u)) s.nd 0 s 0 else (s, 0, 2)) else (s, 0, 1)
section
variable {B : Nat}
set_option maxHeartbeats 3200000 in
theorem write_lab (w : World) (r : Nat) (s : RS) (u : U) (h : RackAt B w r s) (hf : FitU u) (hl : Laid w) (hB : 0 < B) (hc : s.cost + s.nd ≤ 1000000) :
    Calls Tryd.prog 15 #[.pointer (some ⟨r, 0, none⟩), .agg (uA u)] w fun e w' => e = .returned (.tuple #[.int .i64 (wroteL s u).2.1, .int .i64 (wroteL s u).2.2]) ∧ RackAt B w' r (wroteL s u).1 ∧ Keep B w w' := by
  have hle := h.le
  have K0 : Hid (Keep B w (w.alloc (.cells (uA u) 25))) := Lib.hid ((Keep.refl B w).alloc hle _)
  have X0 : Hid (Blk (w.alloc (.cells (uA u) 25)) w.heap.size 25 (uA u)) := Lib.hid (Blk.new _ _ _)
  have R0 := Lib.hid (h.alloc (.cells (uA u) 25))
  have HF := Lib.hid (fits_any _ r s R0.out)
  have HEN := Lib.hid (encode_lab u (w.alloc (.cells (uA u) 25)) hf (hl.alloc _))
  have HFU := Lib.hid hf
  have HOK := Lib.hid h.1
  have HC := Lib.hid hc
  clear h hl hf hc
  by_cases h8 : 8 < s.ns
  rotate_left
  · have hW : Hid (wroteL s u = (s, 0, 1)) := Lib.hid (by unfold wroteL; rw [if_neg h8])
    rw [hW.out]
    rw [show decide (8 < s.ns) = false by simpa using h8] at HF
    obtain ⟨t, ⟨pa, pz, pb, ps⟩⟩ := u
    simp only [uA] at *
    clear h8 HEN X0
    go_enter Tryd.func15, Tryd.ntmps15
    go_wp2_with fail
    refine HF.out.mono ?_
    rintro e w' ⟨rfl, rfl⟩
    go_wp2_with fail
    go_ret2
    exact ⟨rfl, R0.out, K0.out⟩
  rw [show decide (8 < s.ns) = true by simpa using h8] at HF
  by_cases hok : okU u = true
  rotate_left
  · have hW : Hid (wroteL s u = (s, 0, 2)) := Lib.hid (by unfold wroteL; rw [if_pos h8, if_neg hok])
    have hE : encE u = 2 := by unfold encE; rw [if_neg hok]
    rw [hW.out]
    rw [hE] at HEN
    have hV : Hid (outB u = []) := Lib.hid (by unfold outB; rw [if_neg hok])
    rw [hV.out] at HEN
    obtain ⟨t, ⟨pa, pz, pb, ps⟩⟩ := u
    simp only [uA] at *
    clear h8 hok hE hV
    go_enter Tryd.func15, Tryd.ntmps15
    go_wp2_with fail
    refine HF.out.mono ?_
    rintro e w' ⟨rfl, rfl⟩
    go_wp2_with fail
    refine HEN.out.mono ?_
    rintro e w2 ⟨⟨v, rfl, hv⟩, b2⟩
    have R2 := Lib.hid (R0.out.below b2)
    have K2 := Lib.hid (K0.out.new b2 R0.out.le)
    obtain rfl : v = .slice none 0 0 := by
      rcases hv with ⟨_, e⟩ | ⟨e, _⟩
      · exact e
      · cases e
    clear b2 hv
    go_wp2_with fail
    go_ret2
    exact ⟨rfl, R2.out, K2.out⟩
  have hE : encE u = 0 := by unfold encE; rw [if_pos hok]
  have hV : outB u = encL u := by unfold outB; rw [if_pos hok]
  rw [hE, hV] at HEN
  have HLN : Hid ((encL u).length = 128) := Lib.hid (by
    have hp : K.okP u.p = true := by unfold okU at hok; rw [Bool.and_eq_true] at hok; exact hok.2
    exact encL_length hp HFU.out)
  have HLT : Hid (∀ j, lst (encL u) j < 256) := Lib.hid (fun j => by
    have hp : K.okP u.p = true := by unfold okU at hok; rw [Bool.and_eq_true] at hok; exact hok.2
    exact lst_lt (encL_lt hp HFU.out) j)
  have ht1 : Hid (1 ≤ u.t) := Lib.hid (by unfold okU at hok; rw [Bool.and_eq_true] at hok; exact of_decide_eq_true hok.1)
  obtain ⟨q, hq⟩ : ∃ q, q = u.t.tmod 8 := ⟨_, rfl⟩
  obtain ⟨X, hX⟩ : ∃ X, X = lst (encL u) := ⟨_, rfl⟩
  have hW : Hid (wroteL s u = WR q X s.nd 0 s 0) := Lib.hid (by unfold wroteL; rw [if_pos h8, if_pos hok, hq, hX])
  rw [hW.out]
  rw [← hX] at HLT
  have HSL : Hid (∀ W, Calls Tryd.prog 35 #[.int .i64 u.t] W fun e w' => e = .returned (.int .i64 q) ∧ W = w') := Lib.hid fun W => by
    rw [hq]
    exact slot_any u.t W
  have HXX := Lib.hid hX
  obtain ⟨t, ⟨pa, pz, pb, ps⟩⟩ := u
  simp only [uA] at *
  obtain ⟨EL, hEL⟩ : ∃ EL, EL = encL ⟨t, ⟨pa, pz, pb, ps⟩⟩ := ⟨_, rfl⟩
  rw [← hEL] at HEN HLN HXX
  obtain ⟨nd, hnd⟩ : ∃ nd, nd = s.nd := ⟨_, rfl⟩
  rw [← hnd]
  have HND := Lib.hid hnd
  have hnd16 : nd ≤ 16 := by rw [hnd]; exact HOK.out.nd2
  obtain ⟨fin, hfin⟩ : ∃ fin, fin = WR q X nd 0 s 0 := ⟨_, rfl⟩
  rw [← hfin]
  have HFIN := Lib.hid hfin
  clear h8 hok hE hV hq hX hEL hnd hfin hW ht1
  go_enter Tryd.func15, Tryd.ntmps15
  go_wp2_with fail
  refine HF.out.mono ?_
  rintro e w' ⟨rfl, rfl⟩
  go_wp2_with fail
  refine HEN.out.mono ?_
  rintro e w2 ⟨⟨v, rfl, hv⟩, b2⟩
  have R2 := Lib.hid (R0.out.below b2)
  have K2 := Lib.hid (K0.out.new b2 R0.out.le)
  have X2 := Lib.hid (X0.out.new_ b2)
  obtain ⟨gb, rfl, hgb⟩ : ∃ gb, v = .slice (some ⟨gb, 0, none⟩) 128 128 ∧ Blk w2 gb 5 (rowArr 128 X) := by
    rcases hv with ⟨e, _⟩ | ⟨_, g, e, _, hb⟩
    · have := HLN.out; rw [e] at this; cases this
    · exact ⟨g, e, by rw [HXX.out]; exact hb⟩
  have G2 := Lib.hid hgb
  clear b2 hv hgb HF HEN K0 X0 R0
  go_wp2_with fail
  refine (drives_any w2 r s R2.out).mono ?_
  rintro e w' ⟨rfl, rfl⟩
  rw [← HND.out]
  go_wp2_with fail
  go_loopw [8, 9, 23] (fun x z i wr => ∃ (k n : Nat) (s' : RS), k ≤ nd ∧ n ≤ k ∧ x = .int .i64 n ∧ i = .int .i64 k ∧ Hid (WR q X (nd - k) k s' n = fin) ∧ Hid (s'.cost ≤ s.cost + k ∧ s'.nd = nd) ∧ Hid (RackAt B wr r s') ∧ Hid (Keep B w wr) ∧
    Hid (Blk wr w.heap.size 25 #[.int .i64 t, .int .i64 pa, .int .i64 pz, .int .i64 pb, .string ps]) ∧ Hid (Blk wr gb 5 (rowArr 128 X))) (fun _ _ i _ => nd - (intOf i).toNat)
  case atStart => exact ⟨0, 0, s, by omega, by omega, rfl, rfl, Lib.hid HFIN.out.symm, Lib.hid ⟨by omega, HND.out.symm⟩, R2, K2, X2, G2⟩
  case round =>
    obtain ⟨k, n, s', hk, hn, rfl, rfl, W3, C3, R3, K3, X3, G3⟩ := hrel
    clear R2 K2 X2 G2
    by_cases hkn : k < nd
    · have t1 : decide (k < nd) = true := by simpa using hkn
      obtain ⟨⟨d0, d1, d2, d3, d4⟩, e0, e1, e2, e3, e4⟩ := uber_facts X3.out
      have hstep : WR q X (nd - k) k s' n = if wrE s' (k : Int) q 128 = 16 then (wrS s' (k : Int) q 128 X, 0, 16) else WR q X (nd - (k + 1)) (k + 1) (wrS s' (k : Int) q 128 X) (if wrE s' (k : Int) q 128 = 0 then n + 1 else n) := by
        rw [show nd - k = (nd - (k + 1)) + 1 by omega]
        rfl
      rw [hstep] at W3
      clear hstep
      obtain ⟨y, hy⟩ : ∃ y, y = wrE s' (k : Int) q 128 := ⟨_, rfl⟩
      have HWT := Lib.hid fun W (hR : RackAt B W r s') (hG : Blk W gb 5 (rowArr 128 X)) => wr_tot W r s' (k : Int) q gb 128 128 X hG (fun j _ => HLT.out j) (by have := C3.out.1; have := HC.out; have := HND.out; omega) hR
      rw [← hy] at W3 HWT
      have C4 : Hid ((wrS s' (k : Int) q 128 X).cost ≤ s.cost + (k + 1) ∧ (wrS s' (k : Int) q 128 X).nd = nd) := Lib.hid ⟨by have := C3.out.1; have := wrS_cost s' (k : Int) q 128 X; omega, by rw [(wrS_nd s' (k : Int) q 128 X).1]; exact C3.out.2⟩
      obtain ⟨s4, hs4⟩ : ∃ s4, s4 = wrS s' (k : Int) q 128 X := ⟨_, rfl⟩
      rw [← hs4] at W3 HWT C4
      clear hy hs4 C3
      go_wp2_with fail
      refine (HSL.out _).mono ?_
      rintro e w' ⟨rfl, rfl⟩
      go_wp2_with fail
      refine (HWT.out _ R3.out G3.out).mono ?_
      rintro e w5 ⟨rfl, h5, k5⟩
      have R5 := Lib.hid h5
      have K5 := Lib.hid (K3.out.trans k5)
      have X5 := Lib.hid (k5.block X3.out rfl)
      have G5 := Lib.hid (k5.block G3.out rfl)
      clear h5 k5 R3 K3 X3 G3 d0 d1 d2 d3 d4 e0 e1 e2 e3 e4 HWT t1
      by_cases hy0 : y = 0
      · subst hy0
        rw [if_neg (by omega), if_pos rfl] at W3
        go_wp2_with fail
        go_roundw
        case rel => exact ⟨k + 1, n + 1, s4, by omega, by omega, by go_num, by go_num, W3, C4, R5, K5, X5, G5⟩
        case measure => simp [intOf]; omega
      by_cases hy16 : y = 16
      · subst hy16
        rw [if_pos rfl] at W3
        have W4 : Hid (fin = (s4, 0, 16)) := Lib.hid W3.out.symm
        clear W3
        have t2 : ((16 : Int) == 0) = false := rfl
        go_wp2_with fail
        go_ret2
        rw [W4.out]
        exact ⟨rfl, R5.out, K5.out⟩
      · have t2 : (y == 0) = false := by simpa using hy0
        have t3 : (y == 16) = false := by simpa using hy16
        rw [if_neg hy16, if_neg hy0] at W3
        clear hy0 hy16
        go_wp2_with fail
        go_roundw
        case rel => exact ⟨k + 1, n, s4, by omega, by omega, by go_num, by go_num, W3, C4, R5, K5, X5, G5⟩
        case measure => simp [intOf]; omega
    · have t1 : decide (k < nd) = false := by simpa using hkn
      have e : nd - k = 0 := by omega
      rw [e] at W3
      have W4 : Hid (fin = (s', (n : Int), if n = 0 then 4 else 0)) := Lib.hid W3.out.symm
      clear e W3
      by_cases hn0 : n = 0
      · subst hn0
        have t2 : ((0 : Nat) : Int) == 0 := rfl
        go_wp2_with fail
        go_ret2
        rw [W4.out]
        exact ⟨rfl, R3.out, K3.out⟩
      · have t2 : ((n : Int) == 0) = false := by simp; omega
        go_wp2_with fail
        go_ret2
        rw [W4.out, if_neg hn0]
        exact ⟨rfl, R3.out, K3.out⟩
end
end Lab
end Go.Proofs.YtjnnmeolonbedaaDoor
