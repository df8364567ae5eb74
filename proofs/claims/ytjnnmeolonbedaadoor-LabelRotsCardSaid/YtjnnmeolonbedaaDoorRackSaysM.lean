/-
  'label.Newest' by a contract. Conditions: the rack is one.
-/
import Derived.Test.YtjnnmeolonbedaaDoorLabWriteM
import Derived.Test.YtjnnmeolonbedaaDoorLawCalmM
namespace Go.Proofs.YtjnnmeolonbedaaDoor
open Go Go.RowKit refRack
set_option maxRecDepth 100000
set_option linter.unusedVariables false
namespace Lab
def stepU (b u : U) : U := if b.t < u.t then u else b
/-- the newest of a drive's slots from a on, f of them, and b; none where the power is off -/
noncomputable def NRow (s : RS) (d : Nat) : Nat → Nat → U → Option U
  | 0, _, b => some b
  | f + 1, a, b => if lookE s d a = 16 then none else NRow s d f (a + 1) (stepU b (lookU s d a))
noncomputable def NAll (s : RS) : Nat → Nat → U → Option U
  | 0, _, b => some b
  | f + 1, d, b => (NRow s d 8 0 b).bind (NAll s f (d + 1))
def pickN : Option U → U × Int
  | none => (zeroU, 16)
  | some b => if b.t = 0 then (zeroU, 7) else (b, 0)
noncomputable def newU (s : RS) : U × Int := if 8 < s.ns then pickN (NAll s s.nd 0 zeroU) else (zeroU, 1)
abbrev zero5 : Array Value := #[.int .i64 0, .int .i64 0, .int .i64 0, .int .i64 0, .string ⟨#[]⟩]
section
variable {B : Nat}
set_option maxHeartbeats 1600000 in
theorem newest_lab (w : World) (r : Nat) (s : RS) (h : RackAt B w r s) (hl : Laid w) (hB : 0 < B) :
    Calls Tryd.prog 20 #[.pointer (some ⟨r, 0, none⟩)] w fun e w' => e = .returned (.tuple #[.agg (uA (newU s).1), .int .i64 (newU s).2]) ∧ RackAt B w' r s ∧ Keep B w w' := by
  have hle := h.le
  have K0 : Hid (Keep B w (w.alloc (.cells #[.int .i64 0, .int .i64 0, .int .i64 0, .int .i64 0, .string ⟨#[]⟩] 25))) := Lib.hid ((Keep.refl B w).alloc hle _)
  have X0 : Hid (Blk (w.alloc (.cells #[.int .i64 0, .int .i64 0, .int .i64 0, .int .i64 0, .string ⟨#[]⟩] 25)) w.heap.size 25 #[.int .i64 0, .int .i64 0, .int .i64 0, .int .i64 0, .string ⟨#[]⟩]) := Lib.hid (Blk.new _ _ _)
  have R0 := Lib.hid (h.alloc (.cells #[.int .i64 0, .int .i64 0, .int .i64 0, .int .i64 0, .string ⟨#[]⟩] 25))
  have HF := Lib.hid (fits_any _ r s R0.out)
  have HLD := Lib.hid hl
  have HOK := Lib.hid h.1
  clear h hl
  by_cases h8 : 8 < s.ns
  rotate_left
  · have hW : Hid (newU s = (zeroU, 1)) := Lib.hid (by unfold newU; rw [if_neg h8])
    rw [hW.out]
    rw [show decide (8 < s.ns) = false by simpa using h8] at HF
    obtain ⟨⟨d0, d1, d2, d3, d4⟩, e0, e1, e2, e3, e4⟩ := uber_facts X0.out
    clear h8 hW
    go_enter Tryd.func20, Tryd.ntmps20
    go_wp2_with fail
    refine HF.out.mono ?_
    rintro e w' ⟨rfl, rfl⟩
    go_wp2_with fail
    refine bodyPost_ret (results_cell2 rfl rfl (loadVar_blk X0.out Tryd.underlying25 rfl isize_uber) rfl) rfl ?_
    exact ⟨rfl, R0.out, K0.out⟩
  rw [show decide (8 < s.ns) = true by simpa using h8] at HF
  obtain ⟨fin, hfin⟩ : ∃ fin, fin = NAll s s.nd 0 zeroU := ⟨_, rfl⟩
  have hW : Hid (newU s = pickN fin) := Lib.hid (by
    unfold newU
    rw [if_pos h8]
    exact congrArg pickN hfin.symm)
  obtain ⟨ans, hans⟩ : ∃ ans, ans = newU s := ⟨_, rfl⟩
  rw [← hans]
  rw [← hans] at hW
  obtain ⟨nd, hnd⟩ : ∃ nd, nd = s.nd := ⟨_, rfl⟩
  rw [← hnd] at hfin
  have HND := Lib.hid hnd
  have HFIN := Lib.hid hfin
  have hnd16 : nd ≤ 16 := by rw [hnd]; exact HOK.out.nd2
  clear h8 hfin hans hnd
  have K1 := Lib.hid (K0.out.alloc R0.out.le (.cells #[.int .i64 0, .int .i64 0, .int .i64 0, .int .i64 0, .string ⟨#[]⟩] 25))
  have X1 := Lib.hid (X0.out.alloc (.cells #[.int .i64 0, .int .i64 0, .int .i64 0, .int .i64 0, .string ⟨#[]⟩] 25))
  have R1 := Lib.hid (R0.out.alloc (.cells #[.int .i64 0, .int .i64 0, .int .i64 0, .int .i64 0, .string ⟨#[]⟩] 25))
  have Y1 := Lib.hid (Blk.new (w.alloc (.cells #[.int .i64 0, .int .i64 0, .int .i64 0, .int .i64 0, .string ⟨#[]⟩] 25)) 25 #[.int .i64 0, .int .i64 0, .int .i64 0, .int .i64 0, .string ⟨#[]⟩])
  go_enter Tryd.func20, Tryd.ntmps20
  go_wp2_with fail
  refine HF.out.mono ?_
  rintro e w' ⟨rfl, rfl⟩
  go_wp2_with fail
  obtain ⟨W1, hW1⟩ : ∃ W1, W1 = (w.alloc (.cells #[.int .i64 0, .int .i64 0, .int .i64 0, .int .i64 0, .string ⟨#[]⟩] 25)).alloc (.cells #[.int .i64 0, .int .i64 0, .int .i64 0, .int .i64 0, .string ⟨#[]⟩] 25) := ⟨_, rfl⟩
  have hg4 : (w.alloc (.cells #[.int .i64 0, .int .i64 0, .int .i64 0, .int .i64 0, .string ⟨#[]⟩] 25)).heap.size = w.heap.size + 1 := by simp
  rw [hg4] at Y1
  rw [← hW1] at K1 X1 R1 Y1 ⊢
  clear hW1 hg4 HF K0 X0 R0
  refine (drives_any _ r s R1.out).mono ?_
  rintro e w' ⟨rfl, rfl⟩
  rw [← HND.out]
  go_wp2_with fail
  go_loopw [5, 6, 7, 8, 15, 18] (fun _ _ _ _ i _ wr => ∃ (d : Nat) (b : U), d ≤ nd ∧ i = .int .i64 d ∧ Hid (NAll s (nd - d) d b = fin) ∧ Hid (RackAt B wr r s) ∧ Hid (Keep B w wr) ∧
    Hid (Blk wr w.heap.size 25 #[.int .i64 0, .int .i64 0, .int .i64 0, .int .i64 0, .string ⟨#[]⟩]) ∧ Hid (Blk wr (w.heap.size + 1) 25 (uA b))) (fun _ _ _ _ i _ _ => nd - (intOf i).toNat)
  case atStart => exact ⟨0, zeroU, by omega, rfl, Lib.hid HFIN.out.symm, R1, K1, X1, Y1⟩
  case round =>
    obtain ⟨d, b, hd, rfl, W3, R3, K3, X3, Y3⟩ := hrel
    clear R1 K1 X1 Y1
    by_cases hdn : d < nd
    · have t1 : decide (d < nd) = true := by simpa using hdn
      have hstep : NAll s (nd - d) d b = (NRow s d 8 0 b).bind (NAll s (nd - (d + 1)) (d + 1)) := by
        rw [show nd - d = (nd - (d + 1)) + 1 by omega]
        rfl
      rw [hstep] at W3
      clear hstep
      go_wp2_with fail
      clear t1
      go_loopw [6, 7, 8, 18] (fun _ _ _ i wr => ∃ (a : Nat) (b : U), a ≤ 8 ∧ i = .int .i64 a ∧ Hid ((NRow s d (8 - a) a b).bind (NAll s (nd - (d + 1)) (d + 1)) = fin) ∧ Hid (RackAt B wr r s) ∧ Hid (Keep B w wr) ∧
        Hid (Blk wr w.heap.size 25 #[.int .i64 0, .int .i64 0, .int .i64 0, .int .i64 0, .string ⟨#[]⟩]) ∧ Hid (Blk wr (w.heap.size + 1) 25 (uA b))) (fun _ _ _ i _ => 8 - (intOf i).toNat)
      case atStart => exact ⟨0, b, by omega, rfl, W3, R3, K3, X3, Y3⟩
      case round =>
        obtain ⟨a, b, ha, rfl, W4, R4, K4, X4, Y4⟩ := hrel
        clear W3 R3 K3 X3 Y3
        by_cases ha8 : a < 8
        · have t1 : decide ((a : Int) < 8) = true := by simp; omega
          have hstep : NRow s d (8 - a) a b = if lookE s d a = 16 then none else NRow s d (8 - (a + 1)) (a + 1) (stepU b (lookU s d a)) := by
            rw [show 8 - a = (8 - (a + 1)) + 1 by omega]
            rfl
          rw [hstep] at W4
          clear hstep
          have HLK := Lib.hid (look_any wr r s d a R4.out (HLD.out.below K4.out.below hB) hB)
          obtain ⟨y, hy⟩ : ∃ y, y = lookE s d a := ⟨_, rfl⟩
          obtain ⟨u, hu⟩ : ∃ u, u = lookU s d a := ⟨_, rfl⟩
          rw [← hy, ← hu] at W4 HLK
          clear hy hu
          go_wp2_with fail
          refine HLK.out.mono ?_
          rintro e w5 ⟨rfl, h5, k5⟩
          obtain ⟨ut, ⟨ua, uz, ub, us⟩⟩ := u
          obtain ⟨bt, ⟨ba, bz, bb, bs⟩⟩ := b
          simp only [uA] at Y4 ⊢
          have bV : Below w5.heap.size w5 (w5.alloc (.cells #[.int .i64 ut, .int .i64 ua, .int .i64 uz, .int .i64 ub, .string us] 25)) := (Below.refl _ _).alloc (Nat.le_refl _) _
          have R5 := Lib.hid (h5.below bV)
          have K5 := Lib.hid ((K4.out.trans k5).new bV h5.le)
          have X5 := Lib.hid ((k5.block X4.out rfl).new_ bV)
          have Y5 := Lib.hid ((k5.block Y4.out rfl).new_ bV)
          have Z5 := Lib.hid (Blk.new w5 25 #[.int .i64 ut, .int .i64 ua, .int .i64 uz, .int .i64 ub, .string us])
          obtain ⟨⟨d0, d1, d2, d3, d4⟩, e0, e1, e2, e3, e4⟩ := uber_facts X5.out
          obtain ⟨⟨f0, f1, f2, f3, f4⟩, i0, i1, i2, i3, i4⟩ := uber_facts Y5.out
          obtain ⟨⟨j0, j1, j2, j3, j4⟩, _, _, _, _, _⟩ := uber_facts Z5.out
          have hB5 : Hid (B ≤ (w5.alloc (.cells #[.int .i64 ut, .int .i64 ua, .int .i64 uz, .int .i64 ub, .string us] 25)).heap.size) := Lib.hid R5.out.le
          have hne : Hid (w.heap.size ≠ w.heap.size + 1) := Lib.hid (by omega)
          clear h5 k5 bV R4 K4 X4 Y4 HLK t1
          by_cases hy16 : y = 16
          · subst hy16
            rw [if_pos rfl] at W4
            have HA : Hid (ans = (zeroU, 16)) := Lib.hid (by rw [hW.out, ← W4.out]; rfl)
            clear W4 f0 f1 f2 f3 f4 i0 i1 i2 i3 i4 j0 j1 j2 j3 j4
            go_wp2_with fail
            refine bodyPost_ret (results_cell2 rfl rfl (set5_load X5.out _ _ _ _ _) rfl) rfl ?_
            exact ⟨by rw [HA.out]; rfl, R5.out.set5 X5.out _ _ _ _ _, K5.out.set5 hle hB5.out (Nat.le_refl _) _ _ _ _ _⟩
          have t2 : (y == 16) = false := by simpa using hy16
          rw [if_neg hy16] at W4
          clear hy16
          by_cases hgt : bt < ut
          · have t3 : decide (bt < ut) = true := by simpa using hgt
            have hst : stepU ⟨bt, ⟨ba, bz, bb, bs⟩⟩ ⟨ut, ⟨ua, uz, ub, us⟩⟩ = ⟨ut, ⟨ua, uz, ub, us⟩⟩ := if_pos hgt
            rw [hst] at W4
            have R6 := Lib.hid (R5.out.set5 Y5.out (.int .i64 ut) (.int .i64 ua) (.int .i64 uz) (.int .i64 ub) (.string us))
            have K6 := Lib.hid (K5.out.set5 (g := w.heap.size + 1) (by omega) hB5.out (by omega) (.int .i64 ut) (.int .i64 ua) (.int .i64 uz) (.int .i64 ub) (.string us))
            have X6 := Lib.hid (X5.out.grown (grown_set5 _ (w.heap.size + 1) (.int .i64 ut) (.int .i64 ua) (.int .i64 uz) (.int .i64 ub) (.string us)) (fun e => hne.out (by injection e)))
            have Y6 := Lib.hid (set5_blk Y5.out (.int .i64 ut) (.int .i64 ua) (.int .i64 uz) (.int .i64 ub) (.string us))
            clear hst hgt R5 K5 X5 Y5 Z5
            unfold set5 at R6 K6 X6 Y6
            go_wp2_with fail
            go_roundw
            case rel => exact ⟨a + 1, ⟨ut, ⟨ua, uz, ub, us⟩⟩, by omega, by go_num, W4, R6, K6, X6, Y6⟩
            case measure => simp [intOf]; omega
          · have t3 : decide (bt < ut) = false := by simpa using hgt
            have hst : stepU ⟨bt, ⟨ba, bz, bb, bs⟩⟩ ⟨ut, ⟨ua, uz, ub, us⟩⟩ = ⟨bt, ⟨ba, bz, bb, bs⟩⟩ := if_neg hgt
            rw [hst] at W4
            clear hst hgt
            go_wp2_with fail
            go_roundw
            case rel => exact ⟨a + 1, ⟨bt, ⟨ba, bz, bb, bs⟩⟩, by omega, by go_num, W4, R5, K5, X5, Y5⟩
            case measure => simp [intOf]; omega
        · have t1 : decide ((a : Int) < 8) = false := by simp; omega
          have e8 : 8 - a = 0 := by omega
          rw [e8] at W4
          have W5 : Hid (NAll s (nd - (d + 1)) (d + 1) b = fin) := Lib.hid W4.out
          clear W4 e8
          go_wp2_with fail
          go_roundw
          case rel => exact ⟨d + 1, b, by omega, by go_num, W5, R4, K4, X4, Y4⟩
          case measure => simp [intOf]; omega
    · have t1 : decide (d < nd) = false := by simpa using hdn
      have e : nd - d = 0 := by omega
      rw [e] at W3
      have W4 : Hid (fin = some b) := Lib.hid W3.out.symm
      obtain ⟨bt, ⟨ba, bz, bb, bs⟩⟩ := b
      simp only [uA] at Y3
      obtain ⟨⟨d0, d1, d2, d3, d4⟩, e0, e1, e2, e3, e4⟩ := uber_facts X3.out
      obtain ⟨⟨f0, f1, f2, f3, f4⟩, _, _, _, _, _⟩ := uber_facts Y3.out
      have hB3 : Hid (B ≤ wr.heap.size) := Lib.hid R3.out.le
      clear e W3
      by_cases hb0 : bt = 0
      · have HA : Hid (ans = (zeroU, 7)) := Lib.hid (by rw [hW.out, W4.out]; exact if_pos hb0)
        subst hb0
        clear W4
        go_wp2_with fail
        refine bodyPost_ret (results_cell2 rfl rfl (set5_load X3.out _ _ _ _ _) rfl) rfl ?_
        exact ⟨by rw [HA.out]; rfl, R3.out.set5 X3.out _ _ _ _ _, K3.out.set5 hle hB3.out (Nat.le_refl _) _ _ _ _ _⟩
      · have HA : Hid (ans = (⟨bt, ⟨ba, bz, bb, bs⟩⟩, 0)) := Lib.hid (by rw [hW.out, W4.out]; exact if_neg hb0)
        have t2 : (bt == 0) = false := by simpa using hb0
        clear W4 hb0
        go_wp2_with fail
        refine bodyPost_ret (results_cell2 rfl rfl (set5_load X3.out _ _ _ _ _) rfl) rfl ?_
        exact ⟨by rw [HA.out]; rfl, R3.out.set5 X3.out _ _ _ _ _, K3.out.set5 hle hB3.out (Nat.le_refl _) _ _ _ _ _⟩
end
end Lab
end Go.Proofs.YtjnnmeolonbedaaDoor
namespace Go.Proofs.YtjnnmeolonbedaaDoor
set_option maxRecDepth 100000
open Go Go.RowKit
set_option linter.unusedVariables false

theorem newIn_wrote (s : RS) (d a : Nat) (X : Nat → Nat) (d' a' : Nat) : ∀ k, k ≤ s.nw → newIn (s.wrote d a X).W d' a' k = newIn s.W d' a' k := fun k hk =>
  newIn_congr fun i hi => by
    have : (s.wrote d a X).W i = s.W i := if_neg (by omega)
    rw [this]
    exact ⟨rfl, rfl⟩
theorem newIn_succ (W : Nat → Wt) (d a k : Nat) : newIn W d a (k + 1) = if (W k).d = d ∧ (W k).a = a then some k else newIn W d a k := rfl
theorem holds_wrote (s : RS) (d a : Nat) (X : Nat → Nat) (d' a' : Nat) : (s.wrote d a X).holds d' a' = if d' = d ∧ a' = a then X else s.holds d' a' := by
  have e : (s.wrote d a X).W s.nw = ⟨d, a, X⟩ := if_pos rfl
  unfold RS.holds
  show (match newIn (s.wrote d a X).W d' a' (s.nw + 1) with | some i => ((s.wrote d a X).W i).x | none => s.last d' a') = _
  rw [newIn_succ, e]
  by_cases h : d = d' ∧ a = a'
  · obtain ⟨rfl, rfl⟩ := h
    rw [if_pos ⟨rfl, rfl⟩, if_pos ⟨rfl, rfl⟩]
    show ((s.wrote d a X).W s.nw).x = X
    rw [e]
  · rw [if_neg h, if_neg (fun x => h ⟨x.1.symm, x.2.symm⟩), newIn_wrote s d a X d' a' s.nw (Nat.le_refl _)]
    cases hi : newIn s.W d' a' s.nw with
    | none => rfl
    | some i =>
      have hlt := (newIn_lt hi).1
      have : (s.wrote d a X).W i = s.W i := if_neg (by omega)
      simp only [this]
theorem lay_all (s : RS) (d a : Nat) : ∀ k, s.lay (fun _ => true) k d a = match newIn s.W d a k with | some i => (s.W i).x | none => s.last d a
  | 0 => rfl
  | k + 1 => by
    rw [newIn_succ]
    unfold RS.lay
    by_cases h : (s.W k).d = d ∧ (s.W k).a = a
    · simp only [h.1, h.2, and_self, if_true]
    · rw [if_neg (fun x => h x.2), if_neg h]
      exact lay_all s d a k
theorem holds_flushed (s : RS) (d a : Nat) : s.flushed.holds d a = s.holds d a := by
  show s.lay (fun _ => true) s.nw d a = _
  rw [lay_all]
  rfl
theorem holds_crashed (s : RS) (P : Nat → Bool) (d a : Nat) : (s.crashed P).holds d a = s.lay P s.nw d a := rfl
theorem holds_new (nd ns d a : Nat) : (RS.new nd ns).holds d a = zeros := rfl
end Go.Proofs.YtjnnmeolonbedaaDoor
