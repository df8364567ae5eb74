/-
  'step' of any other kind: the numbers of both racks. Conditions: both racks stand for the same.
-/
import Derived.Test.YtlbmeaioiiflkaaRefStep
namespace Go.Proofs.Ytlbmeaioiiflkaa
open Go Go.RowKit
set_option maxRecDepth 100000
set_option linter.unusedVariables false
namespace refRack
section
variable {B : Nat} {w w' : World} {r g c : Nat} {s t : RS}
/-- what the law reads of the document's rack -/
structure Seen (W : World) (g nd ns nw lh lg : Nat) (cL cG : Nat) (A : Option Addr) (cW : Nat) (lr cr : Nat) : Prop where
  L : W.cell? ⟨g, 0, none⟩ = some (.slice (some ⟨lh, 0, none⟩) nd cL)
  G : W.cell? ⟨g, 1, none⟩ = some (.slice (some ⟨lg, 0, none⟩) nd cG)
  Wt : W.cell? ⟨g, 2, none⟩ = some (.slice A nw cW)
  row : W.cell? ⟨lh, 0, none⟩ = some (.slice (some ⟨lr, 0, none⟩) ns cr)
theorem Both.seen (h : Both B w r g s t c) : ∃ lh lg cL cG A cW lr cr, Seen w g s.nd s.ns s.nw lh lg cL cG A cW lr cr ∧ ∀ q, q < s.nd → w.cell? ⟨lg, q, none⟩ = some (.bool (s.gone q)) := by
  obtain ⟨vL, vG, vW, H, C, hk⟩ := h.ref
  have h1 := h.rack.1.nd1
  have e1 := h.sim.nd
  have e2 := h.sim.ns
  have e3 := h.sim.nw
  have e4 := h.sim.gone
  obtain ⟨lh, cL, rfl, f1, _⟩ := hk.head (d := 0) (by omega)
  obtain ⟨lg, cG, rfl, _, _⟩ := hk.gone (d := 0) (by omega)
  obtain ⟨A, cW, rfl, _⟩ := hk.shapeW
  refine ⟨lh, lg, cL, cG, A, cW, H 0, C 0, ⟨by rw [← e1]; exact hk.c0, by rw [← e1]; exact hk.c1, by rw [← e3]; exact hk.c2, by rw [← e2]; exact f1⟩, fun q hq => ?_⟩
  obtain ⟨lg', c', e, f2, _⟩ := hk.gone (d := q) (by omega)
  injection e with e5
  injection e5 with e5
  injection e5 with e5
  rw [e5, f2, e4]
theorem Both.drewN (h : Both B w r g s t c) (n : Nat) : Both B (w.drewN n) r g s t c := h.below (below_drewN (Below.refl _ _) n)
set_option maxHeartbeats 1600000 in
theorem step_numbers (k d a f n : Int) (pa : Option Addr) (pn pc : Nat) (h1 : (k == 1) = false) (h2 : (k == 2) = false) (h3 : (k == 3) = false) (h4 : (k == 4) = false) (h5 : (k == 5) = false) (h6 : (k == 6) = false) (h7 : (k == 7) = false) (h8 : (k == 8) = false) (h : Both B w r g s t c) :
    Calls Try.prog 12 #[.pointer (some ⟨r, 0, none⟩), .pointer (some ⟨g, 0, none⟩), .agg #[.int .i64 k, .int .i64 d, .int .i64 a, .int .i64 f, .int .i64 n, .slice pa pn pc]] w fun e w' => e = .returned (.bool true) ∧ (∃ s' t', Both B w' r g s' t' (c + 1)) ∧ Below B w w' := by
  have bA : Below w.heap.size w (w.alloc (.cells #[.int .i64 k, .int .i64 d, .int .i64 a, .int .i64 f, .int .i64 n, .slice pa pn pc] 39)) := (Below.refl _ _).alloc (Nat.le_refl _) _
  have HB := Lib.hid (h.below bA)
  have L1 := Lib.hid (bA.mono h.le)
  have X1 := Lib.hid (Blk.new w 39 #[.int .i64 k, .int .i64 d, .int .i64 a, .int .i64 f, .int .i64 n, .slice pa pn pc])
  have k0 : (w.alloc (.cells #[.int .i64 k, .int .i64 d, .int .i64 a, .int .i64 f, .int .i64 n, .slice pa pn pc] 39)).cell? ⟨w.heap.size, 0, none⟩ = some (.int .i64 k) := X1.out.cell 0
  have k1 : (w.alloc (.cells #[.int .i64 k, .int .i64 d, .int .i64 a, .int .i64 f, .int .i64 n, .slice pa pn pc] 39)).cell? ⟨w.heap.size, 1, none⟩ = some (.int .i64 d) := X1.out.cell 1
  obtain ⟨W1, hW1⟩ : ∃ W1, W1 = w.alloc (.cells #[.int .i64 k, .int .i64 d, .int .i64 a, .int .i64 f, .int .i64 n, .slice pa pn pc] 39) := ⟨_, rfl⟩
  have HW1 := Lib.hid hW1
  rw [← hW1] at HB L1 X1
  clear h bA hW1
  have hnd1 := HB.out.rack.1.nd1
  have hnd2 := HB.out.rack.1.nd2
  have hns2 := HB.out.rack.1.ns2
  have hns1 := HB.out.rack.1.ns1
  obtain ⟨b, hb⟩ : ∃ b, b = (s.isD d && s.gone d.toNat) := ⟨_, rfl⟩
  have HP : Hid (∀ a m, Calls Try.prog 9 #[.pointer (some ⟨r, 0, none⟩)] ((W1.drewN a).drewN m) fun e w' => e = .returned (.int .i64 (s.nw : Int)) ∧ w' = (W1.drewN a).drewN m) := Lib.hid fun a m => pending_any _ r s ((HB.out.rack.drewN a).drewN m)
  have HD : Hid (∀ a m, Calls Try.prog 15 #[.pointer (some ⟨r, 0, none⟩)] ((W1.drewN a).drewN m) fun e w' => e = .returned (.int .i64 (s.nd : Int)) ∧ w' = (W1.drewN a).drewN m) := Lib.hid fun a m => drives_any _ r s ((HB.out.rack.drewN a).drewN m)
  have HS : Hid (∀ a m, Calls Try.prog 16 #[.pointer (some ⟨r, 0, none⟩)] ((W1.drewN a).drewN m) fun e w' => e = .returned (.int .i64 (s.ns : Int)) ∧ w' = (W1.drewN a).drewN m) := Lib.hid fun a m => sectors_any _ r s ((HB.out.rack.drewN a).drewN m)
  have HG : Hid (∀ a m, Calls Try.prog 8 #[.pointer (some ⟨r, 0, none⟩), .int .i64 d] ((W1.drewN a).drewN m) fun e w' => e = .returned (.bool b) ∧ w' = (W1.drewN a).drewN m) := Lib.hid fun a m => by
    rw [hb]
    exact gone_any _ r s d ((HB.out.rack.drewN a).drewN m)
  have HI : Hid (∀ m, Calls Try.prog 35 #[.pointer (some ⟨g, 0, none⟩), .int .i64 d] (W1.drewN m) fun e w' => e = .returned (.bool (s.isD d)) ∧ w' = W1.drewN m) := Lib.hid fun m => by
    obtain ⟨vL, vG, vW, H, C, hk⟩ := (HB.out.drewN m).ref
    have q := is_k _ g t d hk
    rw [HB.out.sim.isD] at q
    exact q
  obtain ⟨lh, lg, cL, cG, A, cW, lr, cr, hsn, hgo⟩ := HB.out.seen
  have SN := Lib.hid hsn
  have GO := Lib.hid hgo
  have BW : Hid (s.nw ≤ 9223372036854775806) := Lib.hid (by
    obtain ⟨_, m1, m2, v, hk⟩ := HB.out.rack
    have := hk.nw_le
    have := HB.out.rack.1.cost
    omega)
  have HN : ∀ m, Hid (Both B (W1.drewN m) r g s t (c + 1)) := fun m => Lib.hid ⟨(HB.out.drewN m).rack, (HB.out.drewN m).ref, HB.out.sim, by have := HB.out.cost; omega⟩
  have LN : ∀ m, Hid (Below B w (W1.drewN m)) := fun m => Lib.hid (below_drewN L1.out m)
  have hnw := BW.out
  have HNN := Lib.hid HN
  have LNN := Lib.hid LN
  clear hsn hgo HN LN HB BW L1
  generalize hnd : s.nd = nd at *
  generalize hns : s.ns = ns at *
  generalize hnw : s.nw = nw at *
  obtain ⟨dd, hdd⟩ : ∃ dd, dd = s.isD d := ⟨_, rfl⟩
  rw [← hdd] at HI
  have HDD := Lib.hid hdd
  have HBX := Lib.hid hb
  have HNW1 := Lib.hid hnd
  clear hdd hb hnd hns hnw
  go_enter Try.func12, Try.ntmps12
  go_upto_region 39 with (fail)
  rw [← HW1.out]
  rw [← HW1.out] at k0 k1
  clear HW1 k0 h1 h2 h3 h4 h5 h6 h7 h8
  go_cut [18] (fun x wx => x = .bool b ∧ ∃ m, wx = W1.drewN m)
  case first =>
    cases dd with
    | false =>
      have hbf : b = false := by rw [HBX.out, ← HDD.out]; rfl
      clear HP HD HS HG GO HNN LNN
      go_quiet ((go_at_call 35; exact Calls.quiet_of_same (HI.out _)))
      go_wp2_with fail
      go_meet
      exact ⟨by rw [hbf], _, rfl⟩
    | true =>
      obtain ⟨q, rfl, hq⟩ := isD_some HDD.out.symm
      have hbg : b = s.gone q := by rw [HBX.out, ← HDD.out, Int.toNat_natCast]; rfl
      rw [HNW1.out] at hq
      have c3 := GO.out q hq
      rw [← hbg] at c3
      have c1 := SN.out.G
      have i1 : (0 : Int) ≤ (q : Int) := by omega
      have i2 : (q : Int) < (nd : Int) := by omega
      clear HP HD HS HG GO HNN LNN hbg hq
      go_quiet ((go_at_call 35; exact Calls.quiet_of_same (HI.out _)))
      go_wp2_with fail
      go_meet
      exact ⟨rfl, _, rfl⟩
  case rest =>
  obtain ⟨rfl, m, rfl⟩ := hcut
  have SN2 : Seen (W1.drewN m) g nd ns nw lh lg cL cG A cW lr cr := ⟨SN.out.L, SN.out.G, SN.out.Wt, SN.out.row⟩
  have HP2 : Hid (∀ j, Calls Try.prog 9 #[.pointer (some ⟨r, 0, none⟩)] ((W1.drewN m).drewN j) fun e w' => e = .returned (.int .i64 (nw : Int)) ∧ w' = (W1.drewN m).drewN j) := Lib.hid fun j => HP.out _ j
  have HD2 : Hid (∀ j, Calls Try.prog 15 #[.pointer (some ⟨r, 0, none⟩)] ((W1.drewN m).drewN j) fun e w' => e = .returned (.int .i64 (nd : Int)) ∧ w' = (W1.drewN m).drewN j) := Lib.hid fun j => HD.out _ j
  have HS2 : Hid (∀ j, Calls Try.prog 16 #[.pointer (some ⟨r, 0, none⟩)] ((W1.drewN m).drewN j) fun e w' => e = .returned (.int .i64 (ns : Int)) ∧ w' = (W1.drewN m).drewN j) := Lib.hid fun j => HS.out _ j
  have HG2 : Hid (∀ j, Calls Try.prog 8 #[.pointer (some ⟨r, 0, none⟩), .int .i64 d] ((W1.drewN m).drewN j) fun e w' => e = .returned (.bool b) ∧ w' = (W1.drewN m).drewN j) := Lib.hid fun j => HG.out _ j
  have k2 : (W1.drewN m).cell? ⟨w.heap.size, 1, none⟩ = some (.int .i64 d) := k1
  have HN2 : Hid (∀ j, Both B ((W1.drewN m).drewN j) r g s t (c + 1) ∧ Below B w ((W1.drewN m).drewN j)) := Lib.hid fun j => ⟨(HNN.out m).out.drewN j, below_drewN (LNN.out m).out j⟩
  clear HP HD HS HG HI GO HBX HDD SN k1 HNN LNN
  generalize W1.drewN m = W2 at *
  have c0 := SN2.L
  have c2 := SN2.Wt
  have c3 := SN2.row
  have p1 : ((nw : Int) == (nw : Int)) = true := beq_self_eq_true _
  have p2 : ((nd : Int) == (nd : Int)) = true := beq_self_eq_true _
  have p3 : ((ns : Int) == (ns : Int)) = true := beq_self_eq_true _
  have p4 : (b == b) = true := beq_self_eq_true _
  have i2 : (0 : Int) < (nd : Int) := by omega
  have i3 : 0 < nd := by omega
  clear SN2
  go_wp2_with fail
  go_quiet ((first | (go_at_call 9; exact Calls.quiet_of_same (HP2.out _)) | (go_at_call 15; exact Calls.quiet_of_same (HD2.out _)) | (go_at_call 16; exact Calls.quiet_of_same (HS2.out _)) | (go_at_call 8; exact Calls.quiet_of_same (HG2.out _))))
  go_wp2_with fail
  go_ret
  exact ⟨rfl, ⟨_, _, (HN2.out _).1⟩, (HN2.out _).2⟩
end
end refRack
end Go.Proofs.Ytlbmeaioiiflkaa
