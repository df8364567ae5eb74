/-
  A rack and the document's rack in one memory; 'step' by kinds: Flush, Arm. Conditions: both stand for the same.
-/
import Derived.Test.YtlbmeaioiiflkaaRefSim
namespace Go.Proofs.Ytlbmeaioiiflkaa
open Go Go.RowKit
set_option maxRecDepth 100000
set_option linter.unusedVariables false
namespace refRack
/-- both racks, after at most c calls -/
structure Both (B : Nat) (w : World) (r g : Nat) (s t : RS) (c : Nat) : Prop where
  rack : RackAt B w r s
  ref : TAt B w g t
  sim : Sim s t
  cost : s.cost ≤ c
section
variable {B : Nat} {w w' : World} {r g c : Nat} {s t : RS}
theorem Both.below (h : Both B w r g s t c) (hb : Below w.heap.size w w') : Both B w' r g s t c := ⟨h.rack.below hb, h.ref.below hb, h.sim, h.cost⟩
theorem Both.left (h : Both B w r g s t c) : t.left ≤ 9223372036854775807 := by rw [h.sim.left]; exact h.rack.1.left
theorem Both.nw (h : Both B w r g s t c) : t.nw ≤ c := by
  obtain ⟨_, m1, m2, v, hk⟩ := h.rack
  have h1 := hk.nw_le
  rw [h.sim.nw]
  exact Nat.le_trans h1 h.cost
theorem Both.places (h : Both B w r g s t c) : Places t := fun i hi => by
  have hw := h.rack.1.wp i (by rw [← h.sim.nw]; exact hi)
  rw [h.sim.W, h.sim.nd, h.sim.ns]
  exact ⟨hw.1, hw.2.1⟩
theorem Both.le (h : Both B w r g s t c) : B ≤ w.heap.size := h.rack.le
theorem spent_costs (s : RS) : s.spent.cost = s.cost := (spent_same s).2.2.2.2.1
set_option maxHeartbeats 800000 in
theorem step_flush (k d a f n : Int) (pa : Option Addr) (pn pc : Nat) (hk : k = 3) (h : Both B w r g s t c) :
    Calls Try.prog 12 #[.pointer (some ⟨r, 0, none⟩), .pointer (some ⟨g, 0, none⟩), .agg #[.int .i64 k, .int .i64 d, .int .i64 a, .int .i64 f, .int .i64 n, .slice pa pn pc]] w fun e w' => e = .returned (.bool true) ∧ (∃ s' t', Both B w' r g s' t' (c + 1)) ∧ Below B w w' := by
  subst hk
  have bA : Below w.heap.size w (w.alloc (.cells #[.int .i64 3, .int .i64 d, .int .i64 a, .int .i64 f, .int .i64 n, .slice pa pn pc] 39)) := (Below.refl _ _).alloc (Nat.le_refl _) _
  have HB := Lib.hid (h.below bA)
  have L1 := Lib.hid (bA.mono h.le)
  have k0 : (w.alloc (.cells #[.int .i64 3, .int .i64 d, .int .i64 a, .int .i64 f, .int .i64 n, .slice pa pn pc] 39)).cell? ⟨w.heap.size, 0, none⟩ = some (.int .i64 3) := (Blk.new w 39 _).cell 0
  obtain ⟨z, hz⟩ : ∃ z, z = (if s.pow = true then (0 : Int) else 16) := ⟨_, rfl⟩
  have HZ := Lib.hid hz
  clear h bA hz
  go_enter Try.func12, Try.ntmps12
  go_wp2_with fail
  refine (flush_any _ r s _ z HB.out.rack HZ.out rfl).mono ?_
  rintro e w2 ⟨rfl, h2, k2⟩
  obtain ⟨vL, vG, vW, H, C, tk⟩ := HB.out.ref
  have tk2 := Lib.hid (tk.keepRack k2)
  have R2 := Lib.hid h2
  have L2 := Lib.hid (L1.out.trans k2.below)
  clear h2 k2 tk L1 k0
  go_wp2_with fail
  refine (flush_k w2 g t HB.out.left HB.out.places tk2.out).mono ?_
  rintro e w3 ⟨rfl, t3, k3⟩
  have R3 := Lib.hid (R2.out.keepR k3)
  have T3 := Lib.hid t3
  have L3 := Lib.hid (L2.out.trans k3.below)
  have HP : Hid (t.pow = s.pow) := Lib.hid HB.out.sim.pow
  have hs := HB.out.sim.spent
  have hcost := HB.out.cost
  have B3 : Hid (∃ s' t', Both B w3 r g s' t' (c + 1)) := Lib.hid (by
    refine ⟨_, _, R3.out, T3.out, ?_, ?_⟩
    · rw [HP.out]
      cases s.pow with
      | true => exact hs.flushed
      | false => exact hs
    · have e : s.spent.cost = s.cost := spent_costs s
      cases s.pow with
      | true => show s.spent.cost ≤ c + 1; omega
      | false => show s.spent.cost ≤ c + 1; omega)
  rw [HP.out]
  clear t3 k3 R2 L2 tk2 T3 R3 HB hs hcost
  rw [← HZ.out]
  clear HP
  have t5 : (z == z) = true := beq_self_eq_true z
  go_wp2_with fail
  go_ret
  exact ⟨by simp, B3.out, L3.out⟩
set_option maxHeartbeats 800000 in
theorem step_arm (k d a f n : Int) (pa : Option Addr) (pn pc : Nat) (hk : k = 4) (hn : n ≤ 9223372036854775807) (h : Both B w r g s t c) :
    Calls Try.prog 12 #[.pointer (some ⟨r, 0, none⟩), .pointer (some ⟨g, 0, none⟩), .agg #[.int .i64 k, .int .i64 d, .int .i64 a, .int .i64 f, .int .i64 n, .slice pa pn pc]] w fun e w' => e = .returned (.bool true) ∧ (∃ s' t', Both B w' r g s' t' (c + 1)) ∧ Below B w w' := by
  subst hk
  have bA : Below w.heap.size w (w.alloc (.cells #[.int .i64 4, .int .i64 d, .int .i64 a, .int .i64 f, .int .i64 n, .slice pa pn pc] 39)) := (Below.refl _ _).alloc (Nat.le_refl _) _
  have HB := Lib.hid (h.below bA)
  have L1 := Lib.hid (bA.mono h.le)
  have X1 := Lib.hid (Blk.new w 39 #[.int .i64 4, .int .i64 d, .int .i64 a, .int .i64 f, .int .i64 n, .slice pa pn pc])
  have k0 : (w.alloc (.cells #[.int .i64 4, .int .i64 d, .int .i64 a, .int .i64 f, .int .i64 n, .slice pa pn pc] 39)).cell? ⟨w.heap.size, 0, none⟩ = some (.int .i64 4) := X1.out.cell 0
  have k4 : (w.alloc (.cells #[.int .i64 4, .int .i64 d, .int .i64 a, .int .i64 f, .int .i64 n, .slice pa pn pc] 39)).cell? ⟨w.heap.size, 4, none⟩ = some (.int .i64 n) := X1.out.cell 4
  clear h bA
  go_enter Try.func12, Try.ntmps12
  go_wp2_with fail
  refine (arm_any _ r s n hn HB.out.rack).mono ?_
  rintro e w2 ⟨rfl, h2, k2⟩
  obtain ⟨vL, vG, vW, H, C, tk⟩ := HB.out.ref
  have tk2 := Lib.hid (tk.keepRack k2)
  have R2 := Lib.hid h2
  have L2 := Lib.hid (L1.out.trans k2.below)
  have X2 := Lib.hid (k2.block X1.out rfl)
  have j4 : w2.cell? ⟨w.heap.size, 4, none⟩ = some (.int .i64 n) := X2.out.cell 4
  clear h2 k2 tk L1 k0 k4
  go_wp2_with fail
  refine (arm_k w2 g t n tk2.out).mono ?_
  rintro e w3 ⟨rfl, t3, k3⟩
  have R3 := Lib.hid (R2.out.keepR k3)
  have L3 := Lib.hid (L2.out.trans k3.below)
  have hcost := HB.out.cost
  have B3 : Hid (∃ s' t', Both B w3 r g s' t' (c + 1)) := Lib.hid ⟨_, _, R3.out, ⟨_, _, _, _, _, t3⟩, HB.out.sim.arm n, by show s.cost ≤ c + 1; omega⟩
  clear t3 k3 R2 L2 tk2 R3 HB hcost
  go_wp2_with fail
  go_ret
  exact ⟨rfl, B3.out, L3.out⟩
end
end refRack
end Go.Proofs.Ytlbmeaioiiflkaa
