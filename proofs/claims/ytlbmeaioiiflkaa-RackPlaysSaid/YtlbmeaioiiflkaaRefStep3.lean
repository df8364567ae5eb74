/-
  'step' by kinds: Lose, Replace, Rot. Conditions: both racks stand for the same.
-/
import Derived.Test.YtlbmeaioiiflkaaRefStep
namespace Go.Proofs.Ytlbmeaioiiflkaa
open Go Go.RowKit
set_option maxRecDepth 100000
set_option linter.unusedVariables false
namespace refRack
theorem eq_errno (y : Int) (w : World) : (binOp .eql 24 (.int .i64 y) (.int .i64 y)).run Try.prog w = .ok (.bool true) w := by
  rw [show binOp .eql 24 (.int .i64 y) (.int .i64 y) = pure (.bool (y == y)) from rfl, beq_self_eq_true]
  rfl
theorem Blk.kept {B : Nat} {w w' : World} {g : Nat} {cs : Array Value} (h : Blk w g 39 cs) (k : KeepR B w w') : Blk w' g 39 cs := k.kept g _ h rfl
section
variable {B : Nat} {w w' : World} {r g c : Nat} {s t : RS}
theorem Both.nw6 (h : Both B w r g s t c) : t.nw ≤ 1000000 := by
  have h1 := h.rack.1.cost
  obtain ⟨_, m1, m2, v, hk⟩ := h.rack
  have h2 := hk.nw_le
  rw [h.sim.nw]
  omega
theorem Both.said (h : Both B w r g s t c) (d a j : Nat) (hg : t.gone d = false) (hj : j < 128) : t.holds d a j < 256 := by
  rw [h.sim.gone] at hg
  rw [h.sim.holds hg]
  exact RS.holds_lt h.rack.1 d a j hj
set_option maxHeartbeats 1600000 in
theorem step_lose (k d a f n : Int) (pa : Option Addr) (pn pc : Nat) (hk : k = 6) (h : Both B w r g s t c) :
    Calls Try.prog 12 #[.pointer (some ⟨r, 0, none⟩), .pointer (some ⟨g, 0, none⟩), .agg #[.int .i64 k, .int .i64 d, .int .i64 a, .int .i64 f, .int .i64 n, .slice pa pn pc]] w fun e w' => e = .returned (.bool true) ∧ (∃ s' t', Both B w' r g s' t' (c + 1)) ∧ Below B w w' := by
  subst hk
  have bA : Below w.heap.size w (w.alloc (.cells #[.int .i64 6, .int .i64 d, .int .i64 a, .int .i64 f, .int .i64 n, .slice pa pn pc] 39)) := (Below.refl _ _).alloc (Nat.le_refl _) _
  have HB := Lib.hid (h.below bA)
  have L1 := Lib.hid (bA.mono h.le)
  have X1 := Lib.hid (Blk.new w 39 #[.int .i64 6, .int .i64 d, .int .i64 a, .int .i64 f, .int .i64 n, .slice pa pn pc])
  have k0 : (w.alloc (.cells #[.int .i64 6, .int .i64 d, .int .i64 a, .int .i64 f, .int .i64 n, .slice pa pn pc] 39)).cell? ⟨w.heap.size, 0, none⟩ = some (.int .i64 6) := X1.out.cell 0
  obtain ⟨y, hy⟩ : ∃ y, y = loseE s d := ⟨_, rfl⟩
  have HR : Hid (∀ W, RackAt B W r s → Calls Try.prog 7 #[.pointer (some ⟨r, 0, none⟩), .int .i64 d] W fun e w' => e = .returned (.int .i64 y) ∧ RackAt B w' r (loseS s d) ∧ Keep B W w') := Lib.hid fun W hw => by
    rw [hy]
    exact lose_tot W r s d hw
  have HK : Hid (∀ W, TAt B W g t → Calls Try.prog 30 #[.pointer (some ⟨g, 0, none⟩), .int .i64 d] W fun e w' => e = .returned (.int .i64 y) ∧ TAt B w' g (loseT t d) ∧ KeepR B W w') := Lib.hid fun W hw => by
    have q := lose_tot_k W g t d HB.out.nw6 hw
    rw [HB.out.sim.loseE, ← hy] at q
    exact q
  have HS : Hid ((w.alloc (.cells #[.int .i64 6, .int .i64 d, .int .i64 a, .int .i64 f, .int .i64 n, .slice pa pn pc] 39)).drew.cell? ⟨w.heap.size, 1, none⟩ = some (.int .i64 d)) := Lib.hid X1.out.cell 1
  clear h bA hy
  go_enter Try.func12, Try.ntmps12
  go_wp2_with fail
  clear k0
  refine region_anyZ (fun w' => w'.cell? ⟨w.heap.size, 1, none⟩ = some (.int .i64 d)) 10 (by kernel_rfl) ?_
  refine takeG 0 (.move (.tmp 0)) (some 132) none (.pointer (some ⟨r, 0, none⟩)) (by kernel_rfl) (by kernel_rfl) (by kernel_rfl) (fun _ _ _ h => h) (fun o wq e hS => exec_move wq e (by kernel_rfl)) HS.out ?_
  refine takeG 1 (.fieldAddr 39 (.tmp 5) 1) (some 133) none (.pointer (some ⟨w.heap.size, 1, none⟩)) (by kernel_rfl) (by kernel_rfl) (by kernel_rfl) (fun _ _ _ h => h) (fun o wq e hS => exec_field (u := .pointer (some ⟨w.heap.size, 0, none⟩)) wq e (by kernel_rfl) (by kernel_rfl)) HS.out ?_
  refine takeG 2 (.load 3 (.tmp 133)) (some 134) none (.int .i64 d) (by kernel_rfl) (by kernel_rfl) (by kernel_rfl) (fun _ _ _ h => h) (fun o wq e hS => exec_load (x := (.tmp 133)) e (by kernel_rfl) (load_one Try.underlying3 (by kernel_rfl) hS)) HS.out ?_
  refine takeG 4 (.move (.tmp 1)) (some 136) none (.pointer (some ⟨g, 0, none⟩)) (by kernel_rfl) (by kernel_rfl) (by kernel_rfl) (fun _ _ _ h => h) (fun o wq e hS => exec_move wq e (by kernel_rfl)) HS.out ?_
  refine takeG 5 (.fieldAddr 39 (.tmp 5) 1) (some 137) none (.pointer (some ⟨w.heap.size, 1, none⟩)) (by kernel_rfl) (by kernel_rfl) (by kernel_rfl) (fun _ _ _ h => h) (fun o wq e hS => exec_field (u := .pointer (some ⟨w.heap.size, 0, none⟩)) wq e (by kernel_rfl) (by kernel_rfl)) HS.out ?_
  refine takeG 6 (.load 3 (.tmp 137)) (some 138) none (.int .i64 d) (by kernel_rfl) (by kernel_rfl) (by kernel_rfl) (fun _ _ _ h => h) (fun o wq e hS => exec_load (x := (.tmp 137)) e (by kernel_rfl) (load_one Try.underlying3 (by kernel_rfl) hS)) HS.out ?_
  refine loneG 3 (.call ⟨.value (.func 7), #[(.tmp 132), (.tmp 134)], #[25, 3]⟩) (some 135) none (by kernel_rfl) (by kernel_rfl) (by kernel_rfl) ?_
  intro o ho hod
  refine wp_callC (f := 7) (args := #[.pointer (some ⟨r, 0, none⟩), .int .i64 d]) (by cases o; cases ho; kernel_rfl) (HR.out _ HB.out.rack.drew) ?_
  rintro e w3 ⟨rfl, h3, q3⟩
  refine ⟨.int .i64 y, rfl, ?_⟩
  rw [hod]
  clear hod ho
  replace q3 := ((Keep.refl B _).drew).trans q3
  have T3 := Lib.hid (HB.out.ref.keepRack q3)
  have R3 := Lib.hid h3
  have L3 := Lib.hid (L1.out.trans q3.below)
  have X3 := Lib.hid (q3.block X1.out rfl)
  have HS3 : Hid (w3.cell? ⟨w.heap.size, 1, none⟩ = some (.int .i64 d)) := Lib.hid X3.out.cell 1
  clear h3 q3 HR HS
  refine ⟨fun _ => HS3.out, ?_⟩
  refine loneG 7 (.call ⟨.value (.func 30), #[(.tmp 136), (.tmp 138)], #[33, 3]⟩) (some 139) none (by kernel_rfl) (by kernel_rfl) (by kernel_rfl) ?_
  intro o ho hod
  refine wp_callC (f := 30) (args := #[.pointer (some ⟨g, 0, none⟩), .int .i64 d]) (by cases o; cases ho; kernel_rfl) (HK.out _ T3.out) ?_
  rintro e w4 ⟨rfl, h4, q4⟩
  refine ⟨.int .i64 y, rfl, ?_⟩
  rw [hod]
  clear hod ho
  have B4 : Hid (Both B w4 r g (loseS s d) (loseT t d) (c + 1)) := Lib.hid ⟨R3.out.keepR q4, h4, HB.out.sim.loseS d, by have := loseS_cost s d; have := HB.out.cost; omega⟩
  have L4 := Lib.hid (L3.out.trans q4.below)
  have X4 := Lib.hid (Blk.kept X3.out q4)
  have HS4 : Hid (w4.cell? ⟨w.heap.size, 1, none⟩ = some (.int .i64 d)) := Lib.hid X4.out.cell 1
  clear h4 q4 HK R3 T3 L3 X3 HS3 HB
  refine ⟨fun _ => HS4.out, ?_⟩
  refine loneG 8 (.binOp .eql 24 (.tmp 135) (.tmp 139) 24) (some 140) none (by kernel_rfl) (by kernel_rfl) (by kernel_rfl) ?_
  intro o ho hod
  refine wp_val (v := .bool true) (exec_bin (u1 := .int .i64 y) (u2 := .int .i64 y) _ ho (by kernel_rfl) (by kernel_rfl) (eqG_int ..) (eq_errno y _)) ?_
  rw [hod]
  clear hod ho
  refine ⟨fun _ => HS4.out, ?_⟩
  refine lastS 9 (.assign (.tmp 140)) (some 6) (.bool true) (by kernel_rfl) (by kernel_rfl) (by kernel_rfl) HS4.out (fun o e => exec_assign _ e (by kernel_rfl)) ?_
  simp only [put_some, put_none, List.setIfInBounds_toArray, List.set_cons_succ, List.set_cons_zero]
  go_wp2_with fail
  go_ret
  exact ⟨rfl, ⟨_, _, B4.out⟩, L4.out⟩
set_option maxHeartbeats 1600000 in
theorem step_anew (k d a f n : Int) (pa : Option Addr) (pn pc : Nat) (hk : k = 7) (h : Both B w r g s t c) :
    Calls Try.prog 12 #[.pointer (some ⟨r, 0, none⟩), .pointer (some ⟨g, 0, none⟩), .agg #[.int .i64 k, .int .i64 d, .int .i64 a, .int .i64 f, .int .i64 n, .slice pa pn pc]] w fun e w' => e = .returned (.bool true) ∧ (∃ s' t', Both B w' r g s' t' (c + 1)) ∧ Below B w w' := by
  subst hk
  have bA : Below w.heap.size w (w.alloc (.cells #[.int .i64 7, .int .i64 d, .int .i64 a, .int .i64 f, .int .i64 n, .slice pa pn pc] 39)) := (Below.refl _ _).alloc (Nat.le_refl _) _
  have HB := Lib.hid (h.below bA)
  have L1 := Lib.hid (bA.mono h.le)
  have X1 := Lib.hid (Blk.new w 39 #[.int .i64 7, .int .i64 d, .int .i64 a, .int .i64 f, .int .i64 n, .slice pa pn pc])
  have k0 : (w.alloc (.cells #[.int .i64 7, .int .i64 d, .int .i64 a, .int .i64 f, .int .i64 n, .slice pa pn pc] 39)).cell? ⟨w.heap.size, 0, none⟩ = some (.int .i64 7) := X1.out.cell 0
  obtain ⟨y, hy⟩ : ∃ y, y = loseE s d := ⟨_, rfl⟩
  have HR : Hid (∀ W, RackAt B W r s → Calls Try.prog 31 #[.pointer (some ⟨r, 0, none⟩), .int .i64 d] W fun e w' => e = .returned (.int .i64 y) ∧ RackAt B w' r (anewS s d) ∧ Keep B W w') := Lib.hid fun W hw => by
    rw [hy]
    exact anew_tot W r s d hw
  have HK : Hid (∀ W, TAt B W g t → Calls Try.prog 32 #[.pointer (some ⟨g, 0, none⟩), .int .i64 d] W fun e w' => e = .returned (.int .i64 y) ∧ TAt B w' g (anewT t d) ∧ KeepR B W w') := Lib.hid fun W hw => by
    have q := anew_tot_k W g t d HB.out.nw6 (by have := HB.out.rack.1.ns1; rw [HB.out.sim.ns]; omega) (by have := HB.out.rack.1.ns2; rw [HB.out.sim.ns]; omega) hw
    rw [HB.out.sim.loseE, ← hy] at q
    exact q
  have HS : Hid ((w.alloc (.cells #[.int .i64 7, .int .i64 d, .int .i64 a, .int .i64 f, .int .i64 n, .slice pa pn pc] 39)).drew.cell? ⟨w.heap.size, 1, none⟩ = some (.int .i64 d)) := Lib.hid X1.out.cell 1
  clear h bA hy
  go_enter Try.func12, Try.ntmps12
  go_wp2_with fail
  clear k0
  refine region_anyZ (fun w' => w'.cell? ⟨w.heap.size, 1, none⟩ = some (.int .i64 d)) 10 (by kernel_rfl) ?_
  refine takeG 0 (.move (.tmp 0)) (some 143) none (.pointer (some ⟨r, 0, none⟩)) (by kernel_rfl) (by kernel_rfl) (by kernel_rfl) (fun _ _ _ h => h) (fun o wq e hS => exec_move wq e (by kernel_rfl)) HS.out ?_
  refine takeG 1 (.fieldAddr 39 (.tmp 5) 1) (some 144) none (.pointer (some ⟨w.heap.size, 1, none⟩)) (by kernel_rfl) (by kernel_rfl) (by kernel_rfl) (fun _ _ _ h => h) (fun o wq e hS => exec_field (u := .pointer (some ⟨w.heap.size, 0, none⟩)) wq e (by kernel_rfl) (by kernel_rfl)) HS.out ?_
  refine takeG 2 (.load 3 (.tmp 144)) (some 145) none (.int .i64 d) (by kernel_rfl) (by kernel_rfl) (by kernel_rfl) (fun _ _ _ h => h) (fun o wq e hS => exec_load (x := (.tmp 144)) e (by kernel_rfl) (load_one Try.underlying3 (by kernel_rfl) hS)) HS.out ?_
  refine takeG 4 (.move (.tmp 1)) (some 147) none (.pointer (some ⟨g, 0, none⟩)) (by kernel_rfl) (by kernel_rfl) (by kernel_rfl) (fun _ _ _ h => h) (fun o wq e hS => exec_move wq e (by kernel_rfl)) HS.out ?_
  refine takeG 5 (.fieldAddr 39 (.tmp 5) 1) (some 148) none (.pointer (some ⟨w.heap.size, 1, none⟩)) (by kernel_rfl) (by kernel_rfl) (by kernel_rfl) (fun _ _ _ h => h) (fun o wq e hS => exec_field (u := .pointer (some ⟨w.heap.size, 0, none⟩)) wq e (by kernel_rfl) (by kernel_rfl)) HS.out ?_
  refine takeG 6 (.load 3 (.tmp 148)) (some 149) none (.int .i64 d) (by kernel_rfl) (by kernel_rfl) (by kernel_rfl) (fun _ _ _ h => h) (fun o wq e hS => exec_load (x := (.tmp 148)) e (by kernel_rfl) (load_one Try.underlying3 (by kernel_rfl) hS)) HS.out ?_
  refine loneG 3 (.call ⟨.value (.func 31), #[(.tmp 143), (.tmp 145)], #[25, 3]⟩) (some 146) none (by kernel_rfl) (by kernel_rfl) (by kernel_rfl) ?_
  intro o ho hod
  refine wp_callC (f := 31) (args := #[.pointer (some ⟨r, 0, none⟩), .int .i64 d]) (by cases o; cases ho; kernel_rfl) (HR.out _ HB.out.rack.drew) ?_
  rintro e w3 ⟨rfl, h3, q3⟩
  refine ⟨.int .i64 y, rfl, ?_⟩
  rw [hod]
  clear hod ho
  replace q3 := ((Keep.refl B _).drew).trans q3
  have T3 := Lib.hid (HB.out.ref.keepRack q3)
  have R3 := Lib.hid h3
  have L3 := Lib.hid (L1.out.trans q3.below)
  have X3 := Lib.hid (q3.block X1.out rfl)
  have HS3 : Hid (w3.cell? ⟨w.heap.size, 1, none⟩ = some (.int .i64 d)) := Lib.hid X3.out.cell 1
  clear h3 q3 HR HS
  refine ⟨fun _ => HS3.out, ?_⟩
  refine loneG 7 (.call ⟨.value (.func 32), #[(.tmp 147), (.tmp 149)], #[33, 3]⟩) (some 150) none (by kernel_rfl) (by kernel_rfl) (by kernel_rfl) ?_
  intro o ho hod
  refine wp_callC (f := 32) (args := #[.pointer (some ⟨g, 0, none⟩), .int .i64 d]) (by cases o; cases ho; kernel_rfl) (HK.out _ T3.out) ?_
  rintro e w4 ⟨rfl, h4, q4⟩
  refine ⟨.int .i64 y, rfl, ?_⟩
  rw [hod]
  clear hod ho
  have B4 : Hid (Both B w4 r g (anewS s d) (anewT t d) (c + 1)) := Lib.hid ⟨R3.out.keepR q4, h4, HB.out.sim.anewS d, by have := anewS_cost s d; have := HB.out.cost; omega⟩
  have L4 := Lib.hid (L3.out.trans q4.below)
  have X4 := Lib.hid (Blk.kept X3.out q4)
  have HS4 : Hid (w4.cell? ⟨w.heap.size, 1, none⟩ = some (.int .i64 d)) := Lib.hid X4.out.cell 1
  clear h4 q4 HK R3 T3 L3 X3 HS3 HB
  refine ⟨fun _ => HS4.out, ?_⟩
  refine loneG 8 (.binOp .eql 24 (.tmp 146) (.tmp 150) 24) (some 151) none (by kernel_rfl) (by kernel_rfl) (by kernel_rfl) ?_
  intro o ho hod
  refine wp_val (v := .bool true) (exec_bin (u1 := .int .i64 y) (u2 := .int .i64 y) _ ho (by kernel_rfl) (by kernel_rfl) (eqG_int ..) (eq_errno y _)) ?_
  rw [hod]
  clear hod ho
  refine ⟨fun _ => HS4.out, ?_⟩
  refine lastS 9 (.assign (.tmp 151)) (some 6) (.bool true) (by kernel_rfl) (by kernel_rfl) (by kernel_rfl) HS4.out (fun o e => exec_assign _ e (by kernel_rfl)) ?_
  simp only [put_some, put_none, List.setIfInBounds_toArray, List.set_cons_succ, List.set_cons_zero]
  go_wp2_with fail
  go_ret
  exact ⟨rfl, ⟨_, _, B4.out⟩, L4.out⟩
set_option maxHeartbeats 1600000 in
theorem step_rot (k d a f n : Int) (pa : Option Addr) (pn pc : Nat) (hk : k = 8) (hn : I64 n) (hc : c ≤ 900000) (h : Both B w r g s t c) :
    Calls Try.prog 12 #[.pointer (some ⟨r, 0, none⟩), .pointer (some ⟨g, 0, none⟩), .agg #[.int .i64 k, .int .i64 d, .int .i64 a, .int .i64 f, .int .i64 n, .slice pa pn pc]] w fun e w' => e = .returned (.bool true) ∧ (∃ s' t', Both B w' r g s' t' (c + 1)) ∧ Below B w w' := by
  subst hk
  have bA : Below w.heap.size w (w.alloc (.cells #[.int .i64 8, .int .i64 d, .int .i64 a, .int .i64 f, .int .i64 n, .slice pa pn pc] 39)) := (Below.refl _ _).alloc (Nat.le_refl _) _
  have HB := Lib.hid (h.below bA)
  have L1 := Lib.hid (bA.mono h.le)
  have X1 := Lib.hid (Blk.new w 39 #[.int .i64 8, .int .i64 d, .int .i64 a, .int .i64 f, .int .i64 n, .slice pa pn pc])
  have k0 : (w.alloc (.cells #[.int .i64 8, .int .i64 d, .int .i64 a, .int .i64 f, .int .i64 n, .slice pa pn pc] 39)).cell? ⟨w.heap.size, 0, none⟩ = some (.int .i64 8) := X1.out.cell 0
  obtain ⟨y, hy⟩ : ∃ y, y = rotE s d a n := ⟨_, rfl⟩
  have HR : Hid (∀ W, RackAt B W r s → Calls Try.prog 33 #[.pointer (some ⟨r, 0, none⟩), .int .i64 d, .int .i64 a, .int .i64 n] W fun e w' => e = .returned (.int .i64 y) ∧ RackAt B w' r (rotS s d a n) ∧ Keep B W w') := Lib.hid fun W hw => by
    rw [hy]
    exact rot_tot W r s d a n hn.2 (by have := HB.out.cost; omega) hw
  have HK : Hid (∀ W, TAt B W g t → Calls Try.prog 34 #[.pointer (some ⟨g, 0, none⟩), .int .i64 d, .int .i64 a, .int .i64 n] W fun e w' => e = .returned (.int .i64 y) ∧ TAt B w' g (rotS t d a n) ∧ KeepR B W w') := Lib.hid fun W hw => by
    have q := rot_tot_k W g t d a n hn.2 (fun d a j hg hj => HB.out.said d a j hg hj) hw
    rw [HB.out.sim.rotE, ← hy] at q
    exact q
  have HS : Hid ((w.alloc (.cells #[.int .i64 8, .int .i64 d, .int .i64 a, .int .i64 f, .int .i64 n, .slice pa pn pc] 39)).drew.cell? ⟨w.heap.size, 1, none⟩ = some (.int .i64 d) ∧ (w.alloc (.cells #[.int .i64 8, .int .i64 d, .int .i64 a, .int .i64 f, .int .i64 n, .slice pa pn pc] 39)).drew.cell? ⟨w.heap.size, 2, none⟩ = some (.int .i64 a) ∧ (w.alloc (.cells #[.int .i64 8, .int .i64 d, .int .i64 a, .int .i64 f, .int .i64 n, .slice pa pn pc] 39)).drew.cell? ⟨w.heap.size, 4, none⟩ = some (.int .i64 n)) := Lib.hid ⟨X1.out.cell 1, X1.out.cell 2, X1.out.cell 4⟩
  clear h bA hy
  go_enter Try.func12, Try.ntmps12
  go_wp2_with fail
  clear k0
  refine region_anyZ (fun w' => w'.cell? ⟨w.heap.size, 1, none⟩ = some (.int .i64 d) ∧ w'.cell? ⟨w.heap.size, 2, none⟩ = some (.int .i64 a) ∧ w'.cell? ⟨w.heap.size, 4, none⟩ = some (.int .i64 n)) 18 (by kernel_rfl) ?_
  refine takeG 0 (.move (.tmp 0)) (some 154) none (.pointer (some ⟨r, 0, none⟩)) (by kernel_rfl) (by kernel_rfl) (by kernel_rfl) (fun _ _ _ h => h) (fun o wq e hS => exec_move wq e (by kernel_rfl)) HS.out ?_
  refine takeG 1 (.fieldAddr 39 (.tmp 5) 1) (some 155) none (.pointer (some ⟨w.heap.size, 1, none⟩)) (by kernel_rfl) (by kernel_rfl) (by kernel_rfl) (fun _ _ _ h => h) (fun o wq e hS => exec_field (u := .pointer (some ⟨w.heap.size, 0, none⟩)) wq e (by kernel_rfl) (by kernel_rfl)) HS.out ?_
  refine takeG 2 (.load 3 (.tmp 155)) (some 156) none (.int .i64 d) (by kernel_rfl) (by kernel_rfl) (by kernel_rfl) (fun _ _ _ h => h) (fun o wq e hS => exec_load (x := (.tmp 155)) e (by kernel_rfl) (load_one Try.underlying3 (by kernel_rfl) hS.1)) HS.out ?_
  refine takeG 3 (.fieldAddr 39 (.tmp 5) 2) (some 157) none (.pointer (some ⟨w.heap.size, 2, none⟩)) (by kernel_rfl) (by kernel_rfl) (by kernel_rfl) (fun _ _ _ h => h) (fun o wq e hS => exec_field (u := .pointer (some ⟨w.heap.size, 0, none⟩)) wq e (by kernel_rfl) (by kernel_rfl)) HS.out ?_
  refine takeG 4 (.load 3 (.tmp 157)) (some 158) none (.int .i64 a) (by kernel_rfl) (by kernel_rfl) (by kernel_rfl) (fun _ _ _ h => h) (fun o wq e hS => exec_load (x := (.tmp 157)) e (by kernel_rfl) (load_one Try.underlying3 (by kernel_rfl) hS.2.1)) HS.out ?_
  refine takeG 5 (.fieldAddr 39 (.tmp 5) 4) (some 159) none (.pointer (some ⟨w.heap.size, 4, none⟩)) (by kernel_rfl) (by kernel_rfl) (by kernel_rfl) (fun _ _ _ h => h) (fun o wq e hS => exec_field (u := .pointer (some ⟨w.heap.size, 0, none⟩)) wq e (by kernel_rfl) (by kernel_rfl)) HS.out ?_
  refine takeG 6 (.load 3 (.tmp 159)) (some 160) none (.int .i64 n) (by kernel_rfl) (by kernel_rfl) (by kernel_rfl) (fun _ _ _ h => h) (fun o wq e hS => exec_load (x := (.tmp 159)) e (by kernel_rfl) (load_one Try.underlying3 (by kernel_rfl) hS.2.2)) HS.out ?_
  refine takeG 8 (.move (.tmp 1)) (some 162) none (.pointer (some ⟨g, 0, none⟩)) (by kernel_rfl) (by kernel_rfl) (by kernel_rfl) (fun _ _ _ h => h) (fun o wq e hS => exec_move wq e (by kernel_rfl)) HS.out ?_
  refine takeG 9 (.fieldAddr 39 (.tmp 5) 1) (some 163) none (.pointer (some ⟨w.heap.size, 1, none⟩)) (by kernel_rfl) (by kernel_rfl) (by kernel_rfl) (fun _ _ _ h => h) (fun o wq e hS => exec_field (u := .pointer (some ⟨w.heap.size, 0, none⟩)) wq e (by kernel_rfl) (by kernel_rfl)) HS.out ?_
  refine takeG 10 (.load 3 (.tmp 163)) (some 164) none (.int .i64 d) (by kernel_rfl) (by kernel_rfl) (by kernel_rfl) (fun _ _ _ h => h) (fun o wq e hS => exec_load (x := (.tmp 163)) e (by kernel_rfl) (load_one Try.underlying3 (by kernel_rfl) hS.1)) HS.out ?_
  refine takeG 11 (.fieldAddr 39 (.tmp 5) 2) (some 165) none (.pointer (some ⟨w.heap.size, 2, none⟩)) (by kernel_rfl) (by kernel_rfl) (by kernel_rfl) (fun _ _ _ h => h) (fun o wq e hS => exec_field (u := .pointer (some ⟨w.heap.size, 0, none⟩)) wq e (by kernel_rfl) (by kernel_rfl)) HS.out ?_
  refine takeG 12 (.load 3 (.tmp 165)) (some 166) none (.int .i64 a) (by kernel_rfl) (by kernel_rfl) (by kernel_rfl) (fun _ _ _ h => h) (fun o wq e hS => exec_load (x := (.tmp 165)) e (by kernel_rfl) (load_one Try.underlying3 (by kernel_rfl) hS.2.1)) HS.out ?_
  refine takeG 13 (.fieldAddr 39 (.tmp 5) 4) (some 167) none (.pointer (some ⟨w.heap.size, 4, none⟩)) (by kernel_rfl) (by kernel_rfl) (by kernel_rfl) (fun _ _ _ h => h) (fun o wq e hS => exec_field (u := .pointer (some ⟨w.heap.size, 0, none⟩)) wq e (by kernel_rfl) (by kernel_rfl)) HS.out ?_
  refine takeG 14 (.load 3 (.tmp 167)) (some 168) none (.int .i64 n) (by kernel_rfl) (by kernel_rfl) (by kernel_rfl) (fun _ _ _ h => h) (fun o wq e hS => exec_load (x := (.tmp 167)) e (by kernel_rfl) (load_one Try.underlying3 (by kernel_rfl) hS.2.2)) HS.out ?_
  refine loneG 7 (.call ⟨.value (.func 33), #[(.tmp 154), (.tmp 156), (.tmp 158), (.tmp 160)], #[25, 3, 3, 3]⟩) (some 161) none (by kernel_rfl) (by kernel_rfl) (by kernel_rfl) ?_
  intro o ho hod
  refine wp_callC (f := 33) (args := #[.pointer (some ⟨r, 0, none⟩), .int .i64 d, .int .i64 a, .int .i64 n]) (by cases o; cases ho; kernel_rfl) (HR.out _ HB.out.rack.drew) ?_
  rintro e w3 ⟨rfl, h3, q3⟩
  refine ⟨.int .i64 y, rfl, ?_⟩
  rw [hod]
  clear hod ho
  replace q3 := ((Keep.refl B _).drew).trans q3
  have T3 := Lib.hid (HB.out.ref.keepRack q3)
  have R3 := Lib.hid h3
  have L3 := Lib.hid (L1.out.trans q3.below)
  have X3 := Lib.hid (q3.block X1.out rfl)
  have HS3 : Hid (w3.cell? ⟨w.heap.size, 1, none⟩ = some (.int .i64 d) ∧ w3.cell? ⟨w.heap.size, 2, none⟩ = some (.int .i64 a) ∧ w3.cell? ⟨w.heap.size, 4, none⟩ = some (.int .i64 n)) := Lib.hid ⟨X3.out.cell 1, X3.out.cell 2, X3.out.cell 4⟩
  clear h3 q3 HR HS
  refine ⟨fun _ => HS3.out, ?_⟩
  refine loneG 15 (.call ⟨.value (.func 34), #[(.tmp 162), (.tmp 164), (.tmp 166), (.tmp 168)], #[33, 3, 3, 3]⟩) (some 169) none (by kernel_rfl) (by kernel_rfl) (by kernel_rfl) ?_
  intro o ho hod
  refine wp_callC (f := 34) (args := #[.pointer (some ⟨g, 0, none⟩), .int .i64 d, .int .i64 a, .int .i64 n]) (by cases o; cases ho; kernel_rfl) (HK.out _ T3.out) ?_
  rintro e w4 ⟨rfl, h4, q4⟩
  refine ⟨.int .i64 y, rfl, ?_⟩
  rw [hod]
  clear hod ho
  have B4 : Hid (Both B w4 r g (rotS s d a n) (rotS t d a n) (c + 1)) := Lib.hid ⟨R3.out.keepR q4, h4, HB.out.sim.rotS d a n, by have := rotS_cost s d a n; have := HB.out.cost; omega⟩
  have L4 := Lib.hid (L3.out.trans q4.below)
  have X4 := Lib.hid (Blk.kept X3.out q4)
  have HS4 : Hid (w4.cell? ⟨w.heap.size, 1, none⟩ = some (.int .i64 d) ∧ w4.cell? ⟨w.heap.size, 2, none⟩ = some (.int .i64 a) ∧ w4.cell? ⟨w.heap.size, 4, none⟩ = some (.int .i64 n)) := Lib.hid ⟨X4.out.cell 1, X4.out.cell 2, X4.out.cell 4⟩
  clear h4 q4 HK R3 T3 L3 X3 HS3 HB
  refine ⟨fun _ => HS4.out, ?_⟩
  refine loneG 16 (.binOp .eql 24 (.tmp 161) (.tmp 169) 24) (some 170) none (by kernel_rfl) (by kernel_rfl) (by kernel_rfl) ?_
  intro o ho hod
  refine wp_val (v := .bool true) (exec_bin (u1 := .int .i64 y) (u2 := .int .i64 y) _ ho (by kernel_rfl) (by kernel_rfl) (eqG_int ..) (eq_errno y _)) ?_
  rw [hod]
  clear hod ho
  refine ⟨fun _ => HS4.out, ?_⟩
  refine lastS 17 (.assign (.tmp 170)) (some 6) (.bool true) (by kernel_rfl) (by kernel_rfl) (by kernel_rfl) HS4.out (fun o e => exec_assign _ e (by kernel_rfl)) ?_
  simp only [put_some, put_none, List.setIfInBounds_toArray, List.set_cons_succ, List.set_cons_zero]
  go_wp2_with fail
  go_ret
  exact ⟨rfl, ⟨_, _, B4.out⟩, L4.out⟩
end
end refRack
end Go.Proofs.Ytlbmeaioiiflkaa
