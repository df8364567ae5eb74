/-
  'hoardlaw01.known' answers true. No conditions.
-/
import Derived.Test.YtlbmeaioiiflkaaRackSaysM
import Derived.ProofKit
import Derived.Deep.Grids
namespace Go.Proofs.Ytlbmeaioiiflkaa
open Go Go.RowKit
set_option linter.unusedVariables false

set_option maxRecDepth 100000 in
set_option maxHeartbeats 1600000 in
theorem known_any (w : World) :
    Calls Try.prog 4 #[] w fun e w' => e = .returned (.bool true) ∧ Below w.heap.size w w' := by
  go_enter Try.func4, Try.ntmps4
  go_wp2_with fail
  refine (new_any w 2 3 (by omega) (by omega) (by omega) (by omega)).mono ?_
  rintro e w1 ⟨⟨r, rfl, h1⟩, k1⟩
  have H1 := Lib.hid h1
  have K1 := Lib.hid k1
  clear h1 k1
  go_wp2_with fail
  refine (drives_any _ r _ H1.out).mono ?_
  rintro e w' ⟨rfl, rfl⟩
  rw [show ((RS.new 2 3).nd : Int) = 2 from rfl]
  go_wp2_with fail
  refine (sectors_any _ r _ H1.out).mono ?_
  rintro e w' ⟨rfl, rfl⟩
  rw [show ((RS.new 2 3).ns : Int) = 3 from rfl]
  go_wp2_with fail
  refine (bytes_calm 7 _ (by omega)).mono ?_
  rintro e w2 ⟨v2, rfl, r2, b2⟩
  have H2 := Lib.hid (H1.out.below b2)
  have K2 := Lib.hid (K1.out.new b2 H1.out.le)
  have R2 := Lib.hid r2
  clear r2 b2 H1 K1
  go_wp2_with fail
  refine (write_calm _ r _ 1 2 1 2 v2 _ H2.out ⟨rfl, rfl⟩ rfl rfl (by decide) (by decide) rfl R2.out (fun j _ => bv_lt 128 7 j) (by decide)).mono ?_
  rintro e w3 ⟨rfl, h3, k3⟩
  have H3 := Lib.hid h3
  have K3 := Lib.hid (K2.out.trans k3)
  clear h3 k3 H2 K2 R2
  go_wp2_with fail
  refine (flush_calm _ r _ H3.out ⟨rfl, rfl⟩).mono ?_
  rintro e w4 ⟨rfl, h4, k4⟩
  have H4 := Lib.hid h4
  have K4 := Lib.hid (K3.out.trans k4)
  clear h4 k4 H3 K3
  go_wp2_with fail
  refine (crash_any _ r _ none 0 0 (fun _ => 0) H4.out ⟨fun i hi => absurd hi (Nat.not_lt_zero _), by simp [maxLen], .inl rfl⟩).mono ?_
  rintro e w5 ⟨rfl, h5, k5⟩
  have H5 := Lib.hid h5
  have K5 := Lib.hid (K4.out.trans k5)
  clear h5 k5 H4 K4
  go_wp2_with fail
  refine (read_calm _ r _ 1 2 1 2 H5.out (RS.crashed_calm _ _) rfl rfl (by decide) (by decide) rfl).mono ?_
  rintro e w6 ⟨v6, rfl, r6, h6, k6⟩
  have R6 := Lib.hid r6
  have K6 := Lib.hid (K5.out.trans k6)
  clear r6 k6 h6 H5 K5
  have HE : Hid (((((RS.new 2 3).wrote 1 2 (bv 128 7)).flushed.crashed (odd 0 fun _ => 0)).holds 1 2) = bv 128 7) := by
    show _ = _
    rfl
  rw [HE.out] at R6
  clear HE
  go_wp2_with fail
  have HS6 : Hid (Row8 w6 v6 128 (bv 128 7)) := R6
  refine region_anyZ (fun w => Row8 w v6 128 (bv 128 7)) 9 (by kernel_rfl) ?_
  refine takeG 0 (.move (.tmp 4)) (some 43) none (.int .i64 0) (by kernel_rfl) (by kernel_rfl) (by kernel_rfl) (fun _ _ _ h => h) (fun o w e _ => exec_move w e (by kernel_rfl)) HS6.out ?_
  refine takeG 1 (.binOp .eql 24 (.tmp 43) (.const (.int .i64 0)) 24) (some 44) none (.bool true) (by kernel_rfl) (by kernel_rfl) (by kernel_rfl) (fun _ _ _ h => h) (fun o w e _ => exec_bin (u1 := .int .i64 0) (u2 := .int .i64 0) w e (by kernel_rfl) (by kernel_rfl) (eqG_int ..) (by kernel_rfl)) HS6.out ?_
  refine takeG 2 (.move (.tmp 44)) (some 45) none (.bool true) (by kernel_rfl) (by kernel_rfl) (by kernel_rfl) (fun _ _ _ h => h) (fun o w e _ => exec_move w e (by kernel_rfl)) HS6.out ?_
  refine takeG 3 (.move (.tmp 3)) (some 46) (some (2, true)) v6 (by kernel_rfl) (by kernel_rfl) (by kernel_rfl) (fun _ _ _ h => h) (fun o w e _ => exec_move w e (by kernel_rfl)) HS6.out ?_
  refine takeG 4 (.convert 43 9 (.tmp 46)) (some 47) (some (2, true)) (.string (strB 128 (bv 128 7))) (by kernel_rfl) (by kernel_rfl) (by kernel_rfl) (fun _ _ _ h => h) (fun o w e hS => exec_conv (u := v6) w e (by kernel_rfl) hS.conv) HS6.out ?_
  refine loneG 5 (.call ⟨.value (.func 18), #[.const (.int .i64 7), .const (.int .i64 0)], #[3, 3]⟩) (some 48) (some (2, true)) (by kernel_rfl) (by kernel_rfl) (by kernel_rfl) ?_
  intro o ho hod
  refine wp_callC (f := 18) (args := #[.int .i64 7, .int .i64 0]) (by cases o; cases ho; kernel_rfl) (bytes_calm 7 _ (by omega)) ?_
  rintro e w7 ⟨v7, rfl, r7, b7⟩
  refine ⟨v7, rfl, ?_⟩
  rw [hod]
  clear hod ho
  have HS7 : Hid (Row8 w7 v6 128 (bv 128 7) ∧ Row8 w7 v7 128 (bv 128 7)) := Lib.hid ⟨HS6.out.drew.new_ b7, r7⟩
  have K7 := Lib.hid (K6.out.drew.new b7 (K6.out.below.size))
  clear r7 b7 K6 HS6
  refine ⟨fun _ => HS7.out.1, ?_⟩
  refine loneG 6 (.convert 43 9 (.tmp 48)) (some 49) (some (2, true)) (by kernel_rfl) (by kernel_rfl) (by kernel_rfl) ?_
  intro o ho hod
  refine wp_val (exec_conv (u := v7) _ ho (by kernel_rfl) HS7.out.2.conv) ?_
  rw [hod]
  clear hod ho
  refine ⟨fun _ => HS7.out.1, ?_⟩
  refine loneG 7 (.binOp .eql 9 (.tmp 47) (.tmp 49) 9) (some 50) (some (2, true)) (by kernel_rfl) (by kernel_rfl) (by kernel_rfl) ?_
  intro o ho hod
  refine wp_val (v := .bool true) (exec_bin (u1 := .string (strB 128 (bv 128 7))) (u2 := .string (strB 128 (bv 128 7))) _ ho (by kernel_rfl) (by kernel_rfl) (eqG_str ..) (by rw [eq_str, beq_self_eq_true])) ?_
  rw [hod]
  clear hod ho
  refine ⟨fun _ => HS7.out.1, ?_⟩
  refine loneG 8 (.pick (.tmp 45) (.tmp 50) (.const (.bool false))) (some 51) none (by kernel_rfl) (by kernel_rfl) (by kernel_rfl) ?_
  intro o ho hod
  refine wp_val (v := .bool true) (exec_pick (b := true) _ ho (by kernel_rfl) (by kernel_rfl)) ?_
  rw [hod]
  clear hod ho
  refine ⟨fun _ => HS7.out.1, ?_⟩
  refine lastG 9 (.assign (.tmp 51)) (some 0) (.bool true) (by kernel_rfl) (by kernel_rfl) (by kernel_rfl) rfl (fun o e => exec_assign _ e (by kernel_rfl)) ?_
  go_wp2_with fail
  go_ret
  exact ⟨by kernel_rfl, K7.out.below⟩
end Go.Proofs.Ytlbmeaioiiflkaa
namespace Go.Proofs.Ytlbmeaioiiflkaa
open Go.RowKit Go.ChangeShapes Go.WideShapes Go.ChangeAt
set_option linter.unusedVariables false

def I64 (x : Int) : Prop := -9223372036854775808 ≤ x ∧ x ≤ 9223372036854775807
/-- n ints, below block B -/
def RdI (w : World) (B : Nat) (A : Option Addr) (n : Nat) (x : Nat → Int) : Prop :=
  ∀ i, i < n → ∃ b o, A = some ⟨b, o, none⟩ ∧ b < B ∧ w.cell? ⟨b, o + i, none⟩ = some (.int .i64 (x i)) ∧ I64 (x i)
def RdO (w : World) (B : Nat) (A : Option Addr) (n : Nat) (x : Nat → Bool) : Prop :=
  ∀ i, i < n → ∃ b o, A = some ⟨b, o, none⟩ ∧ b < B ∧ w.cell? ⟨b, o + i, none⟩ = some (.bool (x i))
theorem RdI.below {w w' : World} {B : Nat} {A : Option Addr} {n : Nat} {x : Nat → Int} (h : RdI w B A n x) (hb : Below B w w') : RdI w' B A n x := fun i hi => by
  obtain ⟨b, o, h1, h2, h3, h4⟩ := h i hi
  exact ⟨b, o, h1, h2, (hb.cell (p := ⟨b, o + i, none⟩) h2).trans h3, h4⟩
theorem RdO.below {w w' : World} {B : Nat} {A : Option Addr} {n : Nat} {x : Nat → Bool} (h : RdO w B A n x) (hb : Below B w w') : RdO w' B A n x := fun i hi => by
  obtain ⟨b, o, h1, h2, h3⟩ := h i hi
  exact ⟨b, o, h1, h2, (hb.cell (p := ⟨b, o + i, none⟩) h2).trans h3⟩
theorem add_block (a : Addr) (j : Nat) : (a.add j).block = a.block := by unfold Addr.add; split <;> rfl
theorem rdi_of_cells {w : World} {a : Addr} {n : Nat} {zs : List Int} (hn : n ≤ zs.length) (hc : ∀ i, i < zs.length → w.cell? (a.add i) = some (.int .i64 (zs.getD i 0))) (hw : ∀ z ∈ zs, (Lit.int .i64 z).wf = true) :
    RdI w w.heap.size (some a) n (fun j => zs.getD j 0) := by
  intro j hj
  obtain ⟨b, o, sp⟩ := a
  have h0 := hc j (by omega)
  have hsp : sp = none := by
    have h1 := hc 0 (by omega)
    have h2 := World.cell?_spot h1
    simpa [Addr.add] using h2
  subst hsp
  rw [add_plain] at h0
  exact ⟨b, o, rfl, block_lt_of_cell h0, h0, bounds_i64 (hw _ (getD_mem (show j < zs.length by omega)))⟩
theorem rdo_of_cells {w : World} {a : Addr} {n c : Nat} {zs : Nat → Bool} (hn : n ≤ c) (hc : ∀ i, i < c → w.cell? (a.add i) = some (.bool (zs i))) :
    RdO w w.heap.size (some a) n zs := by
  intro j hj
  obtain ⟨b, o, sp⟩ := a
  have h0 := hc j (by omega)
  have hsp : sp = none := by
    have h1 := hc 0 (by omega)
    have h2 := World.cell?_spot h1
    simpa [Addr.add] using h2
  subst hsp
  rw [add_plain] at h0
  exact ⟨b, o, rfl, block_lt_of_cell h0, h0⟩
section
variable {H : Type} {enc : TypeId × Value → H} {P : Program} {W : World} {base : Nat} {held : Bool}
theorem rdi_of_trod {t e : TypeId} {fuel len cap : Nat} {a : Option Addr} {x : DataW H × List MemPlace} (ht : P.underlying t = some (.slice e)) (he : P.underlying e = some (.int .i64)) (hc : P.cellsOf e = 1)
    (h : DataW.trod enc P W base (fun _ => true) held fuel t (Value.slice a len cap).cells.toList = some x) : ∃ y, RdI W W.heap.size a len y ∧ len ≤ cap ∧ cap ≤ maxLen := by
  rcases open_ints ht he hc h with ⟨hcs, _⟩ | ⟨x, l, c, zs, hcs, _, hl, hm, hz, _, hcell, hwz⟩
  · simp [Value.cells] at hcs
    obtain ⟨rfl, rfl, rfl⟩ := hcs
    exact ⟨fun _ => 0, fun j hj => absurd hj (by omega), by omega, by omega⟩
  · simp [Value.cells] at hcs
    obtain ⟨rfl, rfl, rfl⟩ := hcs
    simp at hz
    exact ⟨_, rdi_of_cells (by omega) hcell hwz, hl, hm⟩
theorem rdo_of_trod {t e : TypeId} {fuel len cap : Nat} {a : Option Addr} {x : DataW H × List MemPlace} (ht : P.underlying t = some (.slice e)) (he : P.underlying e = some .bool) (hc : P.cellsOf e = 1)
    (h : DataW.trod enc P W base (fun _ => true) held fuel t (Value.slice a len cap).cells.toList = some x) : ∃ y, RdO W W.heap.size a len y ∧ len ≤ cap ∧ cap ≤ maxLen := by
  rcases Go.Deep.open_bools ht he hc h with ⟨hcs, _⟩ | ⟨x, l, c, zs, hcs, _, hl, hm, _, hcell⟩
  · simp [Value.cells] at hcs
    obtain ⟨rfl, rfl, rfl⟩ := hcs
    exact ⟨fun _ => false, fun j hj => absurd hj (by omega), by omega, by omega⟩
  · simp [Value.cells] at hcs
    obtain ⟨rfl, rfl, rfl⟩ := hcs
    exact ⟨_, rdo_of_cells hl hcell, hl, hm⟩
end
end Go.Proofs.Ytlbmeaioiiflkaa
