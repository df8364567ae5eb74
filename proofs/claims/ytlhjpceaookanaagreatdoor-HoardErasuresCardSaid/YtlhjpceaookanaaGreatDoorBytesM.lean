/-
  A field's calls, each by a contract: 'ready', 'Mul', 'Inv', 'Pow', 'Log', at a field that is blank, at one that is full, at none. Conditions: the field's lock is free; elements are bytes.
-/
import Derived.Test.YtlhjpceaookanaaGreatDoorFieldDoM
import Derived.Deep.QuietTactic
import Derived.BigQuiet
import Derived.Test.YtlhjpceaookanaaGreatDoorFieldGaussM
import Derived.WalkKit
import Derived.Laws.BitsLemmas
import Derived.OpenShut
import Derived.Test.YtlhjpceaookanaaGreatDoorRackTotM
import Derived.ProofKit
import Derived.Deep.Matrix
import Derived.Laws.CopyOwn
namespace Go.Proofs.YtlhjpceaookanaaGreatDoor
open Go.RowKit
set_option maxRecDepth 100000

/-- A field that nobody has asked, or that was asked. -/
def Fld (w : World) (b : Nat) : Prop := Blk w b 147 (fcells 0 0 0) ∨ Blk w b 147 (fcells 1 0 255)
theorem Fld.lt {w : World} {b : Nat} (h : Fld w b) : b < w.heap.size := by rcases h with h | h <;> exact h.lt
theorem Fld.alloc {w : World} {b : Nat} (h : Fld w b) (o : Obj) : Fld (w.alloc o) b := by
  rcases h with h | h
  · exact .inl (h.alloc o)
  · exact .inr (h.alloc o)
theorem Fld.drew {w : World} {b : Nat} (h : Fld w b) : Fld w.drew b := h
theorem Fld.drewN {w : World} {b : Nat} (h : Fld w b) (n : Nat) : Fld (w.drewN n) b := h
theorem Fld.far {w : World} {b : Nat} (h : Fld w b) {p : Addr} (hp : b ≠ p.block) (u : Value) : Fld (w.setCell p u) b := by
  rcases h with h | h
  · exact .inl (h.far hp u)
  · exact .inr (h.far hp u)
theorem Fld.below {w w' : World} {b B : Nat} (h : Fld w b) (hb : Below B w w') (hB : b < B) : Fld w' b := by
  rcases h with h | h
  · exact .inl (h.below hb hB)
  · exact .inr (h.below hb hB)

set_option maxHeartbeats 400000 in
theorem ready_some (b : Nat) (w : World) (hb : Fld w b) :
    Calls Tryz.prog 120 #[.pointer (some ⟨b, 0, none⟩)] w fun e w' => e = .returned (.pointer (some ⟨b, 0, none⟩)) ∧ Blk w' b 147 (fcells 1 0 255) ∧ Only b w w' := by
  have hmf : ∀ (fn : Fn) (first cap : Array Value) (w : World), (Instr.makeFunc fn first cap).run Tryz.prog w = .ok (.func fn first cap) w := fun _ _ _ _ => rfl
  rcases hb with hb | hb
  · have HB := Lib.hid hb
    clear hb
    go_enter Tryz.func120, Tryz.ntmps120
    go_wp2_with fail
    refine (do_first b _ HB.out).mono ?_
    rintro e w2 ⟨rfl, hb2, ho2⟩
    have HB2 := Lib.hid hb2
    have HO := Lib.hid ho2
    clear hb2 ho2
    go_wp2_with fail
    go_ret
    exact ⟨rfl, HB2.out, HO.out⟩
  · have HB := Lib.hid hb
    clear hb
    go_enter Tryz.func120, Tryz.ntmps120
    go_wp2_with fail
    refine (do_again b _ _ HB.out).mono ?_
    rintro e w2 ⟨rfl, rfl⟩
    go_wp2_with fail
    go_ret
    exact ⟨rfl, HB.out, Only.refl _ _⟩

set_option maxHeartbeats 400000 in
theorem ready_none (w : World) :
    Calls Tryz.prog 120 #[.pointer none] w fun e w' => e = .returned (.pointer (some ⟨w.heap.size, 0, none⟩)) ∧ Blk w' w.heap.size 147 (fcells 1 0 255) ∧ Below w.heap.size w w' := by
  have hmf : ∀ (fn : Fn) (first cap : Array Value) (w : World), (Instr.makeFunc fn first cap).run Tryz.prog w = .ok (.func fn first cap) w := fun _ _ _ _ => rfl
  have hz := build_field
  go_enter Tryz.func120, Tryz.ntmps120
  go_wp2_with fail
  refine (do_first w.heap.size _ (Blk.new _ _ _)).mono ?_
  rintro e w2 ⟨rfl, hb2, ho2⟩
  have HB2 := Lib.hid hb2
  have HO := Lib.hid (((Below.refl w.heap.size w).alloc (Nat.le_refl _) (.cells (fcells 0 0 0) 147)).trans (ho2.below (B := w.heap.size) (Nat.le_refl _) (by simp)))
  clear hb2 ho2
  go_wp2_with fail
  go_ret
  exact ⟨rfl, HB2.out, HO.out⟩

theorem full_pw {w : World} {b : Nat} (hb : Blk w b 147 (fcells 1 0 255)) (n : Nat) (h : n < 255) : w.cell? ⟨b, 3 + n, none⟩ = some (.int .u8 ((M.pw n : Nat) : Int)) := by
  rw [hb.cell, fcells_pw _ _ _ _ h, if_pos h]
theorem full_lg {w : World} {b : Nat} (hb : Blk w b 147 (fcells 1 0 255)) (v : Nat) (h : v < 256) : w.cell? ⟨b, 258 + v, none⟩ = some (.int .u8 ((M.lg v : Nat) : Int)) := by
  rw [hb.cell, fcells_lg _ _ _ _ h]; rfl

/-- What 'ready' hands over, whatever the receiver. -/
def Ready (rcv : Value) (b : Nat) (w : World) (Post : World → Prop) : Prop :=
  Calls Tryz.prog 120 #[rcv] w fun e w' => e = .returned (.pointer (some ⟨b, 0, none⟩)) ∧ Blk w' b 147 (fcells 1 0 255) ∧ Post w'

set_option maxHeartbeats 400000 in
theorem mul_via (rcv : Value) (b : Nat) (x y : Nat) (hx : x < 256) (hy : y < 256) (w : World) (Post : World → Prop) (hready : Ready rcv b w Post) :
    Calls Tryz.prog 117 #[rcv, .int .u8 x, .int .u8 y] w fun e w' => e = .returned (.int .u8 (M.gmul x y : Nat)) ∧ (w = w' ∨ ∃ w2 n, w' = w2.drewN n ∧ Blk w2 b 147 (fcells 1 0 255) ∧ Post w2) := by
  have HREADY := Lib.hid hready
  clear hready
  by_cases h0 : x = 0
  · subst h0
    go_enter Tryz.func117, Tryz.ntmps117
    go_wp2_with fail
    go_ret
    exact ⟨by rw [M.gmul_zero_left]; rfl, .inl rfl⟩
  by_cases h1 : y = 0
  · subst h1
    have hxx : ((x : Int) == 0) = false := by simpa using h0
    go_enter Tryz.func117, Tryz.ntmps117
    go_wp2_with fail
    go_ret
    exact ⟨by rw [M.gmul_zero_right]; rfl, .inl rfl⟩
  have hxx : ((x : Int) == 0) = false := by simpa using h0
  have hyy : ((y : Int) == 0) = false := by simpa using h1
  go_enter Tryz.func117, Tryz.ntmps117
  go_wp2_with fail
  refine HREADY.out.mono ?_
  rintro e w2 ⟨rfl, hb2, ho2⟩
  have HG := Lib.hid (show M.gmul x y = M.pw ((M.lg x + M.lg y) % 255) from if_neg (by omega))
  have HF := Lib.hid hb2
  have HO := Lib.hid ho2
  have c1 := full_lg hb2 x hx
  have c2 := full_lg hb2 y hy
  have p1 := M.lg_lt hx h0
  have p2 := M.lg_lt hy h1
  have c3 := full_pw hb2 ((M.lg x + M.lg y) % 255) (Nat.mod_lt _ (by omega))
  clear hb2 ho2 HREADY
  generalize M.lg x = p at *
  generalize M.lg y = q at *
  generalize hr : (p + q) % 255 = r at *
  have e1 : IntKind.i64.wrap ((p : Int) + (q : Int)) = (p : Int) + (q : Int) := by rw [IntKind.wrap_i64]; omega
  have e2 : ((p : Int) + (q : Int)).tmod 255 = (r : Int) := by rw [Int.tmod_eq_emod_of_nonneg (by omega)]; omega
  have hr1 : r < 255 := by omega
  clear hr
  go_wp2_with fail
  go_quiet (fail)
  go_wp2_with fail
  go_ret
  exact ⟨by rw [HG.out]; rfl, .inr ⟨w2, _, rfl, HF.out, HO.out⟩⟩

set_option maxHeartbeats 400000 in
theorem inv_via (rcv : Value) (b : Nat) (x : Nat) (hx : x < 256) (w : World) (Post : World → Prop) (hready : Ready rcv b w Post) :
    Calls Tryz.prog 127 #[rcv, .int .u8 x] w fun e w' => e = .returned (.tuple #[.int .u8 (if x = 0 then 0 else M.ginv x : Nat), .int .i64 (if x = 0 then 1 else 0)]) ∧ (w = w' ∨ ∃ w2 n, w' = w2.drewN n ∧ Blk w2 b 147 (fcells 1 0 255) ∧ Post w2) := by
  have HREADY := Lib.hid hready
  clear hready
  by_cases h0 : x = 0
  · subst h0
    go_enter Tryz.func127, Tryz.ntmps127
    go_wp2_with fail
    go_ret2
    exact ⟨rfl, .inl rfl⟩
  have hxx : ((x : Int) == 0) = false := by simpa using h0
  rw [if_neg h0, if_neg h0]
  go_enter Tryz.func127, Tryz.ntmps127
  go_wp2_with fail
  refine HREADY.out.mono ?_
  rintro e w2 ⟨rfl, hb2, ho2⟩
  have HG := Lib.hid (show M.ginv x = M.pw ((255 - M.lg x) % 255) from rfl)
  have HF := Lib.hid hb2
  have HO := Lib.hid ho2
  have c1 := full_lg hb2 x hx
  have p1 := M.lg_lt hx h0
  have c3 := full_pw hb2 ((255 - M.lg x) % 255) (Nat.mod_lt _ (by omega))
  clear hb2 ho2 HREADY
  generalize M.lg x = p at *
  generalize hr : (255 - p) % 255 = r at *
  have e1 : IntKind.i64.wrap (255 - (p : Int)) = 255 - (p : Int) := by rw [IntKind.wrap_i64]; omega
  have e2 : (255 - (p : Int)).tmod 255 = (r : Int) := by rw [Int.tmod_eq_emod_of_nonneg (by omega)]; omega
  have hr1 : r < 255 := by omega
  clear hr
  go_wp2_with fail
  go_quiet (fail)
  go_wp2_with fail
  go_ret2
  exact ⟨by rw [HG.out]; rfl, .inr ⟨w2, _, rfl, HF.out, HO.out⟩⟩

/-- What 'Pow' answers. -/
def powR (x : Nat) (n : Int) : Nat := if n < 0 then 0 else M.gpow x n.toNat

set_option maxHeartbeats 400000 in
theorem pow_via (rcv : Value) (b : Nat) (x : Nat) (n : Int) (hx : x < 256) (hn : -9223372036854775808 ≤ n ∧ n ≤ 9223372036854775807) (w : World) (Post : World → Prop) (hready : Ready rcv b w Post) :
    Calls Tryz.prog 118 #[rcv, .int .u8 x, .int .i64 n] w fun e w' => e = .returned (.tuple #[.int .u8 (powR x n : Nat), .int .i64 (if n < 0 then 1 else 0)]) ∧ (w = w' ∨ ∃ w2 n, w' = w2.drewN n ∧ Blk w2 b 147 (fcells 1 0 255) ∧ Post w2) := by
  have HREADY := Lib.hid hready
  clear hready
  obtain ⟨hn1, hn2⟩ := hn
  by_cases hneg : n < 0
  · have HP := Lib.hid (show powR x n = 0 from if_pos hneg)
    rw [HP.out, if_pos hneg]
    go_enter Tryz.func118, Tryz.ntmps118
    go_wp2_with fail
    go_ret2
    exact ⟨rfl, .inl rfl⟩
  rw [if_neg hneg]
  by_cases hz : n = 0
  · subst hz
    go_enter Tryz.func118, Tryz.ntmps118
    go_wp2_with fail
    go_ret2
    exact ⟨rfl, .inl rfl⟩
  have hnz : (n == 0) = false := by simpa using hz
  have HPG := Lib.hid (show powR x n = M.gpow x n.toNat from if_neg hneg)
  by_cases h0 : x = 0
  · subst h0
    have HP := Lib.hid (show M.gpow 0 n.toNat = 0 by rw [M.gpow, if_neg (by omega), if_pos rfl])
    go_enter Tryz.func118, Tryz.ntmps118
    go_wp2_with fail
    go_ret2
    exact ⟨by rw [HPG.out, HP.out]; rfl, .inl rfl⟩
  have hxx : ((x : Int) == 0) = false := by simpa using h0
  have hpos : 0 ≤ n := by omega
  go_enter Tryz.func118, Tryz.ntmps118
  go_wp2_with fail
  refine HREADY.out.mono ?_
  rintro e w2 ⟨rfl, hb2, ho2⟩
  have HG := Lib.hid (show M.gpow x n.toNat = M.pw (M.lg x * (n.toNat % 255) % 255) by rw [M.gpow, if_neg (by omega), if_neg h0])
  have HF := Lib.hid hb2
  have HO := Lib.hid ho2
  have c1 := full_lg hb2 x hx
  have p1 := M.lg_lt hx h0
  have c3 := full_pw hb2 (M.lg x * (n.toNat % 255) % 255) (Nat.mod_lt _ (by omega))
  clear hb2 ho2 HREADY
  generalize M.lg x = p at *
  have e0 : n.tmod 255 = ((n.toNat % 255 : Nat) : Int) := by rw [Int.tmod_eq_emod_of_nonneg (by omega)]; omega
  have hm : n.toNat % 255 < 255 := Nat.mod_lt _ (by omega)
  generalize n.toNat % 255 = m at *
  have hpm : p * m ≤ 254 * 254 := Nat.mul_le_mul (by omega) (by omega)
  have e1 : IntKind.i64.wrap ((p : Int) * (m : Int)) = (p : Int) * (m : Int) := by rw [← Int.natCast_mul, IntKind.wrap_i64]; omega
  have hr1 : p * m % 255 < 255 := Nat.mod_lt _ (by omega)
  have e2 : ((p : Int) * (m : Int)).tmod 255 = ((p * m % 255 : Nat) : Int) := by rw [← Int.natCast_mul, Int.tmod_eq_emod_of_nonneg (by omega)]; omega
  generalize p * m % 255 = r at *
  clear hpm
  go_wp2_with fail
  go_quiet (fail)
  go_wp2_with fail
  go_ret2
  exact ⟨by rw [HPG.out, HG.out]; rfl, .inr ⟨w2, _, rfl, HF.out, HO.out⟩⟩

/-! ### at a field, at none -/
theorem some_ready {b : Nat} {w : World} (hb : Fld w b) : Ready (.pointer (some ⟨b, 0, none⟩)) b w (Only b w) := (ready_some b w hb).mono fun _ _ h => h
theorem none_ready (w : World) : Ready (.pointer none) w.heap.size w (Below w.heap.size w) := (ready_none w).mono fun _ _ h => h
theorem via_some {b : Nat} {w w' : World} (hb : Fld w b) (h : w = w' ∨ ∃ w2 n, w' = w2.drewN n ∧ Blk w2 b 147 (fcells 1 0 255) ∧ Only b w w2) : Fld w' b ∧ Only b w w' := by
  rcases h with rfl | ⟨w2, n, rfl, h1, h2⟩
  · exact ⟨hb, Only.refl _ _⟩
  · exact ⟨.inr (h1.drewN n), h2.drewN n⟩
theorem via_none {b : Nat} {w w' : World} (h : w = w' ∨ ∃ w2 n, w' = w2.drewN n ∧ Blk w2 b 147 (fcells 1 0 255) ∧ Below w.heap.size w w2) : Below w.heap.size w w' := by
  rcases h with rfl | ⟨w2, n, rfl, _, h2⟩
  · exact Below.refl _ _
  · exact ⟨h2.os, h2.tape, h2.output, h2.size, h2.block⟩
theorem mul_some {b x y : Nat} (hx : x < 256) (hy : y < 256) {w : World} (hb : Fld w b) :
    Calls Tryz.prog 117 #[.pointer (some ⟨b, 0, none⟩), .int .u8 x, .int .u8 y] w fun e w' => e = .returned (.int .u8 (M.gmul x y : Nat)) ∧ Fld w' b ∧ Only b w w' :=
  (mul_via _ b x y hx hy w _ (some_ready hb)).mono fun _ _ ⟨he, h⟩ => ⟨he, via_some hb h⟩
theorem mul_none {x y : Nat} (hx : x < 256) (hy : y < 256) (w : World) :
    Calls Tryz.prog 117 #[.pointer none, .int .u8 x, .int .u8 y] w fun e w' => e = .returned (.int .u8 (M.gmul x y : Nat)) ∧ Below w.heap.size w w' :=
  (mul_via _ _ x y hx hy w _ (none_ready w)).mono fun _ _ ⟨he, h⟩ => ⟨he, via_none h⟩
theorem inv_some {b x : Nat} (hx : x < 256) {w : World} (hb : Fld w b) :
    Calls Tryz.prog 127 #[.pointer (some ⟨b, 0, none⟩), .int .u8 x] w fun e w' => e = .returned (.tuple #[.int .u8 (if x = 0 then 0 else M.ginv x : Nat), .int .i64 (if x = 0 then 1 else 0)]) ∧ Fld w' b ∧ Only b w w' :=
  (inv_via _ b x hx w _ (some_ready hb)).mono fun _ _ ⟨he, h⟩ => ⟨he, via_some hb h⟩
theorem pow_some {b x : Nat} {n : Int} (hx : x < 256) (hn : -9223372036854775808 ≤ n ∧ n ≤ 9223372036854775807) {w : World} (hb : Fld w b) :
    Calls Tryz.prog 118 #[.pointer (some ⟨b, 0, none⟩), .int .u8 x, .int .i64 n] w fun e w' => e = .returned (.tuple #[.int .u8 (powR x n : Nat), .int .i64 (if n < 0 then 1 else 0)]) ∧ Fld w' b ∧ Only b w w' :=
  (pow_via _ b x n hx hn w _ (some_ready hb)).mono fun _ _ ⟨he, h⟩ => ⟨he, via_some hb h⟩
/-! ### the same, the answer under a name -/
theorem mul_at {b x y r : Nat} (hr : M.gmul x y = r) (hx : x < 256) (hy : y < 256) {w : World} (hb : Fld w b) :
    Calls Tryz.prog 117 #[.pointer (some ⟨b, 0, none⟩), .int .u8 x, .int .u8 y] w fun e w' => e = .returned (.int .u8 (r : Nat)) ∧ Fld w' b ∧ Only b w w' := hr ▸ mul_some hx hy hb
theorem inv_at {b x r : Nat} (h0 : x ≠ 0) (hr : M.ginv x = r) (hx : x < 256) {w : World} (hb : Fld w b) :
    Calls Tryz.prog 127 #[.pointer (some ⟨b, 0, none⟩), .int .u8 x] w fun e w' => e = .returned (.tuple #[.int .u8 (r : Nat), .int .i64 0]) ∧ Fld w' b ∧ Only b w w' := by
  have h := inv_some hx hb
  rw [if_neg h0, if_neg h0, hr] at h
  exact h
theorem inv_zero {b : Nat} {w : World} (hb : Fld w b) :
    Calls Tryz.prog 127 #[.pointer (some ⟨b, 0, none⟩), .int .u8 0] w fun e w' => e = .returned (.tuple #[.int .u8 0, .int .i64 1]) ∧ Fld w' b ∧ Only b w w' := inv_some (x := 0) (by omega) hb
theorem pow_at {b x r : Nat} {n : Int} (h0 : 0 ≤ n) (hr : M.gpow x n.toNat = r) (hx : x < 256) (hn : n ≤ 9223372036854775807) {w : World} (hb : Fld w b) :
    Calls Tryz.prog 118 #[.pointer (some ⟨b, 0, none⟩), .int .u8 x, .int .i64 n] w fun e w' => e = .returned (.tuple #[.int .u8 (r : Nat), .int .i64 0]) ∧ Fld w' b ∧ Only b w w' := by
  have h := pow_some (n := n) hx ⟨by omega, hn⟩ hb
  rw [powR, if_neg (by omega), if_neg (by omega), hr] at h
  exact h
theorem pow_neg {b x : Nat} {n : Int} (h0 : n < 0) (hx : x < 256) (hn : -9223372036854775808 ≤ n) {w : World} (hb : Fld w b) :
    Calls Tryz.prog 118 #[.pointer (some ⟨b, 0, none⟩), .int .u8 x, .int .i64 n] w fun e w' => e = .returned (.tuple #[.int .u8 0, .int .i64 1]) ∧ Fld w' b ∧ Only b w w' := by
  have h := pow_some (n := n) hx ⟨hn, by omega⟩ hb
  rw [powR, if_pos h0, if_pos h0] at h
  exact h
end Go.Proofs.YtlhjpceaookanaaGreatDoor
namespace Go.Proofs.YtlhjpceaookanaaGreatDoor
set_option maxRecDepth 100000
open Go.RowKit

theorem u8_of_wf {a : Int} (h : (Lit.int .u8 a).wf = true) : ∃ n : Nat, a = n ∧ n < 256 := by
  have hb := bounds_u8 h
  exact ⟨a.toNat, by omega, by omega⟩
theorem ofInt_i8 (a : Nat) (ha : a < 256) : (BitVec.ofInt 8 (a : Int)).toNat = a := by
  rw [BitVec.ofInt_natCast, BitVec.toNat_ofNat]; exact Nat.mod_eq_of_lt (by omega)
theorem u8_xor_nat (a b : Nat) (ha : a < 256) (hb : b < 256) : bits .xor .u8 (a : Int) (b : Int) = ((a ^^^ b : Nat) : Int) := by
  have hx := M.xor_lt ha hb
  show IntKind.u8.wrap ((BitVec.ofInt 8 (a : Int) ^^^ BitVec.ofInt 8 (b : Int)).toNat : Int) = _
  rw [BitVec.toNat_xor, ofInt_i8 a ha, ofInt_i8 b hb, IntKind.wrap_u8]
  omega

end Go.Proofs.YtlhjpceaookanaaGreatDoor
namespace Go.Proofs.YtlhjpceaookanaaGreatDoor
set_option maxRecDepth 100000
open Go Go.RowKit Go.ChangeShapes Go.WideShapes Go.ChangeAt
set_option linter.unusedVariables false

/-- n bytes that lie below block B. -/
def RdB (w : World) (B : Nat) (A : Option Addr) (n : Nat) (x : Nat → Nat) : Prop :=
  ∀ j, j < n → ∃ b o, A = some ⟨b, o, none⟩ ∧ b < B ∧ w.cell? ⟨b, o + j, none⟩ = some (.int .u8 (x j : Nat)) ∧ x j < 256
theorem RdB.below {w w' : World} {B B' : Nat} {A : Option Addr} {n : Nat} {x : Nat → Nat} (h : RdB w B A n x) (hb : Below B' w w') (hB : B ≤ B') : RdB w' B A n x := by
  intro j hj
  obtain ⟨b, o, h1, h2, h3, h4⟩ := h j hj
  exact ⟨b, o, h1, h2, (hb.cell (p := ⟨b, o + j, none⟩) (by show b < B'; omega)).trans h3, h4⟩
theorem add_block (a : Addr) (j : Nat) : (a.add j).block = a.block := by unfold Addr.add; split <;> rfl
theorem byte_of_wf {a : Int} (h : (Lit.int .u8 a).wf = true) : a = ((a.toNat : Nat) : Int) ∧ a.toNat < 256 := by
  have hb := bounds_u8 h
  omega
/-- A row of cells that came in, n bytes of them read. -/
theorem rdb_of_cells {w : World} {a : Addr} {n : Nat} {zs : List Int} (hn : n ≤ zs.length) (hc : ∀ i, i < zs.length → w.cell? (a.add i) = some (.int .u8 (zs.getD i 0))) (hw : ∀ z ∈ zs, (Lit.int .u8 z).wf = true) :
    RdB w w.heap.size (some a) n (fun j => (zs.getD j 0).toNat) := by
  intro j hj
  obtain ⟨b, o, sp⟩ := a
  have h0 := hc j (by omega)
  have hsp : sp = none := by
    have h1 := hc 0 (by omega)
    have h2 := World.cell?_spot h1
    simpa [Addr.add] using h2
  subst hsp
  rw [add_plain] at h0
  have hwf := byte_of_wf (hw _ (getD_mem (show j < zs.length by omega)))
  refine ⟨b, o, rfl, block_lt_of_cell h0, ?_, hwf.2⟩
  rw [h0, ← hwf.1]

section
variable {H : Type} {enc : TypeId × Value → H} {P : Program} {W : World} {base : Nat} {held : Bool}
theorem rdb_of_trod {t e : TypeId} {fuel len cap : Nat} {a : Option Addr} {x : DataW H × List MemPlace} (ht : P.underlying t = some (.slice e)) (he : P.underlying e = some (.int .u8)) (hc : P.cellsOf e = 1)
    (h : DataW.trod enc P W base (fun _ => true) held fuel t (Value.slice a len cap).cells.toList = some x) : ∃ y, RdB W W.heap.size a len y ∧ len ≤ cap ∧ cap ≤ maxLen := by
  rcases open_ints ht he hc h with ⟨hcs, _⟩ | ⟨x, l, c, zs, hcs, _, hl, hm, hz, _, hcell, hwz⟩
  · simp [Value.cells] at hcs
    obtain ⟨rfl, rfl, rfl⟩ := hcs
    exact ⟨fun _ => 0, fun j hj => absurd hj (by omega), by omega, by omega⟩
  · simp [Value.cells] at hcs
    obtain ⟨rfl, rfl, rfl⟩ := hcs
    simp at hz
    exact ⟨_, rdb_of_cells (by omega) hcell hwz, hl, hm⟩
theorem rdb_of_trod0 {t e : TypeId} {fuel len cap : Nat} {a : Option Addr} {x : DataW H × List MemPlace} (ht : P.underlying t = some (.slice e)) (he : P.underlying e = some (.int .u8)) (hc : P.cellsOf e = 1)
    (h : DataW.trod enc P W base (fun _ => true) held fuel t (Value.slice a len cap).cells.toList = some x) : ∃ y, RdB W W.heap.size a len y ∧ len ≤ cap ∧ cap ≤ maxLen ∧ (a = none → cap = 0) := by
  rcases open_ints ht he hc h with ⟨hcs, _⟩ | ⟨x, l, c, zs, hcs, _, hl, hm, hz, _, hcell, hwz⟩
  · simp [Value.cells] at hcs
    obtain ⟨rfl, rfl, rfl⟩ := hcs
    exact ⟨fun _ => 0, fun j hj => absurd hj (by omega), by omega, by omega, fun _ => rfl⟩
  · simp [Value.cells] at hcs
    obtain ⟨rfl, rfl, rfl⟩ := hcs
    simp at hz
    exact ⟨_, rdb_of_cells (by omega) hcell hwz, hl, hm, fun e => by cases e⟩
end
theorem rdb_of_blk {w : World} {g n : Nat} {X : Nat → Nat} (h : Blk w g 5 (rowArr n X)) (hX : ∀ i, i < n → X i < 256) : RdB w (g + 1) (some ⟨g, 0, none⟩) n X := by
  intro j hj
  refine ⟨g, 0, rfl, by omega, ?_, hX j hj⟩
  rw [Nat.zero_add, h.cell, rowArr_get hj]

theorem Only.cell {g : Nat} {a w : World} (h : Only g a w) {p : Addr} {v : Value} (hc : a.cell? p = some v) (hne : p.block ≠ g) : w.cell? p = some v := by
  rw [← hc]
  exact World.cell?_of_block (h.block p.block (block_lt_of_cell hc) (fun e => hne (by injection e)))
theorem RdB.only {g : Nat} {w w' : World} {B : Nat} {A : Option Addr} {n : Nat} {x : Nat → Nat} (h : RdB w B A n x) (ho : Only g w w') (hne : ∀ b o, A = some ⟨b, o, none⟩ → 0 < n → b ≠ g) : RdB w' B A n x := by
  intro j hj
  obtain ⟨b, o, h1, h2, h3, h4⟩ := h j hj
  exact ⟨b, o, h1, h2, ho.cell h3 (hne b o h1 (by omega)), h4⟩
theorem size_u8 : (Tryz.prog.info? 5).map (·.size) = some 1 := by kernel_rfl
/-- 'copy' of a row of bytes onto the head of a row of the call's own. -/
theorem wpList_copyB {w : World} {ops : Array Oper} {rest : List Oper} {o : Oper} {a : Act} {Q : Exit → Act → World → Prop} (hgd : o.guard = none) (d s : Operand) (dT sT : TypeId)
    (ho : o.op = .call { callee := .builtin .copy, args := #[d, s], argTypes := #[dT, sT] }) (hu : Tryz.prog.underlying dT = some (.slice 5))
    (g n b off sLen sCap : Nat) (hd : a.eval d = .slice (some ⟨g, 0, none⟩) n n) (hs : a.eval s = .slice (some ⟨b, off, none⟩) sLen sCap)
    (f x : Nat → Nat) (hg : Blk w g 5 (rowArr n f)) (hx : ∀ j, j < sLen → w.cell? ⟨b, off + j, none⟩ = some (.int .u8 (x j : Nat))) (hle : sLen ≤ n)
    (h : ∀ w', Blk w' g 5 (rowArr n (fun j => if j < sLen then x j else f j)) → Only g w w' → w'.heap.size = w.heap.size → wpList Tryz.prog ops Q rest (a.put o.dst (goInt sLen)) w') :
    wpList Tryz.prog ops Q (o :: rest) a w := by
  have hrs : (rowArr n f).size = n := by simp [rowArr]
  refine wpList_copy_own hgd d s dT sT ho 5 hu size_u8 g 0 n n ⟨b, off, none⟩ sLen sCap hd hs (rowArr n f) 5 hg ((List.range sLen).map fun j => .int .u8 ((x j : Nat) : Int)) (by simp; exact (Nat.min_eq_left hle).symm) ?_ (by simp [hrs]; exact hle) ?_ ?_
  · intro j v hj
    simp only [List.getElem?_map] at hj
    by_cases hjl : j < sLen
    · simp [hjl] at hj
      subst hj
      have e : (⟨b, off, none⟩ : Addr).add j = ⟨b, off + j, none⟩ := by unfold Addr.add; split <;> simp_all
      rw [e]
      exact hx j hjl
    · simp [hjl] at hj
  · intro v hv
    simp at hv
    obtain ⟨j, _, rfl⟩ := hv
    rfl
  · have e1 : ((rowArr n f).toList.take 0 ++ (((List.range sLen).map fun j => Value.int .u8 ((x j : Nat) : Int)) ++ (rowArr n f).toList.drop (0 + ((List.range sLen).map fun j => Value.int .u8 ((x j : Nat) : Int)).length))).toArray = rowArr n (fun j => if j < sLen then x j else f j) := by
      apply Array.ext_getElem?
      intro j
      by_cases hj : j < n
      · rw [rowArr_get hj]
        by_cases hjl : j < sLen
        · simp only [List.take_zero, List.nil_append, List.getElem?_toArray]
          rw [List.getElem?_append_left (by simp; exact hjl), if_pos hjl]
          simp [hjl]
        · have hgt := rowArr_get (f := f) hj
          have e2 : sLen + (j - sLen) = j := by omega
          simp [hjl, List.getElem?_append, e2, hgt]
      · rw [Array.getElem?_eq_none (by simp [hrs]; omega), Array.getElem?_eq_none (by simp [rowArr]; omega)]
    rw [e1]
    have e3 : ((List.range sLen).map fun j => Value.int .u8 ((x j : Nat) : Int)).length = sLen := by simp
    rw [e3]
    exact h _ (setRow_heap w g _ _ _ _ hg) ⟨rfl, rfl, rfl, by simp, fun k hk hne => setRow_other w g k _ (fun e => hne (by rw [e]))⟩ (by simp)

theorem wpList_copy0 {w : World} {ops : Array Oper} {rest : List Oper} {o : Oper} {a : Act} {Q : Exit → Act → World → Prop} (hgd : o.guard = none) (d s : Operand) (dT sT : TypeId)
    (ho : o.op = .call { callee := .builtin .copy, args := #[d, s], argTypes := #[dT, sT] }) (hu : Tryz.prog.underlying dT = some (.slice 5))
    (g n m sCap c : Nat) (A : Option Addr) (hd : a.eval d = .slice (some ⟨g, 0, none⟩) n c) (hs : a.eval s = .slice A m sCap) (e0 : Nat.min m n = 0)
    (h : wpList Tryz.prog ops Q rest (a.put o.dst (goInt 0)) w) : wpList Tryz.prog ops Q (o :: rest) a w := by
  refine wpList_plain hgd fun K hK => ?_
  have hrun : (Builtin.copy_ #[dT, sT] o.type #[.slice (some ⟨g, 0, none⟩) n c, .slice A m sCap]).run Tryz.prog w = .ok (goInt 0) w := by
    have h0 : ∀ ad : Addr, (loadCells ad 0).run Tryz.prog w = .ok #[] w := fun ad => run_loadCells_list (P := Tryz.prog) w ad [] (fun j v hv => by simp at hv)
    have h1 : (sizeOf 5).run Tryz.prog w = .ok 1 w := by
      unfold sizeOf typeInfo
      cases hq : Tryz.prog.info? 5 with
      | none => have := size_u8; rw [hq] at this; cases this
      | some i => have := size_u8; rw [hq] at this; simp at this; simp [Sem.run_bind, hq, this]
    cases A <;> simp [Builtin.copy_, run_underlying hu, Sem.run_bind, Builtin.lenOf, h1, Builtin.firstCells, storeCells, e0, h0]
  unfold Oper.wp
  simp [execOp, ho, resolve, invoke, builtin, hd, hs, hrun, Result.andThen]
  exact hK _ _ h
set_option maxRecDepth 100000 in
/-- 'copy' of bytes that came in onto the head of a row of the call's own -/
theorem wpList_copyRd {w : World} {ops : Array Oper} {rest : List Oper} {o : Oper} {a : Act} {Q : Exit → Act → World → Prop} (hgd : o.guard = none) (d s : Operand) (dT sT : TypeId)
    (ho : o.op = .call { callee := .builtin .copy, args := #[d, s], argTypes := #[dT, sT] }) (hu : Tryz.prog.underlying dT = some (.slice 5))
    (g n m sCap B : Nat) (A : Option Addr) (hd : a.eval d = .slice (some ⟨g, 0, none⟩) n n) (hs : a.eval s = .slice A m sCap)
    (f x : Nat → Nat) (hg : Blk w g 5 (rowArr n f)) (hx : RdB w B A m x) (hle : m ≤ n)
    (h : ∀ w', Blk w' g 5 (rowArr n (fun j => if j < m then x j else f j)) → Only g w w' → w'.heap.size = w.heap.size → wpList Tryz.prog ops Q rest (a.put o.dst (goInt m)) w') :
    wpList Tryz.prog ops Q (o :: rest) a w := by
  by_cases h0 : m = 0
  · subst h0
    refine wpList_copy0 hgd d s dT sT ho hu g n 0 sCap n A hd hs (Nat.zero_min n) ?_
    exact h w (by rw [show (rowArr n fun j => if j < 0 then x j else f j) = rowArr n f from rowArr_congr fun c _ => if_neg (by omega)]; exact hg) (Only.refl _ _) rfl
  · obtain ⟨b, off, rfl, _⟩ := hx 0 (by omega)
    exact wpList_copyB hgd d s dT sT ho hu g n b off m sCap hd hs f x hg (fun j hj => by
      obtain ⟨b', o', e, _, h3, _⟩ := hx j hj
      injection e with e
      injection e with e1 e2
      subst e1; subst e2
      exact h3) hle h
set_option maxRecDepth 100000 in
/-- 'copy' of the head of bytes that came in onto a whole row of the call's own -/
theorem wpList_copyFull {w : World} {ops : Array Oper} {rest : List Oper} {o : Oper} {a : Act} {Q : Exit → Act → World → Prop} (hgd : o.guard = none) (d s : Operand) (dT sT : TypeId)
    (ho : o.op = .call { callee := .builtin .copy, args := #[d, s], argTypes := #[dT, sT] }) (hu : Tryz.prog.underlying dT = some (.slice 5))
    (g n m sCap B : Nat) (A : Option Addr) (hd : a.eval d = .slice (some ⟨g, 0, none⟩) n n) (hs : a.eval s = .slice A m sCap)
    (f x : Nat → Nat) (hg : Blk w g 5 (rowArr n f)) (hx : RdB w B A m x) (hle : n ≤ m)
    (h : ∀ w', Blk w' g 5 (rowArr n x) → Only g w w' → w'.heap.size = w.heap.size → wpList Tryz.prog ops Q rest (a.put o.dst (goInt n)) w') :
    wpList Tryz.prog ops Q (o :: rest) a w := by
  by_cases h0 : n = 0
  · subst h0
    refine wpList_copy0 hgd d s dT sT ho hu g 0 m sCap 0 A hd hs (Nat.min_zero m) ?_
    exact h w (by rw [show (rowArr 0 x) = rowArr 0 f from rowArr_congr fun c hc => absurd hc (by omega)]; exact hg) (Only.refl _ _) rfl
  · obtain ⟨b, off, rfl, _⟩ := hx 0 (by omega)
    have hrs : (rowArr n f).size = n := by simp [rowArr]
    have hmin : Nat.min m n = n := Nat.min_eq_right hle
    refine wpList_copy_own hgd d s dT sT ho 5 hu size_u8 g 0 n n ⟨b, off, none⟩ m sCap hd hs (rowArr n f) 5 hg ((List.range n).map fun j => .int .u8 ((x j : Nat) : Int)) (by simp only [List.length_map, List.length_range]; exact hmin.symm) ?_ (by simp [hrs]) ?_ ?_
    · intro j v hj
      simp only [List.getElem?_map] at hj
      by_cases hjl : j < n
      · simp [hjl] at hj
        subst hj
        obtain ⟨b', o', e, _, h3, _⟩ := hx j (by omega)
        injection e with e
        injection e with e1 e2
        subst e1; subst e2
        rw [add_plain]
        exact h3
      · simp [hjl] at hj
    · intro v hv
      simp at hv
      obtain ⟨j, _, rfl⟩ := hv
      rfl
    · have e1 : ((rowArr n f).toList.take 0 ++ (((List.range n).map fun j => Value.int .u8 ((x j : Nat) : Int)) ++ (rowArr n f).toList.drop (0 + ((List.range n).map fun j => Value.int .u8 ((x j : Nat) : Int)).length))).toArray = rowArr n x := by
        apply Array.ext_getElem?
        intro j
        by_cases hj : j < n
        · rw [rowArr_get hj]
          simp only [List.take_zero, List.nil_append, List.getElem?_toArray]
          rw [List.getElem?_append_left (by simp; exact hj)]
          simp [hj]
        · rw [Array.getElem?_eq_none (by simp [hrs]; omega), Array.getElem?_eq_none (by simp [rowArr]; omega)]
      rw [e1]
      have e3 : ((List.range n).map fun j => Value.int .u8 ((x j : Nat) : Int)).length = n := by simp
      rw [e3]
      exact h _ (setRow_heap w g _ _ _ _ hg) ⟨rfl, rfl, rfl, by simp, fun k hk hne => setRow_other w g k _ (fun e => hne (by rw [e]))⟩ (by simp)
/-- where 's[lo:]' begins -/
def subA (A : Option Addr) (c lo : Nat) : Option Addr := if c = lo then A else A.map (·.add lo)
theorem RdB.sub {w : World} {B n c lo : Nat} {A : Option Addr} {x : Nat → Nat} (h : RdB w B A n x) (hc : n ≤ c) : RdB w B (subA A c lo) (n - lo) (fun j => x (lo + j)) := fun j hj => by
  obtain ⟨b, o, rfl, h2, h3, h4⟩ := h (lo + j) (by omega)
  refine ⟨b, o + lo, ?_, h2, by rw [Nat.add_assoc]; exact h3, h4⟩
  unfold subA
  rw [if_neg (by omega)]
  simp [add_plain]
theorem sizeOf_u8 (w : World) : (sizeOf 5).run Tryz.prog w = .ok 1 w := by
  unfold sizeOf typeInfo
  cases hq : Tryz.prog.info? 5 with
  | none => have := size_u8; rw [hq] at this; cases this
  | some i => have := size_u8; rw [hq] at this; simp at this; simp [Sem.run_bind, hq, this]
/-- 's[lo:]' -/
theorem slice_from (A : Option Addr) (n c lo : Nat) (L : Int) (hL : L = (lo : Int)) (h : lo ≤ n) (w : World) :
    (Instr.sliceAt 36 (.slice A n c) (some (.int .i64 L)) none none).run Tryz.prog w = .ok (.slice (subA A c lo) (n - lo) (c - lo)) w := by
  subst hL
  have hu : Tryz.prog.underlying 36 = some (.slice (Tryz.prog.elem 36)) := by kernel_rfl
  have he : Tryz.prog.elem 36 = 5 := by kernel_rfl
  rw [run_sliceAt_slice (P := Tryz.prog) (w := w) (h := hu), run_slice_l (P := Tryz.prog) (w := w) 36 A n c hu .i64 (lo : Int) (by omega) (by omega), he, sizeOf_u8]
  simp [sliced, subA]
theorem strB_zero (x : Nat → Nat) : strB 0 x = ByteArray.empty := rfl
theorem conv_zero (w : World) (A : Option Addr) (cap : Nat) : (convert 36 9 (.slice A 0 cap)).run Tryz.prog w = .ok (.string ByteArray.empty) w := by
  cases A with
  | none => exact run_convert_bytes_nil w _ _ Tryz.underlying36 Tryz.underlying5 _ _ _ Tryz.underlying9
  | some a =>
    rw [run_convert_bytes_string w _ _ _ _ _ _ Tryz.underlying36 Tryz.underlying5 Tryz.underlying9]
    have h0 : (loadCells a 0).run Tryz.prog w = .ok #[] w := run_loadCells_list (P := Tryz.prog) w a [] (fun j v hv => by simp at hv)
    simp [Conv.bytesToString, h0]
/-- 'string(b)' of bytes that came in -/
theorem conv_rd {w : World} {B : Nat} {A : Option Addr} {n cap : Nat} {x : Nat → Nat} (h : RdB w B A n x) :
    (convert 36 9 (.slice A n cap)).run Tryz.prog w = .ok (.string (strB n x)) w := by
  by_cases h1 : n = 0
  · subst h1; exact conv_zero w A cap
  obtain ⟨b, o, rfl, _⟩ := h 0 (by omega)
  refine run_convert_bytes_arg w 36 5 Tryz.underlying36 Tryz.underlying5 b o n cap _ (by simp) (fun i hi => ?_) _ Tryz.underlying9
  obtain ⟨b', o', e, _, h3, _⟩ := h i hi
  injection e with e
  injection e with e1 e2
  subst e1; subst e2
  rw [h3]
  simp [List.getD, hi]
theorem RdB.cut {w : World} {B : Nat} {A : Option Addr} {n : Nat} {x : Nat → Nat} (h : RdB w B A n x) : ∃ y, RdB w B A n y ∧ ∀ j, y j < 256 :=
  ⟨fun j => if j < n then x j else 0, fun j hj => by
    obtain ⟨b, o, h1, h2, h3, h4⟩ := h j hj
    simp only [if_pos hj]
    exact ⟨b, o, h1, h2, h3, h4⟩, fun j => by
    by_cases hj : j < n
    · simp only [if_pos hj]
      obtain ⟨_, _, _, _, _, h4⟩ := h j hj
      exact h4
    · simp only [if_neg hj]; omega⟩
end Go.Proofs.YtlhjpceaookanaaGreatDoor
