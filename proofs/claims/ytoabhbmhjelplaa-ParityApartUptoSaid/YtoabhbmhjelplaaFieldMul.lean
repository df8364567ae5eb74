/-
  A field's calls, each by a contract: 'ready', 'Mul', 'Inv', 'Pow', 'Log', at a field that is blank, at one that is full, at none. Conditions: the field's lock is free; elements are bytes.
-/
import Derived.Test.YtoabhbmhjelplaaFieldDo
import Derived.Deep.QuietTactic
import Derived.BigQuiet
namespace Go.Proofs.Ytoabhbmhjelplaa
open Go.RowKit
set_option maxRecDepth 100000

/-- A field that nobody has asked, or that was asked. -/
def Fld (w : World) (b : Nat) : Prop := Blk w b 61 (fcells 0 0 0) ∨ Blk w b 61 (fcells 1 0 255)
theorem Fld.lt {w : World} {b : Nat} (h : Fld w b) : b < w.heap.size := by rcases h with h | h <;> exact h.lt
theorem Fld.alloc {w : World} {b : Nat} (h : Fld w b) (o : Obj) : Fld (w.alloc o) b := by
  rcases h with h | h
  · exact .inl (h.alloc o)
  · exact .inr (h.alloc o)
theorem Fld.drew {w : World} {b : Nat} (h : Fld w b) : Fld w.drew b := h
theorem Fld.drewN {w : World} {b : Nat} (h : Fld w b) (n : Nat) : Fld (w.drewN n) b := h
theorem Fld.far {w : World} {b : Nat} (h : Fld w b) {p : Addr} (hp : b ≠ p.block) (u : Value) : Fld (w.setCell p u) b := by
  rcases h with h | h
  · exact .inl (h.far hp u)
  · exact .inr (h.far hp u)
theorem Fld.below {w w' : World} {b B : Nat} (h : Fld w b) (hb : Below B w w') (hB : b < B) : Fld w' b := by
  rcases h with h | h
  · exact .inl (h.below hb hB)
  · exact .inr (h.below hb hB)

set_option maxHeartbeats 400000 in
theorem ready_some (b : Nat) (w : World) (hb : Fld w b) :
    Calls Try.prog 41 #[.pointer (some ⟨b, 0, none⟩)] w fun e w' => e = .returned (.pointer (some ⟨b, 0, none⟩)) ∧ Blk w' b 61 (fcells 1 0 255) ∧ Only b w w' := by
  have hmf : ∀ (fn : Fn) (first cap : Array Value) (w : World), (Instr.makeFunc fn first cap).run Try.prog w = .ok (.func fn first cap) w := fun _ _ _ _ => rfl
  rcases hb with hb | hb
  · have HB := Lib.hid hb
    clear hb
    go_enter Try.func41, Try.ntmps41
    go_wp2_with fail
    refine (do_first b _ HB.out).mono ?_
    rintro e w2 ⟨rfl, hb2, ho2⟩
    have HB2 := Lib.hid hb2
    have HO := Lib.hid ho2
    clear hb2 ho2
    go_wp2_with fail
    go_ret
    exact ⟨rfl, HB2.out, HO.out⟩
  · have HB := Lib.hid hb
    clear hb
    go_enter Try.func41, Try.ntmps41
    go_wp2_with fail
    refine (do_again b _ _ HB.out).mono ?_
    rintro e w2 ⟨rfl, rfl⟩
    go_wp2_with fail
    go_ret
    exact ⟨rfl, HB.out, Only.refl _ _⟩

set_option maxHeartbeats 400000 in
theorem ready_none (w : World) :
    Calls Try.prog 41 #[.pointer none] w fun e w' => e = .returned (.pointer (some ⟨w.heap.size, 0, none⟩)) ∧ Blk w' w.heap.size 61 (fcells 1 0 255) ∧ Below w.heap.size w w' := by
  have hmf : ∀ (fn : Fn) (first cap : Array Value) (w : World), (Instr.makeFunc fn first cap).run Try.prog w = .ok (.func fn first cap) w := fun _ _ _ _ => rfl
  have hz := build_field
  go_enter Try.func41, Try.ntmps41
  go_wp2_with fail
  refine (do_first w.heap.size _ (Blk.new _ _ _)).mono ?_
  rintro e w2 ⟨rfl, hb2, ho2⟩
  have HB2 := Lib.hid hb2
  have HO := Lib.hid (((Below.refl w.heap.size w).alloc (Nat.le_refl _) (.cells (fcells 0 0 0) 61)).trans (ho2.below (B := w.heap.size) (Nat.le_refl _) (by simp)))
  clear hb2 ho2
  go_wp2_with fail
  go_ret
  exact ⟨rfl, HB2.out, HO.out⟩

theorem full_pw {w : World} {b : Nat} (hb : Blk w b 61 (fcells 1 0 255)) (n : Nat) (h : n < 255) : w.cell? ⟨b, 3 + n, none⟩ = some (.int .u8 ((M.pw n : Nat) : Int)) := by
  rw [hb.cell, fcells_pw _ _ _ _ h, if_pos h]
theorem full_lg {w : World} {b : Nat} (hb : Blk w b 61 (fcells 1 0 255)) (v : Nat) (h : v < 256) : w.cell? ⟨b, 258 + v, none⟩ = some (.int .u8 ((M.lg v : Nat) : Int)) := by
  rw [hb.cell, fcells_lg _ _ _ _ h]; rfl

/-- What 'ready' hands over, whatever the receiver. -/
def Ready (rcv : Value) (b : Nat) (w : World) (Post : World → Prop) : Prop :=
  Calls Try.prog 41 #[rcv] w fun e w' => e = .returned (.pointer (some ⟨b, 0, none⟩)) ∧ Blk w' b 61 (fcells 1 0 255) ∧ Post w'

set_option maxHeartbeats 400000 in
theorem mul_via (rcv : Value) (b : Nat) (x y : Nat) (hx : x < 256) (hy : y < 256) (w : World) (Post : World → Prop) (hready : Ready rcv b w Post) :
    Calls Try.prog 38 #[rcv, .int .u8 x, .int .u8 y] w fun e w' => e = .returned (.int .u8 (M.gmul x y : Nat)) ∧ (w = w' ∨ ∃ w2 n, w' = w2.drewN n ∧ Blk w2 b 61 (fcells 1 0 255) ∧ Post w2) := by
  have HREADY := Lib.hid hready
  clear hready
  by_cases h0 : x = 0
  · subst h0
    go_enter Try.func38, Try.ntmps38
    go_wp2_with fail
    go_ret
    exact ⟨by rw [M.gmul_zero_left]; rfl, .inl rfl⟩
  by_cases h1 : y = 0
  · subst h1
    have hxx : ((x : Int) == 0) = false := by simpa using h0
    go_enter Try.func38, Try.ntmps38
    go_wp2_with fail
    go_ret
    exact ⟨by rw [M.gmul_zero_right]; rfl, .inl rfl⟩
  have hxx : ((x : Int) == 0) = false := by simpa using h0
  have hyy : ((y : Int) == 0) = false := by simpa using h1
  go_enter Try.func38, Try.ntmps38
  go_wp2_with fail
  refine HREADY.out.mono ?_
  rintro e w2 ⟨rfl, hb2, ho2⟩
  have HG := Lib.hid (show M.gmul x y = M.pw ((M.lg x + M.lg y) % 255) from if_neg (by omega))
  have HF := Lib.hid hb2
  have HO := Lib.hid ho2
  have c1 := full_lg hb2 x hx
  have c2 := full_lg hb2 y hy
  have p1 := M.lg_lt hx h0
  have p2 := M.lg_lt hy h1
  have c3 := full_pw hb2 ((M.lg x + M.lg y) % 255) (Nat.mod_lt _ (by omega))
  clear hb2 ho2 HREADY
  generalize M.lg x = p at *
  generalize M.lg y = q at *
  generalize hr : (p + q) % 255 = r at *
  have e1 : IntKind.i64.wrap ((p : Int) + (q : Int)) = (p : Int) + (q : Int) := by rw [IntKind.wrap_i64]; omega
  have e2 : ((p : Int) + (q : Int)).tmod 255 = (r : Int) := by rw [Int.tmod_eq_emod_of_nonneg (by omega)]; omega
  have hr1 : r < 255 := by omega
  clear hr
  go_wp2_with fail
  go_quiet (fail)
  go_wp2_with fail
  go_ret
  exact ⟨by rw [HG.out]; rfl, .inr ⟨w2, _, rfl, HF.out, HO.out⟩⟩

set_option maxHeartbeats 400000 in
theorem inv_via (rcv : Value) (b : Nat) (x : Nat) (hx : x < 256) (w : World) (Post : World → Prop) (hready : Ready rcv b w Post) :
    Calls Try.prog 47 #[rcv, .int .u8 x] w fun e w' => e = .returned (.tuple #[.int .u8 (if x = 0 then 0 else M.ginv x : Nat), .int .i64 (if x = 0 then 1 else 0)]) ∧ (w = w' ∨ ∃ w2 n, w' = w2.drewN n ∧ Blk w2 b 61 (fcells 1 0 255) ∧ Post w2) := by
  have HREADY := Lib.hid hready
  clear hready
  by_cases h0 : x = 0
  · subst h0
    go_enter Try.func47, Try.ntmps47
    go_wp2_with fail
    go_ret2
    exact ⟨rfl, .inl rfl⟩
  have hxx : ((x : Int) == 0) = false := by simpa using h0
  rw [if_neg h0, if_neg h0]
  go_enter Try.func47, Try.ntmps47
  go_wp2_with fail
  refine HREADY.out.mono ?_
  rintro e w2 ⟨rfl, hb2, ho2⟩
  have HG := Lib.hid (show M.ginv x = M.pw ((255 - M.lg x) % 255) from rfl)
  have HF := Lib.hid hb2
  have HO := Lib.hid ho2
  have c1 := full_lg hb2 x hx
  have p1 := M.lg_lt hx h0
  have c3 := full_pw hb2 ((255 - M.lg x) % 255) (Nat.mod_lt _ (by omega))
  clear hb2 ho2 HREADY
  generalize M.lg x = p at *
  generalize hr : (255 - p) % 255 = r at *
  have e1 : IntKind.i64.wrap (255 - (p : Int)) = 255 - (p : Int) := by rw [IntKind.wrap_i64]; omega
  have e2 : (255 - (p : Int)).tmod 255 = (r : Int) := by rw [Int.tmod_eq_emod_of_nonneg (by omega)]; omega
  have hr1 : r < 255 := by omega
  clear hr
  go_wp2_with fail
  go_quiet (fail)
  go_wp2_with fail
  go_ret2
  exact ⟨by rw [HG.out]; rfl, .inr ⟨w2, _, rfl, HF.out, HO.out⟩⟩

/-- What 'Pow' answers. -/
def powR (x : Nat) (n : Int) : Nat := if n < 0 then 0 else M.gpow x n.toNat

set_option maxHeartbeats 400000 in
theorem pow_via (rcv : Value) (b : Nat) (x : Nat) (n : Int) (hx : x < 256) (hn : -9223372036854775808 ≤ n ∧ n ≤ 9223372036854775807) (w : World) (Post : World → Prop) (hready : Ready rcv b w Post) :
    Calls Try.prog 39 #[rcv, .int .u8 x, .int .i64 n] w fun e w' => e = .returned (.tuple #[.int .u8 (powR x n : Nat), .int .i64 (if n < 0 then 1 else 0)]) ∧ (w = w' ∨ ∃ w2 n, w' = w2.drewN n ∧ Blk w2 b 61 (fcells 1 0 255) ∧ Post w2) := by
  have HREADY := Lib.hid hready
  clear hready
  obtain ⟨hn1, hn2⟩ := hn
  by_cases hneg : n < 0
  · have HP := Lib.hid (show powR x n = 0 from if_pos hneg)
    rw [HP.out, if_pos hneg]
    go_enter Try.func39, Try.ntmps39
    go_wp2_with fail
    go_ret2
    exact ⟨rfl, .inl rfl⟩
  rw [if_neg hneg]
  by_cases hz : n = 0
  · subst hz
    go_enter Try.func39, Try.ntmps39
    go_wp2_with fail
    go_ret2
    exact ⟨rfl, .inl rfl⟩
  have hnz : (n == 0) = false := by simpa using hz
  have HPG := Lib.hid (show powR x n = M.gpow x n.toNat from if_neg hneg)
  by_cases h0 : x = 0
  · subst h0
    have HP := Lib.hid (show M.gpow 0 n.toNat = 0 by rw [M.gpow, if_neg (by omega), if_pos rfl])
    go_enter Try.func39, Try.ntmps39
    go_wp2_with fail
    go_ret2
    exact ⟨by rw [HPG.out, HP.out]; rfl, .inl rfl⟩
  have hxx : ((x : Int) == 0) = false := by simpa using h0
  have hpos : 0 ≤ n := by omega
  go_enter Try.func39, Try.ntmps39
  go_wp2_with fail
  refine HREADY.out.mono ?_
  rintro e w2 ⟨rfl, hb2, ho2⟩
  have HG := Lib.hid (show M.gpow x n.toNat = M.pw (M.lg x * (n.toNat % 255) % 255) by rw [M.gpow, if_neg (by omega), if_neg h0])
  have HF := Lib.hid hb2
  have HO := Lib.hid ho2
  have c1 := full_lg hb2 x hx
  have p1 := M.lg_lt hx h0
  have c3 := full_pw hb2 (M.lg x * (n.toNat % 255) % 255) (Nat.mod_lt _ (by omega))
  clear hb2 ho2 HREADY
  generalize M.lg x = p at *
  have e0 : n.tmod 255 = ((n.toNat % 255 : Nat) : Int) := by rw [Int.tmod_eq_emod_of_nonneg (by omega)]; omega
  have hm : n.toNat % 255 < 255 := Nat.mod_lt _ (by omega)
  generalize n.toNat % 255 = m at *
  have hpm : p * m ≤ 254 * 254 := Nat.mul_le_mul (by omega) (by omega)
  have e1 : IntKind.i64.wrap ((p : Int) * (m : Int)) = (p : Int) * (m : Int) := by rw [← Int.natCast_mul, IntKind.wrap_i64]; omega
  have hr1 : p * m % 255 < 255 := Nat.mod_lt _ (by omega)
  have e2 : ((p : Int) * (m : Int)).tmod 255 = ((p * m % 255 : Nat) : Int) := by rw [← Int.natCast_mul, Int.tmod_eq_emod_of_nonneg (by omega)]; omega
  generalize p * m % 255 = r at *
  clear hpm
  go_wp2_with fail
  go_quiet (fail)
  go_wp2_with fail
  go_ret2
  exact ⟨by rw [HPG.out, HG.out]; rfl, .inr ⟨w2, _, rfl, HF.out, HO.out⟩⟩

/-! ### at a field, at none -/
theorem some_ready {b : Nat} {w : World} (hb : Fld w b) : Ready (.pointer (some ⟨b, 0, none⟩)) b w (Only b w) := (ready_some b w hb).mono fun _ _ h => h
theorem none_ready (w : World) : Ready (.pointer none) w.heap.size w (Below w.heap.size w) := (ready_none w).mono fun _ _ h => h
theorem via_some {b : Nat} {w w' : World} (hb : Fld w b) (h : w = w' ∨ ∃ w2 n, w' = w2.drewN n ∧ Blk w2 b 61 (fcells 1 0 255) ∧ Only b w w2) : Fld w' b ∧ Only b w w' := by
  rcases h with rfl | ⟨w2, n, rfl, h1, h2⟩
  · exact ⟨hb, Only.refl _ _⟩
  · exact ⟨.inr (h1.drewN n), h2.drewN n⟩
theorem via_none {b : Nat} {w w' : World} (h : w = w' ∨ ∃ w2 n, w' = w2.drewN n ∧ Blk w2 b 61 (fcells 1 0 255) ∧ Below w.heap.size w w2) : Below w.heap.size w w' := by
  rcases h with rfl | ⟨w2, n, rfl, _, h2⟩
  · exact Below.refl _ _
  · exact ⟨h2.os, h2.tape, h2.output, h2.size, h2.block⟩
theorem mul_some {b x y : Nat} (hx : x < 256) (hy : y < 256) {w : World} (hb : Fld w b) :
    Calls Try.prog 38 #[.pointer (some ⟨b, 0, none⟩), .int .u8 x, .int .u8 y] w fun e w' => e = .returned (.int .u8 (M.gmul x y : Nat)) ∧ Fld w' b ∧ Only b w w' :=
  (mul_via _ b x y hx hy w _ (some_ready hb)).mono fun _ _ ⟨he, h⟩ => ⟨he, via_some hb h⟩
theorem mul_none {x y : Nat} (hx : x < 256) (hy : y < 256) (w : World) :
    Calls Try.prog 38 #[.pointer none, .int .u8 x, .int .u8 y] w fun e w' => e = .returned (.int .u8 (M.gmul x y : Nat)) ∧ Below w.heap.size w w' :=
  (mul_via _ _ x y hx hy w _ (none_ready w)).mono fun _ _ ⟨he, h⟩ => ⟨he, via_none h⟩
theorem inv_some {b x : Nat} (hx : x < 256) {w : World} (hb : Fld w b) :
    Calls Try.prog 47 #[.pointer (some ⟨b, 0, none⟩), .int .u8 x] w fun e w' => e = .returned (.tuple #[.int .u8 (if x = 0 then 0 else M.ginv x : Nat), .int .i64 (if x = 0 then 1 else 0)]) ∧ Fld w' b ∧ Only b w w' :=
  (inv_via _ b x hx w _ (some_ready hb)).mono fun _ _ ⟨he, h⟩ => ⟨he, via_some hb h⟩
theorem pow_some {b x : Nat} {n : Int} (hx : x < 256) (hn : -9223372036854775808 ≤ n ∧ n ≤ 9223372036854775807) {w : World} (hb : Fld w b) :
    Calls Try.prog 39 #[.pointer (some ⟨b, 0, none⟩), .int .u8 x, .int .i64 n] w fun e w' => e = .returned (.tuple #[.int .u8 (powR x n : Nat), .int .i64 (if n < 0 then 1 else 0)]) ∧ Fld w' b ∧ Only b w w' :=
  (pow_via _ b x n hx hn w _ (some_ready hb)).mono fun _ _ ⟨he, h⟩ => ⟨he, via_some hb h⟩
/-! ### the same, the answer under a name -/
theorem mul_at {b x y r : Nat} (hr : M.gmul x y = r) (hx : x < 256) (hy : y < 256) {w : World} (hb : Fld w b) :
    Calls Try.prog 38 #[.pointer (some ⟨b, 0, none⟩), .int .u8 x, .int .u8 y] w fun e w' => e = .returned (.int .u8 (r : Nat)) ∧ Fld w' b ∧ Only b w w' := hr ▸ mul_some hx hy hb
theorem inv_at {b x r : Nat} (h0 : x ≠ 0) (hr : M.ginv x = r) (hx : x < 256) {w : World} (hb : Fld w b) :
    Calls Try.prog 47 #[.pointer (some ⟨b, 0, none⟩), .int .u8 x] w fun e w' => e = .returned (.tuple #[.int .u8 (r : Nat), .int .i64 0]) ∧ Fld w' b ∧ Only b w w' := by
  have h := inv_some hx hb
  rw [if_neg h0, if_neg h0, hr] at h
  exact h
theorem inv_zero {b : Nat} {w : World} (hb : Fld w b) :
    Calls Try.prog 47 #[.pointer (some ⟨b, 0, none⟩), .int .u8 0] w fun e w' => e = .returned (.tuple #[.int .u8 0, .int .i64 1]) ∧ Fld w' b ∧ Only b w w' := inv_some (x := 0) (by omega) hb
theorem pow_at {b x r : Nat} {n : Int} (h0 : 0 ≤ n) (hr : M.gpow x n.toNat = r) (hx : x < 256) (hn : n ≤ 9223372036854775807) {w : World} (hb : Fld w b) :
    Calls Try.prog 39 #[.pointer (some ⟨b, 0, none⟩), .int .u8 x, .int .i64 n] w fun e w' => e = .returned (.tuple #[.int .u8 (r : Nat), .int .i64 0]) ∧ Fld w' b ∧ Only b w w' := by
  have h := pow_some (n := n) hx ⟨by omega, hn⟩ hb
  rw [powR, if_neg (by omega), if_neg (by omega), hr] at h
  exact h
theorem pow_neg {b x : Nat} {n : Int} (h0 : n < 0) (hx : x < 256) (hn : -9223372036854775808 ≤ n) {w : World} (hb : Fld w b) :
    Calls Try.prog 39 #[.pointer (some ⟨b, 0, none⟩), .int .u8 x, .int .i64 n] w fun e w' => e = .returned (.tuple #[.int .u8 0, .int .i64 1]) ∧ Fld w' b ∧ Only b w w' := by
  have h := pow_some (n := n) hx ⟨hn, by omega⟩ hb
  rw [powR, if_pos h0, if_pos h0] at h
  exact h
end Go.Proofs.Ytoabhbmhjelplaa
