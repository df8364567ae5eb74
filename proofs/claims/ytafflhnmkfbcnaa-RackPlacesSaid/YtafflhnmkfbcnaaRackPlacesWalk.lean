/-
  The walk of 'RackPlaces': a rack has as many drives and sectors as were asked for, and no others. Conditions: what the reading of the argument gives.
-/
import Derived.Test.YtafflhnmkfbcnaaRackSpoilsWalk
namespace Go.Proofs.Ytafflhnmkfbcnaa
open Go Go.RowKit
set_option linter.unusedVariables false

set_option maxRecDepth 100000 in
theorem new_no (w : World) (D S : Int) (hbad : D < 1 ∨ 16 < D ∨ S < 1 ∨ 2000 < S) :
    Calls Try.prog 17 #[.int .i64 D, .int .i64 S] w fun e w' => e = .returned (.tuple #[.pointer none, .int .i64 1]) ∧ w' = w := by
  rcases (by omega : D < 1 ∨ (1 ≤ D ∧ 16 < D) ∨ (1 ≤ D ∧ D ≤ 16 ∧ S < 1) ∨ (1 ≤ D ∧ D ≤ 16 ∧ 1 ≤ S ∧ 2000 < S)) with h | ⟨h1, h2⟩ | ⟨h1, h2, h3⟩ | ⟨h1, h2, h3, h4⟩
  all_goals
    clear hbad
    go_enter Try.func17, Try.ntmps17
    go_wp2_with fail
    go_ret2
    exact ⟨rfl, rfl⟩
set_option maxRecDepth 100000 in
set_option maxHeartbeats 800000 in
theorem rot_why {B : Nat} (w : World) (r : Nat) (s : RS) (D A : Int) (n : Int) (h : RackAt B w r s) (hn : 0 ≤ n) (hw : s.why D A ≠ 0) :
    Calls Try.prog 27 #[.pointer (some ⟨r, 0, none⟩), .int .i64 D, .int .i64 A, .int .i64 n] w fun e w' => e = .returned (.int .i64 (s.why D A)) ∧ RackAt B w' r s ∧ Keep B w w' := by
  have H1 := Lib.hid (h.alloc (.cells #[.int .i64 D, .int .i64 A] 70))
  have K1 := Lib.hid ((Keep.refl B w).alloc h.le (.cells #[.int .i64 D, .int .i64 A] 70))
  have hz := zero_sector
  clear h
  go_enter Try.func27, Try.ntmps27
  go_wp2_with fail
  refine (reach_any _ r s D A H1.out).mono ?_
  rintro e w2 ⟨rfl, h2, k2, _, _⟩
  have H2 := Lib.hid h2
  have K2 := Lib.hid (K1.out.trans k2)
  clear h2 k2
  generalize hy : s.why D A = y at *
  have HY := Lib.hid hy
  clear hy
  have t1 : (y = 0) = False := by simp [hw]
  go_wp2_with fail
  go_ret
  rw [HY.out]
  exact ⟨rfl, H2.out, K2.out⟩
theorem eqG_bool (op : BinOp) (t : TypeId) (x y : Operand) (i j : Bool) (P : Program) (w : World) : (eqGuard op t x y (.bool i) (.bool j)).run P w = .ok () w := by
  unfold eqGuard
  cases op <;> rfl
theorem exec_un {P : Program} {a : Act} {o : Oper} {op : UnOp} {t : TypeId} {x : Operand} {u v : Value} (w : World) (e : o.op = .unOp op t x) (hx : a.eval x = u) (hf : (Op.unary op u).run P w = .ok v w) : (execOp a.eval o).run P w = .ok (.value v) w := by
  unfold execOp; simp only [e, hx, hf, Sem.run_bind, Sem.run_pure, Result.andThen_ok]
theorem gone_is {B : Nat} (w : World) (r : Nat) (s : RS) (D : Int) (b : Bool) (h : RackAt B w r s) (hb : (s.isD D && s.gone D.toNat) = b) :
    Calls Try.prog 15 #[.pointer (some ⟨r, 0, none⟩), .int .i64 D] w fun e w' => e = .returned (.bool b) ∧ w' = w := by
  subst hb
  exact gone_any w r s D h
theorem write_is {B : Nat} (w : World) (r : Nat) (s : RS) (D A : Int) (y : Int) (v : Option Addr) (c : Nat) (h : RackAt B w r s) (hy : s.why D A = y) (hw : y ≠ 0) :
    Calls Try.prog 22 #[.pointer (some ⟨r, 0, none⟩), .int .i64 D, .int .i64 A, .slice v 128 c] w fun e w' => e = .returned (.int .i64 y) ∧ RackAt B w' r s ∧ Keep B w w' := by
  subst hy
  exact write_why w r s D A v c h hw
theorem rot_is {B : Nat} (w : World) (r : Nat) (s : RS) (D A : Int) (n y : Int) (h : RackAt B w r s) (hn : 0 ≤ n) (hy : s.why D A = y) (hw : y ≠ 0) :
    Calls Try.prog 27 #[.pointer (some ⟨r, 0, none⟩), .int .i64 D, .int .i64 A, .int .i64 n] w fun e w' => e = .returned (.int .i64 y) ∧ RackAt B w' r s ∧ Keep B w w' := by
  subst hy
  exact rot_why w r s D A n h hn hw
namespace rackPlaces
set_option maxRecDepth 100000 in
set_option maxHeartbeats 3200000 in
theorem walk (D S dr at_ : Int) (w : World) (w0 : (Lit.int .i64 D).wf = true) (w1 : (Lit.int .i64 S).wf = true) (w2 : (Lit.int .i64 dr).wf = true) (w3 : (Lit.int .i64 at_).wf = true) :
    Calls Try.prog 9 #[.agg #[.int .i64 D, .int .i64 S, .int .i64 dr, .int .i64 at_]] w fun e w' => e = .returned (.bool true) ∧ Below w.heap.size w w' := by
  obtain ⟨_, _⟩ := bounds_i64 w0
  obtain ⟨_, _⟩ := bounds_i64 w1
  obtain ⟨_, _⟩ := bounds_i64 w2
  obtain ⟨_, _⟩ := bounds_i64 w3
  clear w0 w1 w2 w3
  have L0 : Hid (Below w.heap.size w (w.alloc (.cells #[.int .i64 D, .int .i64 S, .int .i64 dr, .int .i64 at_] 60))) := Lib.hid ((Below.refl _ _).alloc (Nat.le_refl _) _)
  have X0 := Lib.hid (Blk.new w 60 #[.int .i64 D, .int .i64 S, .int .i64 dr, .int .i64 at_])
  go_enter Try.func9, Try.ntmps9
  go_wp2_with fail
  generalize w.alloc (.cells #[.int .i64 D, .int .i64 S, .int .i64 dr, .int .i64 at_] 60) = wa at *
  refine (known_any wa).mono ?_
  rintro e wb ⟨rfl, b1⟩
  have L1 := Lib.hid (L0.out.trans (b1.mono L0.out.size))
  have X1 := Lib.hid (X0.out.new_ b1)
  clear b1 L0 X0
  have c0 : wb.cell? ⟨w.heap.size, 0, none⟩ = some (.int .i64 D) := X1.out.cell 0
  have c1 : wb.cell? ⟨w.heap.size, 1, none⟩ = some (.int .i64 S) := X1.out.cell 1
  by_cases hgood : 1 ≤ D ∧ D ≤ 16 ∧ 1 ≤ S ∧ S ≤ 2000
  rotate_left
  · rcases (by omega : D < 1 ∨ (1 ≤ D ∧ 16 < D) ∨ (1 ≤ D ∧ D ≤ 16 ∧ S < 1) ∨ (1 ≤ D ∧ D ≤ 16 ∧ 1 ≤ S ∧ 2000 < S)) with h | ⟨h1, h2⟩ | ⟨h1, h2, h3⟩ | ⟨h1, h2, h3, h4⟩
    all_goals
      clear hgood
      go_wp2_with fail
      refine (new_no wb D S (by omega)).mono ?_
      rintro e w' ⟨rfl, rfl⟩
      go_wp2_with fail
      go_ret
      exact ⟨rfl, L1.out⟩
  obtain ⟨g1, g2, g3, g4⟩ := hgood
  obtain ⟨nd, rfl⟩ : ∃ nd : Nat, D = (nd : Int) := ⟨D.toNat, by omega⟩
  obtain ⟨ns, rfl⟩ : ∃ ns : Nat, S = (ns : Int) := ⟨S.toNat, by omega⟩
  go_wp2_with fail
  refine (new_any wb nd ns (by omega) (by omega) (by omega) (by omega)).mono ?_
  rintro e wc ⟨⟨r, rfl, h2⟩, k2⟩
  have R2 := Lib.hid h2
  have L2 := Lib.hid (L1.out.trans (k2.below.mono L1.out.size))
  have X2 := Lib.hid (k2.block X1.out rfl)
  have hB : Hid (w.heap.size ≤ wb.heap.size) := L1.out.size
  clear h2 k2 L1 X1 c0 c1
  generalize wb.heap.size = B at *
  have hs2 : Hid ((RS.new nd ns).nd = nd ∧ (RS.new nd ns).ns = ns ∧ (RS.new nd ns).calm ∧ (RS.new nd ns).cost = 0 ∧ ∀ d, (RS.new nd ns).gone d = false) := Lib.hid ⟨rfl, rfl, ⟨rfl, rfl⟩, rfl, fun _ => rfl⟩
  generalize RS.new nd ns = s2 at *
  by_cases hi : 0 ≤ dr ∧ dr < (nd : Int)
  · obtain ⟨d, rfl⟩ : ∃ d : Nat, dr = (d : Int) := ⟨dr.toNat, by omega⟩
    obtain ⟨i1, i2⟩ := hi
    by_cases hin : 0 ≤ at_ ∧ at_ < (ns : Int)
    · obtain ⟨a, rfl⟩ : ∃ a : Nat, at_ = (a : Int) := ⟨at_.toNat, by omega⟩
      obtain ⟨i3, i4⟩ := hin
      have t1 : decide (d < nd) = true := by simp; omega
      have t2 : decide (a < ns) = true := by simp; omega
      have c0 : wc.cell? ⟨w.heap.size, 0, none⟩ = some (.int .i64 (nd : Int)) := X2.out.cell 0
      have c1 : wc.cell? ⟨w.heap.size, 1, none⟩ = some (.int .i64 (ns : Int)) := X2.out.cell 1
      have c2 : wc.cell? ⟨w.heap.size, 2, none⟩ = some (.int .i64 (d : Int)) := X2.out.cell 2
      have c3 : wc.cell? ⟨w.heap.size, 3, none⟩ = some (.int .i64 (a : Int)) := X2.out.cell 3
      go_wp2_with fail
      refine (read_calm _ r s2 _ _ d a R2.out hs2.out.2.2.1 rfl rfl (by rw [hs2.out.1]; omega) (by rw [hs2.out.2.1]; omega) (hs2.out.2.2.2.2 d)).mono ?_
      rintro e w3 ⟨v3, rfl, r3, h3, k3⟩
      have R3 := Lib.hid h3
      have L3 := Lib.hid (L2.out.trans (k3.below.mono hB.out))
      have X3 := Lib.hid (k3.block X2.out rfl)
      clear r3 h3 k3 R2 L2 X2 c0 c1 c2 c3
      go_wp2_with fail
      obtain ⟨RE, LE, XE⟩ : Hid (RackAt B w3.drew r s2) ∧ Hid (Below w.heap.size w w3.drew) ∧ Hid (Blk w3.drew w.heap.size 60 #[.int .i64 (nd : Int), .int .i64 (ns : Int), .int .i64 (d : Int), .int .i64 (a : Int)]) := ⟨Lib.hid (R3.out.drewN 1), Lib.hid (below_drewN L3.out 1), Lib.hid X3.out⟩
      clear R3 L3 X3
      refine region_anyZ (fun w' => Blk w' w.heap.size 60 #[.int .i64 (nd : Int), .int .i64 (ns : Int), .int .i64 (d : Int), .int .i64 (a : Int)]) 65 (by kernel_rfl) ?_
      generalize w3.drew = wd at *
      obtain ⟨R3, L3, X3⟩ : Hid (RackAt B wd r s2) ∧ Hid (Below w.heap.size w wd) ∧ Hid (Blk wd w.heap.size 60 #[.int .i64 (nd : Int), .int .i64 (ns : Int), .int .i64 (d : Int), .int .i64 (a : Int)]) := ⟨RE, LE, XE⟩
      clear RE LE XE
      refine takeG 0 (.move (.tmp 4)) (some 75) none (.int .i64 0) (by kernel_rfl) (by kernel_rfl) (by kernel_rfl) (fun _ _ _ h => h) (fun o wq e hS => exec_move wq e (by kernel_rfl)) X3.out ?_
      refine takeG 1 (.binOp .eql 24 (.tmp 75) (.const (.int .i64 0)) 24) (some 76) none (.bool true) (by kernel_rfl) (by kernel_rfl) (by kernel_rfl) (fun _ _ _ h => h) (fun o wq e hS => exec_bin (u1 := .int .i64 0) (u2 := (.int .i64 0)) wq e (by kernel_rfl) (by kernel_rfl) (eqG_int ..) (by kernel_rfl)) X3.out ?_
      refine takeG 2 (.move (.tmp 76)) (some 77) none (.bool true) (by kernel_rfl) (by kernel_rfl) (by kernel_rfl) (fun _ _ _ h => h) (fun o wq e hS => exec_move wq e (by kernel_rfl)) X3.out ?_
      refine takeG 3 (.move (.tmp 8)) (some 78) (some (2, true)) (.int .i64 0) (by kernel_rfl) (by kernel_rfl) (by kernel_rfl) (fun _ _ _ h => h) (fun o wq e hS => exec_move wq e (by kernel_rfl)) X3.out ?_
      refine takeG 4 (.binOp .eql 24 (.tmp 78) (.const (.int .i64 0)) 24) (some 79) (some (2, true)) (.bool true) (by kernel_rfl) (by kernel_rfl) (by kernel_rfl) (fun _ _ _ h => h) (fun o wq e hS => exec_bin (u1 := .int .i64 0) (u2 := (.int .i64 0)) wq e (by kernel_rfl) (by kernel_rfl) (eqG_int ..) (by kernel_rfl)) X3.out ?_
      refine takeG 5 (.move (.tmp 6)) (some 80) (some (2, true)) (.bool true) (by kernel_rfl) (by kernel_rfl) (by kernel_rfl) (fun _ _ _ h => h) (fun o wq e hS => exec_move wq e (by kernel_rfl)) X3.out ?_
      refine takeG 6 (.binOp .eql 4 (.tmp 79) (.tmp 80) 4) (some 81) (some (2, true)) (.bool true) (by kernel_rfl) (by kernel_rfl) (by kernel_rfl) (fun _ _ _ h => h) (fun o wq e hS => exec_bin (u1 := .bool true) (u2 := .bool true) wq e (by kernel_rfl) (by kernel_rfl) (eqG_bool ..) (by kernel_rfl)) X3.out ?_
      refine takeG 7 (.pick (.tmp 77) (.tmp 81) (.const (Value.bool false))) (some 82) none (.bool true) (by kernel_rfl) (by kernel_rfl) (by kernel_rfl) (fun _ _ _ h => h) (fun o wq e hS => exec_pick (b := true) wq e (by kernel_rfl) (by kernel_rfl)) X3.out ?_
      refine takeG 8 (.move (.tmp 82)) (some 83) none (.bool true) (by kernel_rfl) (by kernel_rfl) (by kernel_rfl) (fun _ _ _ h => h) (fun o wq e hS => exec_move wq e (by kernel_rfl)) X3.out ?_
      refine takeG 9 (.move (.tmp 3)) (some 84) (some (8, true)) (.pointer (some ⟨r, 0, none⟩)) (by kernel_rfl) (by kernel_rfl) (by kernel_rfl) (fun _ _ _ h => h) (fun o wq e hS => exec_move wq e (by kernel_rfl)) X3.out ?_
      refine takeG 10 (.fieldAddr 60 (.tmp 1) 2) (some 85) (some (8, true)) (.pointer (some ⟨w.heap.size, 2, none⟩)) (by kernel_rfl) (by kernel_rfl) (by kernel_rfl) (fun _ _ _ h => h) (fun o wq e hS => exec_field (u := .pointer (some ⟨w.heap.size, 0, none⟩)) wq e (by kernel_rfl) (by kernel_rfl)) X3.out ?_
      refine takeG 11 (.load 3 (.tmp 85)) (some 86) (some (8, true)) (.int .i64 (d : Int)) (by kernel_rfl) (by kernel_rfl) (by kernel_rfl) (fun _ _ _ h => h) (fun o wq e hS => exec_load (x := (.tmp 85)) e (by kernel_rfl) (load_one Try.underlying3 rfl (hS.cell 2))) X3.out ?_
      refine takeG 12 (.fieldAddr 60 (.tmp 1) 3) (some 87) (some (8, true)) (.pointer (some ⟨w.heap.size, 3, none⟩)) (by kernel_rfl) (by kernel_rfl) (by kernel_rfl) (fun _ _ _ h => h) (fun o wq e hS => exec_field (u := .pointer (some ⟨w.heap.size, 0, none⟩)) wq e (by kernel_rfl) (by kernel_rfl)) X3.out ?_
      refine takeG 13 (.load 3 (.tmp 87)) (some 88) (some (8, true)) (.int .i64 (a : Int)) (by kernel_rfl) (by kernel_rfl) (by kernel_rfl) (fun _ _ _ h => h) (fun o wq e hS => exec_load (x := (.tmp 87)) e (by kernel_rfl) (load_one Try.underlying3 rfl (hS.cell 3))) X3.out ?_
      refine takeG 17 (.move (.tmp 6)) (some 92) (some (8, true)) (.bool true) (by kernel_rfl) (by kernel_rfl) (by kernel_rfl) (fun _ _ _ h => h) (fun o wq e hS => exec_move wq e (by kernel_rfl)) X3.out ?_
      refine loneG 14 (.call ⟨.value (.func 23), #[(.const (.int .i64 1)), (.const (.int .i64 0))], #[3, 3]⟩) (some 89) (some (8, true)) (by kernel_rfl) (by kernel_rfl) (by kernel_rfl) ?_
      intro o ho hod
      refine wp_callC (f := 23) (args := #[.int .i64 1, .int .i64 0]) (by cases o; cases ho; kernel_rfl) (bytes_calm 1 _ (by omega)) ?_
      rintro e w4 ⟨v4, rfl, r4, b4⟩
      refine ⟨v4, rfl, ?_⟩
      rw [hod]
      clear hod ho
      have R4 := Lib.hid (R3.out.below b4)
      have V4 := Lib.hid r4
      have L4 := Lib.hid (L3.out.trans (b4.mono L3.out.size))
      have X4 := Lib.hid (X3.out.new_ b4)
      clear b4 R3 L3 X3 r4
      refine ⟨fun _ => X4.out, ?_⟩
      refine loneG 15 (.call ⟨.value (.func 22), #[(.tmp 84), (.tmp 86), (.tmp 88), (.tmp 89)], #[25, 3, 3, 44]⟩) (some 90) (some (8, true)) (by kernel_rfl) (by kernel_rfl) (by kernel_rfl) ?_
      intro o ho hod
      refine wp_callC (f := 22) (args := #[.pointer (some ⟨r, 0, none⟩), .int .i64 (d : Int), .int .i64 (a : Int), v4]) (by cases o; cases ho; kernel_rfl) (write_calm _ r s2 _ _ d a v4 _ R4.out hs2.out.2.2.1 rfl rfl (by rw [hs2.out.1]; omega) (by rw [hs2.out.2.1]; omega) (hs2.out.2.2.2.2 d) V4.out (fun j _ => bv_lt 128 _ j) (by rw [hs2.out.2.2.2.1]; omega)) ?_
      rintro e w5 ⟨rfl, h5, k5⟩
      refine ⟨.int .i64 0, rfl, ?_⟩
      rw [hod]
      clear hod ho
      have hs5 : Hid ((s2.wrote d a (bv 128 1)).nd = nd ∧ (s2.wrote d a (bv 128 1)).ns = ns ∧ (s2.wrote d a (bv 128 1)).cost = 1 ∧ ∀ d', (s2.wrote d a (bv 128 1)).gone d' = false) := Lib.hid ⟨hs2.out.1, hs2.out.2.1, by show s2.cost + 1 = 1; rw [hs2.out.2.2.2.1], hs2.out.2.2.2.2⟩
      generalize s2.wrote d a (bv 128 1) = s5 at *
      have R5 := Lib.hid h5
      have L5 := Lib.hid (L4.out.trans (k5.below.mono hB.out))
      have X5 := Lib.hid (k5.block X4.out rfl)
      clear h5 k5 R4 L4 X4 V4
      refine ⟨fun _ => X5.out, ?_⟩
      refine takeG 16 (.binOp .eql 24 (.tmp 90) (.const (.int .i64 0)) 24) (some 91) (some (8, true)) (.bool true) (by kernel_rfl) (by kernel_rfl) (by kernel_rfl) (fun _ _ _ h => h) (fun o wq e hS => exec_bin (u1 := .int .i64 0) (u2 := (.int .i64 0)) wq e (by kernel_rfl) (by kernel_rfl) (eqG_int ..) (by kernel_rfl)) X5.out ?_
      refine takeG 18 (.binOp .eql 4 (.tmp 91) (.tmp 92) 4) (some 93) (some (8, true)) (.bool true) (by kernel_rfl) (by kernel_rfl) (by kernel_rfl) (fun _ _ _ h => h) (fun o wq e hS => exec_bin (u1 := .bool true) (u2 := .bool true) wq e (by kernel_rfl) (by kernel_rfl) (eqG_bool ..) (by kernel_rfl)) X5.out ?_
      refine takeG 19 (.pick (.tmp 83) (.tmp 93) (.const (Value.bool false))) (some 94) none (.bool true) (by kernel_rfl) (by kernel_rfl) (by kernel_rfl) (fun _ _ _ h => h) (fun o wq e hS => exec_pick (b := true) wq e (by kernel_rfl) (by kernel_rfl)) X5.out ?_
      refine takeG 20 (.move (.tmp 94)) (some 95) none (.bool true) (by kernel_rfl) (by kernel_rfl) (by kernel_rfl) (fun _ _ _ h => h) (fun o wq e hS => exec_move wq e (by kernel_rfl)) X5.out ?_
      refine takeG 21 (.move (.tmp 3)) (some 96) (some (20, true)) (.pointer (some ⟨r, 0, none⟩)) (by kernel_rfl) (by kernel_rfl) (by kernel_rfl) (fun _ _ _ h => h) (fun o wq e hS => exec_move wq e (by kernel_rfl)) X5.out ?_
      refine takeG 22 (.fieldAddr 60 (.tmp 1) 2) (some 97) (some (20, true)) (.pointer (some ⟨w.heap.size, 2, none⟩)) (by kernel_rfl) (by kernel_rfl) (by kernel_rfl) (fun _ _ _ h => h) (fun o wq e hS => exec_field (u := .pointer (some ⟨w.heap.size, 0, none⟩)) wq e (by kernel_rfl) (by kernel_rfl)) X5.out ?_
      refine takeG 23 (.load 3 (.tmp 97)) (some 98) (some (20, true)) (.int .i64 (d : Int)) (by kernel_rfl) (by kernel_rfl) (by kernel_rfl) (fun _ _ _ h => h) (fun o wq e hS => exec_load (x := (.tmp 97)) e (by kernel_rfl) (load_one Try.underlying3 rfl (hS.cell 2))) X5.out ?_
      refine takeG 24 (.fieldAddr 60 (.tmp 1) 3) (some 99) (some (20, true)) (.pointer (some ⟨w.heap.size, 3, none⟩)) (by kernel_rfl) (by kernel_rfl) (by kernel_rfl) (fun _ _ _ h => h) (fun o wq e hS => exec_field (u := .pointer (some ⟨w.heap.size, 0, none⟩)) wq e (by kernel_rfl) (by kernel_rfl)) X5.out ?_
      refine takeG 25 (.load 3 (.tmp 99)) (some 100) (some (20, true)) (.int .i64 (a : Int)) (by kernel_rfl) (by kernel_rfl) (by kernel_rfl) (fun _ _ _ h => h) (fun o wq e hS => exec_load (x := (.tmp 99)) e (by kernel_rfl) (load_one Try.underlying3 rfl (hS.cell 3))) X5.out ?_
      refine takeG 28 (.move (.tmp 6)) (some 103) (some (20, true)) (.bool true) (by kernel_rfl) (by kernel_rfl) (by kernel_rfl) (fun _ _ _ h => h) (fun o wq e hS => exec_move wq e (by kernel_rfl)) X5.out ?_
      refine loneG 26 (.call ⟨.value (.func 27), #[(.tmp 96), (.tmp 98), (.tmp 100), (.const (.int .i64 0))], #[25, 3, 3, 3]⟩) (some 101) (some (20, true)) (by kernel_rfl) (by kernel_rfl) (by kernel_rfl) ?_
      intro o ho hod
      refine wp_callC (f := 27) (args := #[.pointer (some ⟨r, 0, none⟩), .int .i64 (d : Int), .int .i64 (a : Int), .int .i64 0]) (by cases o; cases ho; kernel_rfl) (rot_ok _ r s5 d a 0 R5.out (by rw [hs5.out.1]; omega) (by rw [hs5.out.2.1]; omega) (hs5.out.2.2.2 d) (by omega) (by rw [hs5.out.2.2.1]; omega)) ?_
      rintro e w6 ⟨rfl, h6, k6⟩
      refine ⟨.int .i64 0, rfl, ?_⟩
      rw [hod]
      clear hod ho
      obtain ⟨e1, e2, e3, e4, e5, e6, e7⟩ := rotted_same s5 d a 0
      have hs6 : Hid ((s5.rotted d a 0).nd = nd ∧ ∀ d', (s5.rotted d a 0).gone d' = false) := Lib.hid ⟨by rw [e1]; exact hs5.out.1, fun d' => by rw [e3]; exact hs5.out.2.2.2 d'⟩
      clear e1 e2 e3 e4 e5 e6 e7
      generalize s5.rotted d a 0 = s6 at *
      have R6 := Lib.hid h6
      have L6 := Lib.hid (L5.out.trans (k6.below.mono hB.out))
      have X6 := Lib.hid (k6.block X5.out rfl)
      clear h6 k6 R5 L5 X5
      refine ⟨fun _ => X6.out, ?_⟩
      refine takeG 27 (.binOp .eql 24 (.tmp 101) (.const (.int .i64 0)) 24) (some 102) (some (20, true)) (.bool true) (by kernel_rfl) (by kernel_rfl) (by kernel_rfl) (fun _ _ _ h => h) (fun o wq e hS => exec_bin (u1 := .int .i64 0) (u2 := (.int .i64 0)) wq e (by kernel_rfl) (by kernel_rfl) (eqG_int ..) (by kernel_rfl)) X6.out ?_
      refine takeG 29 (.binOp .eql 4 (.tmp 102) (.tmp 103) 4) (some 104) (some (20, true)) (.bool true) (by kernel_rfl) (by kernel_rfl) (by kernel_rfl) (fun _ _ _ h => h) (fun o wq e hS => exec_bin (u1 := .bool true) (u2 := .bool true) wq e (by kernel_rfl) (by kernel_rfl) (eqG_bool ..) (by kernel_rfl)) X6.out ?_
      refine takeG 30 (.pick (.tmp 95) (.tmp 104) (.const (Value.bool false))) (some 105) none (.bool true) (by kernel_rfl) (by kernel_rfl) (by kernel_rfl) (fun _ _ _ h => h) (fun o wq e hS => exec_pick (b := true) wq e (by kernel_rfl) (by kernel_rfl)) X6.out ?_
      refine takeG 31 (.move (.tmp 105)) (some 106) none (.bool true) (by kernel_rfl) (by kernel_rfl) (by kernel_rfl) (fun _ _ _ h => h) (fun o wq e hS => exec_move wq e (by kernel_rfl)) X6.out ?_
      refine takeG 32 (.move (.tmp 3)) (some 107) (some (31, true)) (.pointer (some ⟨r, 0, none⟩)) (by kernel_rfl) (by kernel_rfl) (by kernel_rfl) (fun _ _ _ h => h) (fun o wq e hS => exec_move wq e (by kernel_rfl)) X6.out ?_
      refine takeG 33 (.fieldAddr 60 (.tmp 1) 2) (some 108) (some (31, true)) (.pointer (some ⟨w.heap.size, 2, none⟩)) (by kernel_rfl) (by kernel_rfl) (by kernel_rfl) (fun _ _ _ h => h) (fun o wq e hS => exec_field (u := .pointer (some ⟨w.heap.size, 0, none⟩)) wq e (by kernel_rfl) (by kernel_rfl)) X6.out ?_
      refine takeG 34 (.load 3 (.tmp 108)) (some 109) (some (31, true)) (.int .i64 (d : Int)) (by kernel_rfl) (by kernel_rfl) (by kernel_rfl) (fun _ _ _ h => h) (fun o wq e hS => exec_load (x := (.tmp 108)) e (by kernel_rfl) (load_one Try.underlying3 rfl (hS.cell 2))) X6.out ?_
      refine takeG 37 (.move (.tmp 5)) (some 112) (some (31, true)) (.bool true) (by kernel_rfl) (by kernel_rfl) (by kernel_rfl) (fun _ _ _ h => h) (fun o wq e hS => exec_move wq e (by kernel_rfl)) X6.out ?_
      refine loneG 35 (.call ⟨.value (.func 14), #[(.tmp 107), (.tmp 109)], #[25, 3]⟩) (some 110) (some (31, true)) (by kernel_rfl) (by kernel_rfl) (by kernel_rfl) ?_
      intro o ho hod
      refine wp_callC (f := 14) (args := #[.pointer (some ⟨r, 0, none⟩), .int .i64 (d : Int)]) (by cases o; cases ho; kernel_rfl) (lose_ok _ r s6 d R6.out (by rw [hs6.out.1]; omega)) ?_
      rintro e w7 ⟨rfl, h7, k7⟩
      refine ⟨.int .i64 0, rfl, ?_⟩
      rw [hod]
      clear hod ho
      have R7 := Lib.hid h7
      have L7 := Lib.hid (L6.out.trans (k7.below.mono hB.out))
      have X7 := Lib.hid (k7.block X6.out rfl)
      clear h7 k7 R6 L6 X6
      refine ⟨fun _ => X7.out, ?_⟩
      refine takeG 36 (.binOp .eql 24 (.tmp 110) (.const (.int .i64 0)) 24) (some 111) (some (31, true)) (.bool true) (by kernel_rfl) (by kernel_rfl) (by kernel_rfl) (fun _ _ _ h => h) (fun o wq e hS => exec_bin (u1 := .int .i64 0) (u2 := (.int .i64 0)) wq e (by kernel_rfl) (by kernel_rfl) (eqG_int ..) (by kernel_rfl)) X7.out ?_
      refine takeG 38 (.binOp .eql 4 (.tmp 111) (.tmp 112) 4) (some 113) (some (31, true)) (.bool true) (by kernel_rfl) (by kernel_rfl) (by kernel_rfl) (fun _ _ _ h => h) (fun o wq e hS => exec_bin (u1 := .bool true) (u2 := .bool true) wq e (by kernel_rfl) (by kernel_rfl) (eqG_bool ..) (by kernel_rfl)) X7.out ?_
      refine takeG 39 (.pick (.tmp 106) (.tmp 113) (.const (Value.bool false))) (some 114) none (.bool true) (by kernel_rfl) (by kernel_rfl) (by kernel_rfl) (fun _ _ _ h => h) (fun o wq e hS => exec_pick (b := true) wq e (by kernel_rfl) (by kernel_rfl)) X7.out ?_
      refine takeG 40 (.move (.tmp 114)) (some 115) none (.bool true) (by kernel_rfl) (by kernel_rfl) (by kernel_rfl) (fun _ _ _ h => h) (fun o wq e hS => exec_move wq e (by kernel_rfl)) X7.out ?_
      refine takeG 41 (.move (.tmp 3)) (some 116) (some (40, true)) (.pointer (some ⟨r, 0, none⟩)) (by kernel_rfl) (by kernel_rfl) (by kernel_rfl) (fun _ _ _ h => h) (fun o wq e hS => exec_move wq e (by kernel_rfl)) X7.out ?_
      refine takeG 42 (.fieldAddr 60 (.tmp 1) 2) (some 117) (some (40, true)) (.pointer (some ⟨w.heap.size, 2, none⟩)) (by kernel_rfl) (by kernel_rfl) (by kernel_rfl) (fun _ _ _ h => h) (fun o wq e hS => exec_field (u := .pointer (some ⟨w.heap.size, 0, none⟩)) wq e (by kernel_rfl) (by kernel_rfl)) X7.out ?_
      refine takeG 43 (.load 3 (.tmp 117)) (some 118) (some (40, true)) (.int .i64 (d : Int)) (by kernel_rfl) (by kernel_rfl) (by kernel_rfl) (fun _ _ _ h => h) (fun o wq e hS => exec_load (x := (.tmp 117)) e (by kernel_rfl) (load_one Try.underlying3 rfl (hS.cell 2))) X7.out ?_
      refine takeG 45 (.move (.tmp 5)) (some 120) (some (40, true)) (.bool true) (by kernel_rfl) (by kernel_rfl) (by kernel_rfl) (fun _ _ _ h => h) (fun o wq e hS => exec_move wq e (by kernel_rfl)) X7.out ?_
      refine loneG 44 (.call ⟨.value (.func 15), #[(.tmp 116), (.tmp 118)], #[25, 3]⟩) (some 119) (some (40, true)) (by kernel_rfl) (by kernel_rfl) (by kernel_rfl) ?_
      intro o ho hod
      refine wp_callC (f := 15) (args := #[.pointer (some ⟨r, 0, none⟩), .int .i64 (d : Int)]) (by cases o; cases ho; kernel_rfl) (gone_is _ r _ (d : Int) true R7.out (by
        rw [isD_nat, Int.toNat_natCast]
        have h1 : d < (s6.lost d).nd := by show d < s6.nd; rw [hs6.out.1]; omega
        have h2 : (s6.lost d).gone d = true := if_pos rfl
        rw [h2]
        simp [h1])) ?_
      rintro e w' ⟨rfl, rfl⟩
      refine ⟨.bool true, rfl, ?_⟩
      rw [hod]
      clear hod ho
      skip
      refine ⟨fun _ => X7.out, ?_⟩
      refine takeG 46 (.binOp .eql 4 (.tmp 119) (.tmp 120) 4) (some 121) (some (40, true)) (.bool true) (by kernel_rfl) (by kernel_rfl) (by kernel_rfl) (fun _ _ _ h => h) (fun o wq e hS => exec_bin (u1 := .bool true) (u2 := .bool true) wq e (by kernel_rfl) (by kernel_rfl) (eqG_bool ..) (by kernel_rfl)) X7.out ?_
      refine takeG 47 (.pick (.tmp 115) (.tmp 121) (.const (Value.bool false))) (some 122) none (.bool true) (by kernel_rfl) (by kernel_rfl) (by kernel_rfl) (fun _ _ _ h => h) (fun o wq e hS => exec_pick (b := true) wq e (by kernel_rfl) (by kernel_rfl)) X7.out ?_
      refine takeG 48 (.move (.tmp 122)) (some 123) none (.bool true) (by kernel_rfl) (by kernel_rfl) (by kernel_rfl) (fun _ _ _ h => h) (fun o wq e hS => exec_move wq e (by kernel_rfl)) X7.out ?_
      refine takeG 49 (.move (.tmp 3)) (some 124) (some (48, true)) (.pointer (some ⟨r, 0, none⟩)) (by kernel_rfl) (by kernel_rfl) (by kernel_rfl) (fun _ _ _ h => h) (fun o wq e hS => exec_move wq e (by kernel_rfl)) X7.out ?_
      refine takeG 50 (.fieldAddr 60 (.tmp 1) 2) (some 125) (some (48, true)) (.pointer (some ⟨w.heap.size, 2, none⟩)) (by kernel_rfl) (by kernel_rfl) (by kernel_rfl) (fun _ _ _ h => h) (fun o wq e hS => exec_field (u := .pointer (some ⟨w.heap.size, 0, none⟩)) wq e (by kernel_rfl) (by kernel_rfl)) X7.out ?_
      refine takeG 51 (.load 3 (.tmp 125)) (some 126) (some (48, true)) (.int .i64 (d : Int)) (by kernel_rfl) (by kernel_rfl) (by kernel_rfl) (fun _ _ _ h => h) (fun o wq e hS => exec_load (x := (.tmp 125)) e (by kernel_rfl) (load_one Try.underlying3 rfl (hS.cell 2))) X7.out ?_
      refine takeG 54 (.move (.tmp 5)) (some 129) (some (48, true)) (.bool true) (by kernel_rfl) (by kernel_rfl) (by kernel_rfl) (fun _ _ _ h => h) (fun o wq e hS => exec_move wq e (by kernel_rfl)) X7.out ?_
      refine loneG 52 (.call ⟨.value (.func 25), #[(.tmp 124), (.tmp 126)], #[25, 3]⟩) (some 127) (some (48, true)) (by kernel_rfl) (by kernel_rfl) (by kernel_rfl) ?_
      intro o ho hod
      refine wp_callC (f := 25) (args := #[.pointer (some ⟨r, 0, none⟩), .int .i64 (d : Int)]) (by cases o; cases ho; kernel_rfl) (replace_ok _ r _ d R7.out (by show d < s6.nd; rw [hs6.out.1]; omega)) ?_
      rintro e w8 ⟨rfl, h8, k8⟩
      refine ⟨.int .i64 0, rfl, ?_⟩
      rw [hod]
      clear hod ho
      have R8 := Lib.hid h8
      have L8 := Lib.hid (L7.out.trans (k8.below.mono hB.out))
      have X8 := Lib.hid (k8.block X7.out rfl)
      clear h8 k8 R7 L7 X7
      refine ⟨fun _ => X8.out, ?_⟩
      refine takeG 53 (.binOp .eql 24 (.tmp 127) (.const (.int .i64 0)) 24) (some 128) (some (48, true)) (.bool true) (by kernel_rfl) (by kernel_rfl) (by kernel_rfl) (fun _ _ _ h => h) (fun o wq e hS => exec_bin (u1 := .int .i64 0) (u2 := (.int .i64 0)) wq e (by kernel_rfl) (by kernel_rfl) (eqG_int ..) (by kernel_rfl)) X8.out ?_
      refine takeG 55 (.binOp .eql 4 (.tmp 128) (.tmp 129) 4) (some 130) (some (48, true)) (.bool true) (by kernel_rfl) (by kernel_rfl) (by kernel_rfl) (fun _ _ _ h => h) (fun o wq e hS => exec_bin (u1 := .bool true) (u2 := .bool true) wq e (by kernel_rfl) (by kernel_rfl) (eqG_bool ..) (by kernel_rfl)) X8.out ?_
      refine takeG 56 (.pick (.tmp 123) (.tmp 130) (.const (Value.bool false))) (some 131) none (.bool true) (by kernel_rfl) (by kernel_rfl) (by kernel_rfl) (fun _ _ _ h => h) (fun o wq e hS => exec_pick (b := true) wq e (by kernel_rfl) (by kernel_rfl)) X8.out ?_
      refine takeG 57 (.move (.tmp 131)) (some 132) none (.bool true) (by kernel_rfl) (by kernel_rfl) (by kernel_rfl) (fun _ _ _ h => h) (fun o wq e hS => exec_move wq e (by kernel_rfl)) X8.out ?_
      refine takeG 58 (.move (.tmp 3)) (some 133) (some (57, true)) (.pointer (some ⟨r, 0, none⟩)) (by kernel_rfl) (by kernel_rfl) (by kernel_rfl) (fun _ _ _ h => h) (fun o wq e hS => exec_move wq e (by kernel_rfl)) X8.out ?_
      refine takeG 59 (.fieldAddr 60 (.tmp 1) 2) (some 134) (some (57, true)) (.pointer (some ⟨w.heap.size, 2, none⟩)) (by kernel_rfl) (by kernel_rfl) (by kernel_rfl) (fun _ _ _ h => h) (fun o wq e hS => exec_field (u := .pointer (some ⟨w.heap.size, 0, none⟩)) wq e (by kernel_rfl) (by kernel_rfl)) X8.out ?_
      refine takeG 60 (.load 3 (.tmp 134)) (some 135) (some (57, true)) (.int .i64 (d : Int)) (by kernel_rfl) (by kernel_rfl) (by kernel_rfl) (fun _ _ _ h => h) (fun o wq e hS => exec_load (x := (.tmp 134)) e (by kernel_rfl) (load_one Try.underlying3 rfl (hS.cell 2))) X8.out ?_
      refine loneG 61 (.call ⟨.value (.func 15), #[(.tmp 133), (.tmp 135)], #[25, 3]⟩) (some 136) (some (57, true)) (by kernel_rfl) (by kernel_rfl) (by kernel_rfl) ?_
      intro o ho hod
      refine wp_callC (f := 15) (args := #[.pointer (some ⟨r, 0, none⟩), .int .i64 (d : Int)]) (by cases o; cases ho; kernel_rfl) (gone_is _ r _ (d : Int) false R8.out (by
        rw [Int.toNat_natCast]
        have h2 : ((s6.lost d).anew d).gone d = false := if_pos rfl
        rw [h2, Bool.and_false])) ?_
      rintro e w' ⟨rfl, rfl⟩
      refine ⟨.bool false, rfl, ?_⟩
      rw [hod]
      clear hod ho
      skip
      refine ⟨fun _ => X8.out, ?_⟩
      refine takeG 62 (.unOp .not 4 (.tmp 136)) (some 137) (some (57, true)) (.bool true) (by kernel_rfl) (by kernel_rfl) (by kernel_rfl) (fun _ _ _ h => h) (fun o wq e hS => exec_un (u := .bool false) wq e (by kernel_rfl) (by kernel_rfl)) X8.out ?_
      refine takeG 63 (.pick (.tmp 132) (.tmp 137) (.const (Value.bool false))) (some 138) none (.bool true) (by kernel_rfl) (by kernel_rfl) (by kernel_rfl) (fun _ _ _ h => h) (fun o wq e hS => exec_pick (b := true) wq e (by kernel_rfl) (by kernel_rfl)) X8.out ?_
      refine lastS 64 (.assign (.tmp 138)) (some 2) (.bool true) (by kernel_rfl) (by kernel_rfl) (by kernel_rfl) X8.out (fun o e => exec_assign _ e (by kernel_rfl)) ?_
      simp only [put_some, put_none, List.setIfInBounds_toArray, List.set_cons_succ, List.set_cons_zero]
      go_wp2_with fail
      go_ret
      exact ⟨rfl, L8.out⟩
    · have t1 : decide (d < nd) = true := by simp; omega
      rcases (by omega : at_ < 0 ∨ (0 ≤ at_ ∧ (ns : Int) ≤ at_)) with h | ⟨h, h'⟩
      all_goals
        clear hin
        have c0 : wc.cell? ⟨w.heap.size, 0, none⟩ = some (.int .i64 (nd : Int)) := X2.out.cell 0
        have c1 : wc.cell? ⟨w.heap.size, 1, none⟩ = some (.int .i64 (ns : Int)) := X2.out.cell 1
        have c2 : wc.cell? ⟨w.heap.size, 2, none⟩ = some (.int .i64 (d : Int)) := X2.out.cell 2
        have c3 : wc.cell? ⟨w.heap.size, 3, none⟩ = some (.int .i64 at_) := X2.out.cell 3
        have hwhy : s2.why (d : Int) at_ = 1 := by
          have e : s2.isP (d : Int) at_ = false := by
            unfold RS.isP RS.isD
            rw [hs2.out.1, hs2.out.2.1]
            simp
            omega
          unfold RS.why
          rw [e]
          rfl
        have hdeny : s2.deny (d : Int) at_ = 1 := by
          unfold RS.deny
          rw [hwhy]
          rfl
        have HW := Lib.hid hwhy
        have HD := Lib.hid hdeny
        clear hwhy hdeny
        go_wp2_with fail
        refine (read_no _ r s2 (d : Int) at_ R2.out (by rw [HD.out]; omega)).mono ?_
        rintro e w3 ⟨rfl, h3, k3⟩
        rw [HD.out]
        have R3 := Lib.hid h3
        have L3 := Lib.hid (L2.out.trans (k3.below.mono hB.out))
        have X3 := Lib.hid (k3.block X2.out rfl)
        clear h3 k3 R2 L2 X2 c0 c1 c2 c3
        go_wp2_with fail
        try rw [show decide (at_ < (ns : Int)) = false from by simp; omega]
        obtain ⟨RE, LE, XE⟩ : Hid (RackAt B w3.drew r s2) ∧ Hid (Below w.heap.size w w3.drew) ∧ Hid (Blk w3.drew w.heap.size 60 #[.int .i64 (nd : Int), .int .i64 (ns : Int), .int .i64 (d : Int), .int .i64 at_]) := ⟨Lib.hid (R3.out.drewN 1), Lib.hid (below_drewN L3.out 1), Lib.hid X3.out⟩
        clear R3 L3 X3
        refine region_anyZ (fun w' => Blk w' w.heap.size 60 #[.int .i64 (nd : Int), .int .i64 (ns : Int), .int .i64 (d : Int), .int .i64 at_]) 65 (by kernel_rfl) ?_
        generalize w3.drew = wd at *
        obtain ⟨R3, L3, X3⟩ : Hid (RackAt B wd r s2) ∧ Hid (Below w.heap.size w wd) ∧ Hid (Blk wd w.heap.size 60 #[.int .i64 (nd : Int), .int .i64 (ns : Int), .int .i64 (d : Int), .int .i64 at_]) := ⟨RE, LE, XE⟩
        clear RE LE XE
        refine takeG 0 (.move (.tmp 4)) (some 75) none (.int .i64 0) (by kernel_rfl) (by kernel_rfl) (by kernel_rfl) (fun _ _ _ h => h) (fun o wq e hS => exec_move wq e (by kernel_rfl)) X3.out ?_
        refine takeG 1 (.binOp .eql 24 (.tmp 75) (.const (.int .i64 0)) 24) (some 76) none (.bool true) (by kernel_rfl) (by kernel_rfl) (by kernel_rfl) (fun _ _ _ h => h) (fun o wq e hS => exec_bin (u1 := .int .i64 0) (u2 := (.int .i64 0)) wq e (by kernel_rfl) (by kernel_rfl) (eqG_int ..) (by kernel_rfl)) X3.out ?_
        refine takeG 2 (.move (.tmp 76)) (some 77) none (.bool true) (by kernel_rfl) (by kernel_rfl) (by kernel_rfl) (fun _ _ _ h => h) (fun o wq e hS => exec_move wq e (by kernel_rfl)) X3.out ?_
        refine takeG 3 (.move (.tmp 8)) (some 78) (some (2, true)) (.int .i64 1) (by kernel_rfl) (by kernel_rfl) (by kernel_rfl) (fun _ _ _ h => h) (fun o wq e hS => exec_move wq e (by kernel_rfl)) X3.out ?_
        refine takeG 4 (.binOp .eql 24 (.tmp 78) (.const (.int .i64 0)) 24) (some 79) (some (2, true)) (.bool false) (by kernel_rfl) (by kernel_rfl) (by kernel_rfl) (fun _ _ _ h => h) (fun o wq e hS => exec_bin (u1 := .int .i64 1) (u2 := (.int .i64 0)) wq e (by kernel_rfl) (by kernel_rfl) (eqG_int ..) (by kernel_rfl)) X3.out ?_
        refine takeG 5 (.move (.tmp 6)) (some 80) (some (2, true)) (.bool false) (by kernel_rfl) (by kernel_rfl) (by kernel_rfl) (fun _ _ _ h => h) (fun o wq e hS => exec_move wq e (by kernel_rfl)) X3.out ?_
        refine takeG 6 (.binOp .eql 4 (.tmp 79) (.tmp 80) 4) (some 81) (some (2, true)) (.bool true) (by kernel_rfl) (by kernel_rfl) (by kernel_rfl) (fun _ _ _ h => h) (fun o wq e hS => exec_bin (u1 := .bool false) (u2 := .bool false) wq e (by kernel_rfl) (by kernel_rfl) (eqG_bool ..) (by kernel_rfl)) X3.out ?_
        refine takeG 7 (.pick (.tmp 77) (.tmp 81) (.const (Value.bool false))) (some 82) none (.bool true) (by kernel_rfl) (by kernel_rfl) (by kernel_rfl) (fun _ _ _ h => h) (fun o wq e hS => exec_pick (b := true) wq e (by kernel_rfl) (by kernel_rfl)) X3.out ?_
        refine takeG 8 (.move (.tmp 82)) (some 83) none (.bool true) (by kernel_rfl) (by kernel_rfl) (by kernel_rfl) (fun _ _ _ h => h) (fun o wq e hS => exec_move wq e (by kernel_rfl)) X3.out ?_
        refine takeG 9 (.move (.tmp 3)) (some 84) (some (8, true)) (.pointer (some ⟨r, 0, none⟩)) (by kernel_rfl) (by kernel_rfl) (by kernel_rfl) (fun _ _ _ h => h) (fun o wq e hS => exec_move wq e (by kernel_rfl)) X3.out ?_
        refine takeG 10 (.fieldAddr 60 (.tmp 1) 2) (some 85) (some (8, true)) (.pointer (some ⟨w.heap.size, 2, none⟩)) (by kernel_rfl) (by kernel_rfl) (by kernel_rfl) (fun _ _ _ h => h) (fun o wq e hS => exec_field (u := .pointer (some ⟨w.heap.size, 0, none⟩)) wq e (by kernel_rfl) (by kernel_rfl)) X3.out ?_
        refine takeG 11 (.load 3 (.tmp 85)) (some 86) (some (8, true)) (.int .i64 (d : Int)) (by kernel_rfl) (by kernel_rfl) (by kernel_rfl) (fun _ _ _ h => h) (fun o wq e hS => exec_load (x := (.tmp 85)) e (by kernel_rfl) (load_one Try.underlying3 rfl (hS.cell 2))) X3.out ?_
        refine takeG 12 (.fieldAddr 60 (.tmp 1) 3) (some 87) (some (8, true)) (.pointer (some ⟨w.heap.size, 3, none⟩)) (by kernel_rfl) (by kernel_rfl) (by kernel_rfl) (fun _ _ _ h => h) (fun o wq e hS => exec_field (u := .pointer (some ⟨w.heap.size, 0, none⟩)) wq e (by kernel_rfl) (by kernel_rfl)) X3.out ?_
        refine takeG 13 (.load 3 (.tmp 87)) (some 88) (some (8, true)) (.int .i64 at_) (by kernel_rfl) (by kernel_rfl) (by kernel_rfl) (fun _ _ _ h => h) (fun o wq e hS => exec_load (x := (.tmp 87)) e (by kernel_rfl) (load_one Try.underlying3 rfl (hS.cell 3))) X3.out ?_
        refine takeG 17 (.move (.tmp 6)) (some 92) (some (8, true)) (.bool false) (by kernel_rfl) (by kernel_rfl) (by kernel_rfl) (fun _ _ _ h => h) (fun o wq e hS => exec_move wq e (by kernel_rfl)) X3.out ?_
        refine loneG 14 (.call ⟨.value (.func 23), #[(.const (.int .i64 1)), (.const (.int .i64 0))], #[3, 3]⟩) (some 89) (some (8, true)) (by kernel_rfl) (by kernel_rfl) (by kernel_rfl) ?_
        intro o ho hod
        refine wp_callC (f := 23) (args := #[.int .i64 1, .int .i64 0]) (by cases o; cases ho; kernel_rfl) (bytes_calm 1 _ (by omega)) ?_
        rintro e w4 ⟨v4, rfl, r4, b4⟩
        refine ⟨v4, rfl, ?_⟩
        rw [hod]
        clear hod ho
        have R4 := Lib.hid (R3.out.below b4)
        have V4 := Lib.hid r4
        have L4 := Lib.hid (L3.out.trans (b4.mono L3.out.size))
        have X4 := Lib.hid (X3.out.new_ b4)
        clear b4 R3 L3 X3 r4
        obtain ⟨g4, p4, cs4, rfl, _, _⟩ := V4.out
        refine ⟨fun _ => X4.out, ?_⟩
        refine loneG 15 (.call ⟨.value (.func 22), #[(.tmp 84), (.tmp 86), (.tmp 88), (.tmp 89)], #[25, 3, 3, 44]⟩) (some 90) (some (8, true)) (by kernel_rfl) (by kernel_rfl) (by kernel_rfl) ?_
        intro o ho hod
        refine wp_callC (f := 22) (args := #[.pointer (some ⟨r, 0, none⟩), .int .i64 (d : Int), .int .i64 at_, .slice (some ⟨g4, 0, none⟩) 128 p4]) (by cases o; cases ho; kernel_rfl) (write_is _ r s2 (d : Int) at_ 1 (some ⟨g4, 0, none⟩) p4 R4.out HW.out (by omega)) ?_
        rintro e w5 ⟨rfl, h5, k5⟩
        refine ⟨.int .i64 1, rfl, ?_⟩
        rw [hod]
        clear hod ho
        have R5 := Lib.hid h5
        have L5 := Lib.hid (L4.out.trans (k5.below.mono hB.out))
        have X5 := Lib.hid (k5.block X4.out rfl)
        clear h5 k5 R4 L4 X4 V4
        refine ⟨fun _ => X5.out, ?_⟩
        refine takeG 16 (.binOp .eql 24 (.tmp 90) (.const (.int .i64 0)) 24) (some 91) (some (8, true)) (.bool false) (by kernel_rfl) (by kernel_rfl) (by kernel_rfl) (fun _ _ _ h => h) (fun o wq e hS => exec_bin (u1 := .int .i64 1) (u2 := (.int .i64 0)) wq e (by kernel_rfl) (by kernel_rfl) (eqG_int ..) (by kernel_rfl)) X5.out ?_
        refine takeG 18 (.binOp .eql 4 (.tmp 91) (.tmp 92) 4) (some 93) (some (8, true)) (.bool true) (by kernel_rfl) (by kernel_rfl) (by kernel_rfl) (fun _ _ _ h => h) (fun o wq e hS => exec_bin (u1 := .bool false) (u2 := .bool false) wq e (by kernel_rfl) (by kernel_rfl) (eqG_bool ..) (by kernel_rfl)) X5.out ?_
        refine takeG 19 (.pick (.tmp 83) (.tmp 93) (.const (Value.bool false))) (some 94) none (.bool true) (by kernel_rfl) (by kernel_rfl) (by kernel_rfl) (fun _ _ _ h => h) (fun o wq e hS => exec_pick (b := true) wq e (by kernel_rfl) (by kernel_rfl)) X5.out ?_
        refine takeG 20 (.move (.tmp 94)) (some 95) none (.bool true) (by kernel_rfl) (by kernel_rfl) (by kernel_rfl) (fun _ _ _ h => h) (fun o wq e hS => exec_move wq e (by kernel_rfl)) X5.out ?_
        refine takeG 21 (.move (.tmp 3)) (some 96) (some (20, true)) (.pointer (some ⟨r, 0, none⟩)) (by kernel_rfl) (by kernel_rfl) (by kernel_rfl) (fun _ _ _ h => h) (fun o wq e hS => exec_move wq e (by kernel_rfl)) X5.out ?_
        refine takeG 22 (.fieldAddr 60 (.tmp 1) 2) (some 97) (some (20, true)) (.pointer (some ⟨w.heap.size, 2, none⟩)) (by kernel_rfl) (by kernel_rfl) (by kernel_rfl) (fun _ _ _ h => h) (fun o wq e hS => exec_field (u := .pointer (some ⟨w.heap.size, 0, none⟩)) wq e (by kernel_rfl) (by kernel_rfl)) X5.out ?_
        refine takeG 23 (.load 3 (.tmp 97)) (some 98) (some (20, true)) (.int .i64 (d : Int)) (by kernel_rfl) (by kernel_rfl) (by kernel_rfl) (fun _ _ _ h => h) (fun o wq e hS => exec_load (x := (.tmp 97)) e (by kernel_rfl) (load_one Try.underlying3 rfl (hS.cell 2))) X5.out ?_
        refine takeG 24 (.fieldAddr 60 (.tmp 1) 3) (some 99) (some (20, true)) (.pointer (some ⟨w.heap.size, 3, none⟩)) (by kernel_rfl) (by kernel_rfl) (by kernel_rfl) (fun _ _ _ h => h) (fun o wq e hS => exec_field (u := .pointer (some ⟨w.heap.size, 0, none⟩)) wq e (by kernel_rfl) (by kernel_rfl)) X5.out ?_
        refine takeG 25 (.load 3 (.tmp 99)) (some 100) (some (20, true)) (.int .i64 at_) (by kernel_rfl) (by kernel_rfl) (by kernel_rfl) (fun _ _ _ h => h) (fun o wq e hS => exec_load (x := (.tmp 99)) e (by kernel_rfl) (load_one Try.underlying3 rfl (hS.cell 3))) X5.out ?_
        refine takeG 28 (.move (.tmp 6)) (some 103) (some (20, true)) (.bool false) (by kernel_rfl) (by kernel_rfl) (by kernel_rfl) (fun _ _ _ h => h) (fun o wq e hS => exec_move wq e (by kernel_rfl)) X5.out ?_
        refine loneG 26 (.call ⟨.value (.func 27), #[(.tmp 96), (.tmp 98), (.tmp 100), (.const (.int .i64 0))], #[25, 3, 3, 3]⟩) (some 101) (some (20, true)) (by kernel_rfl) (by kernel_rfl) (by kernel_rfl) ?_
        intro o ho hod
        refine wp_callC (f := 27) (args := #[.pointer (some ⟨r, 0, none⟩), .int .i64 (d : Int), .int .i64 at_, .int .i64 0]) (by cases o; cases ho; kernel_rfl) (rot_is _ r s2 (d : Int) at_ 0 1 R5.out (by omega) HW.out (by omega)) ?_
        rintro e w6 ⟨rfl, h6, k6⟩
        refine ⟨.int .i64 1, rfl, ?_⟩
        rw [hod]
        clear hod ho
        have hs6 : Hid (s2.nd = nd ∧ ∀ d', s2.gone d' = false) := Lib.hid ⟨hs2.out.1, hs2.out.2.2.2.2⟩
        generalize s2 = s6 at *
        have R6 := Lib.hid h6
        have L6 := Lib.hid (L5.out.trans (k6.below.mono hB.out))
        have X6 := Lib.hid (k6.block X5.out rfl)
        clear h6 k6 R5 L5 X5
        refine ⟨fun _ => X6.out, ?_⟩
        refine takeG 27 (.binOp .eql 24 (.tmp 101) (.const (.int .i64 0)) 24) (some 102) (some (20, true)) (.bool false) (by kernel_rfl) (by kernel_rfl) (by kernel_rfl) (fun _ _ _ h => h) (fun o wq e hS => exec_bin (u1 := .int .i64 1) (u2 := (.int .i64 0)) wq e (by kernel_rfl) (by kernel_rfl) (eqG_int ..) (by kernel_rfl)) X6.out ?_
        refine takeG 29 (.binOp .eql 4 (.tmp 102) (.tmp 103) 4) (some 104) (some (20, true)) (.bool true) (by kernel_rfl) (by kernel_rfl) (by kernel_rfl) (fun _ _ _ h => h) (fun o wq e hS => exec_bin (u1 := .bool false) (u2 := .bool false) wq e (by kernel_rfl) (by kernel_rfl) (eqG_bool ..) (by kernel_rfl)) X6.out ?_
        refine takeG 30 (.pick (.tmp 95) (.tmp 104) (.const (Value.bool false))) (some 105) none (.bool true) (by kernel_rfl) (by kernel_rfl) (by kernel_rfl) (fun _ _ _ h => h) (fun o wq e hS => exec_pick (b := true) wq e (by kernel_rfl) (by kernel_rfl)) X6.out ?_
        refine takeG 31 (.move (.tmp 105)) (some 106) none (.bool true) (by kernel_rfl) (by kernel_rfl) (by kernel_rfl) (fun _ _ _ h => h) (fun o wq e hS => exec_move wq e (by kernel_rfl)) X6.out ?_
        refine takeG 32 (.move (.tmp 3)) (some 107) (some (31, true)) (.pointer (some ⟨r, 0, none⟩)) (by kernel_rfl) (by kernel_rfl) (by kernel_rfl) (fun _ _ _ h => h) (fun o wq e hS => exec_move wq e (by kernel_rfl)) X6.out ?_
        refine takeG 33 (.fieldAddr 60 (.tmp 1) 2) (some 108) (some (31, true)) (.pointer (some ⟨w.heap.size, 2, none⟩)) (by kernel_rfl) (by kernel_rfl) (by kernel_rfl) (fun _ _ _ h => h) (fun o wq e hS => exec_field (u := .pointer (some ⟨w.heap.size, 0, none⟩)) wq e (by kernel_rfl) (by kernel_rfl)) X6.out ?_
        refine takeG 34 (.load 3 (.tmp 108)) (some 109) (some (31, true)) (.int .i64 (d : Int)) (by kernel_rfl) (by kernel_rfl) (by kernel_rfl) (fun _ _ _ h => h) (fun o wq e hS => exec_load (x := (.tmp 108)) e (by kernel_rfl) (load_one Try.underlying3 rfl (hS.cell 2))) X6.out ?_
        refine takeG 37 (.move (.tmp 5)) (some 112) (some (31, true)) (.bool true) (by kernel_rfl) (by kernel_rfl) (by kernel_rfl) (fun _ _ _ h => h) (fun o wq e hS => exec_move wq e (by kernel_rfl)) X6.out ?_
        refine loneG 35 (.call ⟨.value (.func 14), #[(.tmp 107), (.tmp 109)], #[25, 3]⟩) (some 110) (some (31, true)) (by kernel_rfl) (by kernel_rfl) (by kernel_rfl) ?_
        intro o ho hod
        refine wp_callC (f := 14) (args := #[.pointer (some ⟨r, 0, none⟩), .int .i64 (d : Int)]) (by cases o; cases ho; kernel_rfl) (lose_ok _ r s6 d R6.out (by rw [hs6.out.1]; omega)) ?_
        rintro e w7 ⟨rfl, h7, k7⟩
        refine ⟨.int .i64 0, rfl, ?_⟩
        rw [hod]
        clear hod ho
        have R7 := Lib.hid h7
        have L7 := Lib.hid (L6.out.trans (k7.below.mono hB.out))
        have X7 := Lib.hid (k7.block X6.out rfl)
        clear h7 k7 R6 L6 X6
        refine ⟨fun _ => X7.out, ?_⟩
        refine takeG 36 (.binOp .eql 24 (.tmp 110) (.const (.int .i64 0)) 24) (some 111) (some (31, true)) (.bool true) (by kernel_rfl) (by kernel_rfl) (by kernel_rfl) (fun _ _ _ h => h) (fun o wq e hS => exec_bin (u1 := .int .i64 0) (u2 := (.int .i64 0)) wq e (by kernel_rfl) (by kernel_rfl) (eqG_int ..) (by kernel_rfl)) X7.out ?_
        refine takeG 38 (.binOp .eql 4 (.tmp 111) (.tmp 112) 4) (some 113) (some (31, true)) (.bool true) (by kernel_rfl) (by kernel_rfl) (by kernel_rfl) (fun _ _ _ h => h) (fun o wq e hS => exec_bin (u1 := .bool true) (u2 := .bool true) wq e (by kernel_rfl) (by kernel_rfl) (eqG_bool ..) (by kernel_rfl)) X7.out ?_
        refine takeG 39 (.pick (.tmp 106) (.tmp 113) (.const (Value.bool false))) (some 114) none (.bool true) (by kernel_rfl) (by kernel_rfl) (by kernel_rfl) (fun _ _ _ h => h) (fun o wq e hS => exec_pick (b := true) wq e (by kernel_rfl) (by kernel_rfl)) X7.out ?_
        refine takeG 40 (.move (.tmp 114)) (some 115) none (.bool true) (by kernel_rfl) (by kernel_rfl) (by kernel_rfl) (fun _ _ _ h => h) (fun o wq e hS => exec_move wq e (by kernel_rfl)) X7.out ?_
        refine takeG 41 (.move (.tmp 3)) (some 116) (some (40, true)) (.pointer (some ⟨r, 0, none⟩)) (by kernel_rfl) (by kernel_rfl) (by kernel_rfl) (fun _ _ _ h => h) (fun o wq e hS => exec_move wq e (by kernel_rfl)) X7.out ?_
        refine takeG 42 (.fieldAddr 60 (.tmp 1) 2) (some 117) (some (40, true)) (.pointer (some ⟨w.heap.size, 2, none⟩)) (by kernel_rfl) (by kernel_rfl) (by kernel_rfl) (fun _ _ _ h => h) (fun o wq e hS => exec_field (u := .pointer (some ⟨w.heap.size, 0, none⟩)) wq e (by kernel_rfl) (by kernel_rfl)) X7.out ?_
        refine takeG 43 (.load 3 (.tmp 117)) (some 118) (some (40, true)) (.int .i64 (d : Int)) (by kernel_rfl) (by kernel_rfl) (by kernel_rfl) (fun _ _ _ h => h) (fun o wq e hS => exec_load (x := (.tmp 117)) e (by kernel_rfl) (load_one Try.underlying3 rfl (hS.cell 2))) X7.out ?_
        refine takeG 45 (.move (.tmp 5)) (some 120) (some (40, true)) (.bool true) (by kernel_rfl) (by kernel_rfl) (by kernel_rfl) (fun _ _ _ h => h) (fun o wq e hS => exec_move wq e (by kernel_rfl)) X7.out ?_
        refine loneG 44 (.call ⟨.value (.func 15), #[(.tmp 116), (.tmp 118)], #[25, 3]⟩) (some 119) (some (40, true)) (by kernel_rfl) (by kernel_rfl) (by kernel_rfl) ?_
        intro o ho hod
        refine wp_callC (f := 15) (args := #[.pointer (some ⟨r, 0, none⟩), .int .i64 (d : Int)]) (by cases o; cases ho; kernel_rfl) (gone_is _ r _ (d : Int) true R7.out (by
          rw [isD_nat, Int.toNat_natCast]
          have h1 : d < (s6.lost d).nd := by show d < s6.nd; rw [hs6.out.1]; omega
          have h2 : (s6.lost d).gone d = true := if_pos rfl
          rw [h2]
          simp [h1])) ?_
        rintro e w' ⟨rfl, rfl⟩
        refine ⟨.bool true, rfl, ?_⟩
        rw [hod]
        clear hod ho
        skip
        refine ⟨fun _ => X7.out, ?_⟩
        refine takeG 46 (.binOp .eql 4 (.tmp 119) (.tmp 120) 4) (some 121) (some (40, true)) (.bool true) (by kernel_rfl) (by kernel_rfl) (by kernel_rfl) (fun _ _ _ h => h) (fun o wq e hS => exec_bin (u1 := .bool true) (u2 := .bool true) wq e (by kernel_rfl) (by kernel_rfl) (eqG_bool ..) (by kernel_rfl)) X7.out ?_
        refine takeG 47 (.pick (.tmp 115) (.tmp 121) (.const (Value.bool false))) (some 122) none (.bool true) (by kernel_rfl) (by kernel_rfl) (by kernel_rfl) (fun _ _ _ h => h) (fun o wq e hS => exec_pick (b := true) wq e (by kernel_rfl) (by kernel_rfl)) X7.out ?_
        refine takeG 48 (.move (.tmp 122)) (some 123) none (.bool true) (by kernel_rfl) (by kernel_rfl) (by kernel_rfl) (fun _ _ _ h => h) (fun o wq e hS => exec_move wq e (by kernel_rfl)) X7.out ?_
        refine takeG 49 (.move (.tmp 3)) (some 124) (some (48, true)) (.pointer (some ⟨r, 0, none⟩)) (by kernel_rfl) (by kernel_rfl) (by kernel_rfl) (fun _ _ _ h => h) (fun o wq e hS => exec_move wq e (by kernel_rfl)) X7.out ?_
        refine takeG 50 (.fieldAddr 60 (.tmp 1) 2) (some 125) (some (48, true)) (.pointer (some ⟨w.heap.size, 2, none⟩)) (by kernel_rfl) (by kernel_rfl) (by kernel_rfl) (fun _ _ _ h => h) (fun o wq e hS => exec_field (u := .pointer (some ⟨w.heap.size, 0, none⟩)) wq e (by kernel_rfl) (by kernel_rfl)) X7.out ?_
        refine takeG 51 (.load 3 (.tmp 125)) (some 126) (some (48, true)) (.int .i64 (d : Int)) (by kernel_rfl) (by kernel_rfl) (by kernel_rfl) (fun _ _ _ h => h) (fun o wq e hS => exec_load (x := (.tmp 125)) e (by kernel_rfl) (load_one Try.underlying3 rfl (hS.cell 2))) X7.out ?_
        refine takeG 54 (.move (.tmp 5)) (some 129) (some (48, true)) (.bool true) (by kernel_rfl) (by kernel_rfl) (by kernel_rfl) (fun _ _ _ h => h) (fun o wq e hS => exec_move wq e (by kernel_rfl)) X7.out ?_
        refine loneG 52 (.call ⟨.value (.func 25), #[(.tmp 124), (.tmp 126)], #[25, 3]⟩) (some 127) (some (48, true)) (by kernel_rfl) (by kernel_rfl) (by kernel_rfl) ?_
        intro o ho hod
        refine wp_callC (f := 25) (args := #[.pointer (some ⟨r, 0, none⟩), .int .i64 (d : Int)]) (by cases o; cases ho; kernel_rfl) (replace_ok _ r _ d R7.out (by show d < s6.nd; rw [hs6.out.1]; omega)) ?_
        rintro e w8 ⟨rfl, h8, k8⟩
        refine ⟨.int .i64 0, rfl, ?_⟩
        rw [hod]
        clear hod ho
        have R8 := Lib.hid h8
        have L8 := Lib.hid (L7.out.trans (k8.below.mono hB.out))
        have X8 := Lib.hid (k8.block X7.out rfl)
        clear h8 k8 R7 L7 X7
        refine ⟨fun _ => X8.out, ?_⟩
        refine takeG 53 (.binOp .eql 24 (.tmp 127) (.const (.int .i64 0)) 24) (some 128) (some (48, true)) (.bool true) (by kernel_rfl) (by kernel_rfl) (by kernel_rfl) (fun _ _ _ h => h) (fun o wq e hS => exec_bin (u1 := .int .i64 0) (u2 := (.int .i64 0)) wq e (by kernel_rfl) (by kernel_rfl) (eqG_int ..) (by kernel_rfl)) X8.out ?_
        refine takeG 55 (.binOp .eql 4 (.tmp 128) (.tmp 129) 4) (some 130) (some (48, true)) (.bool true) (by kernel_rfl) (by kernel_rfl) (by kernel_rfl) (fun _ _ _ h => h) (fun o wq e hS => exec_bin (u1 := .bool true) (u2 := .bool true) wq e (by kernel_rfl) (by kernel_rfl) (eqG_bool ..) (by kernel_rfl)) X8.out ?_
        refine takeG 56 (.pick (.tmp 123) (.tmp 130) (.const (Value.bool false))) (some 131) none (.bool true) (by kernel_rfl) (by kernel_rfl) (by kernel_rfl) (fun _ _ _ h => h) (fun o wq e hS => exec_pick (b := true) wq e (by kernel_rfl) (by kernel_rfl)) X8.out ?_
        refine takeG 57 (.move (.tmp 131)) (some 132) none (.bool true) (by kernel_rfl) (by kernel_rfl) (by kernel_rfl) (fun _ _ _ h => h) (fun o wq e hS => exec_move wq e (by kernel_rfl)) X8.out ?_
        refine takeG 58 (.move (.tmp 3)) (some 133) (some (57, true)) (.pointer (some ⟨r, 0, none⟩)) (by kernel_rfl) (by kernel_rfl) (by kernel_rfl) (fun _ _ _ h => h) (fun o wq e hS => exec_move wq e (by kernel_rfl)) X8.out ?_
        refine takeG 59 (.fieldAddr 60 (.tmp 1) 2) (some 134) (some (57, true)) (.pointer (some ⟨w.heap.size, 2, none⟩)) (by kernel_rfl) (by kernel_rfl) (by kernel_rfl) (fun _ _ _ h => h) (fun o wq e hS => exec_field (u := .pointer (some ⟨w.heap.size, 0, none⟩)) wq e (by kernel_rfl) (by kernel_rfl)) X8.out ?_
        refine takeG 60 (.load 3 (.tmp 134)) (some 135) (some (57, true)) (.int .i64 (d : Int)) (by kernel_rfl) (by kernel_rfl) (by kernel_rfl) (fun _ _ _ h => h) (fun o wq e hS => exec_load (x := (.tmp 134)) e (by kernel_rfl) (load_one Try.underlying3 rfl (hS.cell 2))) X8.out ?_
        refine loneG 61 (.call ⟨.value (.func 15), #[(.tmp 133), (.tmp 135)], #[25, 3]⟩) (some 136) (some (57, true)) (by kernel_rfl) (by kernel_rfl) (by kernel_rfl) ?_
        intro o ho hod
        refine wp_callC (f := 15) (args := #[.pointer (some ⟨r, 0, none⟩), .int .i64 (d : Int)]) (by cases o; cases ho; kernel_rfl) (gone_is _ r _ (d : Int) false R8.out (by
          rw [Int.toNat_natCast]
          have h2 : ((s6.lost d).anew d).gone d = false := if_pos rfl
          rw [h2, Bool.and_false])) ?_
        rintro e w' ⟨rfl, rfl⟩
        refine ⟨.bool false, rfl, ?_⟩
        rw [hod]
        clear hod ho
        skip
        refine ⟨fun _ => X8.out, ?_⟩
        refine takeG 62 (.unOp .not 4 (.tmp 136)) (some 137) (some (57, true)) (.bool true) (by kernel_rfl) (by kernel_rfl) (by kernel_rfl) (fun _ _ _ h => h) (fun o wq e hS => exec_un (u := .bool false) wq e (by kernel_rfl) (by kernel_rfl)) X8.out ?_
        refine takeG 63 (.pick (.tmp 132) (.tmp 137) (.const (Value.bool false))) (some 138) none (.bool true) (by kernel_rfl) (by kernel_rfl) (by kernel_rfl) (fun _ _ _ h => h) (fun o wq e hS => exec_pick (b := true) wq e (by kernel_rfl) (by kernel_rfl)) X8.out ?_
        refine lastS 64 (.assign (.tmp 138)) (some 2) (.bool true) (by kernel_rfl) (by kernel_rfl) (by kernel_rfl) X8.out (fun o e => exec_assign _ e (by kernel_rfl)) ?_
        simp only [put_some, put_none, List.setIfInBounds_toArray, List.set_cons_succ, List.set_cons_zero]
        go_wp2_with fail
        go_ret
        exact ⟨rfl, L8.out⟩
  · rcases (by omega : dr < 0 ∨ (0 ≤ dr ∧ (nd : Int) ≤ dr)) with h | ⟨h, h'⟩
    all_goals
      clear hi
      have c0 : wc.cell? ⟨w.heap.size, 0, none⟩ = some (.int .i64 (nd : Int)) := X2.out.cell 0
      have c1 : wc.cell? ⟨w.heap.size, 1, none⟩ = some (.int .i64 (ns : Int)) := X2.out.cell 1
      have c2 : wc.cell? ⟨w.heap.size, 2, none⟩ = some (.int .i64 dr) := X2.out.cell 2
      have c3 : wc.cell? ⟨w.heap.size, 3, none⟩ = some (.int .i64 at_) := X2.out.cell 3
      have hwhy : s2.why dr at_ = 1 := by
        have e : s2.isP dr at_ = false := by
          unfold RS.isP RS.isD
          rw [hs2.out.1, hs2.out.2.1]
          simp
          omega
        unfold RS.why
        rw [e]
        rfl
      have hdeny : s2.deny dr at_ = 1 := by
        unfold RS.deny
        rw [hwhy]
        rfl
      have HW := Lib.hid hwhy
      have HD := Lib.hid hdeny
      clear hwhy hdeny
      have HN : Hid (s2.isD dr = false) := Lib.hid (by
        unfold RS.isD
        rw [hs2.out.1]
        simp
        omega)
      go_wp2_with fail
      refine (read_no _ r s2 dr at_ R2.out (by rw [HD.out]; omega)).mono ?_
      rintro e w3 ⟨rfl, h3, k3⟩
      rw [HD.out]
      have R3 := Lib.hid h3
      have L3 := Lib.hid (L2.out.trans (k3.below.mono hB.out))
      have X3 := Lib.hid (k3.block X2.out rfl)
      clear h3 k3 R2 L2 X2 c0 c1 c2 c3
      go_wp2_with fail
      try rw [show decide (dr < (nd : Int)) = false from by simp; omega]
      obtain ⟨RE, LE, XE⟩ : Hid (RackAt B w3.drew r s2) ∧ Hid (Below w.heap.size w w3.drew) ∧ Hid (Blk w3.drew w.heap.size 60 #[.int .i64 (nd : Int), .int .i64 (ns : Int), .int .i64 dr, .int .i64 at_]) := ⟨Lib.hid (R3.out.drewN 1), Lib.hid (below_drewN L3.out 1), Lib.hid X3.out⟩
      clear R3 L3 X3
      refine region_anyZ (fun w' => Blk w' w.heap.size 60 #[.int .i64 (nd : Int), .int .i64 (ns : Int), .int .i64 dr, .int .i64 at_]) 65 (by kernel_rfl) ?_
      generalize w3.drew = wd at *
      obtain ⟨R3, L3, X3⟩ : Hid (RackAt B wd r s2) ∧ Hid (Below w.heap.size w wd) ∧ Hid (Blk wd w.heap.size 60 #[.int .i64 (nd : Int), .int .i64 (ns : Int), .int .i64 dr, .int .i64 at_]) := ⟨RE, LE, XE⟩
      clear RE LE XE
      refine takeG 0 (.move (.tmp 4)) (some 75) none (.int .i64 0) (by kernel_rfl) (by kernel_rfl) (by kernel_rfl) (fun _ _ _ h => h) (fun o wq e hS => exec_move wq e (by kernel_rfl)) X3.out ?_
      refine takeG 1 (.binOp .eql 24 (.tmp 75) (.const (.int .i64 0)) 24) (some 76) none (.bool true) (by kernel_rfl) (by kernel_rfl) (by kernel_rfl) (fun _ _ _ h => h) (fun o wq e hS => exec_bin (u1 := .int .i64 0) (u2 := (.int .i64 0)) wq e (by kernel_rfl) (by kernel_rfl) (eqG_int ..) (by kernel_rfl)) X3.out ?_
      refine takeG 2 (.move (.tmp 76)) (some 77) none (.bool true) (by kernel_rfl) (by kernel_rfl) (by kernel_rfl) (fun _ _ _ h => h) (fun o wq e hS => exec_move wq e (by kernel_rfl)) X3.out ?_
      refine takeG 3 (.move (.tmp 8)) (some 78) (some (2, true)) (.int .i64 1) (by kernel_rfl) (by kernel_rfl) (by kernel_rfl) (fun _ _ _ h => h) (fun o wq e hS => exec_move wq e (by kernel_rfl)) X3.out ?_
      refine takeG 4 (.binOp .eql 24 (.tmp 78) (.const (.int .i64 0)) 24) (some 79) (some (2, true)) (.bool false) (by kernel_rfl) (by kernel_rfl) (by kernel_rfl) (fun _ _ _ h => h) (fun o wq e hS => exec_bin (u1 := .int .i64 1) (u2 := (.int .i64 0)) wq e (by kernel_rfl) (by kernel_rfl) (eqG_int ..) (by kernel_rfl)) X3.out ?_
      refine takeG 5 (.move (.tmp 6)) (some 80) (some (2, true)) (.bool false) (by kernel_rfl) (by kernel_rfl) (by kernel_rfl) (fun _ _ _ h => h) (fun o wq e hS => exec_move wq e (by kernel_rfl)) X3.out ?_
      refine takeG 6 (.binOp .eql 4 (.tmp 79) (.tmp 80) 4) (some 81) (some (2, true)) (.bool true) (by kernel_rfl) (by kernel_rfl) (by kernel_rfl) (fun _ _ _ h => h) (fun o wq e hS => exec_bin (u1 := .bool false) (u2 := .bool false) wq e (by kernel_rfl) (by kernel_rfl) (eqG_bool ..) (by kernel_rfl)) X3.out ?_
      refine takeG 7 (.pick (.tmp 77) (.tmp 81) (.const (Value.bool false))) (some 82) none (.bool true) (by kernel_rfl) (by kernel_rfl) (by kernel_rfl) (fun _ _ _ h => h) (fun o wq e hS => exec_pick (b := true) wq e (by kernel_rfl) (by kernel_rfl)) X3.out ?_
      refine takeG 8 (.move (.tmp 82)) (some 83) none (.bool true) (by kernel_rfl) (by kernel_rfl) (by kernel_rfl) (fun _ _ _ h => h) (fun o wq e hS => exec_move wq e (by kernel_rfl)) X3.out ?_
      refine takeG 9 (.move (.tmp 3)) (some 84) (some (8, true)) (.pointer (some ⟨r, 0, none⟩)) (by kernel_rfl) (by kernel_rfl) (by kernel_rfl) (fun _ _ _ h => h) (fun o wq e hS => exec_move wq e (by kernel_rfl)) X3.out ?_
      refine takeG 10 (.fieldAddr 60 (.tmp 1) 2) (some 85) (some (8, true)) (.pointer (some ⟨w.heap.size, 2, none⟩)) (by kernel_rfl) (by kernel_rfl) (by kernel_rfl) (fun _ _ _ h => h) (fun o wq e hS => exec_field (u := .pointer (some ⟨w.heap.size, 0, none⟩)) wq e (by kernel_rfl) (by kernel_rfl)) X3.out ?_
      refine takeG 11 (.load 3 (.tmp 85)) (some 86) (some (8, true)) (.int .i64 dr) (by kernel_rfl) (by kernel_rfl) (by kernel_rfl) (fun _ _ _ h => h) (fun o wq e hS => exec_load (x := (.tmp 85)) e (by kernel_rfl) (load_one Try.underlying3 rfl (hS.cell 2))) X3.out ?_
      refine takeG 12 (.fieldAddr 60 (.tmp 1) 3) (some 87) (some (8, true)) (.pointer (some ⟨w.heap.size, 3, none⟩)) (by kernel_rfl) (by kernel_rfl) (by kernel_rfl) (fun _ _ _ h => h) (fun o wq e hS => exec_field (u := .pointer (some ⟨w.heap.size, 0, none⟩)) wq e (by kernel_rfl) (by kernel_rfl)) X3.out ?_
      refine takeG 13 (.load 3 (.tmp 87)) (some 88) (some (8, true)) (.int .i64 at_) (by kernel_rfl) (by kernel_rfl) (by kernel_rfl) (fun _ _ _ h => h) (fun o wq e hS => exec_load (x := (.tmp 87)) e (by kernel_rfl) (load_one Try.underlying3 rfl (hS.cell 3))) X3.out ?_
      refine takeG 17 (.move (.tmp 6)) (some 92) (some (8, true)) (.bool false) (by kernel_rfl) (by kernel_rfl) (by kernel_rfl) (fun _ _ _ h => h) (fun o wq e hS => exec_move wq e (by kernel_rfl)) X3.out ?_
      refine loneG 14 (.call ⟨.value (.func 23), #[(.const (.int .i64 1)), (.const (.int .i64 0))], #[3, 3]⟩) (some 89) (some (8, true)) (by kernel_rfl) (by kernel_rfl) (by kernel_rfl) ?_
      intro o ho hod
      refine wp_callC (f := 23) (args := #[.int .i64 1, .int .i64 0]) (by cases o; cases ho; kernel_rfl) (bytes_calm 1 _ (by omega)) ?_
      rintro e w4 ⟨v4, rfl, r4, b4⟩
      refine ⟨v4, rfl, ?_⟩
      rw [hod]
      clear hod ho
      have R4 := Lib.hid (R3.out.below b4)
      have V4 := Lib.hid r4
      have L4 := Lib.hid (L3.out.trans (b4.mono L3.out.size))
      have X4 := Lib.hid (X3.out.new_ b4)
      clear b4 R3 L3 X3 r4
      obtain ⟨g4, p4, cs4, rfl, _, _⟩ := V4.out
      refine ⟨fun _ => X4.out, ?_⟩
      refine loneG 15 (.call ⟨.value (.func 22), #[(.tmp 84), (.tmp 86), (.tmp 88), (.tmp 89)], #[25, 3, 3, 44]⟩) (some 90) (some (8, true)) (by kernel_rfl) (by kernel_rfl) (by kernel_rfl) ?_
      intro o ho hod
      refine wp_callC (f := 22) (args := #[.pointer (some ⟨r, 0, none⟩), .int .i64 dr, .int .i64 at_, .slice (some ⟨g4, 0, none⟩) 128 p4]) (by cases o; cases ho; kernel_rfl) (write_is _ r s2 dr at_ 1 (some ⟨g4, 0, none⟩) p4 R4.out HW.out (by omega)) ?_
      rintro e w5 ⟨rfl, h5, k5⟩
      refine ⟨.int .i64 1, rfl, ?_⟩
      rw [hod]
      clear hod ho
      have R5 := Lib.hid h5
      have L5 := Lib.hid (L4.out.trans (k5.below.mono hB.out))
      have X5 := Lib.hid (k5.block X4.out rfl)
      clear h5 k5 R4 L4 X4 V4
      refine ⟨fun _ => X5.out, ?_⟩
      refine takeG 16 (.binOp .eql 24 (.tmp 90) (.const (.int .i64 0)) 24) (some 91) (some (8, true)) (.bool false) (by kernel_rfl) (by kernel_rfl) (by kernel_rfl) (fun _ _ _ h => h) (fun o wq e hS => exec_bin (u1 := .int .i64 1) (u2 := (.int .i64 0)) wq e (by kernel_rfl) (by kernel_rfl) (eqG_int ..) (by kernel_rfl)) X5.out ?_
      refine takeG 18 (.binOp .eql 4 (.tmp 91) (.tmp 92) 4) (some 93) (some (8, true)) (.bool true) (by kernel_rfl) (by kernel_rfl) (by kernel_rfl) (fun _ _ _ h => h) (fun o wq e hS => exec_bin (u1 := .bool false) (u2 := .bool false) wq e (by kernel_rfl) (by kernel_rfl) (eqG_bool ..) (by kernel_rfl)) X5.out ?_
      refine takeG 19 (.pick (.tmp 83) (.tmp 93) (.const (Value.bool false))) (some 94) none (.bool true) (by kernel_rfl) (by kernel_rfl) (by kernel_rfl) (fun _ _ _ h => h) (fun o wq e hS => exec_pick (b := true) wq e (by kernel_rfl) (by kernel_rfl)) X5.out ?_
      refine takeG 20 (.move (.tmp 94)) (some 95) none (.bool true) (by kernel_rfl) (by kernel_rfl) (by kernel_rfl) (fun _ _ _ h => h) (fun o wq e hS => exec_move wq e (by kernel_rfl)) X5.out ?_
      refine takeG 21 (.move (.tmp 3)) (some 96) (some (20, true)) (.pointer (some ⟨r, 0, none⟩)) (by kernel_rfl) (by kernel_rfl) (by kernel_rfl) (fun _ _ _ h => h) (fun o wq e hS => exec_move wq e (by kernel_rfl)) X5.out ?_
      refine takeG 22 (.fieldAddr 60 (.tmp 1) 2) (some 97) (some (20, true)) (.pointer (some ⟨w.heap.size, 2, none⟩)) (by kernel_rfl) (by kernel_rfl) (by kernel_rfl) (fun _ _ _ h => h) (fun o wq e hS => exec_field (u := .pointer (some ⟨w.heap.size, 0, none⟩)) wq e (by kernel_rfl) (by kernel_rfl)) X5.out ?_
      refine takeG 23 (.load 3 (.tmp 97)) (some 98) (some (20, true)) (.int .i64 dr) (by kernel_rfl) (by kernel_rfl) (by kernel_rfl) (fun _ _ _ h => h) (fun o wq e hS => exec_load (x := (.tmp 97)) e (by kernel_rfl) (load_one Try.underlying3 rfl (hS.cell 2))) X5.out ?_
      refine takeG 24 (.fieldAddr 60 (.tmp 1) 3) (some 99) (some (20, true)) (.pointer (some ⟨w.heap.size, 3, none⟩)) (by kernel_rfl) (by kernel_rfl) (by kernel_rfl) (fun _ _ _ h => h) (fun o wq e hS => exec_field (u := .pointer (some ⟨w.heap.size, 0, none⟩)) wq e (by kernel_rfl) (by kernel_rfl)) X5.out ?_
      refine takeG 25 (.load 3 (.tmp 99)) (some 100) (some (20, true)) (.int .i64 at_) (by kernel_rfl) (by kernel_rfl) (by kernel_rfl) (fun _ _ _ h => h) (fun o wq e hS => exec_load (x := (.tmp 99)) e (by kernel_rfl) (load_one Try.underlying3 rfl (hS.cell 3))) X5.out ?_
      refine takeG 28 (.move (.tmp 6)) (some 103) (some (20, true)) (.bool false) (by kernel_rfl) (by kernel_rfl) (by kernel_rfl) (fun _ _ _ h => h) (fun o wq e hS => exec_move wq e (by kernel_rfl)) X5.out ?_
      refine loneG 26 (.call ⟨.value (.func 27), #[(.tmp 96), (.tmp 98), (.tmp 100), (.const (.int .i64 0))], #[25, 3, 3, 3]⟩) (some 101) (some (20, true)) (by kernel_rfl) (by kernel_rfl) (by kernel_rfl) ?_
      intro o ho hod
      refine wp_callC (f := 27) (args := #[.pointer (some ⟨r, 0, none⟩), .int .i64 dr, .int .i64 at_, .int .i64 0]) (by cases o; cases ho; kernel_rfl) (rot_is _ r s2 dr at_ 0 1 R5.out (by omega) HW.out (by omega)) ?_
      rintro e w6 ⟨rfl, h6, k6⟩
      refine ⟨.int .i64 1, rfl, ?_⟩
      rw [hod]
      clear hod ho
      have hs6 : Hid (s2.nd = nd ∧ ∀ d', s2.gone d' = false) := Lib.hid ⟨hs2.out.1, hs2.out.2.2.2.2⟩
      generalize s2 = s6 at *
      have R6 := Lib.hid h6
      have L6 := Lib.hid (L5.out.trans (k6.below.mono hB.out))
      have X6 := Lib.hid (k6.block X5.out rfl)
      clear h6 k6 R5 L5 X5
      refine ⟨fun _ => X6.out, ?_⟩
      refine takeG 27 (.binOp .eql 24 (.tmp 101) (.const (.int .i64 0)) 24) (some 102) (some (20, true)) (.bool false) (by kernel_rfl) (by kernel_rfl) (by kernel_rfl) (fun _ _ _ h => h) (fun o wq e hS => exec_bin (u1 := .int .i64 1) (u2 := (.int .i64 0)) wq e (by kernel_rfl) (by kernel_rfl) (eqG_int ..) (by kernel_rfl)) X6.out ?_
      refine takeG 29 (.binOp .eql 4 (.tmp 102) (.tmp 103) 4) (some 104) (some (20, true)) (.bool true) (by kernel_rfl) (by kernel_rfl) (by kernel_rfl) (fun _ _ _ h => h) (fun o wq e hS => exec_bin (u1 := .bool false) (u2 := .bool false) wq e (by kernel_rfl) (by kernel_rfl) (eqG_bool ..) (by kernel_rfl)) X6.out ?_
      refine takeG 30 (.pick (.tmp 95) (.tmp 104) (.const (Value.bool false))) (some 105) none (.bool true) (by kernel_rfl) (by kernel_rfl) (by kernel_rfl) (fun _ _ _ h => h) (fun o wq e hS => exec_pick (b := true) wq e (by kernel_rfl) (by kernel_rfl)) X6.out ?_
      refine takeG 31 (.move (.tmp 105)) (some 106) none (.bool true) (by kernel_rfl) (by kernel_rfl) (by kernel_rfl) (fun _ _ _ h => h) (fun o wq e hS => exec_move wq e (by kernel_rfl)) X6.out ?_
      refine takeG 32 (.move (.tmp 3)) (some 107) (some (31, true)) (.pointer (some ⟨r, 0, none⟩)) (by kernel_rfl) (by kernel_rfl) (by kernel_rfl) (fun _ _ _ h => h) (fun o wq e hS => exec_move wq e (by kernel_rfl)) X6.out ?_
      refine takeG 33 (.fieldAddr 60 (.tmp 1) 2) (some 108) (some (31, true)) (.pointer (some ⟨w.heap.size, 2, none⟩)) (by kernel_rfl) (by kernel_rfl) (by kernel_rfl) (fun _ _ _ h => h) (fun o wq e hS => exec_field (u := .pointer (some ⟨w.heap.size, 0, none⟩)) wq e (by kernel_rfl) (by kernel_rfl)) X6.out ?_
      refine takeG 34 (.load 3 (.tmp 108)) (some 109) (some (31, true)) (.int .i64 dr) (by kernel_rfl) (by kernel_rfl) (by kernel_rfl) (fun _ _ _ h => h) (fun o wq e hS => exec_load (x := (.tmp 108)) e (by kernel_rfl) (load_one Try.underlying3 rfl (hS.cell 2))) X6.out ?_
      refine takeG 37 (.move (.tmp 5)) (some 112) (some (31, true)) (.bool false) (by kernel_rfl) (by kernel_rfl) (by kernel_rfl) (fun _ _ _ h => h) (fun o wq e hS => exec_move wq e (by kernel_rfl)) X6.out ?_
      refine loneG 35 (.call ⟨.value (.func 14), #[(.tmp 107), (.tmp 109)], #[25, 3]⟩) (some 110) (some (31, true)) (by kernel_rfl) (by kernel_rfl) (by kernel_rfl) ?_
      intro o ho hod
      refine wp_callC (f := 14) (args := #[.pointer (some ⟨r, 0, none⟩), .int .i64 dr]) (by cases o; cases ho; kernel_rfl) (lose_no _ r s6 dr R6.out HN.out) ?_
      rintro e w' ⟨rfl, rfl⟩
      refine ⟨.int .i64 1, rfl, ?_⟩
      rw [hod]
      clear hod ho
      skip
      refine ⟨fun _ => X6.out, ?_⟩
      refine takeG 36 (.binOp .eql 24 (.tmp 110) (.const (.int .i64 0)) 24) (some 111) (some (31, true)) (.bool false) (by kernel_rfl) (by kernel_rfl) (by kernel_rfl) (fun _ _ _ h => h) (fun o wq e hS => exec_bin (u1 := .int .i64 1) (u2 := (.int .i64 0)) wq e (by kernel_rfl) (by kernel_rfl) (eqG_int ..) (by kernel_rfl)) X6.out ?_
      refine takeG 38 (.binOp .eql 4 (.tmp 111) (.tmp 112) 4) (some 113) (some (31, true)) (.bool true) (by kernel_rfl) (by kernel_rfl) (by kernel_rfl) (fun _ _ _ h => h) (fun o wq e hS => exec_bin (u1 := .bool false) (u2 := .bool false) wq e (by kernel_rfl) (by kernel_rfl) (eqG_bool ..) (by kernel_rfl)) X6.out ?_
      refine takeG 39 (.pick (.tmp 106) (.tmp 113) (.const (Value.bool false))) (some 114) none (.bool true) (by kernel_rfl) (by kernel_rfl) (by kernel_rfl) (fun _ _ _ h => h) (fun o wq e hS => exec_pick (b := true) wq e (by kernel_rfl) (by kernel_rfl)) X6.out ?_
      refine takeG 40 (.move (.tmp 114)) (some 115) none (.bool true) (by kernel_rfl) (by kernel_rfl) (by kernel_rfl) (fun _ _ _ h => h) (fun o wq e hS => exec_move wq e (by kernel_rfl)) X6.out ?_
      refine takeG 41 (.move (.tmp 3)) (some 116) (some (40, true)) (.pointer (some ⟨r, 0, none⟩)) (by kernel_rfl) (by kernel_rfl) (by kernel_rfl) (fun _ _ _ h => h) (fun o wq e hS => exec_move wq e (by kernel_rfl)) X6.out ?_
      refine takeG 42 (.fieldAddr 60 (.tmp 1) 2) (some 117) (some (40, true)) (.pointer (some ⟨w.heap.size, 2, none⟩)) (by kernel_rfl) (by kernel_rfl) (by kernel_rfl) (fun _ _ _ h => h) (fun o wq e hS => exec_field (u := .pointer (some ⟨w.heap.size, 0, none⟩)) wq e (by kernel_rfl) (by kernel_rfl)) X6.out ?_
      refine takeG 43 (.load 3 (.tmp 117)) (some 118) (some (40, true)) (.int .i64 dr) (by kernel_rfl) (by kernel_rfl) (by kernel_rfl) (fun _ _ _ h => h) (fun o wq e hS => exec_load (x := (.tmp 117)) e (by kernel_rfl) (load_one Try.underlying3 rfl (hS.cell 2))) X6.out ?_
      refine takeG 45 (.move (.tmp 5)) (some 120) (some (40, true)) (.bool false) (by kernel_rfl) (by kernel_rfl) (by kernel_rfl) (fun _ _ _ h => h) (fun o wq e hS => exec_move wq e (by kernel_rfl)) X6.out ?_
      refine loneG 44 (.call ⟨.value (.func 15), #[(.tmp 116), (.tmp 118)], #[25, 3]⟩) (some 119) (some (40, true)) (by kernel_rfl) (by kernel_rfl) (by kernel_rfl) ?_
      intro o ho hod
      refine wp_callC (f := 15) (args := #[.pointer (some ⟨r, 0, none⟩), .int .i64 dr]) (by cases o; cases ho; kernel_rfl) (gone_is _ r _ dr false R6.out (by rw [HN.out]; rfl)) ?_
      rintro e w' ⟨rfl, rfl⟩
      refine ⟨.bool false, rfl, ?_⟩
      rw [hod]
      clear hod ho
      skip
      refine ⟨fun _ => X6.out, ?_⟩
      refine takeG 46 (.binOp .eql 4 (.tmp 119) (.tmp 120) 4) (some 121) (some (40, true)) (.bool true) (by kernel_rfl) (by kernel_rfl) (by kernel_rfl) (fun _ _ _ h => h) (fun o wq e hS => exec_bin (u1 := .bool false) (u2 := .bool false) wq e (by kernel_rfl) (by kernel_rfl) (eqG_bool ..) (by kernel_rfl)) X6.out ?_
      refine takeG 47 (.pick (.tmp 115) (.tmp 121) (.const (Value.bool false))) (some 122) none (.bool true) (by kernel_rfl) (by kernel_rfl) (by kernel_rfl) (fun _ _ _ h => h) (fun o wq e hS => exec_pick (b := true) wq e (by kernel_rfl) (by kernel_rfl)) X6.out ?_
      refine takeG 48 (.move (.tmp 122)) (some 123) none (.bool true) (by kernel_rfl) (by kernel_rfl) (by kernel_rfl) (fun _ _ _ h => h) (fun o wq e hS => exec_move wq e (by kernel_rfl)) X6.out ?_
      refine takeG 49 (.move (.tmp 3)) (some 124) (some (48, true)) (.pointer (some ⟨r, 0, none⟩)) (by kernel_rfl) (by kernel_rfl) (by kernel_rfl) (fun _ _ _ h => h) (fun o wq e hS => exec_move wq e (by kernel_rfl)) X6.out ?_
      refine takeG 50 (.fieldAddr 60 (.tmp 1) 2) (some 125) (some (48, true)) (.pointer (some ⟨w.heap.size, 2, none⟩)) (by kernel_rfl) (by kernel_rfl) (by kernel_rfl) (fun _ _ _ h => h) (fun o wq e hS => exec_field (u := .pointer (some ⟨w.heap.size, 0, none⟩)) wq e (by kernel_rfl) (by kernel_rfl)) X6.out ?_
      refine takeG 51 (.load 3 (.tmp 125)) (some 126) (some (48, true)) (.int .i64 dr) (by kernel_rfl) (by kernel_rfl) (by kernel_rfl) (fun _ _ _ h => h) (fun o wq e hS => exec_load (x := (.tmp 125)) e (by kernel_rfl) (load_one Try.underlying3 rfl (hS.cell 2))) X6.out ?_
      refine takeG 54 (.move (.tmp 5)) (some 129) (some (48, true)) (.bool false) (by kernel_rfl) (by kernel_rfl) (by kernel_rfl) (fun _ _ _ h => h) (fun o wq e hS => exec_move wq e (by kernel_rfl)) X6.out ?_
      refine loneG 52 (.call ⟨.value (.func 25), #[(.tmp 124), (.tmp 126)], #[25, 3]⟩) (some 127) (some (48, true)) (by kernel_rfl) (by kernel_rfl) (by kernel_rfl) ?_
      intro o ho hod
      refine wp_callC (f := 25) (args := #[.pointer (some ⟨r, 0, none⟩), .int .i64 dr]) (by cases o; cases ho; kernel_rfl) (replace_no _ r s6 dr R6.out HN.out) ?_
      rintro e w' ⟨rfl, rfl⟩
      refine ⟨.int .i64 1, rfl, ?_⟩
      rw [hod]
      clear hod ho
      skip
      refine ⟨fun _ => X6.out, ?_⟩
      refine takeG 53 (.binOp .eql 24 (.tmp 127) (.const (.int .i64 0)) 24) (some 128) (some (48, true)) (.bool false) (by kernel_rfl) (by kernel_rfl) (by kernel_rfl) (fun _ _ _ h => h) (fun o wq e hS => exec_bin (u1 := .int .i64 1) (u2 := (.int .i64 0)) wq e (by kernel_rfl) (by kernel_rfl) (eqG_int ..) (by kernel_rfl)) X6.out ?_
      refine takeG 55 (.binOp .eql 4 (.tmp 128) (.tmp 129) 4) (some 130) (some (48, true)) (.bool true) (by kernel_rfl) (by kernel_rfl) (by kernel_rfl) (fun _ _ _ h => h) (fun o wq e hS => exec_bin (u1 := .bool false) (u2 := .bool false) wq e (by kernel_rfl) (by kernel_rfl) (eqG_bool ..) (by kernel_rfl)) X6.out ?_
      refine takeG 56 (.pick (.tmp 123) (.tmp 130) (.const (Value.bool false))) (some 131) none (.bool true) (by kernel_rfl) (by kernel_rfl) (by kernel_rfl) (fun _ _ _ h => h) (fun o wq e hS => exec_pick (b := true) wq e (by kernel_rfl) (by kernel_rfl)) X6.out ?_
      refine takeG 57 (.move (.tmp 131)) (some 132) none (.bool true) (by kernel_rfl) (by kernel_rfl) (by kernel_rfl) (fun _ _ _ h => h) (fun o wq e hS => exec_move wq e (by kernel_rfl)) X6.out ?_
      refine takeG 58 (.move (.tmp 3)) (some 133) (some (57, true)) (.pointer (some ⟨r, 0, none⟩)) (by kernel_rfl) (by kernel_rfl) (by kernel_rfl) (fun _ _ _ h => h) (fun o wq e hS => exec_move wq e (by kernel_rfl)) X6.out ?_
      refine takeG 59 (.fieldAddr 60 (.tmp 1) 2) (some 134) (some (57, true)) (.pointer (some ⟨w.heap.size, 2, none⟩)) (by kernel_rfl) (by kernel_rfl) (by kernel_rfl) (fun _ _ _ h => h) (fun o wq e hS => exec_field (u := .pointer (some ⟨w.heap.size, 0, none⟩)) wq e (by kernel_rfl) (by kernel_rfl)) X6.out ?_
      refine takeG 60 (.load 3 (.tmp 134)) (some 135) (some (57, true)) (.int .i64 dr) (by kernel_rfl) (by kernel_rfl) (by kernel_rfl) (fun _ _ _ h => h) (fun o wq e hS => exec_load (x := (.tmp 134)) e (by kernel_rfl) (load_one Try.underlying3 rfl (hS.cell 2))) X6.out ?_
      refine loneG 61 (.call ⟨.value (.func 15), #[(.tmp 133), (.tmp 135)], #[25, 3]⟩) (some 136) (some (57, true)) (by kernel_rfl) (by kernel_rfl) (by kernel_rfl) ?_
      intro o ho hod
      refine wp_callC (f := 15) (args := #[.pointer (some ⟨r, 0, none⟩), .int .i64 dr]) (by cases o; cases ho; kernel_rfl) (gone_is _ r _ dr false R6.out (by rw [HN.out]; rfl)) ?_
      rintro e w' ⟨rfl, rfl⟩
      refine ⟨.bool false, rfl, ?_⟩
      rw [hod]
      clear hod ho
      skip
      refine ⟨fun _ => X6.out, ?_⟩
      refine takeG 62 (.unOp .not 4 (.tmp 136)) (some 137) (some (57, true)) (.bool true) (by kernel_rfl) (by kernel_rfl) (by kernel_rfl) (fun _ _ _ h => h) (fun o wq e hS => exec_un (u := .bool false) wq e (by kernel_rfl) (by kernel_rfl)) X6.out ?_
      refine takeG 63 (.pick (.tmp 132) (.tmp 137) (.const (Value.bool false))) (some 138) none (.bool true) (by kernel_rfl) (by kernel_rfl) (by kernel_rfl) (fun _ _ _ h => h) (fun o wq e hS => exec_pick (b := true) wq e (by kernel_rfl) (by kernel_rfl)) X6.out ?_
      refine lastS 64 (.assign (.tmp 138)) (some 2) (.bool true) (by kernel_rfl) (by kernel_rfl) (by kernel_rfl) X6.out (fun o e => exec_assign _ e (by kernel_rfl)) ?_
      simp only [put_some, put_none, List.setIfInBounds_toArray, List.set_cons_succ, List.set_cons_zero]
      go_wp2_with fail
      go_ret
      exact ⟨rfl, L6.out⟩
end rackPlaces
end Go.Proofs.Ytafflhnmkfbcnaa
