/-
  The document's 'New' of a space by a contract. Conditions: what is handed in can be read; numbers of 64 bits.
-/
import Derived.Test.YtpbojhjbjnoihaaRefR
import Derived.Test.YtpbojhjbjnoihaaSpcNewU
import Derived.Test.YtpbojhjbjnoihaaGenArgs
namespace Go.Proofs.Ytpbojhjbjnoihaa
open Go Go.RowKit
set_option maxRecDepth 100000
set_option linter.unusedVariables false
namespace Rf
open Sp
/-- the document's space keeps s -/
def RefS (w : World) (O : Nat → Prop) (b : Nat) (s : SS) : Prop := Sp.Good s ∧ ∃ f, RefM w O b s.cells f (s.kept : Int) ∧ Tells f s
theorem RefS.keep {w w' : World} {O : Nat → Prop} {b : Nat} {s : SS} (h : RefS w O b s) (hb : Below w.heap.size w w') : RefS w' O b s := by
  obtain ⟨h0, f, h1, h2⟩ := h
  exact ⟨h0, f, h1.keep hb, h2⟩
def RfPost (w : World) (r : Except Int SS) (er : Ending) (w' : World) : Prop :=
  match r with
  | .error e => er = .returned (.tuple #[.pointer none, .int .i64 e]) ∧ Below w.heap.size w w'
  | .ok s => ∃ b, er = .returned (.tuple #[.pointer (some ⟨b, 0, none⟩), .int .i64 0]) ∧ RefS w' (fun g => w.heap.size ≤ g) b s ∧ Below w.heap.size w w'
theorem index_ref (b o n c i : Nat) (h : i < n) (w : World) : (Instr.indexAt 22 (.slice (some ⟨b, o, none⟩) n c) (.int .i64 (i : Int))).run Try.prog w = .ok (.pointer (some ⟨b, o + i * 2, none⟩)) w :=
  Gr.index_gen Try.underlying22 (by kernel_rfl) b o n c i h w
theorem lss_is (a b : Int) (r : Bool) (h : decide (a < b) = r) (W : World) : (binOp .lss 3 (.int .i64 a) (.int .i64 b)).run Try.prog W = .ok (.bool r) W := by rw [← h]; rfl
theorem gtr_is (a b : Int) (r : Bool) (h : decide (b < a) = r) (W : World) : (binOp .gtr 3 (.int .i64 a) (.int .i64 b)).run Try.prog W = .ok (.bool r) W := by rw [← h]; rfl
theorem geq_is (a b : Int) (r : Bool) (h : decide (b ≤ a) = r) (W : World) : (binOp .geq 3 (.int .i64 a) (.int .i64 b)).run Try.prog W = .ok (.bool r) W := by rw [← h]; rfl
theorem refnew_arg (w : World) (C : Int) (A : Option Addr) (len c : Nat) (h : C < 1 ∨ 40000 < C) :
    Calls Try.prog 14 #[.int .i64 C, .slice A len c] w fun er w' => er = .returned (.tuple #[.pointer none, .int .i64 1]) ∧ Below w.heap.size w w' := by
  by_cases h1 : C < 1
  · clear h
    go_enter Try.func14, Try.ntmps14
    go_wp2_with fail
    go_ret2
    exact ⟨rfl, Below.refl _ _⟩
  · have h2 : 40000 < C := by omega
    clear h
    go_enter Try.func14, Try.ntmps14
    go_wp2_with fail
    go_ret2
    exact ⟨rfl, Below.refl _ _⟩
def PutOk (s0 : SS) (l : List (Int × Int)) (i : Nat) (s : SS) : Prop := PutRel s0 l i s ∧ s.S 2 = [] ∧ s.kept = 0
set_option maxHeartbeats 25600000 in
theorem refnew_in (w : World) (C : Nat) (A : Option Addr) (l : List (Int × Int)) (cap : Nat) (h1 : 1 ≤ C) (h2 : C ≤ 40000) (hl : l.length ≤ 4611686018427387904) (hrd : Gr.RdG 2 Gr.cs2 w A l) (hz : ∀ r ∈ l, Gr.Z64' r.1 ∧ Gr.Z64' r.2) :
    Calls Try.prog 14 #[.int .i64 (C : Int), .slice A l.length cap] w fun er w' => RfPost w (newS (C : Int) l) er w' := by
  have hnew : newS (C : Int) l = if l.all (fitsZ C) then (match putAll (allFree C) l with | some s => .ok s | none => .error 8) else .error 2 := by
    unfold newS
    rw [if_neg (by omega)]
    rfl
  have HNEW := Lib.hid hnew
  have HMK := Lib.hid (fun w : World => Ir.make_ints C (by omega) w (C : Int) rfl)
  obtain ⟨nl, hn⟩ : ∃ nl, nl = l.length := ⟨_, rfl⟩
  have HN := Lib.hid hn
  have HRD := Lib.hid hrd
  have HZ := Lib.hid hz
  obtain ⟨R, hR⟩ : ∃ R, R = newS (C : Int) l := ⟨_, rfl⟩
  have HR := Lib.hid hR
  rw [← hn] at hl ⊢
  rw [← hR]
  clear hn hrd hz hnew hR
  have hC1 : ¬ ((C : Int) < 1) := by omega
  have hC2 : ¬ ((40000 : Int) < (C : Int)) := by omega
  go_enter Try.func14, Try.ntmps14
  go_wp2_with fail
  go_loopw [6] (fun y wr => ∃ i : Nat, i ≤ nl ∧ y = .int .i64 (i : Int) ∧ Hid ((l.take i).all (fitsZ C) = true) ∧ Hid (Below w.heap.size w wr)) (fun y _ => nl - (intOf y).toNat)
  case atStart => exact ⟨0, by omega, rfl, Lib.hid rfl, Lib.hid (Below.refl _ _)⟩
  case round =>
    obtain ⟨i, hi, rfl, HALL, L0⟩ := hrel
    by_cases hlt : i < nl
    · have i1 : (i : Int) < (nl : Int) := by omega
      have hil : i < l.length := by have := HN.out; omega
      obtain ⟨r, hr⟩ : ∃ r, r = l[i] := ⟨_, rfl⟩
      have hri : l[i]? = some r := by rw [hr]; exact List.getElem?_eq_getElem hil
      obtain ⟨g, o, hA, hgb, kk⟩ := (HRD.out.below L0.out) i r hri
      have k1 := kk 0 (.int .i64 r.1) rfl
      have k2 := kk 1 (.int .i64 r.2) rfl
      rw [Nat.add_zero] at k1
      obtain ⟨⟨z1, z2⟩, z3, z4⟩ := HZ.out r (List.mem_of_getElem? hri)
      have HNE : Hid (fitsZ C r = false → R = .error 2) := Lib.hid fun e2 => by
        rw [HR.out, HNEW.out, not_all hri e2]
        rfl
      have HAL : Hid (fitsZ C r = true → (l.take (i + 1)).all (fitsZ C) = true) := Lib.hid fun e => all_to HALL.out hri e
      obtain ⟨x, y⟩ := r
      dsimp only at z1 z2 z3 z4 k1 k2
      subst hA
      have HS := Lib.hid (⟨k1, k2⟩ : wr.drew.cell? ⟨g, o + i * 2, none⟩ = some (.int .i64 x) ∧ wr.drew.cell? ⟨g, o + i * 2 + 1, none⟩ = some (.int .i64 y))
      have L1 := Lib.hid L0.out.drew
      clear hri hr hil kk hgb k1 k2 HALL L0
      by_cases g1 : x < 0
      · have HQ : Hid (R = .error 2) := Lib.hid (HNE.out (by unfold fitsZ; simp; omega))
        have e1 : decide (x < 0) = true := by simp [g1]
        clear HNE HAL
        go_upto_region 6 with (fail)
        refine region_anyZ (fun w' => w'.cell? ⟨g, o + i * 2, none⟩ = some (.int .i64 x) ∧ w'.cell? ⟨g, o + i * 2 + 1, none⟩ = some (.int .i64 y)) 28 (by kernel_rfl) ?_
        refine takeG 0 (.move (.tmp 1)) (some 22) none (.slice (some ⟨g, o, none⟩) nl cap) (by kernel_rfl) (by kernel_rfl) (by kernel_rfl) (fun _ _ _ h => h) (fun o' wq e hS => exec_move wq e (by kernel_rfl)) HS.out ?_
        refine takeG 1 (.move (.tmp 6)) (some 23) none (.int .i64 (i : Int)) (by kernel_rfl) (by kernel_rfl) (by kernel_rfl) (fun _ _ _ h => h) (fun o' wq e hS => exec_move wq e (by kernel_rfl)) HS.out ?_
        refine takeG 2 (.indexAddr 22 (.tmp 22) (.tmp 23)) (some 24) none (.pointer (some ⟨g, o + i * 2, none⟩)) (by kernel_rfl) (by kernel_rfl) (by kernel_rfl) (fun _ _ _ h => h) (fun o' wq e hS => exec_index (u1 := .slice (some ⟨g, o, none⟩) nl cap) (u2 := .int .i64 (i : Int)) wq e (by kernel_rfl) (by kernel_rfl) (index_ref g o nl cap i hlt _)) HS.out ?_
        refine takeG 3 (.fieldAddr 33 (.tmp 24) 0) (some 25) none (.pointer (some ⟨g, o + i * 2, none⟩)) (by kernel_rfl) (by kernel_rfl) (by kernel_rfl) (fun _ _ _ h => h) (fun o' wq e hS => exec_field (u := .pointer (some ⟨g, o + i * 2, none⟩)) wq e (by kernel_rfl) (by kernel_rfl)) HS.out ?_
        refine takeG 4 (.load 3 (.tmp 25)) (some 26) none (.int .i64 x) (by kernel_rfl) (by kernel_rfl) (by kernel_rfl) (fun _ _ _ h => h) (fun o' wq e hS => exec_load (x := (.tmp 25)) e (by kernel_rfl) (load_one Try.underlying3 (by kernel_rfl) hS.1)) HS.out ?_
        refine takeG 5 (.binOp .lss 3 (.tmp 26) (.const (.int .i64 0)) 3) (some 27) none (.bool true) (by kernel_rfl) (by kernel_rfl) (by kernel_rfl) (fun _ _ _ h => h) (fun o' wq e hS => exec_bin (u1 := .int .i64 x) (u2 := (.int .i64 0)) wq e (by kernel_rfl) (by kernel_rfl) (eqG_int ..) (lss_is x 0 _ e1 _)) HS.out ?_
        refine takeG 6 (.move (.tmp 27)) (some 28) none (.bool true) (by kernel_rfl) (by kernel_rfl) (by kernel_rfl) (fun _ _ _ h => h) (fun o' wq e hS => exec_move wq e (by kernel_rfl)) HS.out ?_
        refine takeSkip 7 (.move (.tmp 1)) (some 29) (some (6, false)) (by kernel_rfl) (by kernel_rfl) (by kernel_rfl) (fun _ _ _ h => h) HS.out ?_
        refine takeSkip 8 (.move (.tmp 6)) (some 30) (some (6, false)) (by kernel_rfl) (by kernel_rfl) (by kernel_rfl) (fun _ _ _ h => h) HS.out ?_
        refine takeSkip 9 (.indexAddr 22 (.tmp 29) (.tmp 30)) (some 31) (some (6, false)) (by kernel_rfl) (by kernel_rfl) (by kernel_rfl) (fun _ _ _ h => h) HS.out ?_
        refine takeSkip 10 (.fieldAddr 33 (.tmp 31) 1) (some 32) (some (6, false)) (by kernel_rfl) (by kernel_rfl) (by kernel_rfl) (fun _ _ _ h => h) HS.out ?_
        refine takeSkip 11 (.load 3 (.tmp 32)) (some 33) (some (6, false)) (by kernel_rfl) (by kernel_rfl) (by kernel_rfl) (fun _ _ _ h => h) HS.out ?_
        refine takeSkip 12 (.move (.tmp 0)) (some 34) (some (6, false)) (by kernel_rfl) (by kernel_rfl) (by kernel_rfl) (fun _ _ _ h => h) HS.out ?_
        refine takeSkip 13 (.binOp .gtr 3 (.tmp 33) (.tmp 34) 3) (some 35) (some (6, false)) (by kernel_rfl) (by kernel_rfl) (by kernel_rfl) (fun _ _ _ h => h) HS.out ?_
        refine takeG 14 (.pick (.tmp 28) (.const (Value.bool true)) (.tmp 35)) (some 36) none (.bool true) (by kernel_rfl) (by kernel_rfl) (by kernel_rfl) (fun _ _ _ h => h) (fun o' wq e hS => exec_pick (b := true) wq e (by kernel_rfl) (by kernel_rfl)) HS.out ?_
        refine takeG 15 (.move (.tmp 36)) (some 37) none (.bool true) (by kernel_rfl) (by kernel_rfl) (by kernel_rfl) (fun _ _ _ h => h) (fun o' wq e hS => exec_move wq e (by kernel_rfl)) HS.out ?_
        refine takeSkip 16 (.move (.tmp 1)) (some 38) (some (15, false)) (by kernel_rfl) (by kernel_rfl) (by kernel_rfl) (fun _ _ _ h => h) HS.out ?_
        refine takeSkip 17 (.move (.tmp 6)) (some 39) (some (15, false)) (by kernel_rfl) (by kernel_rfl) (by kernel_rfl) (fun _ _ _ h => h) HS.out ?_
        refine takeSkip 18 (.indexAddr 22 (.tmp 38) (.tmp 39)) (some 40) (some (15, false)) (by kernel_rfl) (by kernel_rfl) (by kernel_rfl) (fun _ _ _ h => h) HS.out ?_
        refine takeSkip 19 (.fieldAddr 33 (.tmp 40) 0) (some 41) (some (15, false)) (by kernel_rfl) (by kernel_rfl) (by kernel_rfl) (fun _ _ _ h => h) HS.out ?_
        refine takeSkip 20 (.load 3 (.tmp 41)) (some 42) (some (15, false)) (by kernel_rfl) (by kernel_rfl) (by kernel_rfl) (fun _ _ _ h => h) HS.out ?_
        refine takeSkip 21 (.move (.tmp 1)) (some 43) (some (15, false)) (by kernel_rfl) (by kernel_rfl) (by kernel_rfl) (fun _ _ _ h => h) HS.out ?_
        refine takeSkip 22 (.move (.tmp 6)) (some 44) (some (15, false)) (by kernel_rfl) (by kernel_rfl) (by kernel_rfl) (fun _ _ _ h => h) HS.out ?_
        refine takeSkip 23 (.indexAddr 22 (.tmp 43) (.tmp 44)) (some 45) (some (15, false)) (by kernel_rfl) (by kernel_rfl) (by kernel_rfl) (fun _ _ _ h => h) HS.out ?_
        refine takeSkip 24 (.fieldAddr 33 (.tmp 45) 1) (some 46) (some (15, false)) (by kernel_rfl) (by kernel_rfl) (by kernel_rfl) (fun _ _ _ h => h) HS.out ?_
        refine takeSkip 25 (.load 3 (.tmp 46)) (some 47) (some (15, false)) (by kernel_rfl) (by kernel_rfl) (by kernel_rfl) (fun _ _ _ h => h) HS.out ?_
        refine takeSkip 26 (.binOp .geq 3 (.tmp 42) (.tmp 47) 3) (some 48) (some (15, false)) (by kernel_rfl) (by kernel_rfl) (by kernel_rfl) (fun _ _ _ h => h) HS.out ?_
        refine lastS 27 (.pick (.tmp 37) (.const (Value.bool true)) (.tmp 48)) (some 49) (.bool true) (by kernel_rfl) (by kernel_rfl) (by kernel_rfl) HS.out (fun o' e => exec_pick (b := true) _ e (by kernel_rfl) (by kernel_rfl)) ?_
        simp only [put_some, put_none, List.setIfInBounds_toArray, List.set_cons_succ, List.set_cons_zero]
        go_wp2_with fail
        go_ret2
        rw [HQ.out]
        exact ⟨rfl, L1.out⟩
      · have e1 : decide (x < 0) = false := by simp; omega
        by_cases g2 : (C : Int) < y
        · have HQ : Hid (R = .error 2) := Lib.hid (HNE.out (by unfold fitsZ; simp; omega))
          have e2 : decide ((C : Int) < y) = true := by simp [g2]
          clear HNE HAL
          go_upto_region 6 with (fail)
          refine region_anyZ (fun w' => w'.cell? ⟨g, o + i * 2, none⟩ = some (.int .i64 x) ∧ w'.cell? ⟨g, o + i * 2 + 1, none⟩ = some (.int .i64 y)) 28 (by kernel_rfl) ?_
          refine takeG 0 (.move (.tmp 1)) (some 22) none (.slice (some ⟨g, o, none⟩) nl cap) (by kernel_rfl) (by kernel_rfl) (by kernel_rfl) (fun _ _ _ h => h) (fun o' wq e hS => exec_move wq e (by kernel_rfl)) HS.out ?_
          refine takeG 1 (.move (.tmp 6)) (some 23) none (.int .i64 (i : Int)) (by kernel_rfl) (by kernel_rfl) (by kernel_rfl) (fun _ _ _ h => h) (fun o' wq e hS => exec_move wq e (by kernel_rfl)) HS.out ?_
          refine takeG 2 (.indexAddr 22 (.tmp 22) (.tmp 23)) (some 24) none (.pointer (some ⟨g, o + i * 2, none⟩)) (by kernel_rfl) (by kernel_rfl) (by kernel_rfl) (fun _ _ _ h => h) (fun o' wq e hS => exec_index (u1 := .slice (some ⟨g, o, none⟩) nl cap) (u2 := .int .i64 (i : Int)) wq e (by kernel_rfl) (by kernel_rfl) (index_ref g o nl cap i hlt _)) HS.out ?_
          refine takeG 3 (.fieldAddr 33 (.tmp 24) 0) (some 25) none (.pointer (some ⟨g, o + i * 2, none⟩)) (by kernel_rfl) (by kernel_rfl) (by kernel_rfl) (fun _ _ _ h => h) (fun o' wq e hS => exec_field (u := .pointer (some ⟨g, o + i * 2, none⟩)) wq e (by kernel_rfl) (by kernel_rfl)) HS.out ?_
          refine takeG 4 (.load 3 (.tmp 25)) (some 26) none (.int .i64 x) (by kernel_rfl) (by kernel_rfl) (by kernel_rfl) (fun _ _ _ h => h) (fun o' wq e hS => exec_load (x := (.tmp 25)) e (by kernel_rfl) (load_one Try.underlying3 (by kernel_rfl) hS.1)) HS.out ?_
          refine takeG 5 (.binOp .lss 3 (.tmp 26) (.const (.int .i64 0)) 3) (some 27) none (.bool false) (by kernel_rfl) (by kernel_rfl) (by kernel_rfl) (fun _ _ _ h => h) (fun o' wq e hS => exec_bin (u1 := .int .i64 x) (u2 := (.int .i64 0)) wq e (by kernel_rfl) (by kernel_rfl) (eqG_int ..) (lss_is x 0 _ e1 _)) HS.out ?_
          refine takeG 6 (.move (.tmp 27)) (some 28) none (.bool false) (by kernel_rfl) (by kernel_rfl) (by kernel_rfl) (fun _ _ _ h => h) (fun o' wq e hS => exec_move wq e (by kernel_rfl)) HS.out ?_
          refine takeG 7 (.move (.tmp 1)) (some 29) (some (6, false)) (.slice (some ⟨g, o, none⟩) nl cap) (by kernel_rfl) (by kernel_rfl) (by kernel_rfl) (fun _ _ _ h => h) (fun o' wq e hS => exec_move wq e (by kernel_rfl)) HS.out ?_
          refine takeG 8 (.move (.tmp 6)) (some 30) (some (6, false)) (.int .i64 (i : Int)) (by kernel_rfl) (by kernel_rfl) (by kernel_rfl) (fun _ _ _ h => h) (fun o' wq e hS => exec_move wq e (by kernel_rfl)) HS.out ?_
          refine takeG 9 (.indexAddr 22 (.tmp 29) (.tmp 30)) (some 31) (some (6, false)) (.pointer (some ⟨g, o + i * 2, none⟩)) (by kernel_rfl) (by kernel_rfl) (by kernel_rfl) (fun _ _ _ h => h) (fun o' wq e hS => exec_index (u1 := .slice (some ⟨g, o, none⟩) nl cap) (u2 := .int .i64 (i : Int)) wq e (by kernel_rfl) (by kernel_rfl) (index_ref g o nl cap i hlt _)) HS.out ?_
          refine takeG 10 (.fieldAddr 33 (.tmp 31) 1) (some 32) (some (6, false)) (.pointer (some ⟨g, o + i * 2 + 1, none⟩)) (by kernel_rfl) (by kernel_rfl) (by kernel_rfl) (fun _ _ _ h => h) (fun o' wq e hS => exec_field (u := .pointer (some ⟨g, o + i * 2, none⟩)) wq e (by kernel_rfl) (by kernel_rfl)) HS.out ?_
          refine takeG 11 (.load 3 (.tmp 32)) (some 33) (some (6, false)) (.int .i64 y) (by kernel_rfl) (by kernel_rfl) (by kernel_rfl) (fun _ _ _ h => h) (fun o' wq e hS => exec_load (x := (.tmp 32)) e (by kernel_rfl) (load_one Try.underlying3 (by kernel_rfl) hS.2)) HS.out ?_
          refine takeG 12 (.move (.tmp 0)) (some 34) (some (6, false)) (.int .i64 (C : Int)) (by kernel_rfl) (by kernel_rfl) (by kernel_rfl) (fun _ _ _ h => h) (fun o' wq e hS => exec_move wq e (by kernel_rfl)) HS.out ?_
          refine takeG 13 (.binOp .gtr 3 (.tmp 33) (.tmp 34) 3) (some 35) (some (6, false)) (.bool true) (by kernel_rfl) (by kernel_rfl) (by kernel_rfl) (fun _ _ _ h => h) (fun o' wq e hS => exec_bin (u1 := .int .i64 y) (u2 := .int .i64 (C : Int)) wq e (by kernel_rfl) (by kernel_rfl) (eqG_int ..) (gtr_is y (C : Int) _ e2 _)) HS.out ?_
          refine takeG 14 (.pick (.tmp 28) (.const (Value.bool true)) (.tmp 35)) (some 36) none (.bool true) (by kernel_rfl) (by kernel_rfl) (by kernel_rfl) (fun _ _ _ h => h) (fun o' wq e hS => exec_pick (b := false) wq e (by kernel_rfl) (by kernel_rfl)) HS.out ?_
          refine takeG 15 (.move (.tmp 36)) (some 37) none (.bool true) (by kernel_rfl) (by kernel_rfl) (by kernel_rfl) (fun _ _ _ h => h) (fun o' wq e hS => exec_move wq e (by kernel_rfl)) HS.out ?_
          refine takeSkip 16 (.move (.tmp 1)) (some 38) (some (15, false)) (by kernel_rfl) (by kernel_rfl) (by kernel_rfl) (fun _ _ _ h => h) HS.out ?_
          refine takeSkip 17 (.move (.tmp 6)) (some 39) (some (15, false)) (by kernel_rfl) (by kernel_rfl) (by kernel_rfl) (fun _ _ _ h => h) HS.out ?_
          refine takeSkip 18 (.indexAddr 22 (.tmp 38) (.tmp 39)) (some 40) (some (15, false)) (by kernel_rfl) (by kernel_rfl) (by kernel_rfl) (fun _ _ _ h => h) HS.out ?_
          refine takeSkip 19 (.fieldAddr 33 (.tmp 40) 0) (some 41) (some (15, false)) (by kernel_rfl) (by kernel_rfl) (by kernel_rfl) (fun _ _ _ h => h) HS.out ?_
          refine takeSkip 20 (.load 3 (.tmp 41)) (some 42) (some (15, false)) (by kernel_rfl) (by kernel_rfl) (by kernel_rfl) (fun _ _ _ h => h) HS.out ?_
          refine takeSkip 21 (.move (.tmp 1)) (some 43) (some (15, false)) (by kernel_rfl) (by kernel_rfl) (by kernel_rfl) (fun _ _ _ h => h) HS.out ?_
          refine takeSkip 22 (.move (.tmp 6)) (some 44) (some (15, false)) (by kernel_rfl) (by kernel_rfl) (by kernel_rfl) (fun _ _ _ h => h) HS.out ?_
          refine takeSkip 23 (.indexAddr 22 (.tmp 43) (.tmp 44)) (some 45) (some (15, false)) (by kernel_rfl) (by kernel_rfl) (by kernel_rfl) (fun _ _ _ h => h) HS.out ?_
          refine takeSkip 24 (.fieldAddr 33 (.tmp 45) 1) (some 46) (some (15, false)) (by kernel_rfl) (by kernel_rfl) (by kernel_rfl) (fun _ _ _ h => h) HS.out ?_
          refine takeSkip 25 (.load 3 (.tmp 46)) (some 47) (some (15, false)) (by kernel_rfl) (by kernel_rfl) (by kernel_rfl) (fun _ _ _ h => h) HS.out ?_
          refine takeSkip 26 (.binOp .geq 3 (.tmp 42) (.tmp 47) 3) (some 48) (some (15, false)) (by kernel_rfl) (by kernel_rfl) (by kernel_rfl) (fun _ _ _ h => h) HS.out ?_
          refine lastS 27 (.pick (.tmp 37) (.const (Value.bool true)) (.tmp 48)) (some 49) (.bool true) (by kernel_rfl) (by kernel_rfl) (by kernel_rfl) HS.out (fun o' e => exec_pick (b := true) _ e (by kernel_rfl) (by kernel_rfl)) ?_
          simp only [put_some, put_none, List.setIfInBounds_toArray, List.set_cons_succ, List.set_cons_zero]
          go_wp2_with fail
          go_ret2
          rw [HQ.out]
          exact ⟨rfl, L1.out⟩
        · have e2 : decide ((C : Int) < y) = false := by simp; omega
          by_cases g3 : y ≤ x
          · have HQ : Hid (R = .error 2) := Lib.hid (HNE.out (by unfold fitsZ; simp; omega))
            have e3 : decide (y ≤ x) = true := by simp [g3]
            clear HNE HAL
            go_upto_region 6 with (fail)
            refine region_anyZ (fun w' => w'.cell? ⟨g, o + i * 2, none⟩ = some (.int .i64 x) ∧ w'.cell? ⟨g, o + i * 2 + 1, none⟩ = some (.int .i64 y)) 28 (by kernel_rfl) ?_
            refine takeG 0 (.move (.tmp 1)) (some 22) none (.slice (some ⟨g, o, none⟩) nl cap) (by kernel_rfl) (by kernel_rfl) (by kernel_rfl) (fun _ _ _ h => h) (fun o' wq e hS => exec_move wq e (by kernel_rfl)) HS.out ?_
            refine takeG 1 (.move (.tmp 6)) (some 23) none (.int .i64 (i : Int)) (by kernel_rfl) (by kernel_rfl) (by kernel_rfl) (fun _ _ _ h => h) (fun o' wq e hS => exec_move wq e (by kernel_rfl)) HS.out ?_
            refine takeG 2 (.indexAddr 22 (.tmp 22) (.tmp 23)) (some 24) none (.pointer (some ⟨g, o + i * 2, none⟩)) (by kernel_rfl) (by kernel_rfl) (by kernel_rfl) (fun _ _ _ h => h) (fun o' wq e hS => exec_index (u1 := .slice (some ⟨g, o, none⟩) nl cap) (u2 := .int .i64 (i : Int)) wq e (by kernel_rfl) (by kernel_rfl) (index_ref g o nl cap i hlt _)) HS.out ?_
            refine takeG 3 (.fieldAddr 33 (.tmp 24) 0) (some 25) none (.pointer (some ⟨g, o + i * 2, none⟩)) (by kernel_rfl) (by kernel_rfl) (by kernel_rfl) (fun _ _ _ h => h) (fun o' wq e hS => exec_field (u := .pointer (some ⟨g, o + i * 2, none⟩)) wq e (by kernel_rfl) (by kernel_rfl)) HS.out ?_
            refine takeG 4 (.load 3 (.tmp 25)) (some 26) none (.int .i64 x) (by kernel_rfl) (by kernel_rfl) (by kernel_rfl) (fun _ _ _ h => h) (fun o' wq e hS => exec_load (x := (.tmp 25)) e (by kernel_rfl) (load_one Try.underlying3 (by kernel_rfl) hS.1)) HS.out ?_
            refine takeG 5 (.binOp .lss 3 (.tmp 26) (.const (.int .i64 0)) 3) (some 27) none (.bool false) (by kernel_rfl) (by kernel_rfl) (by kernel_rfl) (fun _ _ _ h => h) (fun o' wq e hS => exec_bin (u1 := .int .i64 x) (u2 := (.int .i64 0)) wq e (by kernel_rfl) (by kernel_rfl) (eqG_int ..) (lss_is x 0 _ e1 _)) HS.out ?_
            refine takeG 6 (.move (.tmp 27)) (some 28) none (.bool false) (by kernel_rfl) (by kernel_rfl) (by kernel_rfl) (fun _ _ _ h => h) (fun o' wq e hS => exec_move wq e (by kernel_rfl)) HS.out ?_
            refine takeG 7 (.move (.tmp 1)) (some 29) (some (6, false)) (.slice (some ⟨g, o, none⟩) nl cap) (by kernel_rfl) (by kernel_rfl) (by kernel_rfl) (fun _ _ _ h => h) (fun o' wq e hS => exec_move wq e (by kernel_rfl)) HS.out ?_
            refine takeG 8 (.move (.tmp 6)) (some 30) (some (6, false)) (.int .i64 (i : Int)) (by kernel_rfl) (by kernel_rfl) (by kernel_rfl) (fun _ _ _ h => h) (fun o' wq e hS => exec_move wq e (by kernel_rfl)) HS.out ?_
            refine takeG 9 (.indexAddr 22 (.tmp 29) (.tmp 30)) (some 31) (some (6, false)) (.pointer (some ⟨g, o + i * 2, none⟩)) (by kernel_rfl) (by kernel_rfl) (by kernel_rfl) (fun _ _ _ h => h) (fun o' wq e hS => exec_index (u1 := .slice (some ⟨g, o, none⟩) nl cap) (u2 := .int .i64 (i : Int)) wq e (by kernel_rfl) (by kernel_rfl) (index_ref g o nl cap i hlt _)) HS.out ?_
            refine takeG 10 (.fieldAddr 33 (.tmp 31) 1) (some 32) (some (6, false)) (.pointer (some ⟨g, o + i * 2 + 1, none⟩)) (by kernel_rfl) (by kernel_rfl) (by kernel_rfl) (fun _ _ _ h => h) (fun o' wq e hS => exec_field (u := .pointer (some ⟨g, o + i * 2, none⟩)) wq e (by kernel_rfl) (by kernel_rfl)) HS.out ?_
            refine takeG 11 (.load 3 (.tmp 32)) (some 33) (some (6, false)) (.int .i64 y) (by kernel_rfl) (by kernel_rfl) (by kernel_rfl) (fun _ _ _ h => h) (fun o' wq e hS => exec_load (x := (.tmp 32)) e (by kernel_rfl) (load_one Try.underlying3 (by kernel_rfl) hS.2)) HS.out ?_
            refine takeG 12 (.move (.tmp 0)) (some 34) (some (6, false)) (.int .i64 (C : Int)) (by kernel_rfl) (by kernel_rfl) (by kernel_rfl) (fun _ _ _ h => h) (fun o' wq e hS => exec_move wq e (by kernel_rfl)) HS.out ?_
            refine takeG 13 (.binOp .gtr 3 (.tmp 33) (.tmp 34) 3) (some 35) (some (6, false)) (.bool false) (by kernel_rfl) (by kernel_rfl) (by kernel_rfl) (fun _ _ _ h => h) (fun o' wq e hS => exec_bin (u1 := .int .i64 y) (u2 := .int .i64 (C : Int)) wq e (by kernel_rfl) (by kernel_rfl) (eqG_int ..) (gtr_is y (C : Int) _ e2 _)) HS.out ?_
            refine takeG 14 (.pick (.tmp 28) (.const (Value.bool true)) (.tmp 35)) (some 36) none (.bool false) (by kernel_rfl) (by kernel_rfl) (by kernel_rfl) (fun _ _ _ h => h) (fun o' wq e hS => exec_pick (b := false) wq e (by kernel_rfl) (by kernel_rfl)) HS.out ?_
            refine takeG 15 (.move (.tmp 36)) (some 37) none (.bool false) (by kernel_rfl) (by kernel_rfl) (by kernel_rfl) (fun _ _ _ h => h) (fun o' wq e hS => exec_move wq e (by kernel_rfl)) HS.out ?_
            refine takeG 16 (.move (.tmp 1)) (some 38) (some (15, false)) (.slice (some ⟨g, o, none⟩) nl cap) (by kernel_rfl) (by kernel_rfl) (by kernel_rfl) (fun _ _ _ h => h) (fun o' wq e hS => exec_move wq e (by kernel_rfl)) HS.out ?_
            refine takeG 17 (.move (.tmp 6)) (some 39) (some (15, false)) (.int .i64 (i : Int)) (by kernel_rfl) (by kernel_rfl) (by kernel_rfl) (fun _ _ _ h => h) (fun o' wq e hS => exec_move wq e (by kernel_rfl)) HS.out ?_
            refine takeG 18 (.indexAddr 22 (.tmp 38) (.tmp 39)) (some 40) (some (15, false)) (.pointer (some ⟨g, o + i * 2, none⟩)) (by kernel_rfl) (by kernel_rfl) (by kernel_rfl) (fun _ _ _ h => h) (fun o' wq e hS => exec_index (u1 := .slice (some ⟨g, o, none⟩) nl cap) (u2 := .int .i64 (i : Int)) wq e (by kernel_rfl) (by kernel_rfl) (index_ref g o nl cap i hlt _)) HS.out ?_
            refine takeG 19 (.fieldAddr 33 (.tmp 40) 0) (some 41) (some (15, false)) (.pointer (some ⟨g, o + i * 2, none⟩)) (by kernel_rfl) (by kernel_rfl) (by kernel_rfl) (fun _ _ _ h => h) (fun o' wq e hS => exec_field (u := .pointer (some ⟨g, o + i * 2, none⟩)) wq e (by kernel_rfl) (by kernel_rfl)) HS.out ?_
            refine takeG 20 (.load 3 (.tmp 41)) (some 42) (some (15, false)) (.int .i64 x) (by kernel_rfl) (by kernel_rfl) (by kernel_rfl) (fun _ _ _ h => h) (fun o' wq e hS => exec_load (x := (.tmp 41)) e (by kernel_rfl) (load_one Try.underlying3 (by kernel_rfl) hS.1)) HS.out ?_
            refine takeG 21 (.move (.tmp 1)) (some 43) (some (15, false)) (.slice (some ⟨g, o, none⟩) nl cap) (by kernel_rfl) (by kernel_rfl) (by kernel_rfl) (fun _ _ _ h => h) (fun o' wq e hS => exec_move wq e (by kernel_rfl)) HS.out ?_
            refine takeG 22 (.move (.tmp 6)) (some 44) (some (15, false)) (.int .i64 (i : Int)) (by kernel_rfl) (by kernel_rfl) (by kernel_rfl) (fun _ _ _ h => h) (fun o' wq e hS => exec_move wq e (by kernel_rfl)) HS.out ?_
            refine takeG 23 (.indexAddr 22 (.tmp 43) (.tmp 44)) (some 45) (some (15, false)) (.pointer (some ⟨g, o + i * 2, none⟩)) (by kernel_rfl) (by kernel_rfl) (by kernel_rfl) (fun _ _ _ h => h) (fun o' wq e hS => exec_index (u1 := .slice (some ⟨g, o, none⟩) nl cap) (u2 := .int .i64 (i : Int)) wq e (by kernel_rfl) (by kernel_rfl) (index_ref g o nl cap i hlt _)) HS.out ?_
            refine takeG 24 (.fieldAddr 33 (.tmp 45) 1) (some 46) (some (15, false)) (.pointer (some ⟨g, o + i * 2 + 1, none⟩)) (by kernel_rfl) (by kernel_rfl) (by kernel_rfl) (fun _ _ _ h => h) (fun o' wq e hS => exec_field (u := .pointer (some ⟨g, o + i * 2, none⟩)) wq e (by kernel_rfl) (by kernel_rfl)) HS.out ?_
            refine takeG 25 (.load 3 (.tmp 46)) (some 47) (some (15, false)) (.int .i64 y) (by kernel_rfl) (by kernel_rfl) (by kernel_rfl) (fun _ _ _ h => h) (fun o' wq e hS => exec_load (x := (.tmp 46)) e (by kernel_rfl) (load_one Try.underlying3 (by kernel_rfl) hS.2)) HS.out ?_
            refine takeG 26 (.binOp .geq 3 (.tmp 42) (.tmp 47) 3) (some 48) (some (15, false)) (.bool true) (by kernel_rfl) (by kernel_rfl) (by kernel_rfl) (fun _ _ _ h => h) (fun o' wq e hS => exec_bin (u1 := .int .i64 x) (u2 := .int .i64 y) wq e (by kernel_rfl) (by kernel_rfl) (eqG_int ..) (geq_is x y _ e3 _)) HS.out ?_
            refine lastS 27 (.pick (.tmp 37) (.const (Value.bool true)) (.tmp 48)) (some 49) (.bool true) (by kernel_rfl) (by kernel_rfl) (by kernel_rfl) HS.out (fun o' e => exec_pick (b := false) _ e (by kernel_rfl) (by kernel_rfl)) ?_
            simp only [put_some, put_none, List.setIfInBounds_toArray, List.set_cons_succ, List.set_cons_zero]
            go_wp2_with fail
            go_ret2
            rw [HQ.out]
            exact ⟨rfl, L1.out⟩
          · have e3 : decide (y ≤ x) = false := by simp; omega
            have HALL2 := Lib.hid (HAL.out (by unfold fitsZ; simp; omega))
            clear HNE HAL
            go_upto_region 6 with (fail)
            refine region_anyZ (fun w' => w'.cell? ⟨g, o + i * 2, none⟩ = some (.int .i64 x) ∧ w'.cell? ⟨g, o + i * 2 + 1, none⟩ = some (.int .i64 y)) 28 (by kernel_rfl) ?_
            refine takeG 0 (.move (.tmp 1)) (some 22) none (.slice (some ⟨g, o, none⟩) nl cap) (by kernel_rfl) (by kernel_rfl) (by kernel_rfl) (fun _ _ _ h => h) (fun o' wq e hS => exec_move wq e (by kernel_rfl)) HS.out ?_
            refine takeG 1 (.move (.tmp 6)) (some 23) none (.int .i64 (i : Int)) (by kernel_rfl) (by kernel_rfl) (by kernel_rfl) (fun _ _ _ h => h) (fun o' wq e hS => exec_move wq e (by kernel_rfl)) HS.out ?_
            refine takeG 2 (.indexAddr 22 (.tmp 22) (.tmp 23)) (some 24) none (.pointer (some ⟨g, o + i * 2, none⟩)) (by kernel_rfl) (by kernel_rfl) (by kernel_rfl) (fun _ _ _ h => h) (fun o' wq e hS => exec_index (u1 := .slice (some ⟨g, o, none⟩) nl cap) (u2 := .int .i64 (i : Int)) wq e (by kernel_rfl) (by kernel_rfl) (index_ref g o nl cap i hlt _)) HS.out ?_
            refine takeG 3 (.fieldAddr 33 (.tmp 24) 0) (some 25) none (.pointer (some ⟨g, o + i * 2, none⟩)) (by kernel_rfl) (by kernel_rfl) (by kernel_rfl) (fun _ _ _ h => h) (fun o' wq e hS => exec_field (u := .pointer (some ⟨g, o + i * 2, none⟩)) wq e (by kernel_rfl) (by kernel_rfl)) HS.out ?_
            refine takeG 4 (.load 3 (.tmp 25)) (some 26) none (.int .i64 x) (by kernel_rfl) (by kernel_rfl) (by kernel_rfl) (fun _ _ _ h => h) (fun o' wq e hS => exec_load (x := (.tmp 25)) e (by kernel_rfl) (load_one Try.underlying3 (by kernel_rfl) hS.1)) HS.out ?_
            refine takeG 5 (.binOp .lss 3 (.tmp 26) (.const (.int .i64 0)) 3) (some 27) none (.bool false) (by kernel_rfl) (by kernel_rfl) (by kernel_rfl) (fun _ _ _ h => h) (fun o' wq e hS => exec_bin (u1 := .int .i64 x) (u2 := (.int .i64 0)) wq e (by kernel_rfl) (by kernel_rfl) (eqG_int ..) (lss_is x 0 _ e1 _)) HS.out ?_
            refine takeG 6 (.move (.tmp 27)) (some 28) none (.bool false) (by kernel_rfl) (by kernel_rfl) (by kernel_rfl) (fun _ _ _ h => h) (fun o' wq e hS => exec_move wq e (by kernel_rfl)) HS.out ?_
            refine takeG 7 (.move (.tmp 1)) (some 29) (some (6, false)) (.slice (some ⟨g, o, none⟩) nl cap) (by kernel_rfl) (by kernel_rfl) (by kernel_rfl) (fun _ _ _ h => h) (fun o' wq e hS => exec_move wq e (by kernel_rfl)) HS.out ?_
            refine takeG 8 (.move (.tmp 6)) (some 30) (some (6, false)) (.int .i64 (i : Int)) (by kernel_rfl) (by kernel_rfl) (by kernel_rfl) (fun _ _ _ h => h) (fun o' wq e hS => exec_move wq e (by kernel_rfl)) HS.out ?_
            refine takeG 9 (.indexAddr 22 (.tmp 29) (.tmp 30)) (some 31) (some (6, false)) (.pointer (some ⟨g, o + i * 2, none⟩)) (by kernel_rfl) (by kernel_rfl) (by kernel_rfl) (fun _ _ _ h => h) (fun o' wq e hS => exec_index (u1 := .slice (some ⟨g, o, none⟩) nl cap) (u2 := .int .i64 (i : Int)) wq e (by kernel_rfl) (by kernel_rfl) (index_ref g o nl cap i hlt _)) HS.out ?_
            refine takeG 10 (.fieldAddr 33 (.tmp 31) 1) (some 32) (some (6, false)) (.pointer (some ⟨g, o + i * 2 + 1, none⟩)) (by kernel_rfl) (by kernel_rfl) (by kernel_rfl) (fun _ _ _ h => h) (fun o' wq e hS => exec_field (u := .pointer (some ⟨g, o + i * 2, none⟩)) wq e (by kernel_rfl) (by kernel_rfl)) HS.out ?_
            refine takeG 11 (.load 3 (.tmp 32)) (some 33) (some (6, false)) (.int .i64 y) (by kernel_rfl) (by kernel_rfl) (by kernel_rfl) (fun _ _ _ h => h) (fun o' wq e hS => exec_load (x := (.tmp 32)) e (by kernel_rfl) (load_one Try.underlying3 (by kernel_rfl) hS.2)) HS.out ?_
            refine takeG 12 (.move (.tmp 0)) (some 34) (some (6, false)) (.int .i64 (C : Int)) (by kernel_rfl) (by kernel_rfl) (by kernel_rfl) (fun _ _ _ h => h) (fun o' wq e hS => exec_move wq e (by kernel_rfl)) HS.out ?_
            refine takeG 13 (.binOp .gtr 3 (.tmp 33) (.tmp 34) 3) (some 35) (some (6, false)) (.bool false) (by kernel_rfl) (by kernel_rfl) (by kernel_rfl) (fun _ _ _ h => h) (fun o' wq e hS => exec_bin (u1 := .int .i64 y) (u2 := .int .i64 (C : Int)) wq e (by kernel_rfl) (by kernel_rfl) (eqG_int ..) (gtr_is y (C : Int) _ e2 _)) HS.out ?_
            refine takeG 14 (.pick (.tmp 28) (.const (Value.bool true)) (.tmp 35)) (some 36) none (.bool false) (by kernel_rfl) (by kernel_rfl) (by kernel_rfl) (fun _ _ _ h => h) (fun o' wq e hS => exec_pick (b := false) wq e (by kernel_rfl) (by kernel_rfl)) HS.out ?_
            refine takeG 15 (.move (.tmp 36)) (some 37) none (.bool false) (by kernel_rfl) (by kernel_rfl) (by kernel_rfl) (fun _ _ _ h => h) (fun o' wq e hS => exec_move wq e (by kernel_rfl)) HS.out ?_
            refine takeG 16 (.move (.tmp 1)) (some 38) (some (15, false)) (.slice (some ⟨g, o, none⟩) nl cap) (by kernel_rfl) (by kernel_rfl) (by kernel_rfl) (fun _ _ _ h => h) (fun o' wq e hS => exec_move wq e (by kernel_rfl)) HS.out ?_
            refine takeG 17 (.move (.tmp 6)) (some 39) (some (15, false)) (.int .i64 (i : Int)) (by kernel_rfl) (by kernel_rfl) (by kernel_rfl) (fun _ _ _ h => h) (fun o' wq e hS => exec_move wq e (by kernel_rfl)) HS.out ?_
            refine takeG 18 (.indexAddr 22 (.tmp 38) (.tmp 39)) (some 40) (some (15, false)) (.pointer (some ⟨g, o + i * 2, none⟩)) (by kernel_rfl) (by kernel_rfl) (by kernel_rfl) (fun _ _ _ h => h) (fun o' wq e hS => exec_index (u1 := .slice (some ⟨g, o, none⟩) nl cap) (u2 := .int .i64 (i : Int)) wq e (by kernel_rfl) (by kernel_rfl) (index_ref g o nl cap i hlt _)) HS.out ?_
            refine takeG 19 (.fieldAddr 33 (.tmp 40) 0) (some 41) (some (15, false)) (.pointer (some ⟨g, o + i * 2, none⟩)) (by kernel_rfl) (by kernel_rfl) (by kernel_rfl) (fun _ _ _ h => h) (fun o' wq e hS => exec_field (u := .pointer (some ⟨g, o + i * 2, none⟩)) wq e (by kernel_rfl) (by kernel_rfl)) HS.out ?_
            refine takeG 20 (.load 3 (.tmp 41)) (some 42) (some (15, false)) (.int .i64 x) (by kernel_rfl) (by kernel_rfl) (by kernel_rfl) (fun _ _ _ h => h) (fun o' wq e hS => exec_load (x := (.tmp 41)) e (by kernel_rfl) (load_one Try.underlying3 (by kernel_rfl) hS.1)) HS.out ?_
            refine takeG 21 (.move (.tmp 1)) (some 43) (some (15, false)) (.slice (some ⟨g, o, none⟩) nl cap) (by kernel_rfl) (by kernel_rfl) (by kernel_rfl) (fun _ _ _ h => h) (fun o' wq e hS => exec_move wq e (by kernel_rfl)) HS.out ?_
            refine takeG 22 (.move (.tmp 6)) (some 44) (some (15, false)) (.int .i64 (i : Int)) (by kernel_rfl) (by kernel_rfl) (by kernel_rfl) (fun _ _ _ h => h) (fun o' wq e hS => exec_move wq e (by kernel_rfl)) HS.out ?_
            refine takeG 23 (.indexAddr 22 (.tmp 43) (.tmp 44)) (some 45) (some (15, false)) (.pointer (some ⟨g, o + i * 2, none⟩)) (by kernel_rfl) (by kernel_rfl) (by kernel_rfl) (fun _ _ _ h => h) (fun o' wq e hS => exec_index (u1 := .slice (some ⟨g, o, none⟩) nl cap) (u2 := .int .i64 (i : Int)) wq e (by kernel_rfl) (by kernel_rfl) (index_ref g o nl cap i hlt _)) HS.out ?_
            refine takeG 24 (.fieldAddr 33 (.tmp 45) 1) (some 46) (some (15, false)) (.pointer (some ⟨g, o + i * 2 + 1, none⟩)) (by kernel_rfl) (by kernel_rfl) (by kernel_rfl) (fun _ _ _ h => h) (fun o' wq e hS => exec_field (u := .pointer (some ⟨g, o + i * 2, none⟩)) wq e (by kernel_rfl) (by kernel_rfl)) HS.out ?_
            refine takeG 25 (.load 3 (.tmp 46)) (some 47) (some (15, false)) (.int .i64 y) (by kernel_rfl) (by kernel_rfl) (by kernel_rfl) (fun _ _ _ h => h) (fun o' wq e hS => exec_load (x := (.tmp 46)) e (by kernel_rfl) (load_one Try.underlying3 (by kernel_rfl) hS.2)) HS.out ?_
            refine takeG 26 (.binOp .geq 3 (.tmp 42) (.tmp 47) 3) (some 48) (some (15, false)) (.bool false) (by kernel_rfl) (by kernel_rfl) (by kernel_rfl) (fun _ _ _ h => h) (fun o' wq e hS => exec_bin (u1 := .int .i64 x) (u2 := .int .i64 y) wq e (by kernel_rfl) (by kernel_rfl) (eqG_int ..) (geq_is x y _ e3 _)) HS.out ?_
            refine lastS 27 (.pick (.tmp 37) (.const (Value.bool true)) (.tmp 48)) (some 49) (.bool false) (by kernel_rfl) (by kernel_rfl) (by kernel_rfl) HS.out (fun o' e => exec_pick (b := false) _ e (by kernel_rfl) (by kernel_rfl)) ?_
            simp only [put_some, put_none, List.setIfInBounds_toArray, List.set_cons_succ, List.set_cons_zero]
            clear HS
            go_wp2_with fail
            go_roundw
            case rel => exact ⟨i + 1, by omega, by go_num, HALL2, L1⟩
            case measure => simp [intOf]; omega
    · have i1 : ¬ ((i : Int) < (nl : Int)) := by omega
      have hall : l.all (fitsZ C) = true := by
        have := HALL.out
        rw [List.take_of_length_le (by have := HN.out; omega)] at this
        exact this
      have HNEW2 : Hid (newS (C : Int) l = match putAll (allFree C) l with | some s => .ok s | none => .error 8) := Lib.hid (by rw [HNEW.out, hall]; rfl)
      have HFIT : Hid (∀ r ∈ l, 0 ≤ r.1 ∧ r.1 < r.2 ∧ r.2 ≤ (C : Int)) := Lib.hid fun r hr => by
        have := List.all_eq_true.1 hall r hr
        unfold fitsZ at this
        simp at this
        omega
      obtain ⟨gh, hgh⟩ : ∃ gh, gh = wr.heap.size := ⟨_, rfl⟩
      obtain ⟨b, hb⟩ : ∃ b, b = gh + 1 := ⟨_, rfl⟩
      obtain ⟨w3, hw3⟩ : ∃ w3, w3 = (wr.alloc (.cells (Ir.intA C (fun _ => 0)) 3)).alloc (.cells #[.slice (some ⟨gh, 0, none⟩) C C, .int .i64 0] 73) := ⟨_, rfl⟩
      have hs0 : (wr.alloc (.cells (Ir.intA C (fun _ => 0)) 3)).heap.size = gh + 1 := by rw [hgh]; simp
      have hb3 : Below wr.heap.size wr w3 := by rw [hw3]; exact ((Below.refl _ _).alloc (Nat.le_refl _) _).alloc (by rw [hs0, hgh]; omega) _
      have X1 : Blk w3 gh 3 (Ir.intA C (fun _ => 0)) := by rw [hw3, hgh]; exact (Blk.new _ _ _).alloc _
      have X2 : Blk w3 b 73 #[.slice (some ⟨gh, 0, none⟩) C C, .int .i64 0] := by
        have h := Blk.new (wr.alloc (.cells (Ir.intA C (fun _ => 0)) 3)) 73 #[.slice (some ⟨gh, 0, none⟩) C C, .int .i64 0]
        rw [hs0, ← hb] at h
        rw [hw3]
        exact h
      have hge : w.heap.size ≤ wr.heap.size := L0.out.size
      have HM : Hid (RefM w3 (fun g => w.heap.size ≤ g) b C (fun _ => 0) 0) := Lib.hid ⟨gh, C, _, X2, X1, fun i hi => Ir.intA_get hi, (by show w.heap.size ≤ b; omega), (by show w.heap.size ≤ gh; omega)⟩
      have LW := Lib.hid (L0.out.trans (hb3.mono hge))
      have HP : Hid (PutOk (allFree C) l 0 (allFree C)) := Lib.hid ⟨rfl, rfl, rfl⟩
      have HT : Hid (Tells (fun _ => 0) (allFree C)) := Lib.hid (Tells.start C)
      have HGD : Hid (Sp.Good (allFree C) ∧ (allFree C).cells = C) := Lib.hid ⟨allFree_good h1 h2, rfl⟩
      have mk := HMK.out wr
      clear hall HALL HNEW L0 HZ X1 X2 hs0 hb3 hge HMK
      go_upto_region 9 with (fail)
      rw [← hgh, ← hb, ← hw3]
      clear mk hw3 hgh hb
      go_wp2_with fail
      go_loopw [8] (fun y wq => ∃ (i : Nat) (f : Nat → Int) (s : SS), i ≤ nl ∧ y = .int .i64 (i : Int) ∧ Hid (RefM wq (fun g => w.heap.size ≤ g) b C f 0) ∧ Hid (Tells f s) ∧ Hid (Sp.Good s ∧ s.cells = C) ∧ Hid (PutOk (allFree C) l i s) ∧ Hid (Below w.heap.size w wq)) (fun y _ => nl - (intOf y).toNat)
      case atStart => exact ⟨0, _, _, by omega, rfl, HM, HT, HGD, HP, LW⟩
      case round =>
        clear HM HT HGD HP LW
        obtain ⟨i, f, s, hi, rfl, HM, HT, HGD, HP, LW⟩ := hrel
        by_cases hlt : i < nl
        · have i1 : (i : Int) < (nl : Int) := by omega
          have hil : i < l.length := by have := HN.out; omega
          obtain ⟨r, hr⟩ : ∃ r, r = l[i] := ⟨_, rfl⟩
          have hri : l[i]? = some r := by rw [hr]; exact List.getElem?_eq_getElem hil
          have hf := HFIT.out r (List.mem_of_getElem? hri)
          obtain ⟨x, hx⟩ : ∃ x, x = r.1.toNat := ⟨_, rfl⟩
          obtain ⟨y, hy⟩ : ∃ y, y = r.2.toNat := ⟨_, rfl⟩
          have ex : r.1 = (x : Int) := by omega
          have ey : r.2 = (y : Int) := by omega
          have HRB : Hid (∀ wq, Below w.heap.size w wq → ∃ g o, A = some ⟨g, o, none⟩ ∧ wq.cell? ⟨g, o + i * 2, none⟩ = some (.int .i64 (x : Int)) ∧ wq.cell? ⟨g, o + i * 2 + 1, none⟩ = some (.int .i64 (y : Int))) := Lib.hid fun wq hb => by
            obtain ⟨g, o, hA, hgb, kk⟩ := (HRD.out.below hb) i r hri
            have k1 := kk 0 (.int .i64 r.1) rfl
            have k2 := kk 1 (.int .i64 r.2) rfl
            rw [Nat.add_zero, ex] at k1
            rw [ey] at k2
            exact ⟨g, o, hA, k1, k2⟩
          have HY : Hid (hasL x y (s.S 0) = true → PutOk (allFree C) l (i + 1) (s.mv 0 1 x y)) := Lib.hid fun hh => by
            have := HP.out.1.yes hri (by rw [← hx, ← hy]; exact hh)
            rw [← hx, ← hy] at this
            exact ⟨this, HP.out.2.1, HP.out.2.2⟩
          have HNO : Hid (hasL x y (s.S 0) = false → R = .error 8) := Lib.hid fun hh => by
            rw [HR.out, HNEW2.out, HP.out.1.no hri (by rw [← hx, ← hy]; exact hh)]
          have H2 := Lib.hid HP.out.2.1
          rw [ex, ey] at hf
          have hxy : x < y := by omega
          have hyb : y ≤ C := by omega
          obtain ⟨g0, o0, hA, k1, k2⟩ := HRB.out _ LW.out
          clear hri hr hil hf hx hy ex ey HP
          subst hA
          go_wp2_with fail
          have HM : Hid (RefM wr (fun g => w.heap.size ≤ g) b C (fset f x x 1) 0) := by rw [fset_none]; exact HM
          have HA0 : Hid (allB f 0 x x) := Lib.hid fun c h1 h2 => by omega
          clear k1 k2
          go_loopw [9] (fun z wq => ∃ c : Nat, x ≤ c ∧ c ≤ y ∧ z = .int .i64 (c : Int) ∧ Hid (RefM wq (fun g => w.heap.size ≤ g) b C (fset f x c 1) 0) ∧ Hid (allB f 0 x c) ∧ Hid (Below w.heap.size w wq)) (fun z _ => y - (intOf z).toNat)
          case atStart => exact ⟨x, by omega, by omega, rfl, HM, HA0, LW⟩
          case round =>
            clear HM HA0 LW
            obtain ⟨c, hc1, hc2, rfl, HM, HA0, LW⟩ := hrel
            obtain ⟨g0', o0', hA', k1, k2⟩ := HRB.out _ LW.out
            injection hA' with e1
            injection e1 with e1 e2
            subst e1 e2
            by_cases hlt : c < y
            · have t1 : (c : Int) < (y : Int) := by omega
              obtain ⟨g, cc, cs, x1, x2, x3, x4, x5⟩ := HM.out
              have hcN : (c : Int) < (C : Int) := by omega
              have c0 : wr.cell? ⟨b, 0, none⟩ = some (.slice (some ⟨g, 0, none⟩) C cc) := x1.cell 0
              have hval : fset f x c 1 c = f c := by unfold fset; rw [if_neg (by omega)]
              have hcell : wr.cell? ⟨g, c, none⟩ = some (.int .i64 (f c)) := by rw [← hval]; exact (x2.cell c).trans (x3 c (by omega))
              by_cases hfc : f c = 1
              · have hno : hasL x y (s.S 0) = false := by
                  cases hh : hasL x y (s.S 0) with
                  | false => rfl
                  | true =>
                    have := (HT.out.has HGD.out.1 (k := 0) (by omega) hxy (by rw [HGD.out.2]; exact hyb)).1 hh c hc1 hlt
                    rw [hfc] at this
                    exact absurd this (by decide)
                have HQ := Lib.hid (HNO.out hno)
                rw [hfc] at hcell
                clear hno x1 x2 x3 hval HM HA0 HT HY
                go_wp2_with fail
                go_ret2
                rw [HQ.out]
                exact ⟨rfl, LW.out⟩
              · have hf0 : f c = 0 := by
                  obtain ⟨k, hk, e1, e2⟩ := HT.out c (by rw [HGD.out.2]; omega)
                  obtain rfl | rfl | rfl : k = 0 ∨ k = 1 ∨ k = 2 := by omega
                  · exact e1
                  · exact absurd e1 hfc
                  · rw [H2.out] at e2; exact absurd e2 (mem_nil c)
                rw [hf0] at hcell
                have hbg : b ≠ g := fun e => by
                  subst e
                  unfold Blk at x1 x2
                  rw [x1] at x2
                  injection x2 with x2
                  injection x2 with _ x2
                  exact absurd x2 (by decide)
                have hfr := x2.frozen c
                have X := x2.set_ c (.int .i64 1)
                have hs : c < cs.size := (Array.getElem?_eq_some_iff.1 (x3 c (by omega))).1
                have HM2 : Hid (RefM (wr.setCell ⟨g, c, none⟩ (.int .i64 1)) (fun g => w.heap.size ≤ g) b C (fset f x (c + 1) 1) 0) := Lib.hid ⟨g, cc, _, x1.far (p := ⟨g, c, none⟩) hbg _, X, fun j hj => by
                  rw [← fset_next f hc1 1, Array.getElem?_setIfInBounds]
                  by_cases e : c = j
                  · subst e
                    rw [if_pos rfl, if_pos hs]
                    show some (Value.int .i64 1) = some (Value.int .i64 (if c = c then 1 else fset f x c 1 c))
                    rw [if_pos rfl]
                  · rw [if_neg e]
                    show cs[j]? = some (Value.int .i64 (if j = c then 1 else fset f x c 1 j))
                    rw [if_neg (fun x => e x.symm)]
                    exact x3 j hj, x4, x5⟩
                have HA2 : Hid (allB f 0 x (c + 1)) := Lib.hid fun d h1 h2 => by
                  by_cases e : d = c
                  · subst e; exact hf0
                  · exact HA0.out d h1 (by omega)
                have LW2 : Hid (Below w.heap.size w (wr.setCell ⟨g, c, none⟩ (.int .i64 1))) := Lib.hid (LW.out.setCell (p := ⟨g, c, none⟩) x5 _)
                clear X x1 x2 x3 hval HM HA0 LW hfc hf0 hs hbg
                go_wp2_with fail
                go_roundw
                case rel => exact ⟨c + 1, by omega, by omega, by go_num, HM2, HA2, LW2⟩
                case measure => simp [intOf]; omega
            · obtain rfl : c = y := by omega
              have t1 : ¬ ((c : Int) < (c : Int)) := by omega
              have hyes : hasL x c (s.S 0) = true := (HT.out.has HGD.out.1 (k := 0) (by omega) hxy (by rw [HGD.out.2]; exact hyb)).2 HA0.out
              have HT2 : Hid (Tells (fset f x c 1) (s.mv 0 1 x c)) := Lib.hid (HT.out.mv (p := 0) (t := 1) HGD.out.1 (by decide) (by decide) (by decide) hxy hyes)
              have HG2 : Hid (Sp.Good (s.mv 0 1 x c) ∧ (s.mv 0 1 x c).cells = C) := Lib.hid ⟨HGD.out.1.mv (f := 0) (t := 1) (by decide) (by decide) (by decide) hxy hyes, HGD.out.2⟩
              have HP2 := Lib.hid (HY.out hyes)
              clear hyes HT HGD HY HNO HA0 hlt
              go_wp2_with fail
              go_roundw
              case rel => exact ⟨i + 1, _, _, by omega, by go_num, HM, HT2, HG2, HP2, LW⟩
              case measure => simp [intOf]; omega
        · have i1 : ¬ ((i : Int) < (nl : Int)) := by omega
          have hq : R = .ok s := by
            have h5 := HP.out.1
            unfold PutRel at h5
            rw [List.drop_eq_nil_of_le (by have := HN.out; omega)] at h5
            rw [HR.out, HNEW2.out, h5]
            rfl
          have HQ := Lib.hid hq
          clear hq
          go_wp2_with fail
          go_ret2
          rw [HQ.out]
          exact ⟨b, rfl, ⟨HGD.out.1, f, by rw [HGD.out.2, HP.out.2.2]; exact HM.out, HT.out⟩, LW.out⟩
theorem refnew_at (w : World) (C : Int) (A : Option Addr) (l : List (Int × Int)) (c : Nat) (hl : l.length ≤ 4611686018427387904) (hrd : Gr.RdG 2 Gr.cs2 w A l) (hz : ∀ r ∈ l, Gr.Z64' r.1 ∧ Gr.Z64' r.2) :
    Calls Try.prog 14 #[.int .i64 C, .slice A l.length c] w fun er w' => RfPost w (newS C l) er w' := by
  by_cases hC : C < 1 ∨ 40000 < C
  · have e1 : newS C l = .error 1 := if_pos hC
    rw [e1]
    exact refnew_arg w C A l.length c hC
  · obtain ⟨D, hD⟩ : ∃ D : Nat, C = (D : Int) := ⟨C.toNat, by omega⟩
    subst hD
    exact refnew_in w D A l c (by omega) (by omega) hl hrd hz
end Rf
end Go.Proofs.Ytpbojhjbjnoihaa
