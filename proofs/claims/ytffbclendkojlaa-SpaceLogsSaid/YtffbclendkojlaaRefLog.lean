/-
  The document's Replay and Condense of a space by contracts. Numbers of 64 bits; what is handed in can be read.
-/
import Derived.Test.YtffbclendkojlaaRefTake
import Derived.Test.YtffbclendkojlaaSpcCond
namespace Go.Proofs.Ytffbclendkojlaa
open Go Go.RowKit
set_option maxRecDepth 100000
set_option linter.unusedVariables false
namespace Rf
open Sp
theorem index_refop (b o n c i : Nat) (h : i < n) (w : World) : (Instr.indexAt 47 (.slice (some ⟨b, o, none⟩) n c) (.int .i64 (i : Int))).run Try.prog w = .ok (.pointer (some ⟨b, o + i * 3, none⟩)) w :=
  Gr.index_gen Try.underlying47 (by kernel_rfl) b o n c i h w
theorem replay_ref_arg (w : World) (C : Int) (A : Option Addr) (len c : Nat) (h : C < 1 ∨ 40000 < C) :
    Calls Try.prog 27 #[.int .i64 C, .slice A len c] w fun er w' => er = .returned (.tuple #[.pointer none, .int .i64 1]) ∧ Below w.heap.size w w' := by
  have HB := Lib.hid (refnew_arg w C none 0 0 h)
  clear h
  go_enter Try.func27, Try.ntmps27
  go_wp2_with fail
  refine HB.out.mono ?_
  rintro e w2 ⟨rfl, hb⟩
  have L2 := Lib.hid hb
  clear hb
  go_wp2_with fail
  go_ret2
  exact ⟨rfl, L2.out⟩
theorem new_none {C : Nat} (h1 : 1 ≤ C) (h2 : C ≤ 40000) : newS (C : Int) [] = .ok (allFree C) := by
  unfold newS
  rw [if_neg (by omega)]
  rfl
set_option maxHeartbeats 25600000 in
theorem replay_ref (w : World) (C : Nat) (A : Option Addr) (l : List (Bool × Int × Int)) (cap : Nat) (h1 : 1 ≤ C) (h2 : C ≤ 40000) (hl : l.length ≤ 4611686018427387904) (hrd : Gr.RdG 3 Gr.csB w A l) (hz : ∀ r ∈ l, Gr.Z64' r.2.1 ∧ Gr.Z64' r.2.2) :
    Calls Try.prog 27 #[.int .i64 (C : Int), .slice A l.length cap] w fun er w' => RfPost w (repS (C : Int) l) er w' := by
  have hnew : repS (C : Int) l = match repAll (allFree C) l with | some s => .ok s | none => .error 2 := by
    unfold repS
    rw [if_neg (by omega)]
    rfl
  have HNEW := Lib.hid hnew
  have hb0 := refnew_in w C none [] 0 h1 h2 (by simp) (fun i r hr => by cases hr) (fun r hr => by cases hr)
  rw [new_none h1 h2] at hb0
  have HB := Lib.hid hb0
  obtain ⟨n, hn⟩ : ∃ n, n = l.length := ⟨_, rfl⟩
  have HN := Lib.hid hn
  have HRD := Lib.hid hrd
  have HZ := Lib.hid hz
  obtain ⟨R, hR⟩ : ∃ R, R = repS (C : Int) l := ⟨_, rfl⟩
  have HR := Lib.hid hR
  rw [← hn] at hl ⊢
  rw [← hR]
  clear hn hrd hz hnew hR hb0
  go_enter Try.func27, Try.ntmps27
  go_wp2_with fail
  refine HB.out.mono ?_
  rintro e w2 ⟨b, rfl, hsp, hbl⟩
  obtain ⟨O, hO⟩ : ∃ O : Nat → Prop, O = fun g => w.heap.size ≤ g := ⟨_, rfl⟩
  rw [← hO] at hsp
  have HO := Lib.hid hO
  have HSP := Lib.hid hsp
  have HL2 := Lib.hid hbl
  have HCE : Hid ((allFree C).cells = C) := Lib.hid rfl
  clear hsp hbl HB hO
  go_wp2_with fail
  go_loopw [8] (fun y wr => ∃ (i : Nat) (s : SS), i ≤ n ∧ y = .int .i64 (i : Int) ∧ Hid (RefS wr O b s) ∧ Hid (RepRel (allFree C) l i s) ∧ Hid (Below w.heap.size w wr)) (fun y _ => n - (intOf y).toNat)
  case atStart => exact ⟨0, _, by omega, rfl, HSP, Lib.hid rfl, HL2⟩
  case round =>
    clear HSP HL2
    obtain ⟨i, s, hi, rfl, HS0, HP, L0⟩ := hrel
    by_cases hlt : i < n
    · have i1 : (i : Int) < (n : Int) := by omega
      have hil : i < l.length := by have := HN.out; omega
      obtain ⟨r, hr⟩ : ∃ r, r = l[i] := ⟨_, rfl⟩
      have hri : l[i]? = some r := by rw [hr]; exact List.getElem?_eq_getElem hil
      obtain ⟨g, o, hA, hgb, kk⟩ := (HRD.out.below L0.out) i r hri
      obtain ⟨⟨z1, z2⟩, z3, z4⟩ := HZ.out r (List.mem_of_getElem? hri)
      have hst := HP.out.step hri
      obtain ⟨t, x, y⟩ := r
      dsimp only at z1 z2 z3 z4 hst
      have k0 := kk 0 (.bool t) rfl
      have k1 := kk 1 (.int .i64 x) rfl
      have k2 := kk 2 (.int .i64 y) rfl
      rw [Nat.add_zero] at k0
      have HCL : Hid (∀ W, Below w.heap.size w W → W.cell? ⟨g, o + i * 3 + 1, none⟩ = some (.int .i64 x) ∧ W.cell? ⟨g, o + i * 3 + 2, none⟩ = some (.int .i64 y)) := Lib.hid fun W hb => by
        obtain ⟨g2, o2, hA2, _, kk2⟩ := (HRD.out.below hb) i _ hri
        rw [hA] at hA2
        injection hA2 with e
        injection e with e1 e2
        subst e1 e2
        exact ⟨kk2 1 _ rfl, kk2 2 _ rfl⟩
      subst hA
      have HS := Lib.hid (⟨k1, k2⟩ : wr.drew.cell? ⟨g, o + i * 3 + 1, none⟩ = some (.int .i64 x) ∧ wr.drew.cell? ⟨g, o + i * 3 + 2, none⟩ = some (.int .i64 y))
      have HRS : Hid (RefS wr.drew O b s) := Lib.hid HS0.out
      have L1 : Hid (Below w.heap.size w wr.drew) := Lib.hid L0.out.drew
      have HBO : Hid (∀ W W', Below w.heap.size w W → Frm O W W' → Below w.heap.size w W') := Lib.hid fun W W' q1 q2 => q1.trans (q2.below (fun g hg => by rw [HO.out] at hg; exact hg) q1.size)
      have HST := Lib.hid hst
      clear hri hr hil hgb kk hst HS0 HP L0 k1 k2
      obtain ⟨hg0, f, hrm, htl⟩ := HRS.out
      have HIN := Lib.hid (in_rf hrm hg0.hc.2 x y z1 z2 z3 z4)
      by_cases hno : y < 1 ∨ x < 0 ∨ (s.cells : Int) - y < x
      · have e2 : inZ s.cells x y = false := by
          unfold inZ
          simp only [Bool.and_eq_false_iff, decide_eq_false_iff_not]
          omega
        have HQ : Hid (R = .error 2) := Lib.hid (by
          have e1 : redoS s t x y = (false, s) := if_pos hno
          rw [HR.out, HNEW.out, HST.out, e1]; rfl)
        rw [e2] at HIN
        clear hg0 hrm htl hno e2 HST HRS z1 z2 z3 z4
        cases t with
        | true =>
          go_upto_region 10 with (fail)
          refine region_anyZ (fun w' => w'.cell? ⟨g, o + i * 3 + 1, none⟩ = some (.int .i64 x) ∧ w'.cell? ⟨g, o + i * 3 + 2, none⟩ = some (.int .i64 y)) 29 (by kernel_rfl) ?_
          refine takeG 0 (.move (.tmp 6)) (some 30) none (.pointer (some ⟨b, 0, none⟩)) (by kernel_rfl) (by kernel_rfl) (by kernel_rfl) (fun _ _ _ h => h) (fun o' wq e hS => exec_move wq e (by kernel_rfl)) HS.out ?_
          refine takeG 1 (.move (.tmp 1)) (some 31) none (.slice (some ⟨g, o, none⟩) n cap) (by kernel_rfl) (by kernel_rfl) (by kernel_rfl) (fun _ _ _ h => h) (fun o' wq e hS => exec_move wq e (by kernel_rfl)) HS.out ?_
          refine takeG 2 (.move (.tmp 8)) (some 32) none (.int .i64 (i : Int)) (by kernel_rfl) (by kernel_rfl) (by kernel_rfl) (fun _ _ _ h => h) (fun o' wq e hS => exec_move wq e (by kernel_rfl)) HS.out ?_
          refine takeG 3 (.indexAddr 47 (.tmp 31) (.tmp 32)) (some 33) none (.pointer (some ⟨g, o + i * 3, none⟩)) (by kernel_rfl) (by kernel_rfl) (by kernel_rfl) (fun _ _ _ h => h) (fun o' wq e hS => exec_index (u1 := .slice (some ⟨g, o, none⟩) n cap) (u2 := .int .i64 (i : Int)) wq e (by kernel_rfl) (by kernel_rfl) (index_refop g o n cap i hlt _)) HS.out ?_
          refine takeG 4 (.fieldAddr 50 (.tmp 33) 1) (some 34) none (.pointer (some ⟨g, o + i * 3 + 1, none⟩)) (by kernel_rfl) (by kernel_rfl) (by kernel_rfl) (fun _ _ _ h => h) (fun o' wq e hS => exec_field (u := .pointer (some ⟨g, o + i * 3, none⟩)) wq e (by kernel_rfl) (by kernel_rfl)) HS.out ?_
          refine takeG 5 (.load 3 (.tmp 34)) (some 35) none (.int .i64 x) (by kernel_rfl) (by kernel_rfl) (by kernel_rfl) (fun _ _ _ h => h) (fun o' wq e hS => exec_load (x := (.tmp 34)) e (by kernel_rfl) (load_one Try.underlying3 (by kernel_rfl) hS.1)) HS.out ?_
          refine takeG 6 (.move (.tmp 1)) (some 36) none (.slice (some ⟨g, o, none⟩) n cap) (by kernel_rfl) (by kernel_rfl) (by kernel_rfl) (fun _ _ _ h => h) (fun o' wq e hS => exec_move wq e (by kernel_rfl)) HS.out ?_
          refine takeG 7 (.move (.tmp 8)) (some 37) none (.int .i64 (i : Int)) (by kernel_rfl) (by kernel_rfl) (by kernel_rfl) (fun _ _ _ h => h) (fun o' wq e hS => exec_move wq e (by kernel_rfl)) HS.out ?_
          refine takeG 8 (.indexAddr 47 (.tmp 36) (.tmp 37)) (some 38) none (.pointer (some ⟨g, o + i * 3, none⟩)) (by kernel_rfl) (by kernel_rfl) (by kernel_rfl) (fun _ _ _ h => h) (fun o' wq e hS => exec_index (u1 := .slice (some ⟨g, o, none⟩) n cap) (u2 := .int .i64 (i : Int)) wq e (by kernel_rfl) (by kernel_rfl) (index_refop g o n cap i hlt _)) HS.out ?_
          refine takeG 9 (.fieldAddr 50 (.tmp 38) 2) (some 39) none (.pointer (some ⟨g, o + i * 3 + 2, none⟩)) (by kernel_rfl) (by kernel_rfl) (by kernel_rfl) (fun _ _ _ h => h) (fun o' wq e hS => exec_field (u := .pointer (some ⟨g, o + i * 3, none⟩)) wq e (by kernel_rfl) (by kernel_rfl)) HS.out ?_
          refine takeG 10 (.load 3 (.tmp 39)) (some 40) none (.int .i64 y) (by kernel_rfl) (by kernel_rfl) (by kernel_rfl) (fun _ _ _ h => h) (fun o' wq e hS => exec_load (x := (.tmp 39)) e (by kernel_rfl) (load_one Try.underlying3 (by kernel_rfl) hS.2)) HS.out ?_
          refine loneG 11 (.call ⟨.value (.func 42), #[(.tmp 30), (.tmp 35), (.tmp 40)], #[37, 3, 3]⟩) (some 41) none (by kernel_rfl) (by kernel_rfl) (by kernel_rfl) ?_
          intro o' ho hod
          refine wp_callC (f := 42) (args := #[.pointer (some ⟨b, 0, none⟩), .int .i64 x, .int .i64 y]) (by cases o'; cases ho; kernel_rfl) HIN.out ?_
          rintro ee W4 ⟨rfl, hw⟩
          have hw := hw.symm
          subst hw
          refine ⟨.bool false, rfl, ?_⟩
          rw [hod]
          clear hod ho
          refine ⟨fun _ => HS.out, ?_⟩
          refine takeG 12 (.unOp .not 4 (.tmp 41)) (some 42) none (.bool true) (by kernel_rfl) (by kernel_rfl) (by kernel_rfl) (fun _ _ _ h => h) (fun o' wq e hS => exec_un (u := .bool false) wq e (by kernel_rfl) (by kernel_rfl)) HS.out ?_
          refine takeG 13 (.move (.tmp 42)) (some 43) none (.bool true) (by kernel_rfl) (by kernel_rfl) (by kernel_rfl) (fun _ _ _ h => h) (fun o' wq e hS => exec_move wq e (by kernel_rfl)) HS.out ?_
          refine takeSkip 14 (.move (.tmp 6)) (some 44) (some (13, false)) (by kernel_rfl) (by kernel_rfl) (by kernel_rfl) (fun _ _ _ h => h) HS.out ?_
          refine takeSkip 15 (.move (.tmp 1)) (some 45) (some (13, false)) (by kernel_rfl) (by kernel_rfl) (by kernel_rfl) (fun _ _ _ h => h) HS.out ?_
          refine takeSkip 16 (.move (.tmp 8)) (some 46) (some (13, false)) (by kernel_rfl) (by kernel_rfl) (by kernel_rfl) (fun _ _ _ h => h) HS.out ?_
          refine takeSkip 17 (.indexAddr 47 (.tmp 45) (.tmp 46)) (some 47) (some (13, false)) (by kernel_rfl) (by kernel_rfl) (by kernel_rfl) (fun _ _ _ h => h) HS.out ?_
          refine takeSkip 18 (.fieldAddr 50 (.tmp 47) 1) (some 48) (some (13, false)) (by kernel_rfl) (by kernel_rfl) (by kernel_rfl) (fun _ _ _ h => h) HS.out ?_
          refine takeSkip 19 (.load 3 (.tmp 48)) (some 49) (some (13, false)) (by kernel_rfl) (by kernel_rfl) (by kernel_rfl) (fun _ _ _ h => h) HS.out ?_
          refine takeSkip 20 (.move (.tmp 1)) (some 50) (some (13, false)) (by kernel_rfl) (by kernel_rfl) (by kernel_rfl) (fun _ _ _ h => h) HS.out ?_
          refine takeSkip 21 (.move (.tmp 8)) (some 51) (some (13, false)) (by kernel_rfl) (by kernel_rfl) (by kernel_rfl) (fun _ _ _ h => h) HS.out ?_
          refine takeSkip 22 (.indexAddr 47 (.tmp 50) (.tmp 51)) (some 52) (some (13, false)) (by kernel_rfl) (by kernel_rfl) (by kernel_rfl) (fun _ _ _ h => h) HS.out ?_
          refine takeSkip 23 (.fieldAddr 50 (.tmp 52) 2) (some 53) (some (13, false)) (by kernel_rfl) (by kernel_rfl) (by kernel_rfl) (fun _ _ _ h => h) HS.out ?_
          refine takeSkip 24 (.load 3 (.tmp 53)) (some 54) (some (13, false)) (by kernel_rfl) (by kernel_rfl) (by kernel_rfl) (fun _ _ _ h => h) HS.out ?_
          refine takeSkip 25 (.move (.tmp 9)) (some 55) (some (13, false)) (by kernel_rfl) (by kernel_rfl) (by kernel_rfl) (fun _ _ _ h => h) HS.out ?_
          refine takeSkip 26 (.call ⟨.value (.func 43), #[(.tmp 44), (.tmp 49), (.tmp 54), (.tmp 55)], #[37, 3, 3, 3]⟩) (some 56) (some (13, false)) (by kernel_rfl) (by kernel_rfl) (by kernel_rfl) (fun _ _ _ h => h) HS.out ?_
          refine takeSkip 27 (.unOp .not 4 (.tmp 56)) (some 57) (some (13, false)) (by kernel_rfl) (by kernel_rfl) (by kernel_rfl) (fun _ _ _ h => h) HS.out ?_
          refine lastS 28 (.pick (.tmp 43) (.const (Value.bool true)) (.tmp 57)) (some 58) (.bool true) (by kernel_rfl) (by kernel_rfl) (by kernel_rfl) HS.out (fun o' e => exec_pick (b := true) _ e (by kernel_rfl) (by kernel_rfl)) ?_
          simp only [put_some, put_none, List.setIfInBounds_toArray, List.set_cons_succ, List.set_cons_zero]
          clear HS HIN
          go_wp2_with fail
          go_ret2
          rw [HQ.out]
          exact ⟨rfl, L1.out⟩
        | false =>
          go_upto_region 10 with (fail)
          refine region_anyZ (fun w' => w'.cell? ⟨g, o + i * 3 + 1, none⟩ = some (.int .i64 x) ∧ w'.cell? ⟨g, o + i * 3 + 2, none⟩ = some (.int .i64 y)) 29 (by kernel_rfl) ?_
          refine takeG 0 (.move (.tmp 6)) (some 30) none (.pointer (some ⟨b, 0, none⟩)) (by kernel_rfl) (by kernel_rfl) (by kernel_rfl) (fun _ _ _ h => h) (fun o' wq e hS => exec_move wq e (by kernel_rfl)) HS.out ?_
          refine takeG 1 (.move (.tmp 1)) (some 31) none (.slice (some ⟨g, o, none⟩) n cap) (by kernel_rfl) (by kernel_rfl) (by kernel_rfl) (fun _ _ _ h => h) (fun o' wq e hS => exec_move wq e (by kernel_rfl)) HS.out ?_
          refine takeG 2 (.move (.tmp 8)) (some 32) none (.int .i64 (i : Int)) (by kernel_rfl) (by kernel_rfl) (by kernel_rfl) (fun _ _ _ h => h) (fun o' wq e hS => exec_move wq e (by kernel_rfl)) HS.out ?_
          refine takeG 3 (.indexAddr 47 (.tmp 31) (.tmp 32)) (some 33) none (.pointer (some ⟨g, o + i * 3, none⟩)) (by kernel_rfl) (by kernel_rfl) (by kernel_rfl) (fun _ _ _ h => h) (fun o' wq e hS => exec_index (u1 := .slice (some ⟨g, o, none⟩) n cap) (u2 := .int .i64 (i : Int)) wq e (by kernel_rfl) (by kernel_rfl) (index_refop g o n cap i hlt _)) HS.out ?_
          refine takeG 4 (.fieldAddr 50 (.tmp 33) 1) (some 34) none (.pointer (some ⟨g, o + i * 3 + 1, none⟩)) (by kernel_rfl) (by kernel_rfl) (by kernel_rfl) (fun _ _ _ h => h) (fun o' wq e hS => exec_field (u := .pointer (some ⟨g, o + i * 3, none⟩)) wq e (by kernel_rfl) (by kernel_rfl)) HS.out ?_
          refine takeG 5 (.load 3 (.tmp 34)) (some 35) none (.int .i64 x) (by kernel_rfl) (by kernel_rfl) (by kernel_rfl) (fun _ _ _ h => h) (fun o' wq e hS => exec_load (x := (.tmp 34)) e (by kernel_rfl) (load_one Try.underlying3 (by kernel_rfl) hS.1)) HS.out ?_
          refine takeG 6 (.move (.tmp 1)) (some 36) none (.slice (some ⟨g, o, none⟩) n cap) (by kernel_rfl) (by kernel_rfl) (by kernel_rfl) (fun _ _ _ h => h) (fun o' wq e hS => exec_move wq e (by kernel_rfl)) HS.out ?_
          refine takeG 7 (.move (.tmp 8)) (some 37) none (.int .i64 (i : Int)) (by kernel_rfl) (by kernel_rfl) (by kernel_rfl) (fun _ _ _ h => h) (fun o' wq e hS => exec_move wq e (by kernel_rfl)) HS.out ?_
          refine takeG 8 (.indexAddr 47 (.tmp 36) (.tmp 37)) (some 38) none (.pointer (some ⟨g, o + i * 3, none⟩)) (by kernel_rfl) (by kernel_rfl) (by kernel_rfl) (fun _ _ _ h => h) (fun o' wq e hS => exec_index (u1 := .slice (some ⟨g, o, none⟩) n cap) (u2 := .int .i64 (i : Int)) wq e (by kernel_rfl) (by kernel_rfl) (index_refop g o n cap i hlt _)) HS.out ?_
          refine takeG 9 (.fieldAddr 50 (.tmp 38) 2) (some 39) none (.pointer (some ⟨g, o + i * 3 + 2, none⟩)) (by kernel_rfl) (by kernel_rfl) (by kernel_rfl) (fun _ _ _ h => h) (fun o' wq e hS => exec_field (u := .pointer (some ⟨g, o + i * 3, none⟩)) wq e (by kernel_rfl) (by kernel_rfl)) HS.out ?_
          refine takeG 10 (.load 3 (.tmp 39)) (some 40) none (.int .i64 y) (by kernel_rfl) (by kernel_rfl) (by kernel_rfl) (fun _ _ _ h => h) (fun o' wq e hS => exec_load (x := (.tmp 39)) e (by kernel_rfl) (load_one Try.underlying3 (by kernel_rfl) hS.2)) HS.out ?_
          refine loneG 11 (.call ⟨.value (.func 42), #[(.tmp 30), (.tmp 35), (.tmp 40)], #[37, 3, 3]⟩) (some 41) none (by kernel_rfl) (by kernel_rfl) (by kernel_rfl) ?_
          intro o' ho hod
          refine wp_callC (f := 42) (args := #[.pointer (some ⟨b, 0, none⟩), .int .i64 x, .int .i64 y]) (by cases o'; cases ho; kernel_rfl) HIN.out ?_
          rintro ee W4 ⟨rfl, hw⟩
          have hw := hw.symm
          subst hw
          refine ⟨.bool false, rfl, ?_⟩
          rw [hod]
          clear hod ho
          refine ⟨fun _ => HS.out, ?_⟩
          refine takeG 12 (.unOp .not 4 (.tmp 41)) (some 42) none (.bool true) (by kernel_rfl) (by kernel_rfl) (by kernel_rfl) (fun _ _ _ h => h) (fun o' wq e hS => exec_un (u := .bool false) wq e (by kernel_rfl) (by kernel_rfl)) HS.out ?_
          refine takeG 13 (.move (.tmp 42)) (some 43) none (.bool true) (by kernel_rfl) (by kernel_rfl) (by kernel_rfl) (fun _ _ _ h => h) (fun o' wq e hS => exec_move wq e (by kernel_rfl)) HS.out ?_
          refine takeSkip 14 (.move (.tmp 6)) (some 44) (some (13, false)) (by kernel_rfl) (by kernel_rfl) (by kernel_rfl) (fun _ _ _ h => h) HS.out ?_
          refine takeSkip 15 (.move (.tmp 1)) (some 45) (some (13, false)) (by kernel_rfl) (by kernel_rfl) (by kernel_rfl) (fun _ _ _ h => h) HS.out ?_
          refine takeSkip 16 (.move (.tmp 8)) (some 46) (some (13, false)) (by kernel_rfl) (by kernel_rfl) (by kernel_rfl) (fun _ _ _ h => h) HS.out ?_
          refine takeSkip 17 (.indexAddr 47 (.tmp 45) (.tmp 46)) (some 47) (some (13, false)) (by kernel_rfl) (by kernel_rfl) (by kernel_rfl) (fun _ _ _ h => h) HS.out ?_
          refine takeSkip 18 (.fieldAddr 50 (.tmp 47) 1) (some 48) (some (13, false)) (by kernel_rfl) (by kernel_rfl) (by kernel_rfl) (fun _ _ _ h => h) HS.out ?_
          refine takeSkip 19 (.load 3 (.tmp 48)) (some 49) (some (13, false)) (by kernel_rfl) (by kernel_rfl) (by kernel_rfl) (fun _ _ _ h => h) HS.out ?_
          refine takeSkip 20 (.move (.tmp 1)) (some 50) (some (13, false)) (by kernel_rfl) (by kernel_rfl) (by kernel_rfl) (fun _ _ _ h => h) HS.out ?_
          refine takeSkip 21 (.move (.tmp 8)) (some 51) (some (13, false)) (by kernel_rfl) (by kernel_rfl) (by kernel_rfl) (fun _ _ _ h => h) HS.out ?_
          refine takeSkip 22 (.indexAddr 47 (.tmp 50) (.tmp 51)) (some 52) (some (13, false)) (by kernel_rfl) (by kernel_rfl) (by kernel_rfl) (fun _ _ _ h => h) HS.out ?_
          refine takeSkip 23 (.fieldAddr 50 (.tmp 52) 2) (some 53) (some (13, false)) (by kernel_rfl) (by kernel_rfl) (by kernel_rfl) (fun _ _ _ h => h) HS.out ?_
          refine takeSkip 24 (.load 3 (.tmp 53)) (some 54) (some (13, false)) (by kernel_rfl) (by kernel_rfl) (by kernel_rfl) (fun _ _ _ h => h) HS.out ?_
          refine takeSkip 25 (.move (.tmp 9)) (some 55) (some (13, false)) (by kernel_rfl) (by kernel_rfl) (by kernel_rfl) (fun _ _ _ h => h) HS.out ?_
          refine takeSkip 26 (.call ⟨.value (.func 43), #[(.tmp 44), (.tmp 49), (.tmp 54), (.tmp 55)], #[37, 3, 3, 3]⟩) (some 56) (some (13, false)) (by kernel_rfl) (by kernel_rfl) (by kernel_rfl) (fun _ _ _ h => h) HS.out ?_
          refine takeSkip 27 (.unOp .not 4 (.tmp 56)) (some 57) (some (13, false)) (by kernel_rfl) (by kernel_rfl) (by kernel_rfl) (fun _ _ _ h => h) HS.out ?_
          refine lastS 28 (.pick (.tmp 43) (.const (Value.bool true)) (.tmp 57)) (some 58) (.bool true) (by kernel_rfl) (by kernel_rfl) (by kernel_rfl) HS.out (fun o' e => exec_pick (b := true) _ e (by kernel_rfl) (by kernel_rfl)) ?_
          simp only [put_some, put_none, List.setIfInBounds_toArray, List.set_cons_succ, List.set_cons_zero]
          clear HS HIN
          go_wp2_with fail
          go_ret2
          rw [HQ.out]
          exact ⟨rfl, L1.out⟩
      · have e2 : inZ s.cells x y = true := by
          unfold inZ
          simp only [Bool.and_eq_true, decide_eq_true_eq]
          omega
        rw [e2] at HIN
        obtain ⟨x', rfl⟩ : ∃ x' : Nat, x = (x' : Int) := ⟨x.toNat, by omega⟩
        obtain ⟨y', rfl⟩ : ∃ y' : Nat, y = (y' : Int) := ⟨y.toNat, by omega⟩
        have hxy : x' + y' ≤ s.cells := by omega
        have hlt2 : x' < x' + y' := by omega
        cases t with
        | true =>
          have e1 : redoS s true (x' : Int) (y' : Int) = if hasL x' (x' + y') (s.S 0) then (true, s.mv 0 1 x' (x' + y')) else (false, s) := by
            unfold redoS
            rw [if_neg hno, Int.toNat_natCast, Int.toNat_natCast]
            rfl
          have hh := htl.has hg0 (k := 0) (by omega) hlt2 hxy
          have HAL := Lib.hid (all_rf hrm hg0.hc.2 x' y' hxy 0)
          cases hq : hasL x' (x' + y') (s.S 0) with
          | false =>
            rw [hq] at e1 hh
            have HQ : Hid (R = .error 2) := Lib.hid (by rw [HR.out, HNEW.out, HST.out, e1]; rfl)
            have HF : Hid (∀ e, SaysAll f 0 x' (x' + y') e → e = .returned (.bool false)) := Lib.hid fun e ⟨bb, e3, e4⟩ => by
              cases bb with
              | false => exact e3
              | true => exact absurd (hh.2 (e4.1 rfl)) (by decide)
            clear hg0 hrm htl hno e2 HST HRS z1 z2 z3 z4 e1 hh hq hxy hlt2
            go_upto_region 10 with (fail)
            refine region_anyZ (fun w' => w'.cell? ⟨g, o + i * 3 + 1, none⟩ = some (.int .i64 (x' : Int)) ∧ w'.cell? ⟨g, o + i * 3 + 2, none⟩ = some (.int .i64 (y' : Int))) 29 (by kernel_rfl) ?_
            refine takeG 0 (.move (.tmp 6)) (some 30) none (.pointer (some ⟨b, 0, none⟩)) (by kernel_rfl) (by kernel_rfl) (by kernel_rfl) (fun _ _ _ h => h) (fun o' wq e hS => exec_move wq e (by kernel_rfl)) HS.out ?_
            refine takeG 1 (.move (.tmp 1)) (some 31) none (.slice (some ⟨g, o, none⟩) n cap) (by kernel_rfl) (by kernel_rfl) (by kernel_rfl) (fun _ _ _ h => h) (fun o' wq e hS => exec_move wq e (by kernel_rfl)) HS.out ?_
            refine takeG 2 (.move (.tmp 8)) (some 32) none (.int .i64 (i : Int)) (by kernel_rfl) (by kernel_rfl) (by kernel_rfl) (fun _ _ _ h => h) (fun o' wq e hS => exec_move wq e (by kernel_rfl)) HS.out ?_
            refine takeG 3 (.indexAddr 47 (.tmp 31) (.tmp 32)) (some 33) none (.pointer (some ⟨g, o + i * 3, none⟩)) (by kernel_rfl) (by kernel_rfl) (by kernel_rfl) (fun _ _ _ h => h) (fun o' wq e hS => exec_index (u1 := .slice (some ⟨g, o, none⟩) n cap) (u2 := .int .i64 (i : Int)) wq e (by kernel_rfl) (by kernel_rfl) (index_refop g o n cap i hlt _)) HS.out ?_
            refine takeG 4 (.fieldAddr 50 (.tmp 33) 1) (some 34) none (.pointer (some ⟨g, o + i * 3 + 1, none⟩)) (by kernel_rfl) (by kernel_rfl) (by kernel_rfl) (fun _ _ _ h => h) (fun o' wq e hS => exec_field (u := .pointer (some ⟨g, o + i * 3, none⟩)) wq e (by kernel_rfl) (by kernel_rfl)) HS.out ?_
            refine takeG 5 (.load 3 (.tmp 34)) (some 35) none (.int .i64 (x' : Int)) (by kernel_rfl) (by kernel_rfl) (by kernel_rfl) (fun _ _ _ h => h) (fun o' wq e hS => exec_load (x := (.tmp 34)) e (by kernel_rfl) (load_one Try.underlying3 (by kernel_rfl) hS.1)) HS.out ?_
            refine takeG 6 (.move (.tmp 1)) (some 36) none (.slice (some ⟨g, o, none⟩) n cap) (by kernel_rfl) (by kernel_rfl) (by kernel_rfl) (fun _ _ _ h => h) (fun o' wq e hS => exec_move wq e (by kernel_rfl)) HS.out ?_
            refine takeG 7 (.move (.tmp 8)) (some 37) none (.int .i64 (i : Int)) (by kernel_rfl) (by kernel_rfl) (by kernel_rfl) (fun _ _ _ h => h) (fun o' wq e hS => exec_move wq e (by kernel_rfl)) HS.out ?_
            refine takeG 8 (.indexAddr 47 (.tmp 36) (.tmp 37)) (some 38) none (.pointer (some ⟨g, o + i * 3, none⟩)) (by kernel_rfl) (by kernel_rfl) (by kernel_rfl) (fun _ _ _ h => h) (fun o' wq e hS => exec_index (u1 := .slice (some ⟨g, o, none⟩) n cap) (u2 := .int .i64 (i : Int)) wq e (by kernel_rfl) (by kernel_rfl) (index_refop g o n cap i hlt _)) HS.out ?_
            refine takeG 9 (.fieldAddr 50 (.tmp 38) 2) (some 39) none (.pointer (some ⟨g, o + i * 3 + 2, none⟩)) (by kernel_rfl) (by kernel_rfl) (by kernel_rfl) (fun _ _ _ h => h) (fun o' wq e hS => exec_field (u := .pointer (some ⟨g, o + i * 3, none⟩)) wq e (by kernel_rfl) (by kernel_rfl)) HS.out ?_
            refine takeG 10 (.load 3 (.tmp 39)) (some 40) none (.int .i64 (y' : Int)) (by kernel_rfl) (by kernel_rfl) (by kernel_rfl) (fun _ _ _ h => h) (fun o' wq e hS => exec_load (x := (.tmp 39)) e (by kernel_rfl) (load_one Try.underlying3 (by kernel_rfl) hS.2)) HS.out ?_
            refine loneG 11 (.call ⟨.value (.func 42), #[(.tmp 30), (.tmp 35), (.tmp 40)], #[37, 3, 3]⟩) (some 41) none (by kernel_rfl) (by kernel_rfl) (by kernel_rfl) ?_
            intro o' ho hod
            refine wp_callC (f := 42) (args := #[.pointer (some ⟨b, 0, none⟩), .int .i64 (x' : Int), .int .i64 (y' : Int)]) (by cases o'; cases ho; kernel_rfl) HIN.out ?_
            rintro ee W4 ⟨rfl, hw⟩
            have hw := hw.symm
            subst hw
            refine ⟨.bool true, rfl, ?_⟩
            rw [hod]
            clear hod ho
            refine ⟨fun _ => HS.out, ?_⟩
            refine takeG 12 (.unOp .not 4 (.tmp 41)) (some 42) none (.bool false) (by kernel_rfl) (by kernel_rfl) (by kernel_rfl) (fun _ _ _ h => h) (fun o' wq e hS => exec_un (u := .bool true) wq e (by kernel_rfl) (by kernel_rfl)) HS.out ?_
            refine takeG 13 (.move (.tmp 42)) (some 43) none (.bool false) (by kernel_rfl) (by kernel_rfl) (by kernel_rfl) (fun _ _ _ h => h) (fun o' wq e hS => exec_move wq e (by kernel_rfl)) HS.out ?_
            refine takeG 14 (.move (.tmp 6)) (some 44) (some (13, false)) (.pointer (some ⟨b, 0, none⟩)) (by kernel_rfl) (by kernel_rfl) (by kernel_rfl) (fun _ _ _ h => h) (fun o' wq e hS => exec_move wq e (by kernel_rfl)) HS.out ?_
            refine takeG 15 (.move (.tmp 1)) (some 45) (some (13, false)) (.slice (some ⟨g, o, none⟩) n cap) (by kernel_rfl) (by kernel_rfl) (by kernel_rfl) (fun _ _ _ h => h) (fun o' wq e hS => exec_move wq e (by kernel_rfl)) HS.out ?_
            refine takeG 16 (.move (.tmp 8)) (some 46) (some (13, false)) (.int .i64 (i : Int)) (by kernel_rfl) (by kernel_rfl) (by kernel_rfl) (fun _ _ _ h => h) (fun o' wq e hS => exec_move wq e (by kernel_rfl)) HS.out ?_
            refine takeG 17 (.indexAddr 47 (.tmp 45) (.tmp 46)) (some 47) (some (13, false)) (.pointer (some ⟨g, o + i * 3, none⟩)) (by kernel_rfl) (by kernel_rfl) (by kernel_rfl) (fun _ _ _ h => h) (fun o' wq e hS => exec_index (u1 := .slice (some ⟨g, o, none⟩) n cap) (u2 := .int .i64 (i : Int)) wq e (by kernel_rfl) (by kernel_rfl) (index_refop g o n cap i hlt _)) HS.out ?_
            refine takeG 18 (.fieldAddr 50 (.tmp 47) 1) (some 48) (some (13, false)) (.pointer (some ⟨g, o + i * 3 + 1, none⟩)) (by kernel_rfl) (by kernel_rfl) (by kernel_rfl) (fun _ _ _ h => h) (fun o' wq e hS => exec_field (u := .pointer (some ⟨g, o + i * 3, none⟩)) wq e (by kernel_rfl) (by kernel_rfl)) HS.out ?_
            refine takeG 19 (.load 3 (.tmp 48)) (some 49) (some (13, false)) (.int .i64 (x' : Int)) (by kernel_rfl) (by kernel_rfl) (by kernel_rfl) (fun _ _ _ h => h) (fun o' wq e hS => exec_load (x := (.tmp 48)) e (by kernel_rfl) (load_one Try.underlying3 (by kernel_rfl) hS.1)) HS.out ?_
            refine takeG 20 (.move (.tmp 1)) (some 50) (some (13, false)) (.slice (some ⟨g, o, none⟩) n cap) (by kernel_rfl) (by kernel_rfl) (by kernel_rfl) (fun _ _ _ h => h) (fun o' wq e hS => exec_move wq e (by kernel_rfl)) HS.out ?_
            refine takeG 21 (.move (.tmp 8)) (some 51) (some (13, false)) (.int .i64 (i : Int)) (by kernel_rfl) (by kernel_rfl) (by kernel_rfl) (fun _ _ _ h => h) (fun o' wq e hS => exec_move wq e (by kernel_rfl)) HS.out ?_
            refine takeG 22 (.indexAddr 47 (.tmp 50) (.tmp 51)) (some 52) (some (13, false)) (.pointer (some ⟨g, o + i * 3, none⟩)) (by kernel_rfl) (by kernel_rfl) (by kernel_rfl) (fun _ _ _ h => h) (fun o' wq e hS => exec_index (u1 := .slice (some ⟨g, o, none⟩) n cap) (u2 := .int .i64 (i : Int)) wq e (by kernel_rfl) (by kernel_rfl) (index_refop g o n cap i hlt _)) HS.out ?_
            refine takeG 23 (.fieldAddr 50 (.tmp 52) 2) (some 53) (some (13, false)) (.pointer (some ⟨g, o + i * 3 + 2, none⟩)) (by kernel_rfl) (by kernel_rfl) (by kernel_rfl) (fun _ _ _ h => h) (fun o' wq e hS => exec_field (u := .pointer (some ⟨g, o + i * 3, none⟩)) wq e (by kernel_rfl) (by kernel_rfl)) HS.out ?_
            refine takeG 24 (.load 3 (.tmp 53)) (some 54) (some (13, false)) (.int .i64 (y' : Int)) (by kernel_rfl) (by kernel_rfl) (by kernel_rfl) (fun _ _ _ h => h) (fun o' wq e hS => exec_load (x := (.tmp 53)) e (by kernel_rfl) (load_one Try.underlying3 (by kernel_rfl) hS.2)) HS.out ?_
            refine takeG 25 (.move (.tmp 9)) (some 55) (some (13, false)) (.int .i64 0) (by kernel_rfl) (by kernel_rfl) (by kernel_rfl) (fun _ _ _ h => h) (fun o' wq e hS => exec_move wq e (by kernel_rfl)) HS.out ?_
            refine loneG 26 (.call ⟨.value (.func 43), #[(.tmp 44), (.tmp 49), (.tmp 54), (.tmp 55)], #[37, 3, 3, 3]⟩) (some 56) (some (13, false)) (by kernel_rfl) (by kernel_rfl) (by kernel_rfl) ?_
            intro o' ho hod
            refine wp_callC (f := 43) (args := #[.pointer (some ⟨b, 0, none⟩), .int .i64 (x' : Int), .int .i64 (y' : Int), .int .i64 0]) (by cases o'; cases ho; kernel_rfl) HAL.out ?_
            rintro ee W4 ⟨he, hw⟩
            have hw := hw.symm
            have he := HF.out ee he
            subst he hw
            refine ⟨.bool false, rfl, ?_⟩
            rw [hod]
            clear hod ho
            refine ⟨fun _ => HS.out, ?_⟩
            refine takeG 27 (.unOp .not 4 (.tmp 56)) (some 57) (some (13, false)) (.bool true) (by kernel_rfl) (by kernel_rfl) (by kernel_rfl) (fun _ _ _ h => h) (fun o' wq e hS => exec_un (u := .bool false) wq e (by kernel_rfl) (by kernel_rfl)) HS.out ?_
            refine lastS 28 (.pick (.tmp 43) (.const (Value.bool true)) (.tmp 57)) (some 58) (.bool true) (by kernel_rfl) (by kernel_rfl) (by kernel_rfl) HS.out (fun o' e => exec_pick (b := false) _ e (by kernel_rfl) (by kernel_rfl)) ?_
            simp only [put_some, put_none, List.setIfInBounds_toArray, List.set_cons_succ, List.set_cons_zero]
            clear HS HIN HAL HF
            go_wp2_with fail
            go_ret2
            rw [HQ.out]
            exact ⟨rfl, L1.out⟩
          | true =>
            rw [hq] at e1 hh
            have HPR : Hid (RepRel (allFree C) l (i + 1) (s.mv 0 1 x' (x' + y'))) := Lib.hid (by
              have := HST.out
              rw [e1] at this
              exact this)
            have HF : Hid (∀ e, SaysAll f 0 x' (x' + y') e → e = .returned (.bool true)) := Lib.hid fun e ⟨bb, e3, e4⟩ => by
              cases bb with
              | true => exact e3
              | false => exact absurd (e4.2 (hh.1 rfl)) (by decide)
            have HSE := Lib.hid (set_rf (w := wr.drew.drew) (hrm.drew) hg0.hc.2 x' y' hxy 1)
            have HG2 : Hid (Sp.Good (s.mv 0 1 x' (x' + y')) ∧ Tells (fset f x' (x' + y') 1) (s.mv 0 1 x' (x' + y'))) := Lib.hid ⟨hg0.mv (f := 0) (t := 1) (by decide) (by decide) (by decide) hlt2 hq, htl.mv (p := 0) (t := 1) hg0 (by decide) (by decide) (by decide) hlt2 hq⟩
            clear hg0 hrm htl hno e2 HST HRS z1 z2 z3 z4 e1 hh hq hxy hlt2
            go_upto_region 10 with (fail)
            refine region_anyZ (fun w' => w'.cell? ⟨g, o + i * 3 + 1, none⟩ = some (.int .i64 (x' : Int)) ∧ w'.cell? ⟨g, o + i * 3 + 2, none⟩ = some (.int .i64 (y' : Int))) 29 (by kernel_rfl) ?_
            refine takeG 0 (.move (.tmp 6)) (some 30) none (.pointer (some ⟨b, 0, none⟩)) (by kernel_rfl) (by kernel_rfl) (by kernel_rfl) (fun _ _ _ h => h) (fun o' wq e hS => exec_move wq e (by kernel_rfl)) HS.out ?_
            refine takeG 1 (.move (.tmp 1)) (some 31) none (.slice (some ⟨g, o, none⟩) n cap) (by kernel_rfl) (by kernel_rfl) (by kernel_rfl) (fun _ _ _ h => h) (fun o' wq e hS => exec_move wq e (by kernel_rfl)) HS.out ?_
            refine takeG 2 (.move (.tmp 8)) (some 32) none (.int .i64 (i : Int)) (by kernel_rfl) (by kernel_rfl) (by kernel_rfl) (fun _ _ _ h => h) (fun o' wq e hS => exec_move wq e (by kernel_rfl)) HS.out ?_
            refine takeG 3 (.indexAddr 47 (.tmp 31) (.tmp 32)) (some 33) none (.pointer (some ⟨g, o + i * 3, none⟩)) (by kernel_rfl) (by kernel_rfl) (by kernel_rfl) (fun _ _ _ h => h) (fun o' wq e hS => exec_index (u1 := .slice (some ⟨g, o, none⟩) n cap) (u2 := .int .i64 (i : Int)) wq e (by kernel_rfl) (by kernel_rfl) (index_refop g o n cap i hlt _)) HS.out ?_
            refine takeG 4 (.fieldAddr 50 (.tmp 33) 1) (some 34) none (.pointer (some ⟨g, o + i * 3 + 1, none⟩)) (by kernel_rfl) (by kernel_rfl) (by kernel_rfl) (fun _ _ _ h => h) (fun o' wq e hS => exec_field (u := .pointer (some ⟨g, o + i * 3, none⟩)) wq e (by kernel_rfl) (by kernel_rfl)) HS.out ?_
            refine takeG 5 (.load 3 (.tmp 34)) (some 35) none (.int .i64 (x' : Int)) (by kernel_rfl) (by kernel_rfl) (by kernel_rfl) (fun _ _ _ h => h) (fun o' wq e hS => exec_load (x := (.tmp 34)) e (by kernel_rfl) (load_one Try.underlying3 (by kernel_rfl) hS.1)) HS.out ?_
            refine takeG 6 (.move (.tmp 1)) (some 36) none (.slice (some ⟨g, o, none⟩) n cap) (by kernel_rfl) (by kernel_rfl) (by kernel_rfl) (fun _ _ _ h => h) (fun o' wq e hS => exec_move wq e (by kernel_rfl)) HS.out ?_
            refine takeG 7 (.move (.tmp 8)) (some 37) none (.int .i64 (i : Int)) (by kernel_rfl) (by kernel_rfl) (by kernel_rfl) (fun _ _ _ h => h) (fun o' wq e hS => exec_move wq e (by kernel_rfl)) HS.out ?_
            refine takeG 8 (.indexAddr 47 (.tmp 36) (.tmp 37)) (some 38) none (.pointer (some ⟨g, o + i * 3, none⟩)) (by kernel_rfl) (by kernel_rfl) (by kernel_rfl) (fun _ _ _ h => h) (fun o' wq e hS => exec_index (u1 := .slice (some ⟨g, o, none⟩) n cap) (u2 := .int .i64 (i : Int)) wq e (by kernel_rfl) (by kernel_rfl) (index_refop g o n cap i hlt _)) HS.out ?_
            refine takeG 9 (.fieldAddr 50 (.tmp 38) 2) (some 39) none (.pointer (some ⟨g, o + i * 3 + 2, none⟩)) (by kernel_rfl) (by kernel_rfl) (by kernel_rfl) (fun _ _ _ h => h) (fun o' wq e hS => exec_field (u := .pointer (some ⟨g, o + i * 3, none⟩)) wq e (by kernel_rfl) (by kernel_rfl)) HS.out ?_
            refine takeG 10 (.load 3 (.tmp 39)) (some 40) none (.int .i64 (y' : Int)) (by kernel_rfl) (by kernel_rfl) (by kernel_rfl) (fun _ _ _ h => h) (fun o' wq e hS => exec_load (x := (.tmp 39)) e (by kernel_rfl) (load_one Try.underlying3 (by kernel_rfl) hS.2)) HS.out ?_
            refine loneG 11 (.call ⟨.value (.func 42), #[(.tmp 30), (.tmp 35), (.tmp 40)], #[37, 3, 3]⟩) (some 41) none (by kernel_rfl) (by kernel_rfl) (by kernel_rfl) ?_
            intro o' ho hod
            refine wp_callC (f := 42) (args := #[.pointer (some ⟨b, 0, none⟩), .int .i64 (x' : Int), .int .i64 (y' : Int)]) (by cases o'; cases ho; kernel_rfl) HIN.out ?_
            rintro ee W4 ⟨rfl, hw⟩
            have hw := hw.symm
            subst hw
            refine ⟨.bool true, rfl, ?_⟩
            rw [hod]
            clear hod ho
            refine ⟨fun _ => HS.out, ?_⟩
            refine takeG 12 (.unOp .not 4 (.tmp 41)) (some 42) none (.bool false) (by kernel_rfl) (by kernel_rfl) (by kernel_rfl) (fun _ _ _ h => h) (fun o' wq e hS => exec_un (u := .bool true) wq e (by kernel_rfl) (by kernel_rfl)) HS.out ?_
            refine takeG 13 (.move (.tmp 42)) (some 43) none (.bool false) (by kernel_rfl) (by kernel_rfl) (by kernel_rfl) (fun _ _ _ h => h) (fun o' wq e hS => exec_move wq e (by kernel_rfl)) HS.out ?_
            refine takeG 14 (.move (.tmp 6)) (some 44) (some (13, false)) (.pointer (some ⟨b, 0, none⟩)) (by kernel_rfl) (by kernel_rfl) (by kernel_rfl) (fun _ _ _ h => h) (fun o' wq e hS => exec_move wq e (by kernel_rfl)) HS.out ?_
            refine takeG 15 (.move (.tmp 1)) (some 45) (some (13, false)) (.slice (some ⟨g, o, none⟩) n cap) (by kernel_rfl) (by kernel_rfl) (by kernel_rfl) (fun _ _ _ h => h) (fun o' wq e hS => exec_move wq e (by kernel_rfl)) HS.out ?_
            refine takeG 16 (.move (.tmp 8)) (some 46) (some (13, false)) (.int .i64 (i : Int)) (by kernel_rfl) (by kernel_rfl) (by kernel_rfl) (fun _ _ _ h => h) (fun o' wq e hS => exec_move wq e (by kernel_rfl)) HS.out ?_
            refine takeG 17 (.indexAddr 47 (.tmp 45) (.tmp 46)) (some 47) (some (13, false)) (.pointer (some ⟨g, o + i * 3, none⟩)) (by kernel_rfl) (by kernel_rfl) (by kernel_rfl) (fun _ _ _ h => h) (fun o' wq e hS => exec_index (u1 := .slice (some ⟨g, o, none⟩) n cap) (u2 := .int .i64 (i : Int)) wq e (by kernel_rfl) (by kernel_rfl) (index_refop g o n cap i hlt _)) HS.out ?_
            refine takeG 18 (.fieldAddr 50 (.tmp 47) 1) (some 48) (some (13, false)) (.pointer (some ⟨g, o + i * 3 + 1, none⟩)) (by kernel_rfl) (by kernel_rfl) (by kernel_rfl) (fun _ _ _ h => h) (fun o' wq e hS => exec_field (u := .pointer (some ⟨g, o + i * 3, none⟩)) wq e (by kernel_rfl) (by kernel_rfl)) HS.out ?_
            refine takeG 19 (.load 3 (.tmp 48)) (some 49) (some (13, false)) (.int .i64 (x' : Int)) (by kernel_rfl) (by kernel_rfl) (by kernel_rfl) (fun _ _ _ h => h) (fun o' wq e hS => exec_load (x := (.tmp 48)) e (by kernel_rfl) (load_one Try.underlying3 (by kernel_rfl) hS.1)) HS.out ?_
            refine takeG 20 (.move (.tmp 1)) (some 50) (some (13, false)) (.slice (some ⟨g, o, none⟩) n cap) (by kernel_rfl) (by kernel_rfl) (by kernel_rfl) (fun _ _ _ h => h) (fun o' wq e hS => exec_move wq e (by kernel_rfl)) HS.out ?_
            refine takeG 21 (.move (.tmp 8)) (some 51) (some (13, false)) (.int .i64 (i : Int)) (by kernel_rfl) (by kernel_rfl) (by kernel_rfl) (fun _ _ _ h => h) (fun o' wq e hS => exec_move wq e (by kernel_rfl)) HS.out ?_
            refine takeG 22 (.indexAddr 47 (.tmp 50) (.tmp 51)) (some 52) (some (13, false)) (.pointer (some ⟨g, o + i * 3, none⟩)) (by kernel_rfl) (by kernel_rfl) (by kernel_rfl) (fun _ _ _ h => h) (fun o' wq e hS => exec_index (u1 := .slice (some ⟨g, o, none⟩) n cap) (u2 := .int .i64 (i : Int)) wq e (by kernel_rfl) (by kernel_rfl) (index_refop g o n cap i hlt _)) HS.out ?_
            refine takeG 23 (.fieldAddr 50 (.tmp 52) 2) (some 53) (some (13, false)) (.pointer (some ⟨g, o + i * 3 + 2, none⟩)) (by kernel_rfl) (by kernel_rfl) (by kernel_rfl) (fun _ _ _ h => h) (fun o' wq e hS => exec_field (u := .pointer (some ⟨g, o + i * 3, none⟩)) wq e (by kernel_rfl) (by kernel_rfl)) HS.out ?_
            refine takeG 24 (.load 3 (.tmp 53)) (some 54) (some (13, false)) (.int .i64 (y' : Int)) (by kernel_rfl) (by kernel_rfl) (by kernel_rfl) (fun _ _ _ h => h) (fun o' wq e hS => exec_load (x := (.tmp 53)) e (by kernel_rfl) (load_one Try.underlying3 (by kernel_rfl) hS.2)) HS.out ?_
            refine takeG 25 (.move (.tmp 9)) (some 55) (some (13, false)) (.int .i64 0) (by kernel_rfl) (by kernel_rfl) (by kernel_rfl) (fun _ _ _ h => h) (fun o' wq e hS => exec_move wq e (by kernel_rfl)) HS.out ?_
            refine loneG 26 (.call ⟨.value (.func 43), #[(.tmp 44), (.tmp 49), (.tmp 54), (.tmp 55)], #[37, 3, 3, 3]⟩) (some 56) (some (13, false)) (by kernel_rfl) (by kernel_rfl) (by kernel_rfl) ?_
            intro o' ho hod
            refine wp_callC (f := 43) (args := #[.pointer (some ⟨b, 0, none⟩), .int .i64 (x' : Int), .int .i64 (y' : Int), .int .i64 0]) (by cases o'; cases ho; kernel_rfl) HAL.out ?_
            rintro ee W4 ⟨he, hw⟩
            have hw := hw.symm
            have he := HF.out ee he
            subst he hw
            refine ⟨.bool true, rfl, ?_⟩
            rw [hod]
            clear hod ho
            refine ⟨fun _ => HS.out, ?_⟩
            refine takeG 27 (.unOp .not 4 (.tmp 56)) (some 57) (some (13, false)) (.bool false) (by kernel_rfl) (by kernel_rfl) (by kernel_rfl) (fun _ _ _ h => h) (fun o' wq e hS => exec_un (u := .bool true) wq e (by kernel_rfl) (by kernel_rfl)) HS.out ?_
            refine lastS 28 (.pick (.tmp 43) (.const (Value.bool true)) (.tmp 57)) (some 58) (.bool false) (by kernel_rfl) (by kernel_rfl) (by kernel_rfl) HS.out (fun o' e => exec_pick (b := false) _ e (by kernel_rfl) (by kernel_rfl)) ?_
            simp only [put_some, put_none, List.setIfInBounds_toArray, List.set_cons_succ, List.set_cons_zero]
            clear HIN HAL HF
            go_upto_region 12 with (fail)
            refine region_anyZ (fun w' => w'.cell? ⟨g, o + i * 3 + 1, none⟩ = some (.int .i64 (x' : Int)) ∧ w'.cell? ⟨g, o + i * 3 + 2, none⟩ = some (.int .i64 (y' : Int))) 13 (by kernel_rfl) ?_
            refine takeG 0 (.move (.tmp 6)) (some 59) none (.pointer (some ⟨b, 0, none⟩)) (by kernel_rfl) (by kernel_rfl) (by kernel_rfl) (fun _ _ _ h => h) (fun o' wq e hS => exec_move wq e (by kernel_rfl)) HS.out ?_
            refine takeG 1 (.move (.tmp 1)) (some 60) none (.slice (some ⟨g, o, none⟩) n cap) (by kernel_rfl) (by kernel_rfl) (by kernel_rfl) (fun _ _ _ h => h) (fun o' wq e hS => exec_move wq e (by kernel_rfl)) HS.out ?_
            refine takeG 2 (.move (.tmp 8)) (some 61) none (.int .i64 (i : Int)) (by kernel_rfl) (by kernel_rfl) (by kernel_rfl) (fun _ _ _ h => h) (fun o' wq e hS => exec_move wq e (by kernel_rfl)) HS.out ?_
            refine takeG 3 (.indexAddr 47 (.tmp 60) (.tmp 61)) (some 62) none (.pointer (some ⟨g, o + i * 3, none⟩)) (by kernel_rfl) (by kernel_rfl) (by kernel_rfl) (fun _ _ _ h => h) (fun o' wq e hS => exec_index (u1 := .slice (some ⟨g, o, none⟩) n cap) (u2 := .int .i64 (i : Int)) wq e (by kernel_rfl) (by kernel_rfl) (index_refop g o n cap i hlt _)) HS.out ?_
            refine takeG 4 (.fieldAddr 50 (.tmp 62) 1) (some 63) none (.pointer (some ⟨g, o + i * 3 + 1, none⟩)) (by kernel_rfl) (by kernel_rfl) (by kernel_rfl) (fun _ _ _ h => h) (fun o' wq e hS => exec_field (u := .pointer (some ⟨g, o + i * 3, none⟩)) wq e (by kernel_rfl) (by kernel_rfl)) HS.out ?_
            refine takeG 5 (.load 3 (.tmp 63)) (some 64) none (.int .i64 (x' : Int)) (by kernel_rfl) (by kernel_rfl) (by kernel_rfl) (fun _ _ _ h => h) (fun o' wq e hS => exec_load (x := (.tmp 63)) e (by kernel_rfl) (load_one Try.underlying3 (by kernel_rfl) hS.1)) HS.out ?_
            refine takeG 6 (.move (.tmp 1)) (some 65) none (.slice (some ⟨g, o, none⟩) n cap) (by kernel_rfl) (by kernel_rfl) (by kernel_rfl) (fun _ _ _ h => h) (fun o' wq e hS => exec_move wq e (by kernel_rfl)) HS.out ?_
            refine takeG 7 (.move (.tmp 8)) (some 66) none (.int .i64 (i : Int)) (by kernel_rfl) (by kernel_rfl) (by kernel_rfl) (fun _ _ _ h => h) (fun o' wq e hS => exec_move wq e (by kernel_rfl)) HS.out ?_
            refine takeG 8 (.indexAddr 47 (.tmp 65) (.tmp 66)) (some 67) none (.pointer (some ⟨g, o + i * 3, none⟩)) (by kernel_rfl) (by kernel_rfl) (by kernel_rfl) (fun _ _ _ h => h) (fun o' wq e hS => exec_index (u1 := .slice (some ⟨g, o, none⟩) n cap) (u2 := .int .i64 (i : Int)) wq e (by kernel_rfl) (by kernel_rfl) (index_refop g o n cap i hlt _)) HS.out ?_
            refine takeG 9 (.fieldAddr 50 (.tmp 67) 2) (some 68) none (.pointer (some ⟨g, o + i * 3 + 2, none⟩)) (by kernel_rfl) (by kernel_rfl) (by kernel_rfl) (fun _ _ _ h => h) (fun o' wq e hS => exec_field (u := .pointer (some ⟨g, o + i * 3, none⟩)) wq e (by kernel_rfl) (by kernel_rfl)) HS.out ?_
            refine takeG 10 (.load 3 (.tmp 68)) (some 69) none (.int .i64 (y' : Int)) (by kernel_rfl) (by kernel_rfl) (by kernel_rfl) (fun _ _ _ h => h) (fun o' wq e hS => exec_load (x := (.tmp 68)) e (by kernel_rfl) (load_one Try.underlying3 (by kernel_rfl) hS.2)) HS.out ?_
            refine takeG 11 (.move (.tmp 10)) (some 70) none (.int .i64 1) (by kernel_rfl) (by kernel_rfl) (by kernel_rfl) (fun _ _ _ h => h) (fun o' wq e hS => exec_move wq e (by kernel_rfl)) HS.out ?_
            refine loneG 12 (.call ⟨.value (.func 41), #[(.tmp 59), (.tmp 64), (.tmp 69), (.tmp 70)], #[37, 3, 3, 3]⟩) (some 71) none (by kernel_rfl) (by kernel_rfl) (by kernel_rfl) ?_
            intro o' ho hod
            refine wp_callC (f := 41) (args := #[.pointer (some ⟨b, 0, none⟩), .int .i64 (x' : Int), .int .i64 (y' : Int), .int .i64 1]) (by cases o'; cases ho; kernel_rfl) HSE.out ?_
            rintro ee W4 ⟨rfl, r5, b5⟩
            refine ⟨.tuple #[], rfl, ?_⟩
            rw [hod]
            clear hod ho
            have HS5 : Hid (RefS W4 O b _) := Lib.hid ⟨HG2.out.1, _, r5, HG2.out.2⟩
            have L5 : Hid (Below w.heap.size w W4) := Lib.hid (HBO.out _ _ L1.out.drew b5)
            have HS9 := Lib.hid (HCL.out _ L5.out)
            clear r5 b5 HS HSE HG2 HCL
            refine ⟨fun _ => HS9.out, ?_⟩
            refine AnyZ.done (by kernel_rfl) ?_
            simp only [put_some, put_none, List.setIfInBounds_toArray, List.set_cons_succ, List.set_cons_zero]
            go_wp2_with fail
            go_roundw
            case rel => exact ⟨i + 1, _, by omega, by go_num, HS5, HPR, L5⟩
            case measure => simp [intOf]; omega
        | false =>
          have e1 : redoS s false (x' : Int) (y' : Int) = if hasL x' (x' + y') (s.S 1) then (true, s.mv 1 0 x' (x' + y')) else (false, s) := by
            unfold redoS
            rw [if_neg hno, Int.toNat_natCast, Int.toNat_natCast]
            rfl
          have hh := htl.has hg0 (k := 1) (by omega) hlt2 hxy
          have HAL := Lib.hid (all_rf hrm hg0.hc.2 x' y' hxy 1)
          cases hq : hasL x' (x' + y') (s.S 1) with
          | false =>
            rw [hq] at e1 hh
            have HQ : Hid (R = .error 2) := Lib.hid (by rw [HR.out, HNEW.out, HST.out, e1]; rfl)
            have HF : Hid (∀ e, SaysAll f 1 x' (x' + y') e → e = .returned (.bool false)) := Lib.hid fun e ⟨bb, e3, e4⟩ => by
              cases bb with
              | false => exact e3
              | true => exact absurd (hh.2 (e4.1 rfl)) (by decide)
            clear hg0 hrm htl hno e2 HST HRS z1 z2 z3 z4 e1 hh hq hxy hlt2
            go_upto_region 10 with (fail)
            refine region_anyZ (fun w' => w'.cell? ⟨g, o + i * 3 + 1, none⟩ = some (.int .i64 (x' : Int)) ∧ w'.cell? ⟨g, o + i * 3 + 2, none⟩ = some (.int .i64 (y' : Int))) 29 (by kernel_rfl) ?_
            refine takeG 0 (.move (.tmp 6)) (some 30) none (.pointer (some ⟨b, 0, none⟩)) (by kernel_rfl) (by kernel_rfl) (by kernel_rfl) (fun _ _ _ h => h) (fun o' wq e hS => exec_move wq e (by kernel_rfl)) HS.out ?_
            refine takeG 1 (.move (.tmp 1)) (some 31) none (.slice (some ⟨g, o, none⟩) n cap) (by kernel_rfl) (by kernel_rfl) (by kernel_rfl) (fun _ _ _ h => h) (fun o' wq e hS => exec_move wq e (by kernel_rfl)) HS.out ?_
            refine takeG 2 (.move (.tmp 8)) (some 32) none (.int .i64 (i : Int)) (by kernel_rfl) (by kernel_rfl) (by kernel_rfl) (fun _ _ _ h => h) (fun o' wq e hS => exec_move wq e (by kernel_rfl)) HS.out ?_
            refine takeG 3 (.indexAddr 47 (.tmp 31) (.tmp 32)) (some 33) none (.pointer (some ⟨g, o + i * 3, none⟩)) (by kernel_rfl) (by kernel_rfl) (by kernel_rfl) (fun _ _ _ h => h) (fun o' wq e hS => exec_index (u1 := .slice (some ⟨g, o, none⟩) n cap) (u2 := .int .i64 (i : Int)) wq e (by kernel_rfl) (by kernel_rfl) (index_refop g o n cap i hlt _)) HS.out ?_
            refine takeG 4 (.fieldAddr 50 (.tmp 33) 1) (some 34) none (.pointer (some ⟨g, o + i * 3 + 1, none⟩)) (by kernel_rfl) (by kernel_rfl) (by kernel_rfl) (fun _ _ _ h => h) (fun o' wq e hS => exec_field (u := .pointer (some ⟨g, o + i * 3, none⟩)) wq e (by kernel_rfl) (by kernel_rfl)) HS.out ?_
            refine takeG 5 (.load 3 (.tmp 34)) (some 35) none (.int .i64 (x' : Int)) (by kernel_rfl) (by kernel_rfl) (by kernel_rfl) (fun _ _ _ h => h) (fun o' wq e hS => exec_load (x := (.tmp 34)) e (by kernel_rfl) (load_one Try.underlying3 (by kernel_rfl) hS.1)) HS.out ?_
            refine takeG 6 (.move (.tmp 1)) (some 36) none (.slice (some ⟨g, o, none⟩) n cap) (by kernel_rfl) (by kernel_rfl) (by kernel_rfl) (fun _ _ _ h => h) (fun o' wq e hS => exec_move wq e (by kernel_rfl)) HS.out ?_
            refine takeG 7 (.move (.tmp 8)) (some 37) none (.int .i64 (i : Int)) (by kernel_rfl) (by kernel_rfl) (by kernel_rfl) (fun _ _ _ h => h) (fun o' wq e hS => exec_move wq e (by kernel_rfl)) HS.out ?_
            refine takeG 8 (.indexAddr 47 (.tmp 36) (.tmp 37)) (some 38) none (.pointer (some ⟨g, o + i * 3, none⟩)) (by kernel_rfl) (by kernel_rfl) (by kernel_rfl) (fun _ _ _ h => h) (fun o' wq e hS => exec_index (u1 := .slice (some ⟨g, o, none⟩) n cap) (u2 := .int .i64 (i : Int)) wq e (by kernel_rfl) (by kernel_rfl) (index_refop g o n cap i hlt _)) HS.out ?_
            refine takeG 9 (.fieldAddr 50 (.tmp 38) 2) (some 39) none (.pointer (some ⟨g, o + i * 3 + 2, none⟩)) (by kernel_rfl) (by kernel_rfl) (by kernel_rfl) (fun _ _ _ h => h) (fun o' wq e hS => exec_field (u := .pointer (some ⟨g, o + i * 3, none⟩)) wq e (by kernel_rfl) (by kernel_rfl)) HS.out ?_
            refine takeG 10 (.load 3 (.tmp 39)) (some 40) none (.int .i64 (y' : Int)) (by kernel_rfl) (by kernel_rfl) (by kernel_rfl) (fun _ _ _ h => h) (fun o' wq e hS => exec_load (x := (.tmp 39)) e (by kernel_rfl) (load_one Try.underlying3 (by kernel_rfl) hS.2)) HS.out ?_
            refine loneG 11 (.call ⟨.value (.func 42), #[(.tmp 30), (.tmp 35), (.tmp 40)], #[37, 3, 3]⟩) (some 41) none (by kernel_rfl) (by kernel_rfl) (by kernel_rfl) ?_
            intro o' ho hod
            refine wp_callC (f := 42) (args := #[.pointer (some ⟨b, 0, none⟩), .int .i64 (x' : Int), .int .i64 (y' : Int)]) (by cases o'; cases ho; kernel_rfl) HIN.out ?_
            rintro ee W4 ⟨rfl, hw⟩
            have hw := hw.symm
            subst hw
            refine ⟨.bool true, rfl, ?_⟩
            rw [hod]
            clear hod ho
            refine ⟨fun _ => HS.out, ?_⟩
            refine takeG 12 (.unOp .not 4 (.tmp 41)) (some 42) none (.bool false) (by kernel_rfl) (by kernel_rfl) (by kernel_rfl) (fun _ _ _ h => h) (fun o' wq e hS => exec_un (u := .bool true) wq e (by kernel_rfl) (by kernel_rfl)) HS.out ?_
            refine takeG 13 (.move (.tmp 42)) (some 43) none (.bool false) (by kernel_rfl) (by kernel_rfl) (by kernel_rfl) (fun _ _ _ h => h) (fun o' wq e hS => exec_move wq e (by kernel_rfl)) HS.out ?_
            refine takeG 14 (.move (.tmp 6)) (some 44) (some (13, false)) (.pointer (some ⟨b, 0, none⟩)) (by kernel_rfl) (by kernel_rfl) (by kernel_rfl) (fun _ _ _ h => h) (fun o' wq e hS => exec_move wq e (by kernel_rfl)) HS.out ?_
            refine takeG 15 (.move (.tmp 1)) (some 45) (some (13, false)) (.slice (some ⟨g, o, none⟩) n cap) (by kernel_rfl) (by kernel_rfl) (by kernel_rfl) (fun _ _ _ h => h) (fun o' wq e hS => exec_move wq e (by kernel_rfl)) HS.out ?_
            refine takeG 16 (.move (.tmp 8)) (some 46) (some (13, false)) (.int .i64 (i : Int)) (by kernel_rfl) (by kernel_rfl) (by kernel_rfl) (fun _ _ _ h => h) (fun o' wq e hS => exec_move wq e (by kernel_rfl)) HS.out ?_
            refine takeG 17 (.indexAddr 47 (.tmp 45) (.tmp 46)) (some 47) (some (13, false)) (.pointer (some ⟨g, o + i * 3, none⟩)) (by kernel_rfl) (by kernel_rfl) (by kernel_rfl) (fun _ _ _ h => h) (fun o' wq e hS => exec_index (u1 := .slice (some ⟨g, o, none⟩) n cap) (u2 := .int .i64 (i : Int)) wq e (by kernel_rfl) (by kernel_rfl) (index_refop g o n cap i hlt _)) HS.out ?_
            refine takeG 18 (.fieldAddr 50 (.tmp 47) 1) (some 48) (some (13, false)) (.pointer (some ⟨g, o + i * 3 + 1, none⟩)) (by kernel_rfl) (by kernel_rfl) (by kernel_rfl) (fun _ _ _ h => h) (fun o' wq e hS => exec_field (u := .pointer (some ⟨g, o + i * 3, none⟩)) wq e (by kernel_rfl) (by kernel_rfl)) HS.out ?_
            refine takeG 19 (.load 3 (.tmp 48)) (some 49) (some (13, false)) (.int .i64 (x' : Int)) (by kernel_rfl) (by kernel_rfl) (by kernel_rfl) (fun _ _ _ h => h) (fun o' wq e hS => exec_load (x := (.tmp 48)) e (by kernel_rfl) (load_one Try.underlying3 (by kernel_rfl) hS.1)) HS.out ?_
            refine takeG 20 (.move (.tmp 1)) (some 50) (some (13, false)) (.slice (some ⟨g, o, none⟩) n cap) (by kernel_rfl) (by kernel_rfl) (by kernel_rfl) (fun _ _ _ h => h) (fun o' wq e hS => exec_move wq e (by kernel_rfl)) HS.out ?_
            refine takeG 21 (.move (.tmp 8)) (some 51) (some (13, false)) (.int .i64 (i : Int)) (by kernel_rfl) (by kernel_rfl) (by kernel_rfl) (fun _ _ _ h => h) (fun o' wq e hS => exec_move wq e (by kernel_rfl)) HS.out ?_
            refine takeG 22 (.indexAddr 47 (.tmp 50) (.tmp 51)) (some 52) (some (13, false)) (.pointer (some ⟨g, o + i * 3, none⟩)) (by kernel_rfl) (by kernel_rfl) (by kernel_rfl) (fun _ _ _ h => h) (fun o' wq e hS => exec_index (u1 := .slice (some ⟨g, o, none⟩) n cap) (u2 := .int .i64 (i : Int)) wq e (by kernel_rfl) (by kernel_rfl) (index_refop g o n cap i hlt _)) HS.out ?_
            refine takeG 23 (.fieldAddr 50 (.tmp 52) 2) (some 53) (some (13, false)) (.pointer (some ⟨g, o + i * 3 + 2, none⟩)) (by kernel_rfl) (by kernel_rfl) (by kernel_rfl) (fun _ _ _ h => h) (fun o' wq e hS => exec_field (u := .pointer (some ⟨g, o + i * 3, none⟩)) wq e (by kernel_rfl) (by kernel_rfl)) HS.out ?_
            refine takeG 24 (.load 3 (.tmp 53)) (some 54) (some (13, false)) (.int .i64 (y' : Int)) (by kernel_rfl) (by kernel_rfl) (by kernel_rfl) (fun _ _ _ h => h) (fun o' wq e hS => exec_load (x := (.tmp 53)) e (by kernel_rfl) (load_one Try.underlying3 (by kernel_rfl) hS.2)) HS.out ?_
            refine takeG 25 (.move (.tmp 9)) (some 55) (some (13, false)) (.int .i64 1) (by kernel_rfl) (by kernel_rfl) (by kernel_rfl) (fun _ _ _ h => h) (fun o' wq e hS => exec_move wq e (by kernel_rfl)) HS.out ?_
            refine loneG 26 (.call ⟨.value (.func 43), #[(.tmp 44), (.tmp 49), (.tmp 54), (.tmp 55)], #[37, 3, 3, 3]⟩) (some 56) (some (13, false)) (by kernel_rfl) (by kernel_rfl) (by kernel_rfl) ?_
            intro o' ho hod
            refine wp_callC (f := 43) (args := #[.pointer (some ⟨b, 0, none⟩), .int .i64 (x' : Int), .int .i64 (y' : Int), .int .i64 1]) (by cases o'; cases ho; kernel_rfl) HAL.out ?_
            rintro ee W4 ⟨he, hw⟩
            have hw := hw.symm
            have he := HF.out ee he
            subst he hw
            refine ⟨.bool false, rfl, ?_⟩
            rw [hod]
            clear hod ho
            refine ⟨fun _ => HS.out, ?_⟩
            refine takeG 27 (.unOp .not 4 (.tmp 56)) (some 57) (some (13, false)) (.bool true) (by kernel_rfl) (by kernel_rfl) (by kernel_rfl) (fun _ _ _ h => h) (fun o' wq e hS => exec_un (u := .bool false) wq e (by kernel_rfl) (by kernel_rfl)) HS.out ?_
            refine lastS 28 (.pick (.tmp 43) (.const (Value.bool true)) (.tmp 57)) (some 58) (.bool true) (by kernel_rfl) (by kernel_rfl) (by kernel_rfl) HS.out (fun o' e => exec_pick (b := false) _ e (by kernel_rfl) (by kernel_rfl)) ?_
            simp only [put_some, put_none, List.setIfInBounds_toArray, List.set_cons_succ, List.set_cons_zero]
            clear HS HIN HAL HF
            go_wp2_with fail
            go_ret2
            rw [HQ.out]
            exact ⟨rfl, L1.out⟩
          | true =>
            rw [hq] at e1 hh
            have HPR : Hid (RepRel (allFree C) l (i + 1) (s.mv 1 0 x' (x' + y'))) := Lib.hid (by
              have := HST.out
              rw [e1] at this
              exact this)
            have HF : Hid (∀ e, SaysAll f 1 x' (x' + y') e → e = .returned (.bool true)) := Lib.hid fun e ⟨bb, e3, e4⟩ => by
              cases bb with
              | true => exact e3
              | false => exact absurd (e4.2 (hh.1 rfl)) (by decide)
            have HSE := Lib.hid (set_rf (w := wr.drew.drew) (hrm.drew) hg0.hc.2 x' y' hxy 0)
            have HG2 : Hid (Sp.Good (s.mv 1 0 x' (x' + y')) ∧ Tells (fset f x' (x' + y') 0) (s.mv 1 0 x' (x' + y'))) := Lib.hid ⟨hg0.mv (f := 1) (t := 0) (by decide) (by decide) (by decide) hlt2 hq, htl.mv (p := 1) (t := 0) hg0 (by decide) (by decide) (by decide) hlt2 hq⟩
            clear hg0 hrm htl hno e2 HST HRS z1 z2 z3 z4 e1 hh hq hxy hlt2
            go_upto_region 10 with (fail)
            refine region_anyZ (fun w' => w'.cell? ⟨g, o + i * 3 + 1, none⟩ = some (.int .i64 (x' : Int)) ∧ w'.cell? ⟨g, o + i * 3 + 2, none⟩ = some (.int .i64 (y' : Int))) 29 (by kernel_rfl) ?_
            refine takeG 0 (.move (.tmp 6)) (some 30) none (.pointer (some ⟨b, 0, none⟩)) (by kernel_rfl) (by kernel_rfl) (by kernel_rfl) (fun _ _ _ h => h) (fun o' wq e hS => exec_move wq e (by kernel_rfl)) HS.out ?_
            refine takeG 1 (.move (.tmp 1)) (some 31) none (.slice (some ⟨g, o, none⟩) n cap) (by kernel_rfl) (by kernel_rfl) (by kernel_rfl) (fun _ _ _ h => h) (fun o' wq e hS => exec_move wq e (by kernel_rfl)) HS.out ?_
            refine takeG 2 (.move (.tmp 8)) (some 32) none (.int .i64 (i : Int)) (by kernel_rfl) (by kernel_rfl) (by kernel_rfl) (fun _ _ _ h => h) (fun o' wq e hS => exec_move wq e (by kernel_rfl)) HS.out ?_
            refine takeG 3 (.indexAddr 47 (.tmp 31) (.tmp 32)) (some 33) none (.pointer (some ⟨g, o + i * 3, none⟩)) (by kernel_rfl) (by kernel_rfl) (by kernel_rfl) (fun _ _ _ h => h) (fun o' wq e hS => exec_index (u1 := .slice (some ⟨g, o, none⟩) n cap) (u2 := .int .i64 (i : Int)) wq e (by kernel_rfl) (by kernel_rfl) (index_refop g o n cap i hlt _)) HS.out ?_
            refine takeG 4 (.fieldAddr 50 (.tmp 33) 1) (some 34) none (.pointer (some ⟨g, o + i * 3 + 1, none⟩)) (by kernel_rfl) (by kernel_rfl) (by kernel_rfl) (fun _ _ _ h => h) (fun o' wq e hS => exec_field (u := .pointer (some ⟨g, o + i * 3, none⟩)) wq e (by kernel_rfl) (by kernel_rfl)) HS.out ?_
            refine takeG 5 (.load 3 (.tmp 34)) (some 35) none (.int .i64 (x' : Int)) (by kernel_rfl) (by kernel_rfl) (by kernel_rfl) (fun _ _ _ h => h) (fun o' wq e hS => exec_load (x := (.tmp 34)) e (by kernel_rfl) (load_one Try.underlying3 (by kernel_rfl) hS.1)) HS.out ?_
            refine takeG 6 (.move (.tmp 1)) (some 36) none (.slice (some ⟨g, o, none⟩) n cap) (by kernel_rfl) (by kernel_rfl) (by kernel_rfl) (fun _ _ _ h => h) (fun o' wq e hS => exec_move wq e (by kernel_rfl)) HS.out ?_
            refine takeG 7 (.move (.tmp 8)) (some 37) none (.int .i64 (i : Int)) (by kernel_rfl) (by kernel_rfl) (by kernel_rfl) (fun _ _ _ h => h) (fun o' wq e hS => exec_move wq e (by kernel_rfl)) HS.out ?_
            refine takeG 8 (.indexAddr 47 (.tmp 36) (.tmp 37)) (some 38) none (.pointer (some ⟨g, o + i * 3, none⟩)) (by kernel_rfl) (by kernel_rfl) (by kernel_rfl) (fun _ _ _ h => h) (fun o' wq e hS => exec_index (u1 := .slice (some ⟨g, o, none⟩) n cap) (u2 := .int .i64 (i : Int)) wq e (by kernel_rfl) (by kernel_rfl) (index_refop g o n cap i hlt _)) HS.out ?_
            refine takeG 9 (.fieldAddr 50 (.tmp 38) 2) (some 39) none (.pointer (some ⟨g, o + i * 3 + 2, none⟩)) (by kernel_rfl) (by kernel_rfl) (by kernel_rfl) (fun _ _ _ h => h) (fun o' wq e hS => exec_field (u := .pointer (some ⟨g, o + i * 3, none⟩)) wq e (by kernel_rfl) (by kernel_rfl)) HS.out ?_
            refine takeG 10 (.load 3 (.tmp 39)) (some 40) none (.int .i64 (y' : Int)) (by kernel_rfl) (by kernel_rfl) (by kernel_rfl) (fun _ _ _ h => h) (fun o' wq e hS => exec_load (x := (.tmp 39)) e (by kernel_rfl) (load_one Try.underlying3 (by kernel_rfl) hS.2)) HS.out ?_
            refine loneG 11 (.call ⟨.value (.func 42), #[(.tmp 30), (.tmp 35), (.tmp 40)], #[37, 3, 3]⟩) (some 41) none (by kernel_rfl) (by kernel_rfl) (by kernel_rfl) ?_
            intro o' ho hod
            refine wp_callC (f := 42) (args := #[.pointer (some ⟨b, 0, none⟩), .int .i64 (x' : Int), .int .i64 (y' : Int)]) (by cases o'; cases ho; kernel_rfl) HIN.out ?_
            rintro ee W4 ⟨rfl, hw⟩
            have hw := hw.symm
            subst hw
            refine ⟨.bool true, rfl, ?_⟩
            rw [hod]
            clear hod ho
            refine ⟨fun _ => HS.out, ?_⟩
            refine takeG 12 (.unOp .not 4 (.tmp 41)) (some 42) none (.bool false) (by kernel_rfl) (by kernel_rfl) (by kernel_rfl) (fun _ _ _ h => h) (fun o' wq e hS => exec_un (u := .bool true) wq e (by kernel_rfl) (by kernel_rfl)) HS.out ?_
            refine takeG 13 (.move (.tmp 42)) (some 43) none (.bool false) (by kernel_rfl) (by kernel_rfl) (by kernel_rfl) (fun _ _ _ h => h) (fun o' wq e hS => exec_move wq e (by kernel_rfl)) HS.out ?_
            refine takeG 14 (.move (.tmp 6)) (some 44) (some (13, false)) (.pointer (some ⟨b, 0, none⟩)) (by kernel_rfl) (by kernel_rfl) (by kernel_rfl) (fun _ _ _ h => h) (fun o' wq e hS => exec_move wq e (by kernel_rfl)) HS.out ?_
            refine takeG 15 (.move (.tmp 1)) (some 45) (some (13, false)) (.slice (some ⟨g, o, none⟩) n cap) (by kernel_rfl) (by kernel_rfl) (by kernel_rfl) (fun _ _ _ h => h) (fun o' wq e hS => exec_move wq e (by kernel_rfl)) HS.out ?_
            refine takeG 16 (.move (.tmp 8)) (some 46) (some (13, false)) (.int .i64 (i : Int)) (by kernel_rfl) (by kernel_rfl) (by kernel_rfl) (fun _ _ _ h => h) (fun o' wq e hS => exec_move wq e (by kernel_rfl)) HS.out ?_
            refine takeG 17 (.indexAddr 47 (.tmp 45) (.tmp 46)) (some 47) (some (13, false)) (.pointer (some ⟨g, o + i * 3, none⟩)) (by kernel_rfl) (by kernel_rfl) (by kernel_rfl) (fun _ _ _ h => h) (fun o' wq e hS => exec_index (u1 := .slice (some ⟨g, o, none⟩) n cap) (u2 := .int .i64 (i : Int)) wq e (by kernel_rfl) (by kernel_rfl) (index_refop g o n cap i hlt _)) HS.out ?_
            refine takeG 18 (.fieldAddr 50 (.tmp 47) 1) (some 48) (some (13, false)) (.pointer (some ⟨g, o + i * 3 + 1, none⟩)) (by kernel_rfl) (by kernel_rfl) (by kernel_rfl) (fun _ _ _ h => h) (fun o' wq e hS => exec_field (u := .pointer (some ⟨g, o + i * 3, none⟩)) wq e (by kernel_rfl) (by kernel_rfl)) HS.out ?_
            refine takeG 19 (.load 3 (.tmp 48)) (some 49) (some (13, false)) (.int .i64 (x' : Int)) (by kernel_rfl) (by kernel_rfl) (by kernel_rfl) (fun _ _ _ h => h) (fun o' wq e hS => exec_load (x := (.tmp 48)) e (by kernel_rfl) (load_one Try.underlying3 (by kernel_rfl) hS.1)) HS.out ?_
            refine takeG 20 (.move (.tmp 1)) (some 50) (some (13, false)) (.slice (some ⟨g, o, none⟩) n cap) (by kernel_rfl) (by kernel_rfl) (by kernel_rfl) (fun _ _ _ h => h) (fun o' wq e hS => exec_move wq e (by kernel_rfl)) HS.out ?_
            refine takeG 21 (.move (.tmp 8)) (some 51) (some (13, false)) (.int .i64 (i : Int)) (by kernel_rfl) (by kernel_rfl) (by kernel_rfl) (fun _ _ _ h => h) (fun o' wq e hS => exec_move wq e (by kernel_rfl)) HS.out ?_
            refine takeG 22 (.indexAddr 47 (.tmp 50) (.tmp 51)) (some 52) (some (13, false)) (.pointer (some ⟨g, o + i * 3, none⟩)) (by kernel_rfl) (by kernel_rfl) (by kernel_rfl) (fun _ _ _ h => h) (fun o' wq e hS => exec_index (u1 := .slice (some ⟨g, o, none⟩) n cap) (u2 := .int .i64 (i : Int)) wq e (by kernel_rfl) (by kernel_rfl) (index_refop g o n cap i hlt _)) HS.out ?_
            refine takeG 23 (.fieldAddr 50 (.tmp 52) 2) (some 53) (some (13, false)) (.pointer (some ⟨g, o + i * 3 + 2, none⟩)) (by kernel_rfl) (by kernel_rfl) (by kernel_rfl) (fun _ _ _ h => h) (fun o' wq e hS => exec_field (u := .pointer (some ⟨g, o + i * 3, none⟩)) wq e (by kernel_rfl) (by kernel_rfl)) HS.out ?_
            refine takeG 24 (.load 3 (.tmp 53)) (some 54) (some (13, false)) (.int .i64 (y' : Int)) (by kernel_rfl) (by kernel_rfl) (by kernel_rfl) (fun _ _ _ h => h) (fun o' wq e hS => exec_load (x := (.tmp 53)) e (by kernel_rfl) (load_one Try.underlying3 (by kernel_rfl) hS.2)) HS.out ?_
            refine takeG 25 (.move (.tmp 9)) (some 55) (some (13, false)) (.int .i64 1) (by kernel_rfl) (by kernel_rfl) (by kernel_rfl) (fun _ _ _ h => h) (fun o' wq e hS => exec_move wq e (by kernel_rfl)) HS.out ?_
            refine loneG 26 (.call ⟨.value (.func 43), #[(.tmp 44), (.tmp 49), (.tmp 54), (.tmp 55)], #[37, 3, 3, 3]⟩) (some 56) (some (13, false)) (by kernel_rfl) (by kernel_rfl) (by kernel_rfl) ?_
            intro o' ho hod
            refine wp_callC (f := 43) (args := #[.pointer (some ⟨b, 0, none⟩), .int .i64 (x' : Int), .int .i64 (y' : Int), .int .i64 1]) (by cases o'; cases ho; kernel_rfl) HAL.out ?_
            rintro ee W4 ⟨he, hw⟩
            have hw := hw.symm
            have he := HF.out ee he
            subst he hw
            refine ⟨.bool true, rfl, ?_⟩
            rw [hod]
            clear hod ho
            refine ⟨fun _ => HS.out, ?_⟩
            refine takeG 27 (.unOp .not 4 (.tmp 56)) (some 57) (some (13, false)) (.bool false) (by kernel_rfl) (by kernel_rfl) (by kernel_rfl) (fun _ _ _ h => h) (fun o' wq e hS => exec_un (u := .bool true) wq e (by kernel_rfl) (by kernel_rfl)) HS.out ?_
            refine lastS 28 (.pick (.tmp 43) (.const (Value.bool true)) (.tmp 57)) (some 58) (.bool false) (by kernel_rfl) (by kernel_rfl) (by kernel_rfl) HS.out (fun o' e => exec_pick (b := false) _ e (by kernel_rfl) (by kernel_rfl)) ?_
            simp only [put_some, put_none, List.setIfInBounds_toArray, List.set_cons_succ, List.set_cons_zero]
            clear HIN HAL HF
            go_upto_region 12 with (fail)
            refine region_anyZ (fun w' => w'.cell? ⟨g, o + i * 3 + 1, none⟩ = some (.int .i64 (x' : Int)) ∧ w'.cell? ⟨g, o + i * 3 + 2, none⟩ = some (.int .i64 (y' : Int))) 13 (by kernel_rfl) ?_
            refine takeG 0 (.move (.tmp 6)) (some 59) none (.pointer (some ⟨b, 0, none⟩)) (by kernel_rfl) (by kernel_rfl) (by kernel_rfl) (fun _ _ _ h => h) (fun o' wq e hS => exec_move wq e (by kernel_rfl)) HS.out ?_
            refine takeG 1 (.move (.tmp 1)) (some 60) none (.slice (some ⟨g, o, none⟩) n cap) (by kernel_rfl) (by kernel_rfl) (by kernel_rfl) (fun _ _ _ h => h) (fun o' wq e hS => exec_move wq e (by kernel_rfl)) HS.out ?_
            refine takeG 2 (.move (.tmp 8)) (some 61) none (.int .i64 (i : Int)) (by kernel_rfl) (by kernel_rfl) (by kernel_rfl) (fun _ _ _ h => h) (fun o' wq e hS => exec_move wq e (by kernel_rfl)) HS.out ?_
            refine takeG 3 (.indexAddr 47 (.tmp 60) (.tmp 61)) (some 62) none (.pointer (some ⟨g, o + i * 3, none⟩)) (by kernel_rfl) (by kernel_rfl) (by kernel_rfl) (fun _ _ _ h => h) (fun o' wq e hS => exec_index (u1 := .slice (some ⟨g, o, none⟩) n cap) (u2 := .int .i64 (i : Int)) wq e (by kernel_rfl) (by kernel_rfl) (index_refop g o n cap i hlt _)) HS.out ?_
            refine takeG 4 (.fieldAddr 50 (.tmp 62) 1) (some 63) none (.pointer (some ⟨g, o + i * 3 + 1, none⟩)) (by kernel_rfl) (by kernel_rfl) (by kernel_rfl) (fun _ _ _ h => h) (fun o' wq e hS => exec_field (u := .pointer (some ⟨g, o + i * 3, none⟩)) wq e (by kernel_rfl) (by kernel_rfl)) HS.out ?_
            refine takeG 5 (.load 3 (.tmp 63)) (some 64) none (.int .i64 (x' : Int)) (by kernel_rfl) (by kernel_rfl) (by kernel_rfl) (fun _ _ _ h => h) (fun o' wq e hS => exec_load (x := (.tmp 63)) e (by kernel_rfl) (load_one Try.underlying3 (by kernel_rfl) hS.1)) HS.out ?_
            refine takeG 6 (.move (.tmp 1)) (some 65) none (.slice (some ⟨g, o, none⟩) n cap) (by kernel_rfl) (by kernel_rfl) (by kernel_rfl) (fun _ _ _ h => h) (fun o' wq e hS => exec_move wq e (by kernel_rfl)) HS.out ?_
            refine takeG 7 (.move (.tmp 8)) (some 66) none (.int .i64 (i : Int)) (by kernel_rfl) (by kernel_rfl) (by kernel_rfl) (fun _ _ _ h => h) (fun o' wq e hS => exec_move wq e (by kernel_rfl)) HS.out ?_
            refine takeG 8 (.indexAddr 47 (.tmp 65) (.tmp 66)) (some 67) none (.pointer (some ⟨g, o + i * 3, none⟩)) (by kernel_rfl) (by kernel_rfl) (by kernel_rfl) (fun _ _ _ h => h) (fun o' wq e hS => exec_index (u1 := .slice (some ⟨g, o, none⟩) n cap) (u2 := .int .i64 (i : Int)) wq e (by kernel_rfl) (by kernel_rfl) (index_refop g o n cap i hlt _)) HS.out ?_
            refine takeG 9 (.fieldAddr 50 (.tmp 67) 2) (some 68) none (.pointer (some ⟨g, o + i * 3 + 2, none⟩)) (by kernel_rfl) (by kernel_rfl) (by kernel_rfl) (fun _ _ _ h => h) (fun o' wq e hS => exec_field (u := .pointer (some ⟨g, o + i * 3, none⟩)) wq e (by kernel_rfl) (by kernel_rfl)) HS.out ?_
            refine takeG 10 (.load 3 (.tmp 68)) (some 69) none (.int .i64 (y' : Int)) (by kernel_rfl) (by kernel_rfl) (by kernel_rfl) (fun _ _ _ h => h) (fun o' wq e hS => exec_load (x := (.tmp 68)) e (by kernel_rfl) (load_one Try.underlying3 (by kernel_rfl) hS.2)) HS.out ?_
            refine takeG 11 (.move (.tmp 10)) (some 70) none (.int .i64 0) (by kernel_rfl) (by kernel_rfl) (by kernel_rfl) (fun _ _ _ h => h) (fun o' wq e hS => exec_move wq e (by kernel_rfl)) HS.out ?_
            refine loneG 12 (.call ⟨.value (.func 41), #[(.tmp 59), (.tmp 64), (.tmp 69), (.tmp 70)], #[37, 3, 3, 3]⟩) (some 71) none (by kernel_rfl) (by kernel_rfl) (by kernel_rfl) ?_
            intro o' ho hod
            refine wp_callC (f := 41) (args := #[.pointer (some ⟨b, 0, none⟩), .int .i64 (x' : Int), .int .i64 (y' : Int), .int .i64 0]) (by cases o'; cases ho; kernel_rfl) HSE.out ?_
            rintro ee W4 ⟨rfl, r5, b5⟩
            refine ⟨.tuple #[], rfl, ?_⟩
            rw [hod]
            clear hod ho
            have HS5 : Hid (RefS W4 O b _) := Lib.hid ⟨HG2.out.1, _, r5, HG2.out.2⟩
            have L5 : Hid (Below w.heap.size w W4) := Lib.hid (HBO.out _ _ L1.out.drew b5)
            have HS9 := Lib.hid (HCL.out _ L5.out)
            clear r5 b5 HS HSE HG2 HCL
            refine ⟨fun _ => HS9.out, ?_⟩
            refine AnyZ.done (by kernel_rfl) ?_
            simp only [put_some, put_none, List.setIfInBounds_toArray, List.set_cons_succ, List.set_cons_zero]
            go_wp2_with fail
            go_roundw
            case rel => exact ⟨i + 1, _, by omega, by go_num, HS5, HPR, L5⟩
            case measure => simp [intOf]; omega
    · have i1 : ¬ ((i : Int) < (n : Int)) := by omega
      have hq : R = .ok s := by
        have h5 := HP.out
        unfold RepRel at h5
        rw [List.drop_eq_nil_of_le (by have := HN.out; omega)] at h5
        rw [HR.out, HNEW.out, h5]
        rfl
      have HQ := Lib.hid hq
      clear hq HP
      go_wp2_with fail
      go_ret2
      rw [HQ.out]
      exact ⟨b, rfl, by have := HS0.out; rw [HO.out] at this; exact this, L0.out⟩
theorem replay_rs (w : World) (C : Int) (A : Option Addr) (l : List (Bool × Int × Int)) (c : Nat) (hl : l.length ≤ 4611686018427387904) (hrd : Gr.RdG 3 Gr.csB w A l) (hz : ∀ r ∈ l, Gr.Z64' r.2.1 ∧ Gr.Z64' r.2.2) :
    Calls Try.prog 27 #[.int .i64 C, .slice A l.length c] w fun er w' => RfPost w (repS C l) er w' := by
  by_cases hC : C < 1 ∨ 40000 < C
  · have e1 : repS C l = .error 1 := if_pos hC
    rw [e1]
    exact replay_ref_arg w C A l.length c hC
  · obtain ⟨D, hD⟩ : ∃ D : Nat, C = (D : Int) := ⟨C.toNat, by omega⟩
    subst hD
    exact replay_ref w D A l c (by omega) (by omega) hl hrd hz
end Rf
end Go.Proofs.Ytffbclendkojlaa
