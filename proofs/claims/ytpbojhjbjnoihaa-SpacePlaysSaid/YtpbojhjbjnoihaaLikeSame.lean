/-
  Two lists of ranges that are the same, compared by the law. No conditions beyond those that the theorem types.
-/
import Derived.Test.YtpbojhjbjnoihaaRefCalls
namespace Go.Proofs.Ytpbojhjbjnoihaa
open Go Go.RowKit
set_option maxRecDepth 100000
set_option linter.unusedVariables false
namespace Rf
open Sp
theorem index_spr (b o n c i : Nat) (h : i < n) (w : World) : (Instr.indexAt 31 (.slice (some ⟨b, o, none⟩) n c) (.int .i64 (i : Int))).run Try.prog w = .ok (.pointer (some ⟨b, o + i * 2, none⟩)) w :=
  Gr.index_gen Try.underlying31 (by kernel_rfl) b o n c i h w
theorem neq_same (a : Int) (W : World) : (binOp .neq 3 (.int .i64 a) (.int .i64 a)).run Try.prog W = .ok (.bool false) W := by
  rw [show binOp .neq 3 (.int .i64 a) (.int .i64 a) = pure (.bool (a != a)) from rfl]
  simp
set_option maxHeartbeats 3200000 in
theorem same_at (w : World) (L : List Rg) (A1 A2 : Option Addr) (c1 c2 : Nat) (hL : L.length ≤ 100000) (h1 : Rd w A1 L) (h2 : Gr.RdG 2 csR w A2 L) :
    Calls Try.prog 40 #[.slice A1 L.length c1, .slice A2 L.length c2] w fun e w' => e = .returned (.bool true) ∧ Below w.heap.size w w' := by
  obtain ⟨n, hn⟩ : ∃ n, n = L.length := ⟨_, rfl⟩
  have HN := Lib.hid hn
  have H1 := Lib.hid h1
  have H2 := Lib.hid h2
  have L0 : Hid (Below w.heap.size w w) := Lib.hid (Below.refl _ _)
  rw [← hn] at hL ⊢
  clear hn h1 h2
  go_enter Try.func40, Try.ntmps40
  go_wp2_with fail
  go_loopw [5] (fun y wr => ∃ i : Nat, i ≤ n ∧ y = .int .i64 (i : Int) ∧ Hid (Below w.heap.size w wr)) (fun y _ => n - (intOf y).toNat)
  case atStart => exact ⟨0, by omega, rfl, L0⟩
  case round =>
    clear L0
    obtain ⟨i, hi, rfl, L0⟩ := hrel
    by_cases hlt : i < n
    · have i1 : (i : Int) < (n : Int) := by omega
      obtain ⟨r, g, o, hri, hA1, d1, d2⟩ := (H1.out.below L0.out).at_ (i := i) (by have := HN.out; omega)
      obtain ⟨g2, o2, hA2, _, kk⟩ := (H2.out.below L0.out) i r hri
      have k1 := kk 0 _ rfl
      have k2 := kk 1 _ rfl
      rw [Nat.add_zero] at k1
      obtain ⟨x, y⟩ := r
      dsimp only at d1 d2 k1 k2
      subst hA1 hA2
      have HS := Lib.hid (show (wr.drew.cell? ⟨g, o + i * 2, none⟩ = some (.int .i64 (x : Int)) ∧ wr.drew.cell? ⟨g, o + i * 2 + 1, none⟩ = some (.int .i64 (y : Int))) ∧ wr.drew.cell? ⟨g2, o2 + i * 2, none⟩ = some (.int .i64 (x : Int)) ∧ wr.drew.cell? ⟨g2, o2 + i * 2 + 1, none⟩ = some (.int .i64 (y : Int)) from ⟨⟨d1, d2⟩, k1, k2⟩)
      have L1 : Hid (Below w.heap.size w wr.drew) := Lib.hid L0.out.drew
      clear hri d1 d2 kk k1 k2 L0
      go_upto_region 6 with (fail)
      refine region_anyZ (fun w' => (w'.cell? ⟨g, o + i * 2, none⟩ = some (.int .i64 (x : Int)) ∧ w'.cell? ⟨g, o + i * 2 + 1, none⟩ = some (.int .i64 (y : Int))) ∧ w'.cell? ⟨g2, o2 + i * 2, none⟩ = some (.int .i64 (x : Int)) ∧ w'.cell? ⟨g2, o2 + i * 2 + 1, none⟩ = some (.int .i64 (y : Int))) 24 (by kernel_rfl) ?_
      refine takeG 0 (.move (.tmp 0)) (some 17) none (.slice (some ⟨g, o, none⟩) n c1) (by kernel_rfl) (by kernel_rfl) (by kernel_rfl) (fun _ _ _ h => h) (fun o' wq e hS => exec_move wq e (by kernel_rfl)) HS.out ?_
      refine takeG 1 (.move (.tmp 5)) (some 18) none (.int .i64 (i : Int)) (by kernel_rfl) (by kernel_rfl) (by kernel_rfl) (fun _ _ _ h => h) (fun o' wq e hS => exec_move wq e (by kernel_rfl)) HS.out ?_
      refine takeG 2 (.indexAddr 31 (.tmp 17) (.tmp 18)) (some 19) none (.pointer (some ⟨g, o + i * 2, none⟩)) (by kernel_rfl) (by kernel_rfl) (by kernel_rfl) (fun _ _ _ h => h) (fun o' wq e hS => exec_index (u1 := .slice (some ⟨g, o, none⟩) n c1) (u2 := .int .i64 (i : Int)) wq e (by kernel_rfl) (by kernel_rfl) (index_spr g o n c1 i hlt _)) HS.out ?_
      refine takeG 3 (.fieldAddr 34 (.tmp 19) 0) (some 20) none (.pointer (some ⟨g, o + i * 2, none⟩)) (by kernel_rfl) (by kernel_rfl) (by kernel_rfl) (fun _ _ _ h => h) (fun o' wq e hS => exec_field (u := .pointer (some ⟨g, o + i * 2, none⟩)) wq e (by kernel_rfl) (by kernel_rfl)) HS.out ?_
      refine takeG 4 (.load 3 (.tmp 20)) (some 21) none (.int .i64 (x : Int)) (by kernel_rfl) (by kernel_rfl) (by kernel_rfl) (fun _ _ _ h => h) (fun o' wq e hS => exec_load (x := (.tmp 20)) e (by kernel_rfl) (load_one Try.underlying3 (by kernel_rfl) hS.1.1)) HS.out ?_
      refine takeG 5 (.move (.tmp 1)) (some 22) none (.slice (some ⟨g2, o2, none⟩) n c2) (by kernel_rfl) (by kernel_rfl) (by kernel_rfl) (fun _ _ _ h => h) (fun o' wq e hS => exec_move wq e (by kernel_rfl)) HS.out ?_
      refine takeG 6 (.move (.tmp 5)) (some 23) none (.int .i64 (i : Int)) (by kernel_rfl) (by kernel_rfl) (by kernel_rfl) (fun _ _ _ h => h) (fun o' wq e hS => exec_move wq e (by kernel_rfl)) HS.out ?_
      refine takeG 7 (.indexAddr 22 (.tmp 22) (.tmp 23)) (some 24) none (.pointer (some ⟨g2, o2 + i * 2, none⟩)) (by kernel_rfl) (by kernel_rfl) (by kernel_rfl) (fun _ _ _ h => h) (fun o' wq e hS => exec_index (u1 := .slice (some ⟨g2, o2, none⟩) n c2) (u2 := .int .i64 (i : Int)) wq e (by kernel_rfl) (by kernel_rfl) (index_ref g2 o2 n c2 i hlt _)) HS.out ?_
      refine takeG 8 (.fieldAddr 33 (.tmp 24) 0) (some 25) none (.pointer (some ⟨g2, o2 + i * 2, none⟩)) (by kernel_rfl) (by kernel_rfl) (by kernel_rfl) (fun _ _ _ h => h) (fun o' wq e hS => exec_field (u := .pointer (some ⟨g2, o2 + i * 2, none⟩)) wq e (by kernel_rfl) (by kernel_rfl)) HS.out ?_
      refine takeG 9 (.load 3 (.tmp 25)) (some 26) none (.int .i64 (x : Int)) (by kernel_rfl) (by kernel_rfl) (by kernel_rfl) (fun _ _ _ h => h) (fun o' wq e hS => exec_load (x := (.tmp 25)) e (by kernel_rfl) (load_one Try.underlying3 (by kernel_rfl) hS.2.1)) HS.out ?_
      refine takeG 10 (.binOp .neq 3 (.tmp 21) (.tmp 26) 3) (some 27) none (.bool false) (by kernel_rfl) (by kernel_rfl) (by kernel_rfl) (fun _ _ _ h => h) (fun o' wq e hS => exec_bin (u1 := .int .i64 (x : Int)) (u2 := .int .i64 (x : Int)) wq e (by kernel_rfl) (by kernel_rfl) (eqG_int ..) (neq_same (x : Int) _)) HS.out ?_
      refine takeG 11 (.move (.tmp 27)) (some 28) none (.bool false) (by kernel_rfl) (by kernel_rfl) (by kernel_rfl) (fun _ _ _ h => h) (fun o' wq e hS => exec_move wq e (by kernel_rfl)) HS.out ?_
      refine takeG 12 (.move (.tmp 0)) (some 29) (some (11, false)) (.slice (some ⟨g, o, none⟩) n c1) (by kernel_rfl) (by kernel_rfl) (by kernel_rfl) (fun _ _ _ h => h) (fun o' wq e hS => exec_move wq e (by kernel_rfl)) HS.out ?_
      refine takeG 13 (.move (.tmp 5)) (some 30) (some (11, false)) (.int .i64 (i : Int)) (by kernel_rfl) (by kernel_rfl) (by kernel_rfl) (fun _ _ _ h => h) (fun o' wq e hS => exec_move wq e (by kernel_rfl)) HS.out ?_
      refine takeG 14 (.indexAddr 31 (.tmp 29) (.tmp 30)) (some 31) (some (11, false)) (.pointer (some ⟨g, o + i * 2, none⟩)) (by kernel_rfl) (by kernel_rfl) (by kernel_rfl) (fun _ _ _ h => h) (fun o' wq e hS => exec_index (u1 := .slice (some ⟨g, o, none⟩) n c1) (u2 := .int .i64 (i : Int)) wq e (by kernel_rfl) (by kernel_rfl) (index_spr g o n c1 i hlt _)) HS.out ?_
      refine takeG 15 (.fieldAddr 34 (.tmp 31) 1) (some 32) (some (11, false)) (.pointer (some ⟨g, o + i * 2 + 1, none⟩)) (by kernel_rfl) (by kernel_rfl) (by kernel_rfl) (fun _ _ _ h => h) (fun o' wq e hS => exec_field (u := .pointer (some ⟨g, o + i * 2, none⟩)) wq e (by kernel_rfl) (by kernel_rfl)) HS.out ?_
      refine takeG 16 (.load 3 (.tmp 32)) (some 33) (some (11, false)) (.int .i64 (y : Int)) (by kernel_rfl) (by kernel_rfl) (by kernel_rfl) (fun _ _ _ h => h) (fun o' wq e hS => exec_load (x := (.tmp 32)) e (by kernel_rfl) (load_one Try.underlying3 (by kernel_rfl) hS.1.2)) HS.out ?_
      refine takeG 17 (.move (.tmp 1)) (some 34) (some (11, false)) (.slice (some ⟨g2, o2, none⟩) n c2) (by kernel_rfl) (by kernel_rfl) (by kernel_rfl) (fun _ _ _ h => h) (fun o' wq e hS => exec_move wq e (by kernel_rfl)) HS.out ?_
      refine takeG 18 (.move (.tmp 5)) (some 35) (some (11, false)) (.int .i64 (i : Int)) (by kernel_rfl) (by kernel_rfl) (by kernel_rfl) (fun _ _ _ h => h) (fun o' wq e hS => exec_move wq e (by kernel_rfl)) HS.out ?_
      refine takeG 19 (.indexAddr 22 (.tmp 34) (.tmp 35)) (some 36) (some (11, false)) (.pointer (some ⟨g2, o2 + i * 2, none⟩)) (by kernel_rfl) (by kernel_rfl) (by kernel_rfl) (fun _ _ _ h => h) (fun o' wq e hS => exec_index (u1 := .slice (some ⟨g2, o2, none⟩) n c2) (u2 := .int .i64 (i : Int)) wq e (by kernel_rfl) (by kernel_rfl) (index_ref g2 o2 n c2 i hlt _)) HS.out ?_
      refine takeG 20 (.fieldAddr 33 (.tmp 36) 1) (some 37) (some (11, false)) (.pointer (some ⟨g2, o2 + i * 2 + 1, none⟩)) (by kernel_rfl) (by kernel_rfl) (by kernel_rfl) (fun _ _ _ h => h) (fun o' wq e hS => exec_field (u := .pointer (some ⟨g2, o2 + i * 2, none⟩)) wq e (by kernel_rfl) (by kernel_rfl)) HS.out ?_
      refine takeG 21 (.load 3 (.tmp 37)) (some 38) (some (11, false)) (.int .i64 (y : Int)) (by kernel_rfl) (by kernel_rfl) (by kernel_rfl) (fun _ _ _ h => h) (fun o' wq e hS => exec_load (x := (.tmp 37)) e (by kernel_rfl) (load_one Try.underlying3 (by kernel_rfl) hS.2.2)) HS.out ?_
      refine takeG 22 (.binOp .neq 3 (.tmp 33) (.tmp 38) 3) (some 39) (some (11, false)) (.bool false) (by kernel_rfl) (by kernel_rfl) (by kernel_rfl) (fun _ _ _ h => h) (fun o' wq e hS => exec_bin (u1 := .int .i64 (y : Int)) (u2 := .int .i64 (y : Int)) wq e (by kernel_rfl) (by kernel_rfl) (eqG_int ..) (neq_same (y : Int) _)) HS.out ?_
      refine lastS 23 (.pick (.tmp 28) (.const (Value.bool true)) (.tmp 39)) (some 40) (.bool false) (by kernel_rfl) (by kernel_rfl) (by kernel_rfl) HS.out (fun o' e => exec_pick (b := false) _ e (by kernel_rfl) (by kernel_rfl)) ?_
      simp only [put_some, put_none, List.setIfInBounds_toArray, List.set_cons_succ, List.set_cons_zero]
      clear HS
      go_wp2_with fail
      go_roundw
      case rel => exact ⟨i + 1, by omega, by go_num, L1⟩
      case measure => simp [intOf]; omega
    · have i1 : ¬ ((i : Int) < (n : Int)) := by omega
      clear hlt
      go_wp2_with fail
      go_ret
      exact ⟨rfl, L0.out⟩
end Rf
end Go.Proofs.Ytpbojhjbjnoihaa
