/-
  The law's own helpers by contracts: is a number in a list; a list without a place. No conditions beyond those that each theorem types.
-/
import Derived.Test.YtefgofoocabkkaaDeadExM
import Derived.Test.YtefgofoocabkkaaDeadReadM
namespace Go.Proofs.Ytefgofoocabkkaa
open Go Go.RowKit
set_option maxRecDepth 100000
set_option linter.unusedVariables false
namespace Dd
open Nr (OwnN csN)
set_option maxHeartbeats 1600000 in
theorem has_at (w : World) (l : List Nat) (A : Option Addr) (n c x : Nat) (hn : n = l.length) (h : Gr.RdG 1 csN w A l) (hl : n ≤ 1000) :
    Calls Try.prog 10 #[.slice A n c, .int .i64 (x : Int)] w fun e w' => e = .returned (.bool (decide (x ∈ l))) ∧ w' = w := by
  have HN := Lib.hid hn
  have HR := Lib.hid h
  obtain ⟨R, hR⟩ : ∃ R, R = decide (x ∈ l) := ⟨_, rfl⟩
  have HRR := Lib.hid hR
  rw [← hR]
  clear hn h hR
  go_enter Try.func10, Try.ntmps10
  go_wp2_with fail
  go_loopw [5] (fun y wr => ∃ i : Nat, i ≤ n ∧ y = .int .i64 (i : Int) ∧ Hid (x ∉ l.take i) ∧ wr = w) (fun y _ => n - (intOf y).toNat)
  case atStart => exact ⟨0, by omega, rfl, Lib.hid (by simp), rfl⟩
  case round =>
    obtain ⟨i, hi, rfl, HX, hw⟩ := hrel
    have hw := hw.symm
    subst hw
    by_cases hlt : i < n
    · have i1 : (i : Int) < (n : Int) := by omega
      obtain ⟨y, hy⟩ : ∃ y, l[i]? = some y := ⟨_, List.getElem?_eq_getElem (by rw [← HN.out]; exact hlt)⟩
      obtain ⟨b, o, hA, _, hc⟩ := HR.out i y hy
      have k1 := hc 0 _ rfl
      rw [Nat.mul_one, Nat.add_zero] at k1
      subst hA
      by_cases e : y = x
      · subst e
        have t1 : R = true := by rw [HRR.out]; exact decide_eq_true (List.mem_of_getElem? hy)
        subst t1
        clear hy hc
        go_wp2_with fail
        go_ret
        exact ⟨rfl, rfl⟩
      · have e1 : ¬ ((y : Int) = (x : Int)) := by omega
        have HX2 : Hid (x ∉ l.take (i + 1)) := Lib.hid (by
          rw [List.take_add_one, hy]
          intro hm
          rcases List.mem_append.1 hm with hm | hm
          · exact HX.out hm
          · simp at hm; exact e hm.symm)
        clear hy hc e HX
        go_wp2_with fail
        go_roundw
        case rel => exact ⟨i + 1, by omega, by go_num, HX2, trivial⟩
        case measure => simp [intOf]; omega
    · have i1 : ¬ ((i : Int) < (n : Int)) := by omega
      have t1 : R = false := by
        rw [HRR.out]
        refine decide_eq_false ?_
        have := HX.out
        rw [List.take_of_length_le (by rw [← HN.out]; omega)] at this
        exact this
      subst t1
      go_wp2_with fail
      go_ret
      exact ⟨rfl, rfl⟩
theorem add_oneK (k : Nat) (h : k ≤ 1000000) (w : World) : (binOp .add 3 (.int .i64 (k : Int)) (.int .i64 1)).run Try.prog w = .ok (.int .i64 ((k + 1 : Nat) : Int)) w := by
  rw [show binOp .add 3 (.int .i64 (k : Int)) (.int .i64 1) = pure (.int .i64 (IntKind.i64.wrap ((k : Int) + 1))) from rfl, IntWalk.i64_in _ (by omega)]
  rfl
set_option maxHeartbeats 1600000 in
theorem without_at (w : World) (l : List Nat) (b n c k : Nat) (hn : n = l.length) (h : Gr.RdG 1 csN w (some ⟨b, 0, none⟩) l) (hl : n ≤ 1000) (hk : k < n) (hc : n ≤ c) :
    Calls Try.prog 6 #[.slice (some ⟨b, 0, none⟩) n c, .int .i64 (k : Int)] w fun e w' => ∃ v, e = .returned v ∧ OwnN w' w.heap.size v (l.eraseIdx k) ∧ Below w.heap.size w w' := by
  have HN := Lib.hid hn
  have hD : Below w.heap.size w w.drew := (Below.refl _ _).drew
  have HR := Lib.hid (h.below hD)
  have HT0 : Hid True := Lib.hid trivial
  clear hn h
  go_enter Try.func6, Try.ntmps6
  go_upto_region 1 with (fail)
  refine region_anyZ (fun _ => True) 11 (by kernel_rfl) ?_
  refine takeG 1 (.move (.tmp 0)) (some 6) none (.slice (some ⟨b, 0, none⟩) n c) (by kernel_rfl) (by kernel_rfl) (by kernel_rfl) (fun _ _ _ h => h) (fun o wq e hS => exec_move wq e (by kernel_rfl)) HT0.out ?_
  refine takeG 2 (.move (.tmp 1)) (some 7) none (.int .i64 (k : Int)) (by kernel_rfl) (by kernel_rfl) (by kernel_rfl) (fun _ _ _ h => h) (fun o wq e hS => exec_move wq e (by kernel_rfl)) HT0.out ?_
  refine takeG 3 (.slice 29 (.tmp 6) .none (.some (.tmp 7)) .none) (some 8) none (.slice (some ⟨b, 0, none⟩) k c) (by kernel_rfl) (by kernel_rfl) (by kernel_rfl) (fun _ _ _ h => h) (fun o wq e hS => exec_slice (u := .slice (some ⟨b, 0, none⟩) n c) wq e (by kernel_rfl) (by kernel_rfl) (by kernel_rfl) (by kernel_rfl) (slice_to_g und_ints size_int1 b n c k (by omega) _)) HT0.out ?_
  refine takeG 5 (.move (.tmp 0)) (some 10) none (.slice (some ⟨b, 0, none⟩) n c) (by kernel_rfl) (by kernel_rfl) (by kernel_rfl) (fun _ _ _ h => h) (fun o wq e hS => exec_move wq e (by kernel_rfl)) HT0.out ?_
  refine takeG 6 (.move (.tmp 1)) (some 11) none (.int .i64 (k : Int)) (by kernel_rfl) (by kernel_rfl) (by kernel_rfl) (fun _ _ _ h => h) (fun o wq e hS => exec_move wq e (by kernel_rfl)) HT0.out ?_
  refine takeG 7 (.binOp .add 3 (.tmp 11) (.const (.int .i64 1)) 3) (some 12) none (.int .i64 ((k + 1 : Nat) : Int)) (by kernel_rfl) (by kernel_rfl) (by kernel_rfl) (fun _ _ _ h => h) (fun o wq e hS => exec_bin (u1 := .int .i64 (k : Int)) (u2 := (.int .i64 1)) wq e (by kernel_rfl) (by kernel_rfl) (eqG_int ..) (add_oneK k (by omega) _)) HT0.out ?_
  refine takeG 8 (.slice 29 (.tmp 10) (.some (.tmp 12)) .none .none) (some 13) none (.slice (some ⟨b, Nr.offL c (k + 1), none⟩) (n - (k + 1)) (c - (k + 1))) (by kernel_rfl) (by kernel_rfl) (by kernel_rfl) (fun _ _ _ h => h) (fun o wq e hS => exec_slice (u := .slice (some ⟨b, 0, none⟩) n c) wq e (by kernel_rfl) (by kernel_rfl) (by kernel_rfl) (by kernel_rfl) (slice_from_g und_ints size_int1 b n c (k + 1) (by omega) _)) HT0.out ?_
  refine loneG 0 (.buildSlice 29 0 #[]) (some 5) none (by kernel_rfl) (by kernel_rfl) (by kernel_rfl) ?_
  intro o ho hod
  refine wp_val (exec_bld0 ho (bs_ints _)) ?_
  rw [hod]
  clear hod ho
  refine ⟨fun _ => trivial, ?_⟩
  refine loneG 4 (.call ⟨.builtin .append, #[(.tmp 5), (.tmp 8)], #[29, 29]⟩) (some 9) none (by kernel_rfl) (by kernel_rfl) (by kernel_rfl) ?_
  intro o ho hod
  refine wp_app_g (v := .slice (some ⟨w.drew.heap.size, 0, none⟩) 0 0) (y := .slice (some ⟨b, 0, none⟩) k c) 29 (.tmp 5) (.tmp 8) ho (by kernel_rfl) (by kernel_rfl) (fun ty => cut_g (c := c) (fun _ => rfl) oneN Try.underlying29 Ir.info_int rfl (by omega) HR.out HN.out hk hl ty) ?_
  rintro v6 w6 ⟨ho6, hb6⟩
  rw [hod]
  clear hod ho
  refine ⟨fun _ => trivial, ?_⟩
  refine loneG 9 (.call ⟨.builtin .append, #[(.tmp 9), (.tmp 13)], #[29, 29]⟩) (some 14) none (by kernel_rfl) (by kernel_rfl) (by kernel_rfl) ?_
  intro o ho hod
  refine wp_app_g (v := v6) (y := .slice (some ⟨b, Nr.offL c (k + 1), none⟩) (n - (k + 1)) (c - (k + 1))) 29 (.tmp 9) (.tmp 13) ho (by kernel_rfl) (by kernel_rfl) (fun ty => cut2_g (c := c) (fun _ => rfl) oneN Try.underlying29 Ir.info_int rfl (by omega) HR.out HN.out hc hk hl ho6 hb6 ty) ?_
  rintro v7 w7 ⟨ho7, hb7⟩
  rw [hod]
  clear hod ho
  refine ⟨fun _ => trivial, ?_⟩
  refine lastS 10 (.assign (.tmp 14)) (some 4) (v7) (by kernel_rfl) (by kernel_rfl) (by kernel_rfl) HT0.out (fun o e => exec_assign _ e (by kernel_rfl)) ?_
  simp only [put_some, put_none, List.setIfInBounds_toArray, List.set_cons_succ, List.set_cons_zero]
  have H7 := Lib.hid ho7
  have L7 := Lib.hid (hD.trans hb7)
  clear ho7 hb7 ho6 hb6
  go_wp2_with fail
  go_ret
  exact ⟨_, rfl, H7.out, L7.out⟩
end Dd
end Go.Proofs.Ytefgofoocabkkaa
