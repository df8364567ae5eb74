/-
  The walk of 'PackNumbers': a number has as few bytes as its size needs; a number and its other side, less one, have as many.
-/
import Derived.Test.YtiflkjjjncagfaaPackKnown
namespace Go.Proofs.Ytiflkjjjncagfaa
open Go Go.RowKit
set_option linter.unusedVariables false
namespace packNumbers

theorem one_fault (n : Int) : K.fault [⟨1, n, ⟨#[]⟩⟩] = 0 := by simp [K.fault, K.flt, K.big, K.formed]
theorem one_good {n : Int} (h1 : -9223372036854775808 ≤ n) (h2 : n ≤ 9223372036854775807) : ∀ x ∈ ([⟨1, n, ⟨#[]⟩⟩] : List K.It), Good x := by
  intro x hx
  simp only [List.mem_cons, List.not_mem_nil, or_false] at hx
  subst hx
  exact ⟨⟨h1, h2⟩, by show (0 : Nat) ≤ maxLen; omega⟩
theorem one_encs (n : Int) : K.encs [⟨1, n, ⟨#[]⟩⟩] = 1 :: K.cnt (K.fold n) := by
  show K.encI _ ++ [] = _
  rw [List.append_nil]
  rfl
theorem one_length (n : Int) : (K.encs [⟨1, n, ⟨#[]⟩⟩]).length = K.stp (K.fold n / 128) + 2 := by
  rw [one_encs, List.length_cons, K.cnt_length]
theorem other (n : Int) : K.fold (-1 - n) / 128 = K.fold n / 128 := by unfold K.fold; split <;> split <;> omega
theorem rdi_one (w : World) (n : Int) : RdI (w.alloc (.cells #[.int .i64 1, .int .i64 n, .string ⟨#[]⟩] 43)) (w.heap.size + 1) (some ⟨w.heap.size, 0, none⟩) [⟨1, n, ⟨#[]⟩⟩] := rdi_new w [⟨1, n, ⟨#[]⟩⟩]
theorem u_of (n : Int) (h1 : -9223372036854775808 ≤ n) (h2 : n ≤ 9223372036854775807) : ∃ u : Nat, max n (-1 - n) = (u : Int) ∧ u / 64 = K.fold n / 128 ∧ u < 9223372036854775808 := by
  refine ⟨(max n (-1 - n)).toNat, by omega, ?_, by omega⟩
  unfold K.fold
  split <;> omega

set_option maxRecDepth 100000 in
set_option maxHeartbeats 1600000 in
theorem walk (n : Int) (w : World) (w1 : (Lit.int .i64 n).wf = true) :
    Calls Try.prog 7 #[.int .i64 n] w fun e w' => e = .returned (.bool true) ∧ Below w.heap.size w w' := by
  obtain ⟨p1, p2⟩ := bounds_i64 w1
  have p1 : -9223372036854775808 ≤ n := by omega
  have p2 : n ≤ 9223372036854775807 := by omega
  clear w1
  go_enter Try.func7, Try.ntmps7
  go_wp2_with fail
  refine (known_any _).mono ?_
  rintro e w2 ⟨rfl, hl2⟩
  have L2 := Lib.hid hl2
  have R2 := Lib.hid (rdi_one w2 n)
  have M2 : Hid (Below w.heap.size w (w2.alloc (.cells #[.int .i64 1, .int .i64 n, .string ⟨#[]⟩] 43))) := Lib.hid (L2.out.alloc L2.out.size _)
  clear hl2
  go_wp2_with fail
  refine (encode_ok (some ⟨w2.heap.size, 0, none⟩) [⟨1, n, ⟨#[]⟩⟩] 1 (w2.heap.size + 1) _ R2.out (by simp) (one_good p1 p2) (Nat.le_refl _) (by unfold maxLen; omega) (one_fault n)).mono ?_
  rintro e w3 ⟨v3, rfl, ho3, hl3⟩
  have L3 : Hid (Below w.heap.size w w3) := Lib.hid (M2.out.trans (hl3.mono M2.out.size))
  have hs3 := L3.out.size
  have O3 := Lib.hid ho3
  have z3 : w2.heap.size + 1 ≤ w3.heap.size := by have := hl3.size; simpa using this
  obtain ⟨m, hm⟩ : ∃ m, m = -1 - n := ⟨_, rfl⟩
  have q1 : -9223372036854775808 ≤ m := by omega
  have q2 : m ≤ 9223372036854775807 := by omega
  have R3 := Lib.hid (rdi_one w3 m)
  have M3 : Hid (Below w.heap.size w (w3.alloc (.cells #[.int .i64 1, .int .i64 m, .string ⟨#[]⟩] 43))) := Lib.hid (L3.out.alloc hs3 _)
  have W3 : -1 - n = m := hm.symm
  have HM := Lib.hid hm
  have Z3 := Lib.hid (Below.trans (Below.alloc (Below.refl w3.heap.size w3) (Nat.le_refl _) (.cells #[.int .i64 1, .int .i64 m, .string ⟨#[]⟩] 43)) (Below.refl _ _))
  clear hl3 ho3 M2 R2 L2 hm
  go_wp2_with fail
  refine (encode_ok (some ⟨w3.heap.size, 0, none⟩) [⟨1, m, ⟨#[]⟩⟩] 1 (w3.heap.size + 1) _ R3.out (by simp) (one_good q1 q2) (Nat.le_refl _) (by unfold maxLen; omega) (one_fault m)).mono ?_
  rintro e w5 ⟨v5, rfl, ho5, hl5⟩
  have L5 : Hid (Below w.heap.size w w5) := Lib.hid (M3.out.trans (hl5.mono M3.out.size))
  have K5 : Hid (Below w3.heap.size w3 w5) := Lib.hid (Z3.out.trans (hl5.mono (by simp)))
  obtain ⟨A3, c3, rfl, hrd3, hlc3, hcm3, _, _⟩ := O3.out.shape (K.encs_lt _)
  have HR3 := Lib.hid (hrd3.below K5.out (Nat.le_refl _))
  obtain ⟨A5, c5, rfl, _, hlc5, hcm5, _, _⟩ := ho5.shape (K.encs_lt _)
  have hln3 := one_length n
  have hln5 := one_length m
  have hst : K.stp (K.fold m / 128) = K.stp (K.fold n / 128) := by rw [HM.out, other]
  rw [hst] at hln5
  have hsz := K5.out.size
  have HD := decode_any A3 (K.encs [⟨1, n, ⟨#[]⟩⟩]) c3 w3.heap.size w5 HR3.out hsz (K.encs_lt _) hlc3 hcm3
  have hdec : K.decs 2000 (K.encs [⟨1, n, ⟨#[]⟩⟩]) = some [⟨1, n, ⟨#[]⟩⟩] := K.decs_enc 2000 _ (by simp) (K.fault_ok (one_fault n)).2 (fun x hx => (one_good p1 p2 x hx).1)
  obtain ⟨t, ht⟩ : ∃ t, t = K.stp (K.fold n / 128) := ⟨_, rfl⟩
  have ht9 : t ≤ 9 := by rw [ht]; exact K.stp_le _ 9 (by have := K.fold_lt p1 p2; omega)
  rw [← ht] at hln3 hln5
  rw [hln3] at hlc3 HD ⊢
  rw [hln5] at hlc5 ⊢
  have HT := Lib.hid ht
  have HDD := Lib.hid HD
  have HDC := Lib.hid hdec
  unfold maxLen at hcm3 hcm5
  clear ho5 hl5 hrd3 O3 hln3 hln5 hst HD hdec ht Z3 M3 R3
  go_wp2_with fail
  refine HDD.out.mono ?_
  rintro e w6 ⟨hd6, hl6⟩
  have L6 : Hid (Below w.heap.size w w6) := Lib.hid (L5.out.trans (hl6.mono L5.out.size))
  unfold DecOut at hd6
  rw [HDC.out] at hd6
  rcases hd6 with ⟨h, _⟩ | ⟨l, v6, h, rfl, ho6⟩
  · cases h
  injection h with h
  subst h
  obtain ⟨A6, c6, rfl, hlc6, hcm6, hri6, _, _⟩ := ho6.shape
  obtain ⟨b, o, hA, _, _, e1, _⟩ := hri6 0 _ rfl
  subst hA
  rw [show o + 0 * 3 + 1 = o + 1 by omega] at e1
  clear hri6 ho6 hl6 HDD HDC hlc6
  obtain ⟨d, hd⟩ : ∃ d, d = K.fold n / 128 := ⟨_, rfl⟩
  have hdb : d < 9223372036854775808 := by have := K.fold_lt p1 p2; omega
  have hdt : Hid (0 + K.stp d = t) := Lib.hid (by rw [hd, HT.out]; omega)
  have hnm : m < n ∧ n / 64 = (d : Int) ∧ 0 ≤ n ∨ n < m ∧ m / 64 = (d : Int) ∧ 0 ≤ m := by
    have h1 := HM.out
    rw [hd]
    unfold K.fold
    split <;> omega
  have W4 : -1 - n = m := HM.out.symm
  clear hd HT
  rcases hnm with ⟨hnm, hdd, h0⟩ | ⟨hnm, hdd, h0⟩
  all_goals
    go_wp2_with fail
    go_loop [9, 10] (fun x y => ∃ (k d' : Nat), x = .int .i64 ((k + 2 : Nat) : Int) ∧ y = .int .u64 (d' : Int) ∧ k ≤ t ∧ d' < 9223372036854775808 ∧ Hid (k + K.stp d' = t)) (fun _ y => (intOf y).toNat)
    case atStart => exact ⟨0, d, rfl, rfl, by omega, hdb, hdt⟩
    case round =>
      obtain ⟨k, d', rfl, rfl, hk, hd', E2⟩ := hrel
      clear hdd
      by_cases hlt : 0 < d'
      · have i1 : (0 : Int) < (d' : Int) := by omega
        go_wp2_with fail
        go_round
        case rel => exact ⟨k + 1, d' / 128, by go_num, by go_num, by have := E2.out; rw [K.stp_pos hlt] at this; omega, by omega, Lib.hid (by have := E2.out; rw [K.stp_pos hlt] at this; omega)⟩
        case measure => simp [intOf]; omega
      · have i1 : (d' : Int) ≤ 0 := by omega
        have hkt : k = t := by
          have h1 := E2.out
          have h2 : d' = 0 := by omega
          rw [h2, K.stp_zero] at h1
          omega
        subst hkt
        go_wp2_with fail
        go_ret
        exact ⟨rfl, L6.out⟩
end packNumbers
end Go.Proofs.Ytiflkjjjncagfaa
