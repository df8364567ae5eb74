/-
  'hoardref04.message' by a contract. Conditions: texts below 2^40 bytes.
-/
import Derived.Test.YtnmieabcaaoofaaDoorShaRefPrimes
namespace Go.Proofs.YtnmieabcaaoofaaDoor
open Go Go.RowKit
set_option linter.unusedVariables false

/-- the message, i of the count's bytes behind N - 8 of it -/
def msgTo (n N : Nat) (X : Nat → Nat) (j : Nat) : Nat := if j < N - 8 then zpad n X j else ((n * 8) >>> (56 - 8 * (j - (N - 8)))) % 256
theorem msgTo_done {n : Nat} (X : Nat → Nat) {j : Nat} (h : j < M.msgN n) : msgTo n (M.msgN n) X j = M.msg n X j := by
  have hf := restN_fits n
  unfold msgTo
  by_cases h1 : j < M.msgN n - 8
  · rw [if_pos h1, msg_zero X (by omega)]
  · rw [if_neg h1]
    unfold M.msgN at h h1 ⊢
    unfold M.msg M.rest M.restTo
    rw [if_neg (by omega), if_neg (by omega), if_neg (by omega), if_pos (by omega)]
    congr 2
    omega
theorem shr_byte (a k : Nat) : (a : Int) / 2 ^ k % 256 = (((a >>> k) % 256 : Nat) : Int) := by
  rw [Nat.shiftRight_eq_div_pow, Int.natCast_emod, Int.natCast_ediv, Int.natCast_pow]; rfl
set_option maxRecDepth 100000 in
set_option maxHeartbeats 1600000 in
theorem message_any (n : Nat) (X : Nat → Nat) (w : World) (hX : ∀ j, X j < 256) (hn : n ≤ 1099511627776) :
    Calls Tryd.prog 29 #[.string (strB n X)] w fun e w' => ∃ v, e = .returned v ∧ Own8 w' w.heap.size v (M.msgN n) (M.msg n X) ∧ Below w.heap.size w w' := by
  have hsz := strB_size n X
  have HXX := Lib.hid hX
  clear hX
  go_enter Tryd.func29, Tryd.ntmps29
  go_wp2_with ((with_reducible refine wpList_conv_str rfl (.tmp 6) rfl rfl (fun j _ => HXX.out j) (by unfold maxLen; omega) ?_); intro c1 w1 ho1 hb1; refine of_hid ?_)
  refine Lib.hid ?_
  have O1 := Lib.hid ho1
  have L1 := Lib.hid hb1
  have hz1 := hb1.size
  clear ho1 hb1
  go_wp2_with ((with_reducible refine wpList_push8i rfl (.tmp 7) (.tmp 8) rfl 128 ?_ rfl rfl O1.out (by omega) (by omega) hz1 ?_); rfl; intro v2 w2 ho2 hg2; refine of_hid ?_)
  refine Lib.hid ?_
  have L2 := Lib.hid (own8_grown L1.out O1.out _ hg2 hz1)
  have O2 : Hid (Own8 w2 w.heap.size v2 (n + 1) (zpad n X)) := Lib.hid (ho2.congr fun j hj => by
    unfold upd zpad
    by_cases h : j = n
    · rw [if_pos h, if_neg (by omega), if_pos h]
    · rw [if_neg h, if_pos (by omega)])
  clear ho2 hg2 O1 L1 hz1
  obtain ⟨N, hN⟩ : ∃ N, N = M.msgN n := ⟨_, rfl⟩
  have hf := restN_fits n
  have h64 : (N - 8) % 64 = 56 ∧ n + 9 ≤ N ∧ ∀ m, n + 1 ≤ m → m + 8 ≤ N → m % 64 = 56 → m + 8 = N := by
    rw [hN]
    unfold M.msgN
    rcases restN_or n with h | h <;> rw [h] at hf ⊢
    · exact ⟨by omega, by omega, fun m h1 h2 h3 => by omega⟩
    · have h128 : 55 < n % 64 := by
        unfold M.restN at h
        split at h <;> omega
      exact ⟨by omega, by omega, fun m h1 h2 h3 => by omega⟩
  obtain ⟨hN1, hN2, hN3⟩ := h64
  have HN := Lib.hid hN
  have HN3 := Lib.hid hN3
  have hNle : N ≤ n + 136 := by rw [hN]; unfold M.msgN; rcases restN_or n with h | h <;> omega
  clear hN hN3 hf
  obtain ⟨A2, c2, rfl, _, hc2, hc2m, _, _⟩ := O2.out.shape (fun j _ => by
    unfold zpad
    split
    · exact HXX.out j
    · split <;> omega)
  go_wp2_with fail
  go_loopw [3] (fun v wr => ∃ (m c : Nat) (A : Option Addr), v = .slice A m c ∧ n + 1 ≤ m ∧ m + 8 ≤ N ∧ Hid (Own8 wr w.heap.size v m (zpad n X)) ∧ Hid (Below w.heap.size w wr)) (fun v _ => match v with | .slice _ m _ => N - m | _ => 0)
  case atStart => exact ⟨n + 1, c2, A2, rfl, by omega, by omega, O2, L2⟩
  case round =>
    obtain ⟨m, c, A, rfl, hm1, hm2, O3, L3⟩ := hrel
    clear O2 L2
    by_cases h56 : m % 64 = 56
    · have hmN := HN3.out m hm1 hm2 h56
      have t1 : ((m : Int) % 64 != 56) = false := by simp; omega
      have t2 : ((m : Int) % 64 == 56) = true := by simp; omega
      have e1 : IntKind.u64.wrap (n : Int) = (n : Int) := Mul64.wrapN n (by omega)
      have hmi : m = N - 8 := by omega
      have O4 : Hid (Own8 wr w.heap.size (.slice A m c) (N - 8 + 0) (msgTo n N X)) := by
        have h := O3.out
        rw [hmi] at h ⊢
        exact Lib.hid (h.congr fun j hj => by unfold msgTo; rw [if_pos hj])
      clear O3 hmi h56
      go_wp2_with fail
      go_loopw [3, 5] (fun v x wr => ∃ (i c : Nat) (A : Option Addr), i ≤ 8 ∧ v = .slice A (N - 8 + i) c ∧ x = .int .i64 (56 - 8 * (i : Int)) ∧ Hid (Own8 wr w.heap.size v (N - 8 + i) (msgTo n N X)) ∧ Hid (Below w.heap.size w wr)) (fun v x _ => match v with | .slice _ m _ => N - m | _ => 0)
      case atStart => exact ⟨0, c, A, by omega, by rw [show N - 8 + 0 = m by omega], rfl, O4, L3⟩
      case round =>
        obtain ⟨i, c', A', hi, rfl, rfl, O5, L5⟩ := hrel
        clear O4 L3
        by_cases hlt : i < 8
        · obtain ⟨k, hk⟩ : ∃ k, k = 56 - 8 * i := ⟨_, rfl⟩
          have hk' : 56 - 8 * (i : Int) = (k : Int) := by omega
          have hk56 : k ≤ 56 := by omega
          have hnext : (k : Int) - 8 = 56 - 8 * ((i + 1 : Nat) : Int) := by omega
          have HNX := Lib.hid hnext
          have HK := Lib.hid hk
          rw [hk']
          have e2 : min k 64 = k := by omega
          obtain ⟨y, hy⟩ : ∃ y, y = ((n * 8) >>> k) % 256 := ⟨_, rfl⟩
          have e3 : ((n : Int) * 8 / 2 ^ k) % 256 = (y : Int) := by
            rw [hy, ← shr_byte, Int.natCast_mul]; rfl
          have hby : y < 256 := by rw [hy]; exact Nat.mod_lt _ (by omega)
          have HY := Lib.hid hy
          clear hy
          have hz5 := L5.out.size
          clear hk hk' hnext
          go_wp2_with ((with_reducible refine wpList_push8 rfl (.tmp 25) (.tmp 30) rfl rfl rfl O5.out hby (by omega) hz5 ?_); intro v6 w6 ho6 hg6; refine of_hid ?_)
          refine Lib.hid ?_
          have L6 := Lib.hid (own8_grown L5.out O5.out _ hg6 hz5)
          have O6 : Hid (Own8 w6 w.heap.size v6 (N - 8 + (i + 1)) (msgTo n N X)) := Lib.hid (ho6.congr fun j hj => by
            unfold upd
            by_cases h : j = N - 8 + i
            · rw [if_pos h, HY.out, HK.out]
              unfold msgTo
              rw [if_neg (by omega), show j - (N - 8) = i by omega]
            · rw [if_neg h])
          clear ho6 hg6 O5 L5
          obtain ⟨A7, c7, rfl, _, _, _, _, _⟩ := O6.out.shape (fun j _ => by
            unfold msgTo zpad
            split
            · split
              · exact HXX.out j
              · split <;> omega
            · exact Nat.mod_lt _ (by omega))
          go_wp2_with fail
          exact ⟨⟨i + 1, c7, A7, by omega, rfl, by rw [HNX.out], O6, L6⟩, by show N - (N - 8 + (i + 1)) < N - (N - 8 + i); omega⟩
        · have hi8 : i = 8 := by omega
          subst hi8
          rw [show (56 : Int) - 8 * ((8 : Nat) : Int) = -8 by omega]
          rw [show N - 8 + 8 = N by omega] at O5 ⊢
          clear hlt
          go_wp2_with fail
          go_ret
          refine ⟨_, rfl, ?_, L5.out⟩
          have h := O5.out
          rw [HN.out] at h ⊢
          exact h.congr fun j hj => msgTo_done X hj
    · have t1 : ((m : Int) % 64 != 56) = true := by simp; omega
      have t2 : ((m : Int) % 64 == 56) = false := by simp; omega
      have hz3 := L3.out.size
      go_wp2_with ((with_reducible refine wpList_push8i rfl (.tmp 14) (.tmp 15) rfl 0 ?_ rfl rfl O3.out (by omega) (by omega) hz3 ?_); rfl; intro v6 w6 ho6 hg6; refine of_hid ?_)
      refine Lib.hid ?_
      have L6 := Lib.hid (own8_grown L3.out O3.out _ hg6 hz3)
      have O6 : Hid (Own8 w6 w.heap.size v6 (m + 1) (zpad n X)) := Lib.hid (ho6.congr fun j hj => by
        unfold upd
        by_cases h : j = m
        · rw [if_pos h]
          unfold zpad
          rw [if_neg (by omega), if_neg (by omega)]
        · rw [if_neg h])
      have hm8 : m + 1 + 8 ≤ N := by
        rcases Nat.lt_or_ge (m + 8) N with h | h
        · omega
        · exact absurd (show m % 64 = 56 by omega) h56
      clear ho6 hg6 O3 L3
      obtain ⟨A7, c7, rfl, _, _, _, _, _⟩ := O6.out.shape (fun j _ => by
        unfold zpad
        split
        · exact HXX.out j
        · split <;> omega)
      go_wp2_with fail
      exact ⟨⟨m + 1, c7, A7, rfl, by omega, hm8, O6, L6⟩, by show N - (m + 1) < N - m; omega⟩
end Go.Proofs.YtnmieabcaaoofaaDoor
