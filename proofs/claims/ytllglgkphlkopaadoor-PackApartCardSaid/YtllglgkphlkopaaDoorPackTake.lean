/-
  'pack.takeCount' by contracts. Conditions: bytes that read as such.
-/
import Derived.Test.YtllglgkphlkopaaDoorPackEncode
import Derived.IntWalk
namespace Go.Proofs.YtllglgkphlkopaaDoor
open Go Go.RowKit
set_option linter.unusedVariables false

theorem and127 (x : Nat) (h : x < 256) : bits .and .u8 (x : Int) 127 = ((x % 128 : Nat) : Int) := by
  have key : (List.range 256).all (fun n => bits .and .u8 (n : Int) 127 == ((n % 128 : Nat) : Int)) = true := by decide +kernel
  have := List.all_eq_true.1 key x (by simp; omega)
  simpa only [beq_iff_eq] using this
theorem pow7 (k : Nat) : (128 : Nat) ^ k = 2 ^ (7 * k) := by rw [Nat.pow_mul]
theorem wraps_u64 (n : Int) (h₀ : 0 ≤ n) (h₁ : n < 2 ^ 64) : IntKind.u64.wrap n = n := by simp [IntKind.wrap, IntKind.bits, IntKind.signed]; omega
theorem or_place (v y k : Nat) (hv : v < 128 ^ k) (hy : y * 128 ^ k < 18446744073709551616) (hv2 : v < 18446744073709551616) :
    bits .or .u64 (v : Int) (((y * 128 ^ k : Nat)) : Int) = ((v + y * 128 ^ k : Nat) : Int) := by
  rw [(bits_nat .u64 64 (by decide) wraps_u64 v (y * 128 ^ k) (by omega) (by omega)).2]
  have h := Nat.two_pow_add_eq_or_of_lt (i := 7 * k) (b := v) (by rw [← pow7]; exact hv) y
  rw [← pow7, Nat.mul_comm] at h
  rw [Nat.or_comm, ← h, Nat.add_comm]
theorem tk_cons (i c x : Nat) (r : List Nat) : K.tk i c (x :: r) = if i = 9 ∧ 1 < x then none else if x = 0 ∧ 0 < i then none else if x < 128 then some (c + x * 128 ^ i, r) else K.tk (i + 1) (c + (x - 128) * 128 ^ i) r := rfl
theorem drop_cons {L : List Nat} {k x : Nat} (h : L[k]? = some x) : L.drop k = x :: L.drop (k + 1) := by
  have hk := (List.getElem?_eq_some_iff.1 h).1
  rw [List.drop_eq_getElem_cons hk]
  congr 1
  exact (List.getElem?_eq_some_iff.1 h).2
theorem lst_get {L : List Nat} {k x : Nat} (h : L[k]? = some x) : lst L k = x := by unfold lst; rw [List.getD_eq_getElem?_getD, h]; rfl

theorem place_or (v y k : Nat) (hv : v < 128 ^ k) (hy : y * 128 ^ k < 18446744073709551616) (hv2 : v < 18446744073709551616) :
    bits .or .u64 (v : Int) (IntKind.u64.wrap ((y : Int) * 2 ^ (7 * k))) = ((v + y * 128 ^ k : Nat) : Int) := by
  have e : ((y : Int) * 2 ^ (7 * k)) = ((y * 128 ^ k : Nat) : Int) := by rw [pow7, Int.natCast_mul, Int.natCast_pow]; rfl
  rw [e, wraps_u64 _ (by omega) (by omega)]
  exact or_place v y k hv hy hv2
/-- what takeCount answers -/
def TakeC (A : Option Addr) (c : Nat) (L : List Nat) (e : Ending) : Prop :=
  (K.tk 0 0 L = none ∧ e = .returned (.tuple #[.int .u64 0, .slice none 0 0, .bool false])) ∨
  ∃ v k, K.tk 0 0 L = some (v, L.drop k) ∧ v < 18446744073709551616 ∧ 0 < k ∧ k ≤ L.length ∧ e = .returned (.tuple #[.int .u64 v, .slice (subA A c k) (L.length - k) (c - k), .bool true])
set_option maxRecDepth 100000 in
set_option maxHeartbeats 1600000 in
theorem takeCount_any (A : Option Addr) (L : List Nat) (c B : Nat) (w : World) (hx : RdB w B A L.length (lst L)) (hB : B ≤ w.heap.size) (hL : ∀ x ∈ L, x < 256) (hlc : L.length ≤ c) (hcm : c ≤ maxLen) :
    Calls Tryd.prog 19 #[.slice A L.length c] w fun e w' => TakeC A c L e ∧ ∃ nq, w' = w.drewN nq := by
  obtain ⟨n, hn⟩ : ∃ n, n = L.length := ⟨_, rfl⟩
  rw [← hn] at hlc hx ⊢
  have HN := Lib.hid hn
  have HX := Lib.hid hx
  have HL := Lib.hid hL
  unfold maxLen at hcm
  clear hn hx hL
  go_enter Tryd.func19, Tryd.ntmps19
  go_wp2_with fail
  go_loop [2, 9] (fun y x => ∃ (k v : Nat), x = .int .i64 k ∧ y = .int .u64 v ∧ k ≤ n ∧ k ≤ 9 ∧ v < 128 ^ k ∧ Hid (K.tk k v (L.drop k) = K.tk 0 0 L)) (fun _ x => n - (intOf x).toNat)
  case atStart => exact ⟨0, 0, rfl, rfl, by omega, by omega, by simp, Lib.hid rfl⟩
  case round =>
    obtain ⟨k, v, rfl, rfl, hk, hk9, hv, E1⟩ := hrel
    have hp9 : 128 ^ k ≤ (128 : Nat) ^ 9 := Nat.pow_le_pow_right (by omega) hk9
    have hv2 : v < 9223372036854775808 := by omega
    by_cases hlt : k < n
    · obtain ⟨x, hxk⟩ : ∃ x, L[k]? = some x := ⟨_, List.getElem?_eq_getElem (by rw [← HN.out]; exact hlt)⟩
      have hx256 := HL.out x (List.mem_of_getElem? hxk)
      obtain ⟨b, o, hA, hb, c0, _⟩ := HX.out k hlt
      rw [lst_get hxk] at c0
      subst hA
      have hdc := drop_cons hxk
      have E2 : Hid ((if k = 9 ∧ 1 < x then none else if x = 0 ∧ 0 < k then none else if x < 128 then some (v + x * 128 ^ k, L.drop (k + 1)) else K.tk (k + 1) (v + (x - 128) * 128 ^ k) (L.drop (k + 1))) = K.tk 0 0 L) := Lib.hid (by rw [← E1.out, hdc, tk_cons])
      clear hdc hxk E1
      have HA := and127 x hx256
      obtain ⟨y, hy⟩ : ∃ y, y = x % 128 := ⟨_, rfl⟩
      rw [← hy] at HA
      have hy1 : y < 128 := by omega
      have i2 : (k : Int) < (n : Int) := by omega
      have j1 : (0 : Int) ≤ 7 * (k : Int) := by omega
      have j2 : (7 : Int) * (k : Int) ≤ 63 := by omega
      have y1 : (0 : Int) ≤ (y : Int) := by omega
      have y2 : (y : Int) < 128 := by omega
      have HY := Lib.hid hy
      clear hy
      by_cases ha : k = 9 ∧ 1 < x
      · have i4 : (1 : Int) < (x : Int) := by omega
        have t9 : ((k : Int) == 9) = true := by simp; omega
        have E3 : Hid (K.tk 0 0 L = none) := Lib.hid (by rw [← E2.out, if_pos ha])
        clear E2 ha
        go_wp2_with fail
        go_ret3
        exact ⟨.inl ⟨E3.out, rfl⟩, 0, rfl⟩
      have hyp : y * 128 ^ k < 9223372036854775809 := by
        by_cases h9 : k = 9
        · subst h9
          have h1 : y ≤ 1 := by have := HY.out; omega
          exact Nat.lt_of_le_of_lt (Nat.mul_le_mul_right _ h1) (by decide +kernel)
        · have h8 : 128 ^ k ≤ (128 : Nat) ^ 8 := Nat.pow_le_pow_right (by omega) (by omega)
          have := Nat.mul_le_mul (show y ≤ 127 by omega) h8
          omega
      have HO := place_or v y k hv (by omega) (by omega)
      obtain ⟨v', hv'⟩ : ∃ v', v' = v + y * 128 ^ k := ⟨_, rfl⟩
      rw [← hv'] at HO
      have hv3 : v' < 18446744073709551616 := by omega
      have HV := Lib.hid hv'
      clear hv'
      by_cases h0 : x = 0
      · have t0 : ((x : Int) == 0) = true := by simp; omega
        by_cases hk0 : 0 < k
        · have i5 : (0 : Int) < (k : Int) := by omega
          have E3 : Hid (K.tk 0 0 L = none) := Lib.hid (by rw [← E2.out, if_neg ha, if_pos ⟨h0, hk0⟩])
          have t6 : (x : Int) ≤ 1 := by omega
          clear E2 ha h0
          by_cases h9 : k = 9
          · have t9 : ((k : Int) == 9) = true := by simp; omega
            clear h9
            go_wp2_with fail
            go_ret3
            exact ⟨.inl ⟨E3.out, rfl⟩, 0, rfl⟩
          · have t9 : ((k : Int) == 9) = false := by simp; omega
            clear h9
            go_wp2_with fail
            go_ret3
            exact ⟨.inl ⟨E3.out, rfl⟩, 0, rfl⟩
        · have t9 : ((k : Int) == 9) = false := by simp; omega
          have i5 : (k : Int) ≤ 0 := by omega
          have i6 : (x : Int) < 128 := by omega
          have E3 : Hid (K.tk 0 0 L = some (v', L.drop (k + 1))) := Lib.hid (by rw [← E2.out, if_neg ha, if_neg (by omega), if_pos (by omega), HV.out, HY.out, Nat.mod_eq_of_lt (by omega)])
          have HS := slice_from (some ⟨b, o, none⟩) n c (k + 1) ((k : Int) + 1) (by omega) (by omega)
          have W1 : IntKind.i64.wrap ((k : Int) + 1) = (k : Int) + 1 := IntWalk.i64_in _ (by omega)
          have W2 : (0 : Int) ≤ (k : Int) + 1 := by omega
          clear E2 ha h0 hk0
          go_wp2_with fail
          go_quiet (fail)
          go_wp2_with fail
          go_ret3
          exact ⟨.inr ⟨v', k + 1, E3.out, hv3, by omega, by rw [← HN.out]; omega, by rw [← HN.out]; rfl⟩, nq, rfl⟩
      · have t0 : ((x : Int) == 0) = false := by simp; omega
        have i4 : (0 : Int) < (x : Int) := by omega
        by_cases hs : x < 128
        · have i6 : (x : Int) < 128 := by omega
          have E3 : Hid (K.tk 0 0 L = some (v', L.drop (k + 1))) := Lib.hid (by rw [← E2.out, if_neg ha, if_neg (by omega), if_pos hs, HV.out, HY.out, Nat.mod_eq_of_lt hs])
          by_cases h9 : k = 9
          · have t9 : ((k : Int) == 9) = true := by simp; omega
            have i7 : (x : Int) ≤ 1 := by omega
            clear h9
            have HS := slice_from (some ⟨b, o, none⟩) n c (k + 1) ((k : Int) + 1) (by omega) (by omega)
            have W1 : IntKind.i64.wrap ((k : Int) + 1) = (k : Int) + 1 := IntWalk.i64_in _ (by omega)
            have W2 : (0 : Int) ≤ (k : Int) + 1 := by omega
            clear E2 ha h0
            go_wp2_with fail
            go_quiet (fail)
            go_wp2_with fail
            go_ret3
            exact ⟨.inr ⟨v', k + 1, E3.out, hv3, by omega, by rw [← HN.out]; omega, by rw [← HN.out]; rfl⟩, nq, rfl⟩
          · have t9 : ((k : Int) == 9) = false := by simp; omega
            clear h9
            have HS := slice_from (some ⟨b, o, none⟩) n c (k + 1) ((k : Int) + 1) (by omega) (by omega)
            have W1 : IntKind.i64.wrap ((k : Int) + 1) = (k : Int) + 1 := IntWalk.i64_in _ (by omega)
            have W2 : (0 : Int) ≤ (k : Int) + 1 := by omega
            clear E2 ha h0
            go_wp2_with fail
            go_quiet (fail)
            go_wp2_with fail
            go_ret3
            exact ⟨.inr ⟨v', k + 1, E3.out, hv3, by omega, by rw [← HN.out]; omega, by rw [← HN.out]; rfl⟩, nq, rfl⟩
        · have i6 : (128 : Int) ≤ (x : Int) := by omega
          have t9 : ((k : Int) == 9) = false := by simp; omega
          have hk8 : k ≤ 8 := by omega
          have hyx : y = x - 128 := by have := HY.out; omega
          have E3 : Hid (K.tk (k + 1) v' (L.drop (k + 1)) = K.tk 0 0 L) := Lib.hid (by rw [← E2.out, if_neg ha, if_neg (by omega), if_neg hs, HV.out, hyx])
          have hv4 : v' < 128 ^ (k + 1) := by
            rw [HV.out, Nat.pow_succ]
            have := Nat.mul_le_mul_right (128 ^ k) (show y ≤ 127 by omega)
            omega
          clear E2 ha h0 hs hyx
          go_wp2_with fail
          go_round
          case rel => exact ⟨k + 1, v', by go_num, rfl, by omega, by omega, hv4, E3⟩
          case measure => simp [intOf]; omega
    · have i2 : (n : Int) ≤ (k : Int) := by omega
      have E3 : Hid (K.tk 0 0 L = none) := Lib.hid (by rw [← E1.out, List.drop_eq_nil_of_le (by rw [← HN.out]; omega)]; rfl)
      clear E1
      go_wp2_with fail
      go_ret3
      exact ⟨.inl ⟨E3.out, rfl⟩, 0, rfl⟩
end Go.Proofs.YtllglgkphlkopaaDoor
