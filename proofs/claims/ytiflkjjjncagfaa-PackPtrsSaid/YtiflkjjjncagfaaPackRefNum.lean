/-
  'hoardref05.DocEncode' and 'hoardref05.number' by contracts. Conditions: a list that reads as items; a text.
-/
import Derived.Test.YtiflkjjjncagfaaPackRefCheck
namespace Go.Proofs.Ytiflkjjjncagfaa
open Go Go.RowKit
set_option linter.unusedVariables false

set_option maxHeartbeats 400000 in
theorem docEncode_bad (A : Option Addr) (l : List K.It) (c B : Nat) (w : World) (hx : RdI w B A l) (hB : B ≤ w.heap.size) (hg : ∀ x ∈ l, Good x) (hlc : l.length ≤ c) (hcm : c ≤ maxLen) (hf : K.fault l ≠ 0) :
    Calls Try.prog 9 #[.slice A l.length c] w fun e w' => e = .returned (.tuple #[.string ⟨#[]⟩, .int .i64 (K.fault l)]) ∧ w = w' := by
  have HF := check_any A l c B w hx hg hlc hcm
  have hcm' := hcm
  unfold maxLen at hcm'
  obtain ⟨y, hy⟩ : ∃ y, y = K.fault l := ⟨_, rfl⟩
  rw [← hy] at hf HF ⊢
  have t1 : (y == 0) = false := by simpa using hf
  have t2 : (y != 0) = true := by simpa using hf
  have HFH := Lib.hid HF
  clear HF hy hx hg hf
  go_enter Try.func9, Try.ntmps9
  go_wp2_with fail
  refine HFH.out.mono ?_
  rintro e w' ⟨rfl, rfl⟩
  go_wp2_with fail
  go_ret2
  exact ⟨rfl, rfl⟩
set_option maxHeartbeats 400000 in
theorem docEncode_ok (A : Option Addr) (l : List K.It) (c B : Nat) (w : World) (hx : RdI w B A l) (hB : B ≤ w.heap.size) (hg : ∀ x ∈ l, Good x) (hlc : l.length ≤ c) (hcm : c ≤ maxLen) (hf : K.fault l = 0) :
    Calls Try.prog 9 #[.slice A l.length c] w fun e w' => e = .returned (.tuple #[.string (K.txt (K.encs l)), .int .i64 0]) ∧ Below w.heap.size w w' := by
  have HF := check_any A l c B w hx hg hlc hcm
  rw [hf] at HF
  have HE := Lib.hid (refEncode_any A l c B w hx hB hg hlc hcm hf)
  have hcm' := hcm
  unfold maxLen at hcm'
  have HFH := Lib.hid HF
  clear HF hx hg hf
  go_enter Try.func9, Try.ntmps9
  go_wp2_with fail
  refine HFH.out.mono ?_
  rintro e w' ⟨rfl, rfl⟩
  go_wp2_with fail
  refine HE.out.mono ?_
  rintro e w' ⟨rfl, hl⟩
  have L := Lib.hid hl
  clear hl
  go_wp2_with fail
  go_ret2
  exact ⟨rfl, L.out⟩

theorem sb_extract (s : ByteArray) (i j : Nat) (hij : i ≤ j) (h : j ≤ s.size) : s.extract i j = K.txt (((K.sb s).take j).drop i) := by
  apply K.sb_inj
  rw [K.sb_txt (fun x hx => K.sb_lt s x (List.mem_of_mem_take (List.mem_of_mem_drop hx)))]
  unfold K.sb
  rw [ByteArray.data_extract, Array.toList_extract]
  simp [List.map_drop, List.map_take, List.extract_eq_take_drop]
  rw [List.take_drop, show i + (j - i) = j by omega]
theorem index_sb (s : ByteArray) (k x : Nat) (h : (K.sb s)[k]? = some x) (W : World) : (Instr.index 9 (.string s) (.int .i64 (k : Int))).run Try.prog W = .ok (.int .u8 (x : Int)) W := by
  have hk : k < s.size := by have := (List.getElem?_eq_some_iff.1 h).1; rw [K.sb_length] at this; exact this
  have hx : (s[k]'hk).toNat = x := by
    unfold K.sb at h
    rw [List.getElem?_map] at h
    have h2 : s.data.toList[k]? = some (s[k]'hk) := by
      rw [Array.getElem?_toList]
      exact Array.getElem?_eq_getElem hk
    rw [h2] at h
    simpa using h
  simp [Instr.index, run_underlying Try.underlying9, asIntOf, Sem.run_bind, hk, hx]
theorem slice_strFrom (s : ByteArray) (k : Nat) (L : Int) (hL : L = (k : Int)) (h : k ≤ s.size) (W : World) : (Instr.sliceAt 9 (.string s) (some (.int .i64 L)) none none).run Try.prog W = .ok (.string (K.txt ((K.sb s).drop k))) W := by
  subst hL
  have e := sb_extract s k s.size h (Nat.le_refl _)
  rw [List.take_of_length_le (by rw [K.sb_length]; exact Nat.le_refl _)] at e
  rw [← e, run_sliceAt_string (P := Try.prog) (w := W) (h := Try.underlying9)]
  simp [go_sem]
  intro h2
  omega
theorem slice_strFromU (s : ByteArray) (k : Nat) (h : k ≤ s.size) (W : World) : (Instr.sliceAt 9 (.string s) (some (.int .u64 (k : Int))) none none).run Try.prog W = .ok (.string (K.txt ((K.sb s).drop k))) W := by
  have e := sb_extract s k s.size h (Nat.le_refl _)
  rw [List.take_of_length_le (by rw [K.sb_length]; exact Nat.le_refl _)] at e
  rw [← e, run_sliceAt_string (P := Try.prog) (w := W) (h := Try.underlying9)]
  simp [go_sem]
  intro h2
  omega
theorem slice_strToU (s : ByteArray) (k : Nat) (h : k ≤ s.size) (W : World) : (Instr.sliceAt 9 (.string s) none (some (.int .u64 (k : Int))) none).run Try.prog W = .ok (.string (K.txt ((K.sb s).take k))) W := by
  have e := sb_extract s 0 k (Nat.zero_le _) h
  rw [List.drop_zero] at e
  rw [← e, run_sliceAt_string (P := Try.prog) (w := W) (h := Try.underlying9)]
  simp [go_sem]
  intro h2
  omega
/-- what number answers -/
def NumOut (L : List Nat) (e : Ending) : Prop :=
  (K.tk 0 0 L = none ∧ e = .returned (.tuple #[.int .u64 0, .string ⟨#[]⟩, .bool false])) ∨
  ∃ v k, K.tk 0 0 L = some (v, L.drop k) ∧ v < 18446744073709551616 ∧ 0 < k ∧ k ≤ L.length ∧ e = .returned (.tuple #[.int .u64 v, .string (K.txt (L.drop k)), .bool true])
set_option maxRecDepth 100000 in
set_option maxHeartbeats 1600000 in
theorem number_any (s : ByteArray) (w : World) (hs : s.size ≤ maxLen) :
    Calls Try.prog 23 #[.string s] w fun e w' => NumOut (K.sb s) e ∧ ∃ nq, w' = w.drewN nq := by
  obtain ⟨L, hL⟩ : ∃ L, L = K.sb s := ⟨_, rfl⟩
  obtain ⟨n, hn⟩ : ∃ n, n = s.size := ⟨_, rfl⟩
  have hnl : n = L.length := by rw [hL, K.sb_length, hn]
  have HN := Lib.hid hn
  have HNL := Lib.hid hnl
  have HLL := Lib.hid hL
  have H256 : Hid (∀ x ∈ L, x < 256) := Lib.hid (by rw [hL]; exact K.sb_lt s)
  rw [← hL]
  unfold maxLen at hs
  have hs' : n ≤ 9223372036854775807 := by omega
  have hszi : (s.size : Int) = (n : Int) := by omega
  clear hL hn hnl hs
  go_enter Try.func23, Try.ntmps23
  go_wp2_with fail
  go_loop [5, 6, 7] (fun y z x => ∃ (k v : Nat), x = .int .i64 k ∧ y = .int .u64 v ∧ z = .int .u64 ((128 ^ k : Nat) : Int) ∧ k ≤ n ∧ k ≤ 9 ∧ v < 128 ^ k ∧ Hid (K.tk k v (L.drop k) = K.tk 0 0 L)) (fun _ _ x => n - (intOf x).toNat)
  case atStart => exact ⟨0, 0, rfl, rfl, by simp, by omega, by omega, by simp, Lib.hid rfl⟩
  case round =>
    obtain ⟨k, v, rfl, rfl, rfl, hk, hk9, hv, E1⟩ := hrel
    have hp9 : 128 ^ k ≤ (128 : Nat) ^ 9 := Nat.pow_le_pow_right (by omega) hk9
    have hv2 : v < 9223372036854775808 := by omega
    obtain ⟨pk, hpk⟩ : ∃ pk, pk = 128 ^ k := ⟨_, rfl⟩
    rw [← hpk] at hp9 hv ⊢
    have HPK := Lib.hid hpk
    clear hpk
    have hpk9 : pk ≤ 9223372036854775808 := by omega
    have i0 : (k : Int) < 10 := by omega
    by_cases hlt : k < n
    · obtain ⟨x, hxk⟩ : ∃ x, L[k]? = some x := ⟨_, List.getElem?_eq_getElem (by rw [← HNL.out]; exact hlt)⟩
      have hx256 := H256.out x (List.mem_of_getElem? hxk)
      have hdc := drop_cons hxk
      have HI := index_sb s k x (by rw [← HLL.out]; exact hxk)
      have E2 : Hid ((if k = 9 ∧ 1 < x then none else if x = 0 ∧ 0 < k then none else if x < 128 then some (v + x * pk, L.drop (k + 1)) else K.tk (k + 1) (v + (x - 128) * pk) (L.drop (k + 1))) = K.tk 0 0 L) := Lib.hid (by rw [← E1.out, hdc, tk_cons, HPK.out])
      clear hdc hxk E1
      have i2 : (k : Int) < (n : Int) := by omega
      by_cases ha : k = 9 ∧ 1 < x
      · have i4 : (1 : Int) < (x : Int) := by omega
        have t9 : ((k : Int) == 9) = true := by simp; omega
        have E3 : Hid (K.tk 0 0 L = none) := Lib.hid (by rw [← E2.out, if_pos ha])
        clear E2 ha
        go_wp2_with fail
        go_ret3
        exact ⟨.inl ⟨E3.out, rfl⟩, 0, rfl⟩
      by_cases h0 : x = 0 ∧ 0 < k
      · have t0 : ((x : Int) == 0) = true := by simp; omega
        have i5 : (0 : Int) < (k : Int) := by omega
        have i6 : (x : Int) ≤ 1 := by omega
        have E3 : Hid (K.tk 0 0 L = none) := Lib.hid (by rw [← E2.out, if_neg ha, if_pos h0])
        clear E2 ha h0
        by_cases h9 : k = 9
        · have t9 : ((k : Int) == 9) = true := by simp; omega
          clear h9
          go_wp2_with fail
          go_ret3
          exact ⟨.inl ⟨E3.out, rfl⟩, 0, rfl⟩
        · have t9 : ((k : Int) == 9) = false := by simp; omega
          clear h9
          go_wp2_with fail
          go_ret3
          exact ⟨.inl ⟨E3.out, rfl⟩, 0, rfl⟩
      have hyp : v + x % 128 * pk < 18446744073709551616 := by
        by_cases h9 : k = 9
        · have h1 : x % 128 ≤ 1 := by omega
          have := Nat.mul_le_mul_right pk h1
          omega
        · have h8 : pk ≤ (128 : Nat) ^ 8 := by rw [HPK.out]; exact Nat.pow_le_pow_right (by omega) (by omega)
          have := Nat.mul_le_mul (show x % 128 ≤ 127 by omega) h8
          omega
      obtain ⟨mm, hmm⟩ : ∃ mm, mm = x % 128 * pk := ⟨_, rfl⟩
      have HMUL : (x : Int) % 128 * (pk : Int) = (mm : Int) := by rw [hmm, Int.natCast_mul]; rfl
      rw [← hmm] at hyp
      obtain ⟨v', hv'⟩ : ∃ v', v' = v + mm := ⟨_, rfl⟩
      have HV := Lib.hid hv'
      have HMM := Lib.hid hmm
      have HMW : IntKind.u64.wrap ((x : Int) % 128 * (pk : Int)) = (mm : Int) := by rw [HMUL]; exact wraps_u64 _ (by omega) (by omega)
      have HVW : (v : Int) + (mm : Int) = (v' : Int) := by omega
      have hv3 : v' < 18446744073709551616 := by omega
      have hm3 : mm < 18446744073709551616 := by omega
      have x1 : (0 : Int) ≤ (x : Int) := by omega
      have x2 : (x : Int) < 256 := by omega
      clear hv' hmm
      by_cases hs : x < 128
      · have i6 : (x : Int) < 128 := by omega
        by_cases h9 : k = 9
        · have t9 : ((k : Int) == 9) = true := by simp; omega
          have i7 : (x : Int) ≤ 1 := by omega
          have t0 : ((x : Int) == 0) = false := by simp; omega
          have i5 : (0 : Int) < (k : Int) := by omega
          have E3 : Hid (K.tk 0 0 L = some (v', L.drop (k + 1))) := Lib.hid (by rw [← E2.out, if_neg ha, if_neg h0, if_pos hs, HV.out, HMM.out, Nat.mod_eq_of_lt hs])
          have HS := slice_strFrom s (k + 1) ((k : Int) + 1) (by omega) (by have := HN.out; omega)
          rw [← HLL.out] at HS
          have W1 : IntKind.i64.wrap ((k : Int) + 1) = (k : Int) + 1 := IntWalk.i64_in _ (by omega)
          have W2 : (0 : Int) ≤ (k : Int) + 1 := by omega
          clear E2 ha h0 hs h9
          go_wp2_with fail
          go_quiet (fail)
          go_wp2_with fail
          go_ret3
          exact ⟨.inr ⟨v', k + 1, E3.out, hv3, by omega, by rw [← HNL.out]; omega, rfl⟩, nq, rfl⟩
        · have t9 : ((k : Int) == 9) = false := by simp; omega
          by_cases hk0 : 0 < k
          · have t0 : ((x : Int) == 0) = false := by simp; omega
            have i5 : (0 : Int) < (k : Int) := by omega
            have E3 : Hid (K.tk 0 0 L = some (v', L.drop (k + 1))) := Lib.hid (by rw [← E2.out, if_neg ha, if_neg h0, if_pos hs, HV.out, HMM.out, Nat.mod_eq_of_lt hs])
            have HS := slice_strFrom s (k + 1) ((k : Int) + 1) (by omega) (by have := HN.out; omega)
            rw [← HLL.out] at HS
            have W1 : IntKind.i64.wrap ((k : Int) + 1) = (k : Int) + 1 := IntWalk.i64_in _ (by omega)
            have W2 : (0 : Int) ≤ (k : Int) + 1 := by omega
            clear E2 ha h0 hs h9 hk0
            go_wp2_with fail
            go_quiet (fail)
            go_wp2_with fail
            go_ret3
            exact ⟨.inr ⟨v', k + 1, E3.out, hv3, by omega, by rw [← HNL.out]; omega, rfl⟩, nq, rfl⟩
          · have i5 : (k : Int) ≤ 0 := by omega
            have E3 : Hid (K.tk 0 0 L = some (v', L.drop (k + 1))) := Lib.hid (by rw [← E2.out, if_neg ha, if_neg h0, if_pos hs, HV.out, HMM.out, Nat.mod_eq_of_lt hs])
            have HS := slice_strFrom s (k + 1) ((k : Int) + 1) (by omega) (by have := HN.out; omega)
            rw [← HLL.out] at HS
            have W1 : IntKind.i64.wrap ((k : Int) + 1) = (k : Int) + 1 := IntWalk.i64_in _ (by omega)
            have W2 : (0 : Int) ≤ (k : Int) + 1 := by omega
            clear E2 ha h0 hs h9 hk0
            go_wp2_with fail
            go_quiet (fail)
            go_wp2_with fail
            go_ret3
            exact ⟨.inr ⟨v', k + 1, E3.out, hv3, by omega, by rw [← HNL.out]; omega, rfl⟩, nq, rfl⟩
      · have i6 : (128 : Int) ≤ (x : Int) := by omega
        have hk8 : k ≤ 8 := by omega
        have t9 : ((k : Int) == 9) = false := by simp; omega
        have t0 : ((x : Int) == 0) = false := by simp; omega
        have hyx : x % 128 = x - 128 := by omega
        have E3 : Hid (K.tk (k + 1) v' (L.drop (k + 1)) = K.tk 0 0 L) := Lib.hid (by rw [← E2.out, if_neg ha, if_neg h0, if_neg hs, HV.out, HMM.out, hyx])
        have hpk8 : pk ≤ 72057594037927936 := by
          have h8 : pk ≤ (128 : Nat) ^ 8 := by rw [HPK.out]; exact Nat.pow_le_pow_right (by omega) hk8
          exact Nat.le_trans h8 (by decide +kernel)
        have hv4 : v' < 128 ^ (k + 1) := by
          rw [Nat.pow_succ, ← HPK.out, HV.out, HMM.out]
          have := Nat.mul_le_mul_right pk (show x % 128 ≤ 127 by omega)
          omega
        clear hyx
        by_cases hk0 : 0 < k
        · have i5 : (0 : Int) < (k : Int) := by omega
          clear E2 ha h0 hs hk0
          go_wp2_with fail
          go_round
          case rel => exact ⟨k + 1, v', by go_num, rfl, by rw [Nat.pow_succ, ← HPK.out]; go_num, by omega, by omega, hv4, E3⟩
          case measure => simp [intOf]; omega
        · have i5 : (k : Int) ≤ 0 := by omega
          clear E2 ha h0 hs hk0
          go_wp2_with fail
          go_round
          case rel => exact ⟨k + 1, v', by go_num, rfl, by rw [Nat.pow_succ, ← HPK.out]; go_num, by omega, by omega, hv4, E3⟩
          case measure => simp [intOf]; omega
    · have i2 : (n : Int) ≤ (k : Int) := by omega
      have E3 : Hid (K.tk 0 0 L = none) := Lib.hid (by rw [← E1.out, List.drop_eq_nil_of_le (by rw [← HNL.out]; omega)]; rfl)
      clear E1
      go_wp2_with fail
      go_ret3
      exact ⟨.inl ⟨E3.out, rfl⟩, 0, rfl⟩
end Go.Proofs.Ytiflkjjjncagfaa
