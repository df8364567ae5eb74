/-
  'hoardref04.ror', 'square', 'cube', 'root' by contracts. Conditions: numbers as the document's sums meet them.
-/
import Derived.Test.YthioanenljpclaaGreatDoorOwn64M
import Derived.Test.YthioanenljpclaaGreatDoorShaSpreadM
import Derived.Shelf.Bits.Mul64
namespace Go.Proofs.YthioanenljpclaaGreatDoor
set_option maxRecDepth 100000
open Go Go.RowKit
set_option linter.unusedVariables false

theorem ret_u64 {a b : Int} (h : a = b) : Ending.returned (.int .u64 a) = .returned (.int .u64 b) := by rw [h]
theorem mask_u64 (a : Nat) (ha : a < 18446744073709551616) : bits .and .u64 (a : Int) 4294967295 = ((a % 4294967296 : Nat) : Int) := Mul64.maskN a ha
theorem or_u64 (a b : Nat) (ha : a < 18446744073709551616) (hb : b < 18446744073709551616) : bits .or .u64 (a : Int) (b : Int) = ((a ||| b : Nat) : Int) := by
  have hx : a ||| b < 18446744073709551616 := Nat.or_lt_two_pow (n := 64) ha hb
  show IntKind.u64.wrap ((BitVec.ofInt 64 (a : Int) ||| BitVec.ofInt 64 (b : Int)).toNat : Int) = _
  rw [BitVec.toNat_or, BitVec.ofInt_natCast, BitVec.ofInt_natCast, BitVec.toNat_ofNat, BitVec.toNat_ofNat, Nat.mod_eq_of_lt (show a < 2 ^ 64 by omega), Nat.mod_eq_of_lt (show b < 2 ^ 64 by omega)]
  exact Mul64.wrapN _ hx
theorem xor_u64 (a b : Nat) (ha : a < 4294967296) (hb : b < 4294967296) : bits .xor .u64 (a : Int) (b : Int) = ((a ^^^ b : Nat) : Int) := by
  have hx := M.x32 ha hb
  show IntKind.u64.wrap ((BitVec.ofInt 64 (a : Int) ^^^ BitVec.ofInt 64 (b : Int)).toNat : Int) = _
  rw [BitVec.toNat_xor, BitVec.ofInt_natCast, BitVec.ofInt_natCast, BitVec.toNat_ofNat, BitVec.toNat_ofNat, Nat.mod_eq_of_lt (show a < 2 ^ 64 by omega), Nat.mod_eq_of_lt (show b < 2 ^ 64 by omega)]
  exact Mul64.wrapN _ (by omega)
theorem and_u64 (a b : Nat) (ha : a < 4294967296) (hb : b < 4294967296) : bits .and .u64 (a : Int) (b : Int) = ((a &&& b : Nat) : Int) := by
  have hx := M.a32 b ha
  show IntKind.u64.wrap ((BitVec.ofInt 64 (a : Int) &&& BitVec.ofInt 64 (b : Int)).toNat : Int) = _
  rw [BitVec.toNat_and, BitVec.ofInt_natCast, BitVec.ofInt_natCast, BitVec.toNat_ofNat, BitVec.toNat_ofNat, Nat.mod_eq_of_lt (show a < 2 ^ 64 by omega), Nat.mod_eq_of_lt (show b < 2 ^ 64 by omega)]
  exact Mul64.wrapN _ (by omega)

set_option maxHeartbeats 400000 in
theorem rror_any (x n : Nat) (hx : x < 4294967296) (h0 : 0 < n) (h1 : n < 32) (w : World) :
    Calls Tryz.prog 77 #[.int .u64 x, .int .i64 n] w fun e w' => e = .returned (.int .u64 (M.ror x n : Nat)) ∧ ∃ k, w' = w.drewN k := by
  obtain ⟨m, hm⟩ : ∃ m, m = 32 - n := ⟨_, rfl⟩
  have e1 : IntKind.i64.wrap (32 - (n : Int)) = (m : Int) := by rw [IntKind.wrap_i64]; omega
  have e1' : 32 - (n : Int) = (m : Int) := by omega
  have e2 : min m 64 = m := by omega
  have e3 : min n 64 = n := by omega
  have hpow : (2 : Nat) ^ m ≤ 2 ^ 31 := Nat.pow_le_pow_right (by omega) (by omega)
  have hprod : x * 2 ^ m ≤ 4294967295 * 2 ^ 31 := Nat.mul_le_mul (by omega) hpow
  have hsh : (x <<< m) < 18446744073709551616 := by rw [Nat.shiftLeft_eq]; omega
  have HSH := Lib.hid hsh
  have HM := Lib.hid hm
  have i1 : (n : Int) ≤ 32 := by omega
  have i2 : (0 : Int) ≤ 32 - (n : Int) := by omega
  have HP := Lib.hid hprod
  clear hm hsh hpow hprod
  go_enter Tryz.func77, Tryz.ntmps77
  go_wp2_with fail
  go_quiet (fail)
  go_wp2_with fail
  go_ret
  refine ⟨ret_u64 ?_, _, rfl⟩
  have hsr : x >>> n < 18446744073709551616 := Nat.lt_of_le_of_lt (M.shr_le x n) (by omega)
  rw [show (x : Int) * 2 ^ m = ((x <<< m : Nat) : Int) by rw [Nat.shiftLeft_eq, Int.natCast_mul, Int.natCast_pow]; rfl,
    show (x : Int) / 2 ^ n = ((x >>> n : Nat) : Int) by rw [Nat.shiftRight_eq_div_pow, Int.natCast_ediv, Int.natCast_pow]; rfl,
    Mul64.wrapN _ HSH.out, or_u64 _ _ hsr HSH.out, mask_u64 _ (Nat.or_lt_two_pow (n := 64) hsr HSH.out), HM.out, M.ror_wide x n hx h1]

set_option maxHeartbeats 1000000 in
theorem mul64_any (x y : Nat) (hx : x < 18446744073709551616) (hy : y < 18446744073709551616) (w : World) :
    Calls Tryz.prog 98 #[.int .u64 x, .int .u64 y] w fun e w' => e = .returned (.tuple #[.int .u64 ((x * y / 18446744073709551616 : Nat) : Int), .int .u64 ((x * y % 18446744073709551616 : Nat) : Int)]) ∧ w = w' := by
  obtain ⟨bd, bt, bw, hhi⟩ := Lib.mul64_hi x y hx hy
  have ba := Lib.half_mul_le (a := x / 4294967296) (b := y / 4294967296) (by omega) (by omega)
  have bb := Lib.half_mul_le (a := x / 4294967296) (b := y % 4294967296) (by omega) (by omega)
  have bc := Lib.half_mul_le (a := x % 4294967296) (b := y / 4294967296) (by omega) (by omega)
  go_enter Tryz.func98, Tryz.ntmps98
  have b1 : x / 4294967296 * (y / 4294967296) < 18446744073709551616 := by omega
  have b2 : x / 4294967296 * (y % 4294967296) < 18446744073709551616 := by omega
  have b3 : x % 4294967296 * (y / 4294967296) < 18446744073709551616 := by omega
  have b4 : x / 4294967296 * (y / 4294967296) + (x / 4294967296 * (y % 4294967296) + x % 4294967296 * (y % 4294967296) / 4294967296) / 4294967296 < 18446744073709551616 := by omega
  have b5 : x / 4294967296 * (y / 4294967296) + (x / 4294967296 * (y % 4294967296) + x % 4294967296 * (y % 4294967296) / 4294967296) / 4294967296 + ((x / 4294967296 * (y % 4294967296) + x % 4294967296 * (y % 4294967296) / 4294967296) % 4294967296 + x % 4294967296 * (y / 4294967296)) / 4294967296 < 18446744073709551616 := by omega
  go_wp2
  simp only [Mul64.maskN x hx, Mul64.maskN y hy, Mul64.divN, Mul64.mulN, Mul64.addN, Mul64.wrapN _ bd, Mul64.wrapN _ b2, Mul64.wrapN _ bt, Mul64.maskN _ bt, Mul64.wrapN _ b3, Mul64.wrapN _ bw, Mul64.wrapN _ b1, Mul64.wrapN _ b4, Mul64.wrapN _ b5, Mul64.wrapM (x * y)]
  rw [hhi]
  go_ret2
  exact ⟨rfl, rfl⟩

/-! ### roots -/
set_option maxHeartbeats 400000 in
theorem square_any (x p : Nat) (hx : x < 18446744073709551616) (hp : p < 4294967296) (w : World) :
    Calls Tryz.prog 88 #[.int .u64 x, .int .u64 p] w fun e w' => e = .returned (.bool (M.squareB x p)) ∧ w = w' := by
  have HB := Lib.hid (show M.squareB x p = (decide (x * x / 18446744073709551616 < p) || (decide (x * x / 18446744073709551616 = p) && decide (x * x % 18446744073709551616 = 0))) from rfl)
  rw [HB.out]
  have hm := mul64_any x x hx hx
  have HM := Lib.hid hm
  clear hm
  generalize x * x / 18446744073709551616 = a at *
  generalize x * x % 18446744073709551616 = b at *
  by_cases h1 : a < p
  · have t1 : ((a : Nat) : Int) < (p : Int) := by omega
    have HR : Hid ((decide (a < p) || (decide (a = p) && decide (b = 0))) = true) := Lib.hid (by simp [h1])
    rw [HR.out]
    clear HB
    go_enter Tryz.func88, Tryz.ntmps88
    go_wp2_with fail
    refine (HM.out _).mono ?_
    rintro e w' ⟨rfl, rfl⟩
    go_wp2_with fail
    go_ret
    exact ⟨rfl, rfl⟩
  · have t1 : ¬ ((a : Nat) : Int) < (p : Int) := by omega
    by_cases h2 : a = p
    · subst h2
      by_cases h3 : b = 0
      · subst h3
        have HR : Hid ((decide (a < a) || (decide (a = a) && decide ((0 : Nat) = 0))) = true) := Lib.hid (by simp)
        rw [HR.out]
        clear HB
        go_enter Tryz.func88, Tryz.ntmps88
        go_wp2_with fail
        refine (HM.out _).mono ?_
        rintro e w' ⟨rfl, rfl⟩
        go_wp2_with fail
        go_ret
        exact ⟨rfl, rfl⟩
      · have t3 : ((b : Int) == 0) = false := by simpa using h3
        have HR : Hid ((decide (a < a) || (decide (a = a) && decide (b = 0))) = false) := Lib.hid (by simp [h3])
        rw [HR.out]
        clear HB
        go_enter Tryz.func88, Tryz.ntmps88
        go_wp2_with fail
        refine (HM.out _).mono ?_
        rintro e w' ⟨rfl, rfl⟩
        go_wp2_with fail
        go_ret
        exact ⟨rfl, rfl⟩
    · have t2 : ((a : Int) == (p : Int)) = false := by simp; omega
      have HR : Hid ((decide (a < p) || (decide (a = p) && decide (b = 0))) = false) := Lib.hid (by simp [h1, h2])
      rw [HR.out]
      clear HB
      go_enter Tryz.func88, Tryz.ntmps88
      go_wp2_with fail
      refine (HM.out _).mono ?_
      rintro e w' ⟨rfl, rfl⟩
      go_wp2_with fail
      go_ret
      exact ⟨rfl, rfl⟩

set_option maxRecDepth 100000 in
set_option maxHeartbeats 800000 in
theorem cube_any (x p : Nat) (hx : x ≤ 274877906944) (hp : p < 4294967296) (w : World) :
    Calls Tryz.prog 87 #[.int .u64 x, .int .u64 p] w fun e w' => e = .returned (.bool (M.cubeB x p)) ∧ w = w' := by
  have hlo : x * x % 18446744073709551616 < 18446744073709551616 := Nat.mod_lt _ (by omega)
  have HM1 := Lib.hid (mul64_any x x (by omega) (by omega))
  have HM2 := Lib.hid (mul64_any (x * x % 18446744073709551616) x hlo (by omega))
  have HB := Lib.hid (show M.cubeB x p = (decide (M.cubeT x < p * 4294967296) || (decide (M.cubeT x = p * 4294967296) && decide (x * x % 18446744073709551616 * x % 18446744073709551616 = 0))) from rfl)
  rw [HB.out]
  have ht : M.cubeT x = x * x / 18446744073709551616 * x + x * x % 18446744073709551616 * x / 18446744073709551616 := rfl
  rw [ht] at HB ⊢
  have hxx : x * x ≤ 274877906944 * 274877906944 := Nat.mul_le_mul hx hx
  have hi : x * x / 18446744073709551616 ≤ 4096 := by omega
  have hix : x * x / 18446744073709551616 * x ≤ 4096 * 274877906944 := Nat.mul_le_mul hi hx
  have hov : x * x % 18446744073709551616 * x / 18446744073709551616 ≤ 274877906944 := by
    have h1 : x * x % 18446744073709551616 * x ≤ 18446744073709551616 * 274877906944 := Nat.mul_le_mul (by omega) hx
    omega
  clear ht hxx hlo
  generalize x * x / 18446744073709551616 = a at *
  generalize x * x % 18446744073709551616 = b at *
  generalize b * x / 18446744073709551616 = c at *
  generalize b * x % 18446744073709551616 = d at *
  have hw1 : IntKind.u64.wrap ((a : Int) * (x : Int)) = ((a * x : Nat) : Int) := by rw [Mul64.mulN, Mul64.wrapN _ (by omega)]
  have hw1' : (a : Int) * (x : Int) = ((a * x : Nat) : Int) := Mul64.mulN a x
  generalize hq : a * x = q at *
  have HQ := Lib.hid hq
  clear hq
  have hq0 : IntKind.u64.wrap (q : Int) = (q : Int) := Mul64.wrapN q (by omega)
  have hr0 : IntKind.u64.wrap ((q + c : Nat) : Int) = ((q + c : Nat) : Int) := Mul64.wrapN _ (by omega)
  have hw2 : IntKind.u64.wrap ((q : Int) + (c : Int)) = ((q + c : Nat) : Int) := by rw [Mul64.addN, Mul64.wrapN _ (by omega)]
  have hw2' : (q : Int) + (c : Int) = ((q + c : Nat) : Int) := Mul64.addN q c
  clear hi hix hov
  generalize hr : q + c = r at *
  have HR0 := Lib.hid hr
  clear hr
  have hw3 : IntKind.u64.wrap ((p : Int) * 4294967296) = ((p * 4294967296 : Nat) : Int) := by
    rw [show (p : Int) * (4294967296 : Int) = ((p * 4294967296 : Nat) : Int) by omega, Mul64.wrapN _ (by omega)]
  have hw3' : (p : Int) * (4294967296 : Int) = ((p * 4294967296 : Nat) : Int) := by omega
  have hs0 : IntKind.u64.wrap ((p * 4294967296 : Nat) : Int) = ((p * 4294967296 : Nat) : Int) := Mul64.wrapN _ (by omega)
  generalize hs : p * 4294967296 = s at *
  have HS0 := Lib.hid hs
  clear hs
  by_cases h1 : r < s
  · have t1 : ((r : Nat) : Int) < (s : Int) := by omega
    have HR : Hid ((decide (r < s) || (decide (r = s) && decide (d = 0))) = true) := Lib.hid (by simp [h1])
    rw [HR.out]
    clear HB
    go_enter Tryz.func87, Tryz.ntmps87
    go_wp2_with fail
    refine (HM1.out _).mono ?_
    rintro e w' ⟨rfl, rfl⟩
    go_wp2_with fail
    refine (HM2.out _).mono ?_
    rintro e w' ⟨rfl, rfl⟩
    go_wp2_with fail
    go_ret
    exact ⟨rfl, rfl⟩
  · have t1 : ¬ ((r : Nat) : Int) < (s : Int) := by omega
    by_cases h2 : r = s
    · subst h2
      have t2 : ((r : Int) == (r : Int)) = true := by simp
      by_cases h3 : d = 0
      · subst h3
        have HR : Hid ((decide (r < r) || (decide (r = r) && decide ((0 : Nat) = 0))) = true) := Lib.hid (by simp)
        rw [HR.out]
        clear HB
        go_enter Tryz.func87, Tryz.ntmps87
        go_wp2_with fail
        refine (HM1.out _).mono ?_
        rintro e w' ⟨rfl, rfl⟩
        go_wp2_with fail
        refine (HM2.out _).mono ?_
        rintro e w' ⟨rfl, rfl⟩
        go_wp2_with fail
        go_ret
        exact ⟨rfl, rfl⟩
      · have t3 : ((d : Int) == 0) = false := by simpa using h3
        have HR : Hid ((decide (r < r) || (decide (r = r) && decide (d = 0))) = false) := Lib.hid (by simp [h3])
        rw [HR.out]
        clear HB
        go_enter Tryz.func87, Tryz.ntmps87
        go_wp2_with fail
        refine (HM1.out _).mono ?_
        rintro e w' ⟨rfl, rfl⟩
        go_wp2_with fail
        refine (HM2.out _).mono ?_
        rintro e w' ⟨rfl, rfl⟩
        go_wp2_with fail
        go_ret
        exact ⟨rfl, rfl⟩
    · have t2 : ((r : Int) == (s : Int)) = false := by simp; omega
      have t4 : ((r : Int) = (s : Int)) = False := by simp; omega
      have HR : Hid ((decide (r < s) || (decide (r = s) && decide (d = 0))) = false) := Lib.hid (by simp [h1, h2])
      rw [HR.out]
      clear HB
      go_enter Tryz.func87, Tryz.ntmps87
      go_wp2_with fail
      refine (HM1.out _).mono ?_
      rintro e w' ⟨rfl, rfl⟩
      go_wp2_with fail
      refine (HM2.out _).mono ?_
      rintro e w' ⟨rfl, rfl⟩
      go_wp2_with fail
      go_ret
      exact ⟨rfl, rfl⟩

set_option maxRecDepth 100000 in
set_option maxHeartbeats 1600000 in
theorem root_any (p : Nat) (third : Bool) (hp : p < 4294967296) (w : World) :
    Calls Tryz.prog 75 #[.int .u64 p, .bool third] w fun e w' => e = .returned (.int .u64 (M.rootTo p third 38 % 4294967296 : Nat)) ∧ w = w' := by
  go_enter Tryz.func75, Tryz.ntmps75
  go_wp2_with fail
  go_loop [5, 6, 7] (fun x k _ => ∃ j : Nat, j ≤ 38 ∧ k = .int .i64 (37 - (j : Int)) ∧ x = .int .u64 (M.rootTo p third j : Nat)) (fun _ k _ => ((intOf k) + 1).toNat)
  case atStart => exact ⟨0, by omega, rfl, rfl⟩
  case round =>
    obtain ⟨j, hj, rfl, rfl⟩ := hrel
    by_cases hlt : j < 38
    · have hb := M.rootTo_lt p third j hj
      have HS : Hid (M.rootTo p third (j + 1) = M.rootStep p third (37 - j) (M.rootTo p third j)) := Lib.hid rfl
      have e0 : 2 ^ (38 - j) = 2 ^ (37 - j) + 2 ^ (37 - j) := by rw [show 38 - j = 37 - j + 1 by omega, Nat.pow_succ]; omega
      obtain ⟨k, hk⟩ : ∃ k, k = 37 - j := ⟨_, rfl⟩
      have hk' : 37 - (j : Int) = (k : Int) := by omega
      have hk37 : k ≤ 37 := by omega
      rw [← hk] at HS e0
      rw [hk']
      generalize M.rootTo p third j = x at *
      have hpk : 2 ^ k ≤ 137438953472 := Nat.pow_le_pow_right (n := 2) (by omega) hk37
      have hpos2 := Nat.two_pow_pos k
      have hx : x ≤ 274877906944 := by omega
      have hy : x + 2 ^ k ≤ 274877906944 := by omega
      have HK := Lib.hid hk
      clear hb e0 hk hpos2
      obtain ⟨q, hq⟩ : ∃ q, q = 2 ^ k := ⟨_, rfl⟩
      rw [← hq] at hpk hy
      have s0 : (2 : Int) ^ k = (q : Int) := by rw [hq, Int.natCast_pow]; rfl
      have s1 : IntKind.u64.wrap ((2 : Int) ^ k) = (q : Int) := by rw [s0, Mul64.wrapN _ (by omega)]
      have s2 : min k 64 = k := by omega
      have HQ := Lib.hid hq
      clear hq
      have hjk : 37 - ((j + 1 : Nat) : Int) = (k : Int) - 1 := by omega
      have hjm : j + 1 ≤ 38 := by omega
      cases third with
      | true =>
        by_cases h36 : k < 36
        · have t36 : (k : Int) < 36 := by omega
          have HT : Hid (M.takes p true k (x + 2 ^ k) = M.cubeB (x + 2 ^ k) p) := by
            show _ = _
            unfold M.takes
            simp [h36]
          go_wp2_with fail
          refine (cube_any (x + q) p hy hp _).mono ?_
          rintro e w' ⟨rfl, rfl⟩
          unfold M.rootStep at HS
          rw [HT.out, ← HQ.out] at HS
          cases hc : M.cubeB (x + q) p with
          | true =>
            have HS1 : Hid (M.rootTo p true (j + 1) = x + q) := by
              have := HS.out
              rw [hc, if_pos rfl] at this
              exact Lib.hid this
            clear HS hc
            go_wp2_with fail
            exact ⟨⟨j + 1, hjm, by rw [hjk], by rw [HS1.out]; rfl⟩, by simp [intOf]⟩
          | false =>
            have HS1 : Hid (M.rootTo p true (j + 1) = x) := by
              have := HS.out
              rw [hc, if_neg (by decide)] at this
              exact Lib.hid this
            clear HS hc
            go_wp2_with fail
            exact ⟨⟨j + 1, hjm, by rw [hjk], by rw [HS1.out]⟩, by simp [intOf]⟩
        · have t36 : ¬ (k : Int) < 36 := by omega
          have HS1 : Hid (M.rootTo p true (j + 1) = x) := by
            have := HS.out
            unfold M.rootStep M.takes at this
            rw [if_neg (by simp [h36])] at this
            exact Lib.hid this
          clear HS
          go_wp2_with fail
          exact ⟨⟨j + 1, hjm, by rw [hjk], by rw [HS1.out]⟩, by simp [intOf]⟩
      | false =>
        have HT : Hid (M.takes p false k (x + 2 ^ k) = M.squareB (x + 2 ^ k) p) := Lib.hid rfl
        go_wp2_with fail
        refine (square_any (x + q) p (by omega) hp _).mono ?_
        rintro e w' ⟨rfl, rfl⟩
        unfold M.rootStep at HS
        rw [HT.out, ← HQ.out] at HS
        cases hc : M.squareB (x + q) p with
        | true =>
          have HS1 : Hid (M.rootTo p false (j + 1) = x + q) := by
            have := HS.out
            rw [hc, if_pos rfl] at this
            exact Lib.hid this
          clear HS hc
          go_wp2_with fail
          exact ⟨⟨j + 1, hjm, by rw [hjk], by rw [HS1.out]; rfl⟩, by simp [intOf]⟩
        | false =>
          have HS1 : Hid (M.rootTo p false (j + 1) = x) := by
            have := HS.out
            rw [hc, if_neg (by decide)] at this
            exact Lib.hid this
          clear HS hc
          go_wp2_with fail
          exact ⟨⟨j + 1, hjm, by rw [hjk], by rw [HS1.out]⟩, by simp [intOf]⟩
    · have hj38 : j = 38 := by omega
      subst hj38
      have hb := M.rootTo_lt p third 38 (Nat.le_refl _)
      have hm := mask_u64 (M.rootTo p third 38) (by omega)
      have t1 : ((37 : Int) - ((38 : Nat) : Int)) = -1 := by omega
      rw [t1]
      clear hb
      go_wp2_with fail
      go_ret
      exact ⟨rfl, rfl⟩
end Go.Proofs.YthioanenljpclaaGreatDoor
