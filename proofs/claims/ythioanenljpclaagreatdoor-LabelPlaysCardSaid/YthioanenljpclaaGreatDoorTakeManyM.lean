/-
  'hoardref04.primes' at 64, 'hoardref04.message' by contracts. Conditions: texts below 2^40 bytes.
-/
import Derived.Test.YthioanenljpclaaGreatDoorShaRefOps
import Derived.Test.YthioanenljpclaaGreatDoorShaRestM
import Derived.Test.YthioanenljpclaaGreatDoorDrawSeqM
namespace Go.Proofs.YthioanenljpclaaGreatDoor
set_option maxRecDepth 100000
open Go Go.RowKit
set_option linter.unusedVariables false

def lget (l : List Nat) (j : Nat) : Nat := l.getD j 0
theorem val_u64 {a b : Int} (h : a = b) : Value.int .u64 a = .int .u64 b := by rw [h]
theorem take_all_succ (l : List Nat) (f : Nat → Bool) (i : Nat) (h : i < l.length) : (l.take (i + 1)).all f = ((l.take i).all f && f (lget l i)) := by
  rw [List.take_succ_eq_append_getElem h, List.all_append]
  unfold lget
  rw [List.getD_eq_getElem?_getD, List.getElem?_eq_getElem h]
  simp

set_option maxRecDepth 100000 in
set_option maxHeartbeats 1600000 in
theorem primes_any (w : World) :
    Calls Tryz.prog 74 #[.int .i64 64] w fun e w' => ∃ v, e = .returned v ∧ Own64 w' w.heap.size v 64 (lget M.primes64) ∧ Below w.heap.size w w' := by
  go_enter Tryz.func74, Tryz.ntmps74
  go_wp2_with fail
  go_loopw [3, 4, 5, 6] (fun v p _ _ wr => ∃ k : Nat, k ≤ 310 ∧ (M.plTo k).length ≤ 64 ∧ p = .int .u64 ((2 + k : Nat) : Int) ∧ Hid (Own64 wr w.heap.size v (M.plTo k).length (lget (M.plTo k))) ∧ Hid (Below w.heap.size w wr)) (fun _ p _ _ _ => 312 - (intOf p).toNat)
  case atStart => exact ⟨0, by omega, by decide, rfl, Own64.nil _ _ _, Below.refl _ _⟩
  case round =>
    obtain ⟨k, hk, hl64, rfl, O1, L1⟩ := hrel
    obtain ⟨A, c, rfl, hc1, hc2⟩ := O1.out.shape
    unfold maxLen at hc2
    obtain ⟨l, hl⟩ : ∃ l, l = M.plTo k := ⟨_, rfl⟩
    have htwo := M.plTo_two k
    have hlt0 := M.plTo_lt k
    have hS : Hid (M.plTo (k + 1) = M.plStep (2 + k) l) := by rw [hl]; exact Lib.hid rfl
    by_cases hlt : (M.plTo k).length < 64
    · have hk310 := M.pl_short k hlt
      have hlt' : (((M.plTo k).length : Nat) : Int) < 64 := by omega
      have HL0 := Lib.hid hl
      rw [← hl] at O1 hc1 hlt hlt' htwo hlt0 ⊢
      have HT := Lib.hid htwo
      have HU := Lib.hid hlt0
      clear hl htwo hlt0 hl64
      obtain ⟨p, hp⟩ : ∃ p, p = 2 + k := ⟨_, rfl⟩
      rw [← hp] at hS ⊢
      have hp1 : p ≤ 312 := by omega
      have hp2 : 2 ≤ p := by omega
      have HP := Lib.hid hp
      have HC1 := Lib.hid hc1
      clear hp hc1
      go_wp2_with fail
      go_loop [5, 6] (fun ok i => ∃ j : Nat, j ≤ l.length ∧ i = .int .i64 j ∧ ok = .bool ((l.take j).all fun q => p % q != 0)) (fun _ i => l.length - (intOf i).toNat)
      case atStart => exact ⟨0, by omega, rfl, rfl⟩
      case round =>
        obtain ⟨j, hj, rfl, rfl⟩ := hrel
        by_cases hjl : j < l.length
        · obtain ⟨g, c', cs, hv, hg, hb, _, _, hcs⟩ := O1.out.row (by omega)
          injection hv with hA _ _
          subst hA
          have c1 : wr.cell? ⟨g, j, none⟩ = some (.int .u64 ((lget l j : Nat) : Int)) := (hb.cell j).trans (hcs j hjl)
          have hq2 : 2 ≤ lget l j := HT.out _ (by unfold lget; rw [List.getD_eq_getElem?_getD, List.getElem?_eq_getElem hjl]; exact List.getElem_mem hjl)
          have HSU := Lib.hid (take_all_succ l (fun q => p % q != 0) j hjl)
          generalize lget l j = q at *
          have hjl' : (j : Int) < (l.length : Int) := by omega
          have hq0 : (0 : Int) < (q : Int) := by omega
          clear hb hcs
          cases hall : ((l.take j).all fun q => p % q != 0) with
          | false =>
            rw [hall] at HSU
            clear hall
            go_wp2_with fail
            go_round
            case rel => exact ⟨j + 1, by omega, by go_num, by rw [HSU.out]; rfl⟩
            case measure => simp [intOf]; omega
          | true =>
            rw [hall] at HSU
            clear hall
            obtain ⟨r, hr⟩ : ∃ r, r = p % q := ⟨_, rfl⟩
            have e1 : (p : Int) % (q : Int) = (r : Int) := by rw [hr]; rfl
            have e2 : (p : Int).tmod (q : Int) = (r : Int) := by rw [Int.tmod_eq_emod_of_nonneg (by omega)]; exact e1
            rw [← hr] at HSU
            clear hr
            by_cases h0 : r = 0
            · subst h0
              go_wp2_with fail
              go_round
              case rel => exact ⟨j + 1, by omega, by go_num, by rw [HSU.out]; rfl⟩
              case measure => simp [intOf]; omega
            · have t0 : ((r : Int) == 0) = false := by simpa using h0
              have t1 : ((r : Int) != 0) = true := by simpa using h0
              have HR : Hid ((true && (r != 0)) = true) := Lib.hid (by simpa using h0)
              go_wp2_with fail
              go_round
              case rel => exact ⟨j + 1, by omega, by go_num, by rw [HSU.out, HR.out]⟩
              case measure => simp [intOf]; omega
        · have hje : j = l.length := by omega
          subst hje
          rw [List.take_length]
          cases hall : (l.all fun q => p % q != 0) with
          | false =>
            have hS1 : M.plTo (k + 1) = l := by rw [hS.out]; unfold M.plStep; rw [hall]; rfl
            have HS1 := Lib.hid hS1
            clear hS1 hall
            go_wp2_with fail
            exact ⟨⟨k + 1, by omega, by rw [HS1.out]; omega, val_u64 (by have := HP.out; omega), by rw [HS1.out]; exact O1, L1⟩, by show 312 - ((p : Int) + 1).toNat < 312 - (p : Int).toNat; have := HP.out; omega⟩
          | true =>
            have hS1 : M.plTo (k + 1) = l ++ [p] := by rw [hS.out]; unfold M.plStep; rw [hall]; rfl
            have HS1 := Lib.hid hS1
            have hz := L1.out.size
            clear hS1 hall hS
            go_wp2_with ((with_reducible refine wpList_push64 rfl (.tmp 30) (.tmp 32) rfl rfl rfl O1.out (by omega) L1.out.size ?_); intro v2 w2 ho2 hg2 _; refine of_hid ?_)
            refine Lib.hid ?_
            have L2 := Lib.hid (own64_grown L1.out O1.out _ hg2 hz)
            have O2 : Hid (Own64 w2 w.heap.size v2 (M.plTo (k + 1)).length (lget (M.plTo (k + 1)))) := by
              rw [HS1.out, List.length_append]
              exact Lib.hid (ho2.congr fun j hj => by
                unfold upd lget
                rw [List.getD_eq_getElem?_getD, List.getD_eq_getElem?_getD]
                by_cases e : j = l.length
                · rw [if_pos e, e]; simp
                · rw [if_neg e, List.getElem?_append_left (by omega)])
            clear ho2 hg2 O1 L1
            go_wp2_with fail
            exact ⟨⟨k + 1, by omega, by rw [HS1.out, List.length_append]; show l.length + 1 ≤ 64; omega, val_u64 (by have := HP.out; omega), O2, L2⟩, by show 312 - ((p : Int) + 1).toNat < 312 - (p : Int).toNat; have := HP.out; omega⟩
    · have hd := M.pl_done k hk (by omega)
      have hle : (M.plTo k).length = 64 := by omega
      rw [hle] at O1 hc1 ⊢
      rw [hd] at O1
      clear hS hl htwo hlt0 hd hle hlt hl64
      go_wp2_with fail
      go_ret
      exact ⟨_, rfl, O1.out, L1.out⟩

/-! ### the message -/
/-- 'append(v, x)' of one byte -/
theorem wpList_push8 {w0 : World} {ops : Array Oper} {rest : List Oper} {o : Oper} {a : Act} {Q : Exit → Act → World → Prop} (hgd : o.guard = none) (s x : Operand)
    (ho : o.op = .call { callee := .builtin .append, args := #[s, x], argTypes := #[51, 51] }) {base n y : Nat} {v : Value} {X : Nat → Nat} (hs : a.eval s = v) (hx : a.eval x = .slice (some ⟨w0.heap.size, 0, none⟩) 1 1)
    (hown : Own8 w0 base v n X) (hy : y < 256) (hl : n ≤ 70368744177663) (hb : base ≤ w0.heap.size)
    (h : ∀ v' w', Own8 w' base v' (n + 1) (upd X n y) → (w0.alloc (.cells #[.int .u8 ((y : Nat) : Int)] 5)).grownBy w' v.ownBlock → wpList Tryz.prog ops Q rest (a.put o.dst v') w') :
    wpList Tryz.prog ops Q (o :: rest) a (w0.alloc (.cells #[.int .u8 ((y : Nat) : Int)] 5)) := by
  have hown' : Own8 (w0.alloc (.cells #[.int .u8 ((y : Nat) : Int)] 5)) base v n X := hown.keep fun g hg => Below.heap_alloc w0 _ g (hown.lt hg).1
  have hrd : RdB (w0.alloc (.cells #[.int .u8 ((y : Nat) : Int)] 5)) (w0.heap.size + 1) (some ⟨w0.heap.size, 0, none⟩) 1 (fun _ => y) := fun j hj => ⟨w0.heap.size, 0, rfl, by omega, by
    have hj0 : j = 0 := by omega
    subst hj0
    rw [(Blk.new w0 5 _).cell]; rfl, hy⟩
  refine wpList_append_rd hgd s x ho hs hx hown' hrd (fun e => by cases e) (Nat.le_refl _) (by omega) (by simp; omega) ?_
  intro v' w' h1 h2 _
  refine h v' w' (h1.congr fun j hj => ?_) h2
  unfold cat upd
  by_cases hjn : j < n
  · rw [if_pos hjn, if_neg (by omega)]
  · rw [if_neg hjn, if_pos (by omega)]
theorem wpList_push8i {w0 : World} {ops : Array Oper} {rest : List Oper} {o : Oper} {a : Act} {Q : Exit → Act → World → Prop} (hgd : o.guard = none) (s x : Operand)
    (ho : o.op = .call { callee := .builtin .append, args := #[s, x], argTypes := #[51, 51] }) {base n : Nat} {v : Value} {X : Nat → Nat} (y : Nat) {yI : Int} (hyI : yI = ((y : Nat) : Int)) (hs : a.eval s = v) (hx : a.eval x = .slice (some ⟨w0.heap.size, 0, none⟩) 1 1)
    (hown : Own8 w0 base v n X) (hy : y < 256) (hl : n ≤ 70368744177663) (hb : base ≤ w0.heap.size)
    (h : ∀ v' w', Own8 w' base v' (n + 1) (upd X n y) → (w0.alloc (.cells #[.int .u8 ((y : Nat) : Int)] 5)).grownBy w' v.ownBlock → wpList Tryz.prog ops Q rest (a.put o.dst v') w') :
    wpList Tryz.prog ops Q (o :: rest) a (w0.alloc (.cells #[.int .u8 yI] 5)) := by
  subst hyI
  exact wpList_push8 hgd s x ho hs hx hown hy hl hb h
theorem own8_grown {w0 w w' : World} {base n : Nat} {v : Value} {X : Nat → Nat} (hb : Below base w0 w) (ho : Own8 w base v n X) (o : Obj) (hg : (w.alloc o).grownBy w' v.ownBlock) (hs : base ≤ w.heap.size) : Below base w0 w' :=
  (hb.alloc hs o).trans ⟨hg.os, hg.tape, hg.output, hg.size, fun k hk => hg.block k (by simp; omega) (fun e => by have := (ho.lt e.symm).2; omega)⟩
/-- the message as it grows: m bytes of it -/
def zpad (n : Nat) (X : Nat → Nat) (j : Nat) : Nat := if j < n then X j else if j = n then 128 else 0
theorem msg_zero {n : Nat} (X : Nat → Nat) {j : Nat} (h : j + 8 < M.msgN n) : M.msg n X j = zpad n X j := by
  have hf := restN_fits n
  unfold M.msgN at h
  unfold M.msg M.rest M.restTo zpad
  by_cases h1 : j < n / 64 * 64
  · rw [if_pos h1, if_pos (by omega)]
  · rw [if_neg h1]
    by_cases h2 : j < n
    · rw [if_pos (by omega), if_pos h2, show n / 64 * 64 + (j - n / 64 * 64) = j by omega]
    · rw [if_neg (by omega), if_neg h2]
      by_cases h3 : j = n
      · rw [if_pos (by omega), if_pos h3]
      · rw [if_neg (by omega), if_neg h3, if_neg (by omega)]
end Go.Proofs.YthioanenljpclaaGreatDoor
namespace Go.Proofs.YthioanenljpclaaGreatDoor
set_option maxRecDepth 100000
open Go Go.RowKit
set_option linter.unusedVariables false

/-- the message, i of the count's bytes behind N - 8 of it -/
def msgTo (n N : Nat) (X : Nat → Nat) (j : Nat) : Nat := if j < N - 8 then zpad n X j else ((n * 8) >>> (56 - 8 * (j - (N - 8)))) % 256
theorem msgTo_done {n : Nat} (X : Nat → Nat) {j : Nat} (h : j < M.msgN n) : msgTo n (M.msgN n) X j = M.msg n X j := by
  have hf := restN_fits n
  unfold msgTo
  by_cases h1 : j < M.msgN n - 8
  · rw [if_pos h1, msg_zero X (by omega)]
  · rw [if_neg h1]
    unfold M.msgN at h h1 ⊢
    unfold M.msg M.rest M.restTo
    rw [if_neg (by omega), if_neg (by omega), if_neg (by omega), if_pos (by omega)]
    congr 2
    omega
theorem shr_byte (a k : Nat) : (a : Int) / 2 ^ k % 256 = (((a >>> k) % 256 : Nat) : Int) := by
  rw [Nat.shiftRight_eq_div_pow, Int.natCast_emod, Int.natCast_ediv, Int.natCast_pow]; rfl
set_option maxRecDepth 100000 in
set_option maxHeartbeats 1600000 in
theorem message_any (n : Nat) (X : Nat → Nat) (w : World) (hX : ∀ j, X j < 256) (hn : n ≤ 1099511627776) :
    Calls Tryz.prog 76 #[.string (strB n X)] w fun e w' => ∃ v, e = .returned v ∧ Own8 w' w.heap.size v (M.msgN n) (M.msg n X) ∧ Below w.heap.size w w' := by
  have hsz := strB_size n X
  have HXX := Lib.hid hX
  clear hX
  go_enter Tryz.func76, Tryz.ntmps76
  go_wp2_with ((with_reducible refine wpList_conv_str rfl (.tmp 6) rfl rfl (fun j _ => HXX.out j) (by unfold maxLen; omega) ?_); intro c1 w1 ho1 hb1; refine of_hid ?_)
  refine Lib.hid ?_
  have O1 := Lib.hid ho1
  have L1 := Lib.hid hb1
  have hz1 := hb1.size
  clear ho1 hb1
  go_wp2_with ((with_reducible refine wpList_push8i rfl (.tmp 7) (.tmp 8) rfl 128 ?_ rfl rfl O1.out (by omega) (by omega) hz1 ?_); rfl; intro v2 w2 ho2 hg2; refine of_hid ?_)
  refine Lib.hid ?_
  have L2 := Lib.hid (own8_grown L1.out O1.out _ hg2 hz1)
  have O2 : Hid (Own8 w2 w.heap.size v2 (n + 1) (zpad n X)) := Lib.hid (ho2.congr fun j hj => by
    unfold upd zpad
    by_cases h : j = n
    · rw [if_pos h, if_neg (by omega), if_pos h]
    · rw [if_neg h, if_pos (by omega)])
  clear ho2 hg2 O1 L1 hz1
  obtain ⟨N, hN⟩ : ∃ N, N = M.msgN n := ⟨_, rfl⟩
  have hf := restN_fits n
  have h64 : (N - 8) % 64 = 56 ∧ n + 9 ≤ N ∧ ∀ m, n + 1 ≤ m → m + 8 ≤ N → m % 64 = 56 → m + 8 = N := by
    rw [hN]
    unfold M.msgN
    rcases restN_or n with h | h <;> rw [h] at hf ⊢
    · exact ⟨by omega, by omega, fun m h1 h2 h3 => by omega⟩
    · have h128 : 55 < n % 64 := by
        unfold M.restN at h
        split at h <;> omega
      exact ⟨by omega, by omega, fun m h1 h2 h3 => by omega⟩
  obtain ⟨hN1, hN2, hN3⟩ := h64
  have HN := Lib.hid hN
  have HN3 := Lib.hid hN3
  have hNle : N ≤ n + 136 := by rw [hN]; unfold M.msgN; rcases restN_or n with h | h <;> omega
  clear hN hN3 hf
  obtain ⟨A2, c2, rfl, _, hc2, hc2m, _, _⟩ := O2.out.shape (fun j _ => by
    unfold zpad
    split
    · exact HXX.out j
    · split <;> omega)
  go_wp2_with fail
  go_loopw [3] (fun v wr => ∃ (m c : Nat) (A : Option Addr), v = .slice A m c ∧ n + 1 ≤ m ∧ m + 8 ≤ N ∧ Hid (Own8 wr w.heap.size v m (zpad n X)) ∧ Hid (Below w.heap.size w wr)) (fun v _ => match v with | .slice _ m _ => N - m | _ => 0)
  case atStart => exact ⟨n + 1, c2, A2, rfl, by omega, by omega, O2, L2⟩
  case round =>
    obtain ⟨m, c, A, rfl, hm1, hm2, O3, L3⟩ := hrel
    clear O2 L2
    by_cases h56 : m % 64 = 56
    · have hmN := HN3.out m hm1 hm2 h56
      have t1 : ((m : Int) % 64 != 56) = false := by simp; omega
      have t2 : ((m : Int) % 64 == 56) = true := by simp; omega
      have e1 : IntKind.u64.wrap (n : Int) = (n : Int) := Mul64.wrapN n (by omega)
      have hmi : m = N - 8 := by omega
      have O4 : Hid (Own8 wr w.heap.size (.slice A m c) (N - 8 + 0) (msgTo n N X)) := by
        have h := O3.out
        rw [hmi] at h ⊢
        exact Lib.hid (h.congr fun j hj => by unfold msgTo; rw [if_pos hj])
      clear O3 hmi h56
      go_wp2_with fail
      go_loopw [3, 5] (fun v x wr => ∃ (i c : Nat) (A : Option Addr), i ≤ 8 ∧ v = .slice A (N - 8 + i) c ∧ x = .int .i64 (56 - 8 * (i : Int)) ∧ Hid (Own8 wr w.heap.size v (N - 8 + i) (msgTo n N X)) ∧ Hid (Below w.heap.size w wr)) (fun v x _ => match v with | .slice _ m _ => N - m | _ => 0)
      case atStart => exact ⟨0, c, A, by omega, by rw [show N - 8 + 0 = m by omega], rfl, O4, L3⟩
      case round =>
        obtain ⟨i, c', A', hi, rfl, rfl, O5, L5⟩ := hrel
        clear O4 L3
        by_cases hlt : i < 8
        · obtain ⟨k, hk⟩ : ∃ k, k = 56 - 8 * i := ⟨_, rfl⟩
          have hk' : 56 - 8 * (i : Int) = (k : Int) := by omega
          have hk56 : k ≤ 56 := by omega
          have hnext : (k : Int) - 8 = 56 - 8 * ((i + 1 : Nat) : Int) := by omega
          have HNX := Lib.hid hnext
          have HK := Lib.hid hk
          rw [hk']
          have e2 : min k 64 = k := by omega
          obtain ⟨y, hy⟩ : ∃ y, y = ((n * 8) >>> k) % 256 := ⟨_, rfl⟩
          have e3 : ((n : Int) * 8 / 2 ^ k) % 256 = (y : Int) := by
            rw [hy, ← shr_byte, Int.natCast_mul]; rfl
          have hby : y < 256 := by rw [hy]; exact Nat.mod_lt _ (by omega)
          have HY := Lib.hid hy
          clear hy
          have hz5 := L5.out.size
          clear hk hk' hnext
          go_wp2_with ((with_reducible refine wpList_push8 rfl (.tmp 25) (.tmp 30) rfl rfl rfl O5.out hby (by omega) hz5 ?_); intro v6 w6 ho6 hg6; refine of_hid ?_)
          refine Lib.hid ?_
          have L6 := Lib.hid (own8_grown L5.out O5.out _ hg6 hz5)
          have O6 : Hid (Own8 w6 w.heap.size v6 (N - 8 + (i + 1)) (msgTo n N X)) := Lib.hid (ho6.congr fun j hj => by
            unfold upd
            by_cases h : j = N - 8 + i
            · rw [if_pos h, HY.out, HK.out]
              unfold msgTo
              rw [if_neg (by omega), show j - (N - 8) = i by omega]
            · rw [if_neg h])
          clear ho6 hg6 O5 L5
          obtain ⟨A7, c7, rfl, _, _, _, _, _⟩ := O6.out.shape (fun j _ => by
            unfold msgTo zpad
            split
            · split
              · exact HXX.out j
              · split <;> omega
            · exact Nat.mod_lt _ (by omega))
          go_wp2_with fail
          exact ⟨⟨i + 1, c7, A7, by omega, rfl, by rw [HNX.out], O6, L6⟩, by show N - (N - 8 + (i + 1)) < N - (N - 8 + i); omega⟩
        · have hi8 : i = 8 := by omega
          subst hi8
          rw [show (56 : Int) - 8 * ((8 : Nat) : Int) = -8 by omega]
          rw [show N - 8 + 8 = N by omega] at O5 ⊢
          clear hlt
          go_wp2_with fail
          go_ret
          refine ⟨_, rfl, ?_, L5.out⟩
          have h := O5.out
          rw [HN.out] at h ⊢
          exact h.congr fun j hj => msgTo_done X hj
    · have t1 : ((m : Int) % 64 != 56) = true := by simp; omega
      have t2 : ((m : Int) % 64 == 56) = false := by simp; omega
      have hz3 := L3.out.size
      go_wp2_with ((with_reducible refine wpList_push8i rfl (.tmp 14) (.tmp 15) rfl 0 ?_ rfl rfl O3.out (by omega) (by omega) hz3 ?_); rfl; intro v6 w6 ho6 hg6; refine of_hid ?_)
      refine Lib.hid ?_
      have L6 := Lib.hid (own8_grown L3.out O3.out _ hg6 hz3)
      have O6 : Hid (Own8 w6 w.heap.size v6 (m + 1) (zpad n X)) := Lib.hid (ho6.congr fun j hj => by
        unfold upd
        by_cases h : j = m
        · rw [if_pos h]
          unfold zpad
          rw [if_neg (by omega), if_neg (by omega)]
        · rw [if_neg h])
      have hm8 : m + 1 + 8 ≤ N := by
        rcases Nat.lt_or_ge (m + 8) N with h | h
        · omega
        · exact absurd (show m % 64 = 56 by omega) h56
      clear ho6 hg6 O3 L3
      obtain ⟨A7, c7, rfl, _, _, _, _, _⟩ := O6.out.shape (fun j _ => by
        unfold zpad
        split
        · exact HXX.out j
        · split <;> omega)
      go_wp2_with fail
      exact ⟨⟨m + 1, c7, A7, rfl, by omega, hm8, O6, L6⟩, by show N - (m + 1) < N - m; omega⟩
end Go.Proofs.YthioanenljpclaaGreatDoor
namespace Go.Proofs.YthioanenljpclaaGreatDoor
open Go Go.RowKit
set_option maxRecDepth 100000
set_option linter.unusedVariables false

section
variable {P : Program} {md : Region.Mode} {ops : Array Oper} {Q : Exit → Act → World → Prop} {S : World → Prop} {z : Nat}
/-- whatever order is picked from here on; S holds behind every operation ahead of z -/
def AnyT (P : Program) (md : Region.Mode) (ops : Array Oper) (Q : Exit → Act → World → Prop) (S : World → Prop) (z : Nat) : Nat → Array Bool → Act → World → Prop
  | 0, listed, a, w => Region.ready md ops listed = [] ∧ Q .normal a w
  | n + 1, listed, a, w => (Region.ready md ops listed = [] → Q .normal a w) ∧
    ∀ i ∈ Region.ready md ops listed, wpOp P ops Q i (fun a' w' => (i < z → S w') ∧ AnyT P md ops Q S z n (listed.setIfInBounds i true) a' w') a w
theorem AnyT.any : ∀ (n : Nat) (listed : Array Bool) (a : Act) (w : World), AnyT P md ops Q S z n listed a w → wpAny P md ops Q n listed a w
  | 0, _, _, _, h => h
  | n + 1, _, _, _, h => ⟨h.1, fun i hi => wpOp_mono (fun a' w' h' => AnyT.any n _ a' w' h'.2) (h.2 i hi)⟩
/-- j waits for i, at once or by others -/
def waitsB (md : Region.Mode) (ops : Array Oper) : Nat → Nat → Nat → Bool
  | 0, _, _ => false
  | f + 1, j, i => match ops[j]? with
    | some oj => oj.after.any fun e => Region.binds md e && (e.on == i || waitsB md ops f e.on i)
    | none => false
/-- what is listed has all listed that it waits for -/
def Shut (md : Region.Mode) (ops : Array Oper) (listed : Array Bool) : Prop := ∀ (j : Nat) (o : Oper), ops[j]? = some o → listed.getD j false = true → ∀ e ∈ o.after, Region.binds md e = true → listed.getD e.on false = true
def shutB (md : Region.Mode) (ops : Array Oper) (listed : Array Bool) : Bool :=
  (List.range ops.size).all fun j => !listed.getD j false || ((ops[j]?).map (·.after.all fun e => !Region.binds md e || listed.getD e.on false)).getD true
theorem shut_of {listed : Array Bool} (h : shutB md ops listed = true) : Shut md ops listed := by
  intro j o ho hl e he hb
  have hj := (Array.getElem?_eq_some_iff.1 ho).1
  have h1 := List.all_eq_true.1 h j (by simpa using hj)
  rw [hl, ho] at h1
  simp only [Bool.not_true, Bool.false_or, Option.map_some, Option.getD_some] at h1
  obtain ⟨k, hk, rfl⟩ := Array.mem_iff_getElem.1 he
  have h2 := Array.all_eq_true.1 h1 k hk
  rw [hb] at h2
  simpa using h2
theorem listed_of_waits {listed : Array Bool} (hs : Shut md ops listed) {i : Nat} : ∀ (f j : Nat) (o : Oper), ops[j]? = some o → (∀ e ∈ o.after, Region.binds md e = true → listed.getD e.on false = true) → waitsB md ops f j i = true → listed.getD i false = true
  | 0, _, _, _, _, h => by cases h
  | f + 1, j, o, ho, hall, h => by
    unfold waitsB at h
    rw [ho] at h
    obtain ⟨k, hk, h1⟩ := Array.any_eq_true.1 h
    rw [Bool.and_eq_true, Bool.or_eq_true] at h1
    have h2 := hall _ (Array.getElem_mem hk) h1.1
    rcases h1.2 with h3 | h3
    · rw [beq_iff_eq] at h3
      rw [← h3]
      exact h2
    · cases ho2 : ops[(o.after[k]).on]? with
      | none =>
        cases f with
        | zero => cases h3
        | succ f =>
          unfold waitsB at h3
          rw [ho2] at h3
          cases h3
      | some o2 => exact listed_of_waits hs f _ o2 ho2 (fun e he hb => hs _ o2 ho2 h2 e he hb) h3
theorem shut_set {listed : Array Bool} {j : Nat} (hs : Shut md ops listed) (hj : j ∈ Region.ready md ops listed) : Shut md ops (listed.setIfInBounds j true) := by
  obtain ⟨_, oj, hoj, hall⟩ := mem_ready.1 hj
  intro k o ho hl e he hb
  by_cases hk : j = k
  · subst hk
    rw [hoj] at ho
    injection ho with ho
    subst ho
    exact getD_set_true (hall e he hb)
  · rw [getD_set_ne false hk] at hl
    exact getD_set_true (hs k o ho hl e he hb)
/-- all operations from z on wait for i -/
def lateB (md : Region.Mode) (ops : Array Oper) (z i : Nat) : Bool := (List.range (ops.size - z)).all fun k => waitsB md ops ops.size (z + k) i
theorem AnyT.first {i : Nat} {oi : Oper} {v : Value} (hi : ops[i]? = some oi) (hsel : ∀ (j : Nat) (o : Oper) cs b, ops[j]? = some o → o.op ≠ .select cs b)
    (hQ : ∀ c a w, Q (.panic c) (a.put oi.dst v) w → Q (.panic c) a w) (hz : lateB md ops z i = true) :
    ∀ (n : Nat) (listed : Array Bool) (a : Act) (w : World),
      Shut md ops listed →
      (∀ j oj, ops[j]? = some oj → j ≠ i → listed.getD j true = false → (∀ e ∈ oj.after, Region.binds md e = true → e.on ≠ i) → oi.apart ops oj = true) →
      i ∈ Region.ready md ops listed → YieldsIf P ops S oi v a → S w →
      AnyT P md ops Q S z n (listed.setIfInBounds i true) (a.put oi.dst v) w → AnyT P md ops Q S z (n + 1) listed a w := by
  intro n
  induction n with
  | zero =>
    intro listed a w _ _ hr hy hS H
    refine ⟨fun h => (by rw [h] at hr; cases hr), fun j hj => ?_⟩
    by_cases hji : j = i
    · subst hji
      exact hy.wpOp hi hS ⟨fun _ => hS, H⟩
    · have h0 := ready_mono hj hji
      rw [H.1] at h0
      cases h0
  | succ n ih =>
    intro listed a w hshut hfree hr hy hS H
    refine ⟨fun h => (by rw [h] at hr; cases hr), fun j hj => ?_⟩
    by_cases hji : j = i
    · subst hji
      exact hy.wpOp hi hS ⟨fun _ => hS, H⟩
    · have h1 := H.2 j (ready_mono hj hji)
      have hun := (mem_ready.1 hr).1
      obtain ⟨hjun, oj, hoj, hall⟩ := mem_ready.1 hj
      have hnot : ∀ e ∈ oj.after, Region.binds md e = true → e.on ≠ i := fun e he hb heq => by
        have h4 := hall e he hb
        rw [heq, getD_both hun] at h4
        cases h4
      have hjz : j < z := by
        rcases Nat.lt_or_ge j z with h | h
        · exact h
        · have hsz := (Array.getElem?_eq_some_iff.1 hoj).1
          have hw := List.all_eq_true.1 hz (j - z) (by simp; omega)
          rw [show z + (j - z) = j by omega] at hw
          have h5 := listed_of_waits hshut _ j oj hoj hall hw
          rw [getD_both hun] at h5
          cases h5
      have h2 := wpOp_putIf hoj (hfree j oj hoj hji hjun hnot) (fun cs b => hsel i oi cs b hi) (fun cs b => hsel j oj cs b hoj) hQ hy h1
      refine wpOp_mono (fun a' w' h3 => ⟨fun _ => h3.2.1 hjz, ih (listed.setIfInBounds j true) a' w' (shut_set hshut hj) (fun k ok hk hki hunk hno => ?_) (ready_mono hr (Ne.symm hji)) h3.1 (h3.2.1 hjz) ?_⟩) h2
      · refine hfree k ok hk hki ?_ hno
        by_cases hjk : j = k
        · subst hjk
          exact hjun
        · rw [getD_set_ne true hjk] at hunk
          exact hunk
      · rw [Array.setIfInBounds_comm _ _ hji]
        exact h3.2.2
theorem AnyT.one {i : Nat} {n : Nat} {listed : Array Bool} {a : Act} {w : World} (hr : Region.ready md ops listed = [i])
    (h : wpOp P ops Q i (fun a' w' => (i < z → S w') ∧ AnyT P md ops Q S z n (listed.setIfInBounds i true) a' w') a w) : AnyT P md ops Q S z (n + 1) listed a w :=
  ⟨fun h0 => (by rw [hr] at h0; cases h0), fun j hj => by
    rw [hr] at hj
    simp at hj
    subst hj
    exact h⟩
theorem AnyT.done {n : Nat} {listed : Array Bool} {a : Act} {w : World} (hr : Region.ready md ops listed = []) (h : Q .normal a w) : AnyT P md ops Q S z n listed a w := by
  cases n with
  | zero => exact ⟨hr, h⟩
  | succ n => exact ⟨fun _ => h, fun i hi => (by rw [hr] at hi; cases hi)⟩
theorem region_anyT (S : World → Prop) (z : Nat) {id : Nat} {a : Act} {w : World} (hm : P.follows .mixedOrders = true) (h : AnyT P .any ops Q S z ops.size (Array.replicate ops.size false) a w.drew) : (Code.region id ops true).wp P Q a w :=
  wp_region_any hm (AnyT.any _ _ _ _ h)
def takeTB (md : Region.Mode) (ops : Array Oper) (z : Nat) (listed : Array Bool) (i : Nat) : Bool :=
  Region.noSelect ops && Region.free md ops listed i && (Region.ready md ops listed).contains i && lateB md ops z i && shutB md ops listed
variable {n : Nat} {listed : Array Bool} {a : Act} {w : World}
theorem takeT (i : Nat) (op : Op) (d : Option Tmp) (g : Option (Nat × Bool)) (v : Value) (ho : isOp ops i = some (op, d, g)) (hw : wantG g (yielded ops a.tmps) = true) (hB : takeTB md ops z listed i = true)
    (hQ : ∀ c a w, Q (.panic c) (a.put d v) w → Q (.panic c) a w) (hy : ∀ (o : Oper) w, o.op = op → S w → (execOp a.eval o).run P w = .ok (.value v) w) (hS : S w)
    (h : AnyT P md ops Q S z n (listed.setIfInBounds i true) (a.put d v) w) : AnyT P md ops Q S z (n + 1) listed a w := by
  obtain ⟨o, h1, h2, rfl, h4⟩ := isOpG_spec ho
  simp only [takeTB, Bool.and_eq_true] at hB
  exact AnyT.first h1 (Region.noSelect_spec hB.1.1.1.1) hQ hB.1.2 n listed a w (shut_of hB.2) (Region.free_spec h1 hB.1.1.1.2) (by simpa using hB.1.1.2) (.inl ⟨want_of h4 hw, fun w hw => hy o w h2 hw⟩) hS h
theorem loneT (i : Nat) (op : Op) (d : Option Tmp) (g : Option (Nat × Bool)) (ho : isOp ops i = some (op, d, g)) (hw : wantG g (yielded ops a.tmps) = true) (hr : Region.ready md ops listed = [i])
    (h : ∀ o : Oper, o.op = op → o.dst = d → o.wp P a w (fun a' w' => (i < z → S w') ∧ AnyT P md ops Q S z n (listed.setIfInBounds i true) a' w') Q) : AnyT P md ops Q S z (n + 1) listed a w := by
  obtain ⟨o, h1, h2, h3, h4⟩ := isOpG_spec ho
  refine AnyT.one hr ?_
  unfold wpOp
  simp only [h1, want_of h4 hw, if_true]
  exact .inl (h o h2 h3)
theorem lastT (i : Nat) (op : Op) (d : Option Tmp) (v : Value) (ho : isOp ops i = some (op, d, none)) (hr : Region.ready md ops listed = [i]) (hd : Region.ready md ops (listed.setIfInBounds i true) = []) (hz : z ≤ i)
    (hy : ∀ (o : Oper), o.op = op → (execOp a.eval o).run P w = .ok (.value v) w) (h : Q .normal (a.put d v) w) : AnyT P md ops Q S z (n + 1) listed a w := by
  obtain ⟨o, h1, h2, h3, h4⟩ := isOp_spec ho
  refine AnyT.one hr (wpOp_op h1 h4 (wp_val (hy o h2) ⟨fun h => absurd h (by omega), AnyT.done hd ?_⟩))
  rw [h3]
  exact h
end
end Go.Proofs.YthioanenljpclaaGreatDoor
