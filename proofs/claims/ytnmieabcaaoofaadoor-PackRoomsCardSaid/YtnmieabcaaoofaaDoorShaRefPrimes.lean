/-
  'hoardref04.primes' at 64, 'hoardref04.message' by contracts. Conditions: texts below 2^40 bytes.
-/
import Derived.Test.YtnmieabcaaoofaaDoorShaRefOps
import Derived.Test.YtnmieabcaaoofaaDoorShaRest
namespace Go.Proofs.YtnmieabcaaoofaaDoor
open Go Go.RowKit
set_option linter.unusedVariables false

def lget (l : List Nat) (j : Nat) : Nat := l.getD j 0
theorem val_u64 {a b : Int} (h : a = b) : Value.int .u64 a = .int .u64 b := by rw [h]
theorem take_all_succ (l : List Nat) (f : Nat → Bool) (i : Nat) (h : i < l.length) : (l.take (i + 1)).all f = ((l.take i).all f && f (lget l i)) := by
  rw [List.take_succ_eq_append_getElem h, List.all_append]
  unfold lget
  rw [List.getD_eq_getElem?_getD, List.getElem?_eq_getElem h]
  simp

set_option maxRecDepth 100000 in
set_option maxHeartbeats 1600000 in
theorem primes_any (w : World) :
    Calls Tryd.prog 27 #[.int .i64 64] w fun e w' => ∃ v, e = .returned v ∧ Own64 w' w.heap.size v 64 (lget M.primes64) ∧ Below w.heap.size w w' := by
  go_enter Tryd.func27, Tryd.ntmps27
  go_wp2_with fail
  go_loopw [3, 4, 5, 6] (fun v p _ _ wr => ∃ k : Nat, k ≤ 310 ∧ (M.plTo k).length ≤ 64 ∧ p = .int .u64 ((2 + k : Nat) : Int) ∧ Hid (Own64 wr w.heap.size v (M.plTo k).length (lget (M.plTo k))) ∧ Hid (Below w.heap.size w wr)) (fun _ p _ _ _ => 312 - (intOf p).toNat)
  case atStart => exact ⟨0, by omega, by decide, rfl, Own64.nil _ _ _, Below.refl _ _⟩
  case round =>
    obtain ⟨k, hk, hl64, rfl, O1, L1⟩ := hrel
    obtain ⟨A, c, rfl, hc1, hc2⟩ := O1.out.shape
    unfold maxLen at hc2
    obtain ⟨l, hl⟩ : ∃ l, l = M.plTo k := ⟨_, rfl⟩
    have htwo := M.plTo_two k
    have hlt0 := M.plTo_lt k
    have hS : Hid (M.plTo (k + 1) = M.plStep (2 + k) l) := by rw [hl]; exact Lib.hid rfl
    by_cases hlt : (M.plTo k).length < 64
    · have hk310 := M.pl_short k hlt
      have hlt' : (((M.plTo k).length : Nat) : Int) < 64 := by omega
      have HL0 := Lib.hid hl
      rw [← hl] at O1 hc1 hlt hlt' htwo hlt0 ⊢
      have HT := Lib.hid htwo
      have HU := Lib.hid hlt0
      clear hl htwo hlt0 hl64
      obtain ⟨p, hp⟩ : ∃ p, p = 2 + k := ⟨_, rfl⟩
      rw [← hp] at hS ⊢
      have hp1 : p ≤ 312 := by omega
      have hp2 : 2 ≤ p := by omega
      have HP := Lib.hid hp
      have HC1 := Lib.hid hc1
      clear hp hc1
      go_wp2_with fail
      go_loop [5, 6] (fun ok i => ∃ j : Nat, j ≤ l.length ∧ i = .int .i64 j ∧ ok = .bool ((l.take j).all fun q => p % q != 0)) (fun _ i => l.length - (intOf i).toNat)
      case atStart => exact ⟨0, by omega, rfl, rfl⟩
      case round =>
        obtain ⟨j, hj, rfl, rfl⟩ := hrel
        by_cases hjl : j < l.length
        · obtain ⟨g, c', cs, hv, hg, hb, _, _, hcs⟩ := O1.out.row (by omega)
          injection hv with hA _ _
          subst hA
          have c1 : wr.cell? ⟨g, j, none⟩ = some (.int .u64 ((lget l j : Nat) : Int)) := (hb.cell j).trans (hcs j hjl)
          have hq2 : 2 ≤ lget l j := HT.out _ (by unfold lget; rw [List.getD_eq_getElem?_getD, List.getElem?_eq_getElem hjl]; exact List.getElem_mem hjl)
          have HSU := Lib.hid (take_all_succ l (fun q => p % q != 0) j hjl)
          generalize lget l j = q at *
          have hjl' : (j : Int) < (l.length : Int) := by omega
          have hq0 : (0 : Int) < (q : Int) := by omega
          clear hb hcs
          cases hall : ((l.take j).all fun q => p % q != 0) with
          | false =>
            rw [hall] at HSU
            clear hall
            go_wp2_with fail
            go_round
            case rel => exact ⟨j + 1, by omega, by go_num, by rw [HSU.out]; rfl⟩
            case measure => simp [intOf]; omega
          | true =>
            rw [hall] at HSU
            clear hall
            obtain ⟨r, hr⟩ : ∃ r, r = p % q := ⟨_, rfl⟩
            have e1 : (p : Int) % (q : Int) = (r : Int) := by rw [hr]; rfl
            have e2 : (p : Int).tmod (q : Int) = (r : Int) := by rw [Int.tmod_eq_emod_of_nonneg (by omega)]; exact e1
            rw [← hr] at HSU
            clear hr
            by_cases h0 : r = 0
            · subst h0
              go_wp2_with fail
              go_round
              case rel => exact ⟨j + 1, by omega, by go_num, by rw [HSU.out]; rfl⟩
              case measure => simp [intOf]; omega
            · have t0 : ((r : Int) == 0) = false := by simpa using h0
              have t1 : ((r : Int) != 0) = true := by simpa using h0
              have HR : Hid ((true && (r != 0)) = true) := Lib.hid (by simpa using h0)
              go_wp2_with fail
              go_round
              case rel => exact ⟨j + 1, by omega, by go_num, by rw [HSU.out, HR.out]⟩
              case measure => simp [intOf]; omega
        · have hje : j = l.length := by omega
          subst hje
          rw [List.take_length]
          cases hall : (l.all fun q => p % q != 0) with
          | false =>
            have hS1 : M.plTo (k + 1) = l := by rw [hS.out]; unfold M.plStep; rw [hall]; rfl
            have HS1 := Lib.hid hS1
            clear hS1 hall
            go_wp2_with fail
            exact ⟨⟨k + 1, by omega, by rw [HS1.out]; omega, val_u64 (by have := HP.out; omega), by rw [HS1.out]; exact O1, L1⟩, by show 312 - ((p : Int) + 1).toNat < 312 - (p : Int).toNat; have := HP.out; omega⟩
          | true =>
            have hS1 : M.plTo (k + 1) = l ++ [p] := by rw [hS.out]; unfold M.plStep; rw [hall]; rfl
            have HS1 := Lib.hid hS1
            have hz := L1.out.size
            clear hS1 hall hS
            go_wp2_with ((with_reducible refine wpList_push64 rfl (.tmp 30) (.tmp 32) rfl rfl rfl O1.out (by omega) L1.out.size ?_); intro v2 w2 ho2 hg2 _; refine of_hid ?_)
            refine Lib.hid ?_
            have L2 := Lib.hid (own64_grown L1.out O1.out _ hg2 hz)
            have O2 : Hid (Own64 w2 w.heap.size v2 (M.plTo (k + 1)).length (lget (M.plTo (k + 1)))) := by
              rw [HS1.out, List.length_append]
              exact Lib.hid (ho2.congr fun j hj => by
                unfold upd lget
                rw [List.getD_eq_getElem?_getD, List.getD_eq_getElem?_getD]
                by_cases e : j = l.length
                · rw [if_pos e, e]; simp
                · rw [if_neg e, List.getElem?_append_left (by omega)])
            clear ho2 hg2 O1 L1
            go_wp2_with fail
            exact ⟨⟨k + 1, by omega, by rw [HS1.out, List.length_append]; show l.length + 1 ≤ 64; omega, val_u64 (by have := HP.out; omega), O2, L2⟩, by show 312 - ((p : Int) + 1).toNat < 312 - (p : Int).toNat; have := HP.out; omega⟩
    · have hd := M.pl_done k hk (by omega)
      have hle : (M.plTo k).length = 64 := by omega
      rw [hle] at O1 hc1 ⊢
      rw [hd] at O1
      clear hS hl htwo hlt0 hd hle hlt hl64
      go_wp2_with fail
      go_ret
      exact ⟨_, rfl, O1.out, L1.out⟩

/-! ### the message -/
/-- 'append(v, x)' of one byte -/
theorem wpList_push8 {w0 : World} {ops : Array Oper} {rest : List Oper} {o : Oper} {a : Act} {Q : Exit → Act → World → Prop} (hgd : o.guard = none) (s x : Operand)
    (ho : o.op = .call { callee := .builtin .append, args := #[s, x], argTypes := #[23, 23] }) {base n y : Nat} {v : Value} {X : Nat → Nat} (hs : a.eval s = v) (hx : a.eval x = .slice (some ⟨w0.heap.size, 0, none⟩) 1 1)
    (hown : Own8 w0 base v n X) (hy : y < 256) (hl : n ≤ 70368744177663) (hb : base ≤ w0.heap.size)
    (h : ∀ v' w', Own8 w' base v' (n + 1) (upd X n y) → (w0.alloc (.cells #[.int .u8 ((y : Nat) : Int)] 5)).grownBy w' v.ownBlock → wpList Tryd.prog ops Q rest (a.put o.dst v') w') :
    wpList Tryd.prog ops Q (o :: rest) a (w0.alloc (.cells #[.int .u8 ((y : Nat) : Int)] 5)) := by
  have hown' : Own8 (w0.alloc (.cells #[.int .u8 ((y : Nat) : Int)] 5)) base v n X := hown.keep fun g hg => Below.heap_alloc w0 _ g (hown.lt hg).1
  have hrd : RdB (w0.alloc (.cells #[.int .u8 ((y : Nat) : Int)] 5)) (w0.heap.size + 1) (some ⟨w0.heap.size, 0, none⟩) 1 (fun _ => y) := fun j hj => ⟨w0.heap.size, 0, rfl, by omega, by
    have hj0 : j = 0 := by omega
    subst hj0
    rw [(Blk.new w0 5 _).cell]; rfl, hy⟩
  refine wpList_append_rd hgd s x ho hs hx hown' hrd (fun e => by cases e) (Nat.le_refl _) (by omega) (by simp; omega) ?_
  intro v' w' h1 h2 _
  refine h v' w' (h1.congr fun j hj => ?_) h2
  unfold cat upd
  by_cases hjn : j < n
  · rw [if_pos hjn, if_neg (by omega)]
  · rw [if_neg hjn, if_pos (by omega)]
theorem wpList_push8i {w0 : World} {ops : Array Oper} {rest : List Oper} {o : Oper} {a : Act} {Q : Exit → Act → World → Prop} (hgd : o.guard = none) (s x : Operand)
    (ho : o.op = .call { callee := .builtin .append, args := #[s, x], argTypes := #[23, 23] }) {base n : Nat} {v : Value} {X : Nat → Nat} (y : Nat) {yI : Int} (hyI : yI = ((y : Nat) : Int)) (hs : a.eval s = v) (hx : a.eval x = .slice (some ⟨w0.heap.size, 0, none⟩) 1 1)
    (hown : Own8 w0 base v n X) (hy : y < 256) (hl : n ≤ 70368744177663) (hb : base ≤ w0.heap.size)
    (h : ∀ v' w', Own8 w' base v' (n + 1) (upd X n y) → (w0.alloc (.cells #[.int .u8 ((y : Nat) : Int)] 5)).grownBy w' v.ownBlock → wpList Tryd.prog ops Q rest (a.put o.dst v') w') :
    wpList Tryd.prog ops Q (o :: rest) a (w0.alloc (.cells #[.int .u8 yI] 5)) := by
  subst hyI
  exact wpList_push8 hgd s x ho hs hx hown hy hl hb h
theorem own8_grown {w0 w w' : World} {base n : Nat} {v : Value} {X : Nat → Nat} (hb : Below base w0 w) (ho : Own8 w base v n X) (o : Obj) (hg : (w.alloc o).grownBy w' v.ownBlock) (hs : base ≤ w.heap.size) : Below base w0 w' :=
  (hb.alloc hs o).trans ⟨hg.os, hg.tape, hg.output, hg.size, fun k hk => hg.block k (by simp; omega) (fun e => by have := (ho.lt e.symm).2; omega)⟩
/-- the message as it grows: m bytes of it -/
def zpad (n : Nat) (X : Nat → Nat) (j : Nat) : Nat := if j < n then X j else if j = n then 128 else 0
theorem msg_zero {n : Nat} (X : Nat → Nat) {j : Nat} (h : j + 8 < M.msgN n) : M.msg n X j = zpad n X j := by
  have hf := restN_fits n
  unfold M.msgN at h
  unfold M.msg M.rest M.restTo zpad
  by_cases h1 : j < n / 64 * 64
  · rw [if_pos h1, if_pos (by omega)]
  · rw [if_neg h1]
    by_cases h2 : j < n
    · rw [if_pos (by omega), if_pos h2, show n / 64 * 64 + (j - n / 64 * 64) = j by omega]
    · rw [if_neg (by omega), if_neg h2]
      by_cases h3 : j = n
      · rw [if_pos (by omega), if_pos h3]
      · rw [if_neg (by omega), if_neg h3, if_neg (by omega)]
end Go.Proofs.YtnmieabcaaoofaaDoor
