/-
  'hoardref05.told' and 'hoardref05.count' by contracts. Conditions: numbers of their types.
-/
import Derived.Test.YtiflkjjjncagfaaPackKnown
namespace Go.Proofs.Ytiflkjjjncagfaa
open Go Go.RowKit
set_option linter.unusedVariables false

set_option maxHeartbeats 400000 in
theorem told_any (n : Int) (w : World) (h1 : -9223372036854775808 ≤ n) (h2 : n ≤ 9223372036854775807) :
    Calls Try.prog 29 #[.int .i64 n] w fun e w' => e = .returned (.int .u64 (K.fold n : Nat)) ∧ w = w' := by
  by_cases h : 0 ≤ n
  · go_enter Try.func29, Try.ntmps29
    go_wp2
    go_ret
    exact ⟨ret_u64 (by unfold K.fold; rw [if_pos h]; simp [IntKind.wrap, IntKind.bits, IntKind.signed]; omega), rfl⟩
  · have h : n < 0 := by omega
    go_enter Try.func29, Try.ntmps29
    go_wp2
    go_ret
    exact ⟨ret_u64 (by unfold K.fold; rw [if_neg (by omega)]; simp [IntKind.wrap, IntKind.bits, IntKind.signed]; omega), rfl⟩
set_option maxRecDepth 100000 in
set_option maxHeartbeats 1600000 in
theorem count_any (c : Nat) (w : World) (hc : c < 18446744073709551616) :
    Calls Try.prog 28 #[.int .u64 c] w fun e w' => e = .returned (.string (K.txt (K.cnt c))) ∧ Below w.heap.size w w' := by
  have H10 := K.cnt_length_le c hc
  have HC := Lib.hid (K.cnt_lt c)
  go_enter Try.func28, Try.ntmps28
  go_wp2_with fail
  go_loopw [0, 3] (fun x b wr => ∃ (d : Nat) (M : List Nat), x = .int .u64 d ∧ d < 18446744073709551616 ∧ Hid (OwnL wr w.heap.size b M) ∧ Hid (Below w.heap.size w wr) ∧ Hid (M ++ K.cnt d = K.cnt c)) (fun x _ _ => (intOf x).toNat)
  case atStart => exact ⟨c, [], rfl, hc, Lib.hid (OwnL.nil _ _), Lib.hid (Below.refl _ _), Lib.hid rfl⟩
  case round =>
    obtain ⟨d, M, rfl, hd, O1, L1, E1⟩ := hrel
    have HM : M.length ≤ 10 := by have := congrArg List.length E1.out; rw [List.length_append] at this; omega
    have hbr := L1.out.size
    by_cases hlt : 128 ≤ d
    · have i1 : (128 : Int) ≤ (d : Int) := by omega
      have HO : (128 : Int) + (d : Int) % 128 = ((128 + d % 128 : Nat) : Int) := by omega
      have R1 := Lib.hid (rdb_one wr (128 + d % 128) (by omega))
      have O2 : Hid (Own8 (wr.alloc (.cells #[.int .u8 ((128 + d % 128 : Nat) : Int)] 5)) w.heap.size u3 M.length (lst M)) := Lib.hid (O1.out.keep fun g hg => Below.heap_alloc _ _ g (O1.out.lt hg).1)
      have L2 : Hid (Below w.heap.size w (wr.alloc (.cells #[.int .u8 ((128 + d % 128 : Nat) : Int)] 5))) := Lib.hid (L1.out.alloc hbr _)
      obtain ⟨y, hy⟩ : ∃ y, y = 128 + d % 128 := ⟨_, rfl⟩
      rw [← hy] at HO R1 O2 L2
      have hy1 : y < 256 := by omega
      have HY := Lib.hid hy
      clear hy
      go_wp2_with ((with_reducible refine wpList_append_rd rfl (.tmp 6) (.tmp 11) rfl rfl rfl O2.out R1.out (fun e => by cases e) (Nat.le_refl _) (by omega) (by simp; omega) ?_); intro v2 w2 ho2 hg2 he2; refine of_hid ?_)
      refine Lib.hid ?_
      have O3 := Lib.hid (OwnL.app (M := [y]) ho2)
      have L3 := Lib.hid (own_row L2.out O2.out hg2 (by simp; omega))
      clear ho2 hg2 he2 O2 R1 L2 HO O1
      go_wp2_with fail
      go_roundw
      case rel => exact ⟨d / 128, M ++ [y], by go_num, by omega, O3, L3, Lib.hid (by rw [← E1.out, K.cnt_big hlt, HY.out, List.append_assoc]; rfl)⟩
      case measure => simp [intOf]; omega
    · have i1 : (d : Int) < 128 := by omega
      have i2 : (d : Int) < 256 := by omega
      have R1 := Lib.hid (rdb_one wr d (by omega))
      have O2 : Hid (Own8 (wr.alloc (.cells #[.int .u8 (d : Int)] 5)) w.heap.size u3 M.length (lst M)) := Lib.hid (O1.out.keep fun g hg => Below.heap_alloc _ _ g (O1.out.lt hg).1)
      have L2 : Hid (Below w.heap.size w (wr.alloc (.cells #[.int .u8 (d : Int)] 5))) := Lib.hid (L1.out.alloc hbr _)
      go_wp2_with ((with_reducible refine wpList_append_rd rfl (.tmp 15) (.tmp 18) rfl rfl rfl O2.out R1.out (fun e => by cases e) (Nat.le_refl _) (by omega) (by simp; omega) ?_); intro v2 w2 ho2 hg2 he2; refine of_hid ?_)
      refine Lib.hid ?_
      have O3 := OwnL.app (M := [d]) ho2
      have L3 := Lib.hid (own_row L2.out O2.out hg2 (by simp; omega))
      have E3 : M ++ [d] = K.cnt c := by rw [← E1.out, K.cnt_small (by omega)]
      rw [E3] at O3
      obtain ⟨A3, c3, rfl, r3, lc3, cm3, _, _⟩ := O3.shape (K.cnt_lt c)
      have SC := conv_lst (c := c3) r3
      unfold maxLen at cm3
      clear ho2 hg2 he2 O2 R1 L2 O1 O3 r3 E3
      go_wp2_with fail
      go_ret
      exact ⟨rfl, L3.out⟩
theorem wp_append_rd {w : World} {o : Oper} {a : Act} {K : Act → World → Prop} {Q : Exit → Act → World → Prop} (s x : Operand)
    (ho : o.op = .call { callee := .builtin .append, args := #[s, x], argTypes := #[23, 23] }) {base n B m c : Nat} {v : Value} {A : Option Addr} {X Y : Nat → Nat} (hs : a.eval s = v) (hx : a.eval x = .slice A m c)
    (hown : Own8 w base v n X) (hy : RdB w B A m Y) (h0 : A = none → c = 0) (hmc : m ≤ c) (hl : n + m ≤ 70368744177664) (hb : base ≤ w.heap.size)
    (h : ∀ v' w', Own8 w' base v' (n + m) (cat n X Y) → w.grownBy w' v.ownBlock → K (a.put o.dst v') w') : o.wp Try.prog a w K Q := by
  obtain ⟨v', w', hrun, h1, h2, h3⟩ := run_append_rd o.type hown hy h0 hmc hl hb
  unfold Oper.wp execOp
  simp only [ho, resolve, invoke, builtin, Sem.run_bind, Sem.run_pure, Result.andThen_ok, List.map_toArray, List.map_cons, List.map_nil, hs, hx, hrun]
  exact h v' w' h1 h2
theorem wp_append_str {w : World} {o : Oper} {a : Act} {Kk : Act → World → Prop} {Q : Exit → Act → World → Prop} (s x : Operand)
    (ho : o.op = .call { callee := .builtin .append, args := #[s, x], argTypes := #[23, 9] }) {base : Nat} {v : Value} {L : List Nat} {t : ByteArray} (hs : a.eval s = v) (hx : a.eval x = .string t)
    (hown : OwnL w base v L) (hl : L.length + t.size ≤ 70368744177664) (hb : base ≤ w.heap.size)
    (h : ∀ v' w', OwnL w' base v' (L ++ K.sb t) → w.grownBy w' v.ownBlock → Kk (a.put o.dst v') w') : o.wp Try.prog a w Kk Q := by
  have hx2 : a.eval x = .string (strB t.size (lst (K.sb t))) := by rw [str_is]; exact hx
  obtain ⟨v', w', hrun, h1, h2⟩ := run_append_txt o.type hown (fun j _ => lst_lt (K.sb_lt t) j) hl hb
  unfold Oper.wp execOp
  simp only [ho, resolve, invoke, builtin, Sem.run_bind, Sem.run_pure, Result.andThen_ok, List.map_toArray, List.map_cons, List.map_nil, hs, hx2, hrun]
  refine h v' w' (OwnL.app ?_) h2
  rw [K.sb_length]
  exact h1
end Go.Proofs.Ytiflkjjjncagfaa
