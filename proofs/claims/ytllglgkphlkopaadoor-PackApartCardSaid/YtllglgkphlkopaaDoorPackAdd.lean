/-
  'pack.fold', 'pack.unfold' and 'pack.addCount' by contracts. Conditions: numbers of their types; rows shorter than 2^40.
-/
import Derived.Test.YtllglgkphlkopaaDoorPackMath
import Derived.Test.YtllglgkphlkopaaDoorOwn8
namespace Go.Proofs.YtllglgkphlkopaaDoor
open Go Go.RowKit
set_option linter.unusedVariables false

theorem ret_u64P {a b : Int} (h : a = b) : Ending.returned (.int .u64 a) = .returned (.int .u64 b) := by rw [h]
theorem ret_i64 {a b : Int} (h : a = b) : Ending.returned (.int .i64 a) = .returned (.int .i64 b) := by rw [h]
set_option maxHeartbeats 400000 in
theorem fold_any (n : Int) (w : World) (h1 : -9223372036854775808 ≤ n) (h2 : n ≤ 9223372036854775807) :
    Calls Tryd.prog 13 #[.int .i64 n] w fun e w' => e = .returned (.int .u64 (K.fold n : Nat)) ∧ w = w' := by
  by_cases h : 0 ≤ n
  · go_enter Tryd.func13, Tryd.ntmps13
    go_wp2
    go_ret
    exact ⟨ret_u64P (by unfold K.fold; rw [if_pos h]; simp [IntKind.wrap, IntKind.bits, IntKind.signed]; omega), rfl⟩
  · have h : n < 0 := by omega
    go_enter Tryd.func13, Tryd.ntmps13
    go_wp2
    go_ret
    exact ⟨ret_u64P (by unfold K.fold; rw [if_neg (by omega)]; simp [IntKind.wrap, IntKind.bits, IntKind.signed]; omega), rfl⟩
set_option maxHeartbeats 400000 in
theorem unfold_any (c : Nat) (w : World) (h : c < 18446744073709551616) :
    Calls Tryd.prog 20 #[.int .u64 c] w fun e w' => e = .returned (.int .i64 (K.unf c)) ∧ w = w' := by
  by_cases h0 : c % 2 = 0
  · have t0 : (c : Int) % 2 = 0 := by omega
    go_enter Tryd.func20, Tryd.ntmps20
    go_wp2
    go_ret
    exact ⟨ret_i64 (by unfold K.unf; rw [if_pos h0]; omega), rfl⟩
  · have t0 : (c : Int) % 2 = 1 := by omega
    go_enter Tryd.func20, Tryd.ntmps20
    go_wp2
    go_ret
    exact ⟨ret_i64 (by unfold K.unf; rw [if_neg h0]; omega), rfl⟩

/-- a list as a row -/
def lst (L : List Nat) (j : Nat) : Nat := L.getD j 0
theorem lst_lt {L : List Nat} (h : ∀ x ∈ L, x < 256) (j : Nat) : lst L j < 256 := by
  unfold lst
  rw [List.getD_eq_getElem?_getD]
  cases e : L[j]? with
  | none => simp
  | some x => simp; exact h x (List.mem_of_getElem? e)
theorem cat_lst (L M : List Nat) : cat L.length (lst L) (lst M) = lst (L ++ M) := by
  funext j
  unfold cat lst
  rw [List.getD_eq_getElem?_getD, List.getD_eq_getElem?_getD, List.getD_eq_getElem?_getD]
  by_cases h : j < L.length
  · rw [if_pos h, List.getElem?_append_left h]
  · rw [if_neg h, List.getElem?_append_right (by omega)]
def OwnL (w : World) (base : Nat) (v : Value) (L : List Nat) : Prop := Own8 w base v L.length (lst L)
theorem OwnL.nil (w : World) (base : Nat) : OwnL w base (.slice none 0 0) [] := .inl ⟨rfl, rfl⟩
theorem OwnL.app {w : World} {base : Nat} {v : Value} {L M : List Nat} (h : Own8 w base v (L.length + M.length) (cat L.length (lst L) (lst M))) : OwnL w base v (L ++ M) := by
  rw [cat_lst] at h
  unfold OwnL
  rw [List.length_append]
  exact h
theorem lst_one (x : Nat) : lst [x] 0 = x := rfl
/-- 'append(b, x)': x lies in a block of its own -/
theorem rdb_one (w : World) (x : Nat) (hx : x < 256) : RdB (w.alloc (.cells #[.int .u8 ((x : Nat) : Int)] 5)) (w.heap.size + 1) (some ⟨w.heap.size, 0, none⟩) 1 (lst [x]) := fun j hj => by
  have hj0 : j = 0 := by omega
  subst hj0
  refine ⟨w.heap.size, 0, rfl, by omega, ?_, hx⟩
  rw [Nat.zero_add, cell_of_row _ _ _ _ _ _ (Blk.new w 5 #[.int .u8 ((x : Nat) : Int)])]
  rfl
/-- what appends to one row leave -/
def Grow (w : World) (v : Value) (w' : World) (v' : Value) : Prop := w.grownBy w' v.ownBlock ∧ (v'.ownBlock = v.ownBlock ∨ ∀ k, v'.ownBlock = some k → w.heap.size ≤ k)
theorem Grow.refl (w : World) (v : Value) : Grow w v w v := ⟨World.grownBy.refl w _, .inl rfl⟩
theorem Grow.trans {a b c : World} {u v x : Value} (h : Grow a u b v) (k : Grow b v c x) : Grow a u c x := by
  obtain ⟨h1, h2⟩ := h
  obtain ⟨k1, k2⟩ := k
  refine ⟨⟨k1.os.trans h1.os, k1.tape.trans h1.tape, k1.output.trans h1.output, Nat.le_trans h1.size k1.size, fun i hi hne => (k1.block i (Nat.lt_of_lt_of_le hi h1.size) fun e => ?_).trans (h1.block i hi hne)⟩, ?_⟩
  · rcases h2 with e2 | e2
    · exact hne (e.trans e2)
    · have := e2 i e.symm; omega
  · rcases k2 with e | e
    · rcases h2 with e2 | e2
      · exact .inl (e.trans e2)
      · exact .inr fun k hk => e2 k (e.symm.trans hk)
    · exact .inr fun k hk => Nat.le_trans h1.size (e k hk)
theorem Grow.step {w w' : World} {v v' : Value} {o : Obj} (h : (w.alloc o).grownBy w' v.ownBlock) (e : v'.ownBlock = v.ownBlock ∨ v'.ownBlock = some (w.alloc o).heap.size) : Grow w v w' v' := by
  refine ⟨⟨h.os, h.tape, h.output, Nat.le_trans (by simp) h.size, fun i hi hne => (h.block i (by simp; omega) hne).trans (Below.heap_alloc w o i hi)⟩, ?_⟩
  rcases e with e | e
  · exact .inl e
  · exact .inr fun k hk => by rw [e] at hk; injection hk with hk; simp at hk; omega
theorem Grow.below {w w' : World} {v v' : Value} {base n : Nat} {X : Nat → Nat} (h : Grow w v w' v') (ho : Own8 w base v n X) (hb : base ≤ w.heap.size) : Below base w w' :=
  ⟨h.1.os, h.1.tape, h.1.output, h.1.size, fun i hi => h.1.block i (by omega) fun e => by have := (ho.lt e.symm).2; omega⟩

theorem or128 (d : Nat) : bits .or .u8 128 ((d : Int) % 256) = ((128 + d % 128 : Nat) : Int) := by
  have key : (List.range 256).all (fun n => bits .or .u8 128 (n : Int) == ((128 + n % 128 : Nat) : Int)) = true := by decide +kernel
  have := List.all_eq_true.1 key (d % 256) (by simp; omega)
  simp only [beq_iff_eq] at this
  rw [show ((d : Int) % 256) = ((d % 256 : Nat) : Int) by omega, this]
  omega
set_option maxRecDepth 100000 in
set_option maxHeartbeats 1600000 in
theorem addCount_any (v : Value) (L : List Nat) (c base : Nat) (w : World) (ho : OwnL w base v L) (hb : base ≤ w.heap.size) (hc : c < 18446744073709551616) (hL : L.length ≤ 1099511627776) :
    Calls Tryd.prog 12 #[v, .int .u64 c] w fun e w' => ∃ v', e = .returned v' ∧ OwnL w' base v' (L ++ K.cnt c) ∧ Grow w v w' v' := by
  have O0 := Lib.hid ho
  clear ho
  have H10 := K.cnt_length_le c hc
  have HB := Lib.hid hb
  clear hb
  go_enter Tryd.func12, Tryd.ntmps12
  go_wp2_with fail
  go_loopw [0, 1] (fun b x wr => ∃ (d : Nat) (M : List Nat), x = .int .u64 d ∧ d < 18446744073709551616 ∧ Hid (OwnL wr base b (L ++ M)) ∧ Hid (Grow w v wr b) ∧ Hid (M ++ K.cnt d = K.cnt c)) (fun _ x _ => (intOf x).toNat)
  case atStart => exact ⟨c, [], rfl, hc, by rw [List.append_nil]; exact O0, Lib.hid (Grow.refl _ _), Lib.hid rfl⟩
  case round =>
    obtain ⟨d, M, rfl, hd, O1, G1, E1⟩ := hrel
    have HM : M.length ≤ 10 := by have := congrArg List.length E1.out; rw [List.length_append] at this; omega
    have hs := G1.out.1.size
    have hbr : base ≤ wr.heap.size := Nat.le_trans HB.out hs
    have hlen : (L ++ M).length ≤ 1099511627786 := by rw [List.length_append]; omega
    by_cases hlt : 128 ≤ d
    · have HO := or128 d
      have i1 : (128 : Int) ≤ (d : Int) := by omega
      have R1 := Lib.hid (rdb_one wr (128 + d % 128) (by omega))
      have O2 : Hid (Own8 (wr.alloc (.cells #[.int .u8 ((128 + d % 128 : Nat) : Int)] 5)) base u0 (L ++ M).length (lst (L ++ M))) := Lib.hid (O1.out.keep fun g hg => Below.heap_alloc _ _ g (O1.out.lt hg).1)
      obtain ⟨y, hy⟩ : ∃ y, y = 128 + d % 128 := ⟨_, rfl⟩
      rw [← hy] at HO R1 O2
      have HY := Lib.hid hy
      clear hy
      go_wp2_with ((with_reducible refine wpList_append_rd rfl (.tmp 7) (.tmp 11) rfl rfl rfl O2.out R1.out (fun e => by cases e) (Nat.le_refl _) (by omega) (by simp; omega) ?_); intro v2 w2 ho2 hg2 he2; refine of_hid ?_)
      refine Lib.hid ?_
      have O3 := Lib.hid (OwnL.app (M := [y]) ho2)
      have G3 := Lib.hid (G1.out.trans (Grow.step hg2 he2))
      clear ho2 hg2 he2 O2 R1 G1 HO O1
      go_wp2_with fail
      go_roundw
      case rel => exact ⟨d / 128, M ++ [y], by go_num, by omega, by rw [← List.append_assoc]; exact O3, G3, Lib.hid (by rw [← E1.out, K.cnt_big hlt, HY.out, List.append_assoc]; rfl)⟩
      case measure => simp [intOf]; omega
    · have i1 : (d : Int) < 128 := by omega
      have i2 : (d : Int) < 256 := by omega
      have R1 := Lib.hid (rdb_one wr d (by omega))
      have O2 : Hid (Own8 (wr.alloc (.cells #[.int .u8 (d : Int)] 5)) base u0 (L ++ M).length (lst (L ++ M))) := Lib.hid (O1.out.keep fun g hg => Below.heap_alloc _ _ g (O1.out.lt hg).1)
      go_wp2_with ((with_reducible refine wpList_append_rd rfl (.tmp 15) (.tmp 18) rfl rfl rfl O2.out R1.out (fun e => by cases e) (Nat.le_refl _) (by omega) (by simp; omega) ?_); intro v2 w2 ho2 hg2 he2; refine of_hid ?_)
      refine Lib.hid ?_
      have O3 := Lib.hid (OwnL.app (M := [d]) ho2)
      have G3 := Lib.hid (G1.out.trans (Grow.step hg2 he2))
      clear ho2 hg2 he2 O2 R1 G1 O1
      go_wp2_with fail
      go_ret
      exact ⟨_, rfl, by rw [← E1.out, K.cnt_small (by omega), ← List.append_assoc]; exact O3.out, G3.out⟩
end Go.Proofs.YtllglgkphlkopaaDoor
