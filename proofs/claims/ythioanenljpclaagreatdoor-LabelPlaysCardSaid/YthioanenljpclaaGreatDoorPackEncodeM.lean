/-
  'pack.fold', 'pack.unfold' and 'pack.addCount' by contracts. Conditions: numbers of their types; rows shorter than 2^40.
-/
import Derived.Test.YthioanenljpclaaGreatDoorPackMath
import Derived.Test.YthioanenljpclaaGreatDoorOwn8
namespace Go.Proofs.YthioanenljpclaaGreatDoor
set_option maxRecDepth 100000
open Go Go.RowKit
set_option linter.unusedVariables false

theorem ret_u64P {a b : Int} (h : a = b) : Ending.returned (.int .u64 a) = .returned (.int .u64 b) := by rw [h]
theorem ret_i64 {a b : Int} (h : a = b) : Ending.returned (.int .i64 a) = .returned (.int .i64 b) := by rw [h]
set_option maxHeartbeats 400000 in
theorem fold_any (n : Int) (w : World) (h1 : -9223372036854775808 ≤ n) (h2 : n ≤ 9223372036854775807) :
    Calls Tryz.prog 85 #[.int .i64 n] w fun e w' => e = .returned (.int .u64 (K.fold n : Nat)) ∧ w = w' := by
  by_cases h : 0 ≤ n
  · go_enter Tryz.func85, Tryz.ntmps85
    go_wp2
    go_ret
    exact ⟨ret_u64P (by unfold K.fold; rw [if_pos h]; simp [IntKind.wrap, IntKind.bits, IntKind.signed]; omega), rfl⟩
  · have h : n < 0 := by omega
    go_enter Tryz.func85, Tryz.ntmps85
    go_wp2
    go_ret
    exact ⟨ret_u64P (by unfold K.fold; rw [if_neg (by omega)]; simp [IntKind.wrap, IntKind.bits, IntKind.signed]; omega), rfl⟩
set_option maxHeartbeats 400000 in
theorem unfold_any (c : Nat) (w : World) (h : c < 18446744073709551616) :
    Calls Tryz.prog 104 #[.int .u64 c] w fun e w' => e = .returned (.int .i64 (K.unf c)) ∧ w = w' := by
  by_cases h0 : c % 2 = 0
  · have t0 : (c : Int) % 2 = 0 := by omega
    go_enter Tryz.func104, Tryz.ntmps104
    go_wp2
    go_ret
    exact ⟨ret_i64 (by unfold K.unf; rw [if_pos h0]; omega), rfl⟩
  · have t0 : (c : Int) % 2 = 1 := by omega
    go_enter Tryz.func104, Tryz.ntmps104
    go_wp2
    go_ret
    exact ⟨ret_i64 (by unfold K.unf; rw [if_neg h0]; omega), rfl⟩

/-- a list as a row -/
def lst (L : List Nat) (j : Nat) : Nat := L.getD j 0
theorem lst_lt {L : List Nat} (h : ∀ x ∈ L, x < 256) (j : Nat) : lst L j < 256 := by
  unfold lst
  rw [List.getD_eq_getElem?_getD]
  cases e : L[j]? with
  | none => simp
  | some x => simp; exact h x (List.mem_of_getElem? e)
theorem cat_lst (L M : List Nat) : cat L.length (lst L) (lst M) = lst (L ++ M) := by
  funext j
  unfold cat lst
  rw [List.getD_eq_getElem?_getD, List.getD_eq_getElem?_getD, List.getD_eq_getElem?_getD]
  by_cases h : j < L.length
  · rw [if_pos h, List.getElem?_append_left h]
  · rw [if_neg h, List.getElem?_append_right (by omega)]
def OwnL (w : World) (base : Nat) (v : Value) (L : List Nat) : Prop := Own8 w base v L.length (lst L)
theorem OwnL.nil (w : World) (base : Nat) : OwnL w base (.slice none 0 0) [] := .inl ⟨rfl, rfl⟩
theorem OwnL.app {w : World} {base : Nat} {v : Value} {L M : List Nat} (h : Own8 w base v (L.length + M.length) (cat L.length (lst L) (lst M))) : OwnL w base v (L ++ M) := by
  rw [cat_lst] at h
  unfold OwnL
  rw [List.length_append]
  exact h
/-- 'append(b, x)': x lies in a block of its own -/
theorem rdb_one (w : World) (x : Nat) (hx : x < 256) : RdB (w.alloc (.cells #[.int .u8 ((x : Nat) : Int)] 5)) (w.heap.size + 1) (some ⟨w.heap.size, 0, none⟩) 1 (lst [x]) := fun j hj => by
  have hj0 : j = 0 := by omega
  subst hj0
  refine ⟨w.heap.size, 0, rfl, by omega, ?_, hx⟩
  rw [Nat.zero_add, cell_of_row _ _ _ _ _ _ (Blk.new w 5 #[.int .u8 ((x : Nat) : Int)])]
  rfl
/-- what appends to one row leave -/
def Grow (w : World) (v : Value) (w' : World) (v' : Value) : Prop := w.grownBy w' v.ownBlock ∧ (v'.ownBlock = v.ownBlock ∨ ∀ k, v'.ownBlock = some k → w.heap.size ≤ k)
theorem Grow.refl (w : World) (v : Value) : Grow w v w v := ⟨World.grownBy.refl w _, .inl rfl⟩
theorem Grow.trans {a b c : World} {u v x : Value} (h : Grow a u b v) (k : Grow b v c x) : Grow a u c x := by
  obtain ⟨h1, h2⟩ := h
  obtain ⟨k1, k2⟩ := k
  refine ⟨⟨k1.os.trans h1.os, k1.tape.trans h1.tape, k1.output.trans h1.output, Nat.le_trans h1.size k1.size, fun i hi hne => (k1.block i (Nat.lt_of_lt_of_le hi h1.size) fun e => ?_).trans (h1.block i hi hne)⟩, ?_⟩
  · rcases h2 with e2 | e2
    · exact hne (e.trans e2)
    · have := e2 i e.symm; omega
  · rcases k2 with e | e
    · rcases h2 with e2 | e2
      · exact .inl (e.trans e2)
      · exact .inr fun k hk => e2 k (e.symm.trans hk)
    · exact .inr fun k hk => Nat.le_trans h1.size (e k hk)
theorem Grow.step {w w' : World} {v v' : Value} {o : Obj} (h : (w.alloc o).grownBy w' v.ownBlock) (e : v'.ownBlock = v.ownBlock ∨ v'.ownBlock = some (w.alloc o).heap.size) : Grow w v w' v' := by
  refine ⟨⟨h.os, h.tape, h.output, Nat.le_trans (by simp) h.size, fun i hi hne => (h.block i (by simp; omega) hne).trans (Below.heap_alloc w o i hi)⟩, ?_⟩
  rcases e with e | e
  · exact .inl e
  · exact .inr fun k hk => by rw [e] at hk; injection hk with hk; simp at hk; omega
theorem Grow.below {w w' : World} {v v' : Value} {base n : Nat} {X : Nat → Nat} (h : Grow w v w' v') (ho : Own8 w base v n X) (hb : base ≤ w.heap.size) : Below base w w' :=
  ⟨h.1.os, h.1.tape, h.1.output, h.1.size, fun i hi => h.1.block i (by omega) fun e => by have := (ho.lt e.symm).2; omega⟩

theorem or128 (d : Nat) : bits .or .u8 128 ((d : Int) % 256) = ((128 + d % 128 : Nat) : Int) := by
  have key : (List.range 256).all (fun n => bits .or .u8 128 (n : Int) == ((128 + n % 128 : Nat) : Int)) = true := by decide +kernel
  have := List.all_eq_true.1 key (d % 256) (by simp; omega)
  simp only [beq_iff_eq] at this
  rw [show ((d : Int) % 256) = ((d % 256 : Nat) : Int) by omega, this]
  omega
set_option maxRecDepth 100000 in
set_option maxHeartbeats 1600000 in
theorem addCount_any (v : Value) (L : List Nat) (c base : Nat) (w : World) (ho : OwnL w base v L) (hb : base ≤ w.heap.size) (hc : c < 18446744073709551616) (hL : L.length ≤ 1099511627776) :
    Calls Tryz.prog 84 #[v, .int .u64 c] w fun e w' => ∃ v', e = .returned v' ∧ OwnL w' base v' (L ++ K.cnt c) ∧ Grow w v w' v' := by
  have O0 := Lib.hid ho
  clear ho
  have H10 := K.cnt_length_le c hc
  have HB := Lib.hid hb
  clear hb
  go_enter Tryz.func84, Tryz.ntmps84
  go_wp2_with fail
  go_loopw [0, 1] (fun b x wr => ∃ (d : Nat) (M : List Nat), x = .int .u64 d ∧ d < 18446744073709551616 ∧ Hid (OwnL wr base b (L ++ M)) ∧ Hid (Grow w v wr b) ∧ Hid (M ++ K.cnt d = K.cnt c)) (fun _ x _ => (intOf x).toNat)
  case atStart => exact ⟨c, [], rfl, hc, by rw [List.append_nil]; exact O0, Lib.hid (Grow.refl _ _), Lib.hid rfl⟩
  case round =>
    obtain ⟨d, M, rfl, hd, O1, G1, E1⟩ := hrel
    have HM : M.length ≤ 10 := by have := congrArg List.length E1.out; rw [List.length_append] at this; omega
    have hs := G1.out.1.size
    have hbr : base ≤ wr.heap.size := Nat.le_trans HB.out hs
    have hlen : (L ++ M).length ≤ 1099511627786 := by rw [List.length_append]; omega
    by_cases hlt : 128 ≤ d
    · have HO := or128 d
      have i1 : (128 : Int) ≤ (d : Int) := by omega
      have R1 := Lib.hid (rdb_one wr (128 + d % 128) (by omega))
      have O2 : Hid (Own8 (wr.alloc (.cells #[.int .u8 ((128 + d % 128 : Nat) : Int)] 5)) base u0 (L ++ M).length (lst (L ++ M))) := Lib.hid (O1.out.keep fun g hg => Below.heap_alloc _ _ g (O1.out.lt hg).1)
      obtain ⟨y, hy⟩ : ∃ y, y = 128 + d % 128 := ⟨_, rfl⟩
      rw [← hy] at HO R1 O2
      have HY := Lib.hid hy
      clear hy
      go_wp2_with ((with_reducible refine wpList_append_rd rfl (.tmp 7) (.tmp 11) rfl rfl rfl O2.out R1.out (fun e => by cases e) (Nat.le_refl _) (by omega) (by simp; omega) ?_); intro v2 w2 ho2 hg2 he2; refine of_hid ?_)
      refine Lib.hid ?_
      have O3 := Lib.hid (OwnL.app (M := [y]) ho2)
      have G3 := Lib.hid (G1.out.trans (Grow.step hg2 he2))
      clear ho2 hg2 he2 O2 R1 G1 HO O1
      go_wp2_with fail
      go_roundw
      case rel => exact ⟨d / 128, M ++ [y], by go_num, by omega, by rw [← List.append_assoc]; exact O3, G3, Lib.hid (by rw [← E1.out, K.cnt_big hlt, HY.out, List.append_assoc]; rfl)⟩
      case measure => simp [intOf]; omega
    · have i1 : (d : Int) < 128 := by omega
      have i2 : (d : Int) < 256 := by omega
      have R1 := Lib.hid (rdb_one wr d (by omega))
      have O2 : Hid (Own8 (wr.alloc (.cells #[.int .u8 (d : Int)] 5)) base u0 (L ++ M).length (lst (L ++ M))) := Lib.hid (O1.out.keep fun g hg => Below.heap_alloc _ _ g (O1.out.lt hg).1)
      go_wp2_with ((with_reducible refine wpList_append_rd rfl (.tmp 15) (.tmp 18) rfl rfl rfl O2.out R1.out (fun e => by cases e) (Nat.le_refl _) (by omega) (by simp; omega) ?_); intro v2 w2 ho2 hg2 he2; refine of_hid ?_)
      refine Lib.hid ?_
      have O3 := Lib.hid (OwnL.app (M := [d]) ho2)
      have G3 := Lib.hid (G1.out.trans (Grow.step hg2 he2))
      clear ho2 hg2 he2 O2 R1 G1 O1
      go_wp2_with fail
      go_ret
      exact ⟨_, rfl, by rw [← E1.out, K.cnt_small (by omega), ← List.append_assoc]; exact O3.out, G3.out⟩
end Go.Proofs.YthioanenljpclaaGreatDoor
namespace Go.Proofs.YthioanenljpclaaGreatDoor
set_option maxRecDepth 100000
open Go Go.RowKit
set_option linter.unusedVariables false

def itA (x : K.It) : Array Value := #[.int .i64 x.k, .int .i64 x.n, .string x.s]
/-- items that lie below block B -/
def RdT (w : World) (B : Nat) (A : Option Addr) (l : List K.It) : Prop :=
  ∀ j x, l[j]? = some x → ∃ b o, A = some ⟨b, o, none⟩ ∧ b < B ∧ w.cell? ⟨b, o + j * 3, none⟩ = some (.int .i64 x.k) ∧ w.cell? ⟨b, o + j * 3 + 1, none⟩ = some (.int .i64 x.n) ∧ w.cell? ⟨b, o + j * 3 + 2, none⟩ = some (.string x.s)
def Good (x : K.It) : Prop := K.Fits x ∧ x.s.size ≤ maxLen
theorem RdT.below {w w' : World} {B B' : Nat} {A : Option Addr} {l : List K.It} (h : RdT w B A l) (hb : Below B' w w') (hB : B ≤ B') : RdT w' B A l := by
  intro j x hx
  obtain ⟨b, o, h1, h2, h3, h4, h5⟩ := h j x hx
  exact ⟨b, o, h1, h2, (hb.cell (p := ⟨b, _, none⟩) (by show b < B'; omega)).trans h3, (hb.cell (p := ⟨b, _, none⟩) (by show b < B'; omega)).trans h4, (hb.cell (p := ⟨b, _, none⟩) (by show b < B'; omega)).trans h5⟩
theorem ret_bool {a b : Bool} (h : a = b) : Ending.returned (.bool a) = .returned (.bool b) := by rw [h]
theorem str_ne {s : ByteArray} (h : s ≠ ⟨#[]⟩) : s.toList ≠ [] := by
  intro e
  apply h
  obtain ⟨a⟩ := s
  rw [ByteArray.toList_eq] at e
  congr 1
  exact Array.toList_inj.1 e

set_option maxHeartbeats 400000 in
theorem formed_any (x : K.It) (w : World) :
    Calls Tryz.prog 93 #[.agg (itA x)] w fun e w' => e = .returned (.bool (K.formed x)) ∧ Below w.heap.size w w' := by
  obtain ⟨k, n, s⟩ := x
  unfold itA
  have L1 : Hid (Below w.heap.size w (w.alloc (.cells #[.int .i64 k, .int .i64 n, .string s] 104))) := Lib.hid ((Below.refl _ _).alloc (Nat.le_refl _) _)
  by_cases h1 : k = 1
  · subst h1
    by_cases hs : s = ⟨#[]⟩
    · subst hs
      go_enter Tryz.func93, Tryz.ntmps93
      go_wp2
      go_ret
      exact ⟨ret_bool rfl, L1.out⟩
    · have hs1 := str_ne hs
      have HF : K.formed ⟨1, n, s⟩ = false := by simp [K.formed, hs]
      rw [HF]
      go_enter Tryz.func93, Tryz.ntmps93
      go_wp2
      go_ret
      exact ⟨ret_bool (by simpa using hs1), L1.out⟩
  · by_cases h2 : k = 2
    · subst h2
      by_cases hn : n = 0
      · subst hn
        go_enter Tryz.func93, Tryz.ntmps93
        go_wp2
        go_ret
        exact ⟨ret_bool rfl, L1.out⟩
      · have HF : K.formed ⟨2, n, s⟩ = false := by simp [K.formed, hn]
        rw [HF]
        have t1 : (n == 0) = false := by simpa using hn
        go_enter Tryz.func93, Tryz.ntmps93
        go_wp2
        go_ret
        exact ⟨ret_bool rfl, L1.out⟩
    · have HF : K.formed ⟨k, n, s⟩ = false := by simp [K.formed, h1, h2]
      rw [HF]
      have t1 : (k == 1) = false := by simpa using h1
      have t2 : (k == 2) = false := by simpa using h2
      go_enter Tryz.func93, Tryz.ntmps93
      go_wp2
      go_ret
      exact ⟨ret_bool rfl, L1.out⟩
/-- an item of a list, loaded -/
theorem load_item {w : World} {b o : Nat} {x : K.It} (h0 : w.cell? ⟨b, o, none⟩ = some (.int .i64 x.k)) (h1 : w.cell? ⟨b, o + 1, none⟩ = some (.int .i64 x.n)) (h2 : w.cell? ⟨b, o + 2, none⟩ = some (.string x.s)) :
    (Instr.loadAt 104 (.pointer (some ⟨b, o, none⟩))).run Tryz.prog w = .ok (.agg (itA x)) w := by
  refine run_loadAt_mid (P := Tryz.prog) w b o 104 [.int .i64 x.k, .int .i64 x.n, .string x.s] _ (fun j v hj => ?_) Tryz.underlying104 rfl (by kernel_rfl)
  match j, hj with
  | 0, hj => simp at hj; subst hj; exact h0
  | 1, hj => simp at hj; subst hj; exact h1
  | 2, hj => simp at hj; subst hj; exact h2
theorem flt_snoc (l : List K.It) (r : Int) (k : Nat) (x : K.It) (h : l[k]? = some x) (hb : K.big x = false) : K.flt r (l.drop k) = K.flt (if K.formed x then r else 2) (l.drop (k + 1)) := by
  have hk := (List.getElem?_eq_some_iff.1 h).1
  have e : l.drop k = x :: l.drop (k + 1) := by
    rw [List.drop_eq_getElem_cons hk]
    congr 1
    exact (List.getElem?_eq_some_iff.1 h).2
  rw [e]
  show (if K.big x then (14 : Int) else _) = _
  rw [hb]
  rfl
theorem flt_big (l : List K.It) (r : Int) (k : Nat) (x : K.It) (h : l[k]? = some x) (hb : K.big x = true) : K.flt r (l.drop k) = 14 := by
  have hk := (List.getElem?_eq_some_iff.1 h).1
  have e : l.drop k = x :: l.drop (k + 1) := by
    rw [List.drop_eq_getElem_cons hk]
    congr 1
    exact (List.getElem?_eq_some_iff.1 h).2
  rw [e]
  show (if K.big x then (14 : Int) else _) = _
  rw [hb]
  rfl

set_option maxRecDepth 100000 in
set_option maxHeartbeats 1600000 in
theorem fault_any (A : Option Addr) (l : List K.It) (c B : Nat) (w : World) (hx : RdT w B A l) (hB : B ≤ w.heap.size) (hg : ∀ x ∈ l, Good x) (hlc : l.length ≤ c) (hcm : c ≤ maxLen) :
    Calls Tryz.prog 83 #[.slice A l.length c] w fun e w' => e = .returned (.int .i64 (K.fault l)) ∧ Below w.heap.size w w' := by
  obtain ⟨n, hn⟩ : ∃ n, n = l.length := ⟨_, rfl⟩
  rw [← hn] at hlc ⊢
  have HN := Lib.hid hn
  have HX := Lib.hid hx
  have HG := Lib.hid hg
  have HB := Lib.hid hB
  unfold maxLen at hcm
  clear hn hx hg hB
  by_cases hbig : 2000 < n
  · have HF : K.fault l = 14 := by unfold K.fault; rw [if_pos (by rw [← HN.out]; exact hbig)]
    rw [HF]
    have t1 : (2000 : Int) < (n : Int) := by omega
    go_enter Tryz.func83, Tryz.ntmps83
    go_wp2
    go_ret
    exact ⟨rfl, Below.refl _ _⟩
  have HF : Hid (K.fault l = K.flt 0 l) := Lib.hid (by unfold K.fault; rw [if_neg (by rw [← HN.out]; exact hbig)])
  have t1 : (n : Int) ≤ 2000 := by omega
  clear hbig
  rw [HF.out]
  go_enter Tryz.func83, Tryz.ntmps83
  go_wp2_with fail
  go_loopw [3, 11] (fun r x wr => ∃ (k : Nat) (y : Int), x = .int .i64 k ∧ k ≤ n ∧ r = .int .i64 y ∧ (y = 0 ∨ y = 2) ∧ Hid (K.flt y (l.drop k) = K.flt 0 l) ∧ Hid (Below w.heap.size w wr)) (fun _ x _ => n - (intOf x).toNat)
  case atStart => exact ⟨0, 0, rfl, by omega, rfl, .inl rfl, Lib.hid rfl, Lib.hid (Below.refl _ _)⟩
  case round =>
    obtain ⟨k, y, rfl, hk, rfl, hy, E1, L1⟩ := hrel
    by_cases hlt : k < n
    · obtain ⟨x, hxk⟩ : ∃ x, l[k]? = some x := ⟨_, List.getElem?_eq_getElem (by rw [← HN.out]; exact hlt)⟩
      have HXK := Lib.hid hxk
      have hgx := HG.out x (List.mem_of_getElem? hxk)
      obtain ⟨b, o, hA, hb, c0, c1, c2⟩ := (HX.out.below L1.out HB.out) k x hxk
      subst hA
      have ld := load_item c0 c1 c2
      have hz := hgx.2
      unfold maxLen at hz
      clear hxk c0 c1 c2 hgx
      obtain ⟨xk, xn, xs⟩ := x
      unfold itA at ld
      have i2 : (k : Int) < (n : Int) := by omega
      have LD := Lib.hid ld
      clear ld
      have hs := L1.out.size
      by_cases hk2 : xk = 2 ∧ 4000 < xs.size
      · obtain ⟨rfl, hk3⟩ := hk2
        have i3 : (4000 : Int) < (xs.size : Int) := by omega
        have E2 : Hid (K.flt 0 l = 14) := Lib.hid (by rw [← E1.out]; exact flt_big l y k _ HXK.out (by simp [K.big, hk3]))
        clear HXK HF E1 HG
        go_wp2_with (refine wpList_loadX rfl 104 (.tmp 13) rfl _ _ rfl LD.out ?_; refine of_hid ?_)
        refine Lib.hid ?_
        go_wp2_with fail
        go_ret
        exact ⟨by rw [E2.out]; rfl, L1.out.alloc hs _⟩
      · have HBG : K.big ⟨xk, xn, xs⟩ = false := by simp [K.big]; omega
        have E2 := flt_snoc l y k _ HXK.out HBG
        have L2 : Hid (Below w.heap.size w (wr.alloc (.cells #[.int .i64 xk, .int .i64 xn, .string xs] 104))) := Lib.hid (L1.out.alloc hs _)
        have hf := formed_any ⟨xk, xn, xs⟩
        unfold itA at hf
        obtain ⟨bb, hbb⟩ : ∃ bb, bb = K.formed ⟨xk, xn, xs⟩ := ⟨_, rfl⟩
        rw [← hbb] at hf E2
        have E3 := Lib.hid E2
        have HF2 := Lib.hid hf
        clear hf E2 hbb HXK HF HBG HG
        have hz3 : xk = 2 → (xs.size : Int) ≤ 4000 := by omega
        by_cases hk3 : xk = 2
        all_goals
          first | (obtain rfl := hk3; have hz4 := hz3 rfl) | (have hz4 : (xk == 2) = false := by simpa using hk3)
          clear hz3 hk2
          go_wp2_with (refine wpList_loadX rfl 104 (.tmp 13) rfl _ _ rfl LD.out ?_; refine of_hid ?_)
          refine Lib.hid ?_
          go_wp2_with fail
          refine (HF2.out _).mono ?_
          rintro e w3 ⟨rfl, hl3⟩
          have L3 : Hid (Below w.heap.size w w3) := Lib.hid (L2.out.trans (hl3.mono L2.out.size))
          clear hl3
          cases bb with
          | true =>
            go_wp2_with fail
            go_roundw
            case rel => exact ⟨k + 1, y, by go_num, by omega, rfl, hy, Lib.hid (by rw [← E1.out, E3.out]; rfl), L3⟩
            case measure => simp [intOf]; omega
          | false =>
            go_wp2_with fail
            go_roundw
            case rel => exact ⟨k + 1, 2, by go_num, by omega, rfl, .inr rfl, Lib.hid (by rw [← E1.out, E3.out]; rfl), L3⟩
            case measure => simp [intOf]; omega
    · have hkn : k = n := by omega
      have E2 : Hid (y = K.flt 0 l) := Lib.hid (by rw [← E1.out, List.drop_eq_nil_of_le (by rw [← HN.out, hkn]; exact Nat.le_refl _)]; rfl)
      have i2 : (n : Int) ≤ (k : Int) := by omega
      clear hkn
      go_wp2_with fail
      go_ret
      exact ⟨by rw [E2.out]; rfl, L1.out⟩
end Go.Proofs.YthioanenljpclaaGreatDoor
namespace Go.Proofs.YthioanenljpclaaGreatDoor
set_option maxRecDepth 100000
open Go Go.RowKit
set_option linter.unusedVariables false

theorem strB_lst (L : List Nat) : strB L.length (lst L) = K.txt L := by
  have h : (strB L.length (lst L)).data.toList = (K.txt L).data.toList := by
    rw [strB_data]
    show _ = (L.map UInt8.ofNat).toArray.toList
    simp only [List.toList_toArray]
    apply List.ext_getElem?
    intro j
    by_cases hj : j < L.length
    · simp [lst, hj, List.getD_eq_getElem?_getD]
    · rw [List.getElem?_eq_none (by simp; omega), List.getElem?_eq_none (by simp; omega)]
  have h2 := Array.toList_inj.1 h
  cases hs : strB L.length (lst L)
  cases ht : K.txt L
  rw [hs, ht] at h2
  exact congrArg _ h2
theorem str_is (s : ByteArray) : strB s.size (lst (K.sb s)) = s := by
  have := strB_lst (K.sb s)
  rw [K.sb_length, K.txt_sb] at this
  exact this
theorem own_row {w0 w w' : World} {base n : Nat} {v : Value} {X : Nat → Nat} (hb : Below base w0 w) (ho : Own8 w base v n X) (hg : w.grownBy w' v.ownBlock) (hs : base ≤ w.heap.size) : Below base w0 w' :=
  hb.trans ⟨hg.os, hg.tape, hg.output, hg.size, fun k hk => hg.block k (by omega) (fun e => by have := (ho.lt e.symm).2; omega)⟩
theorem wpList_append_str {w : World} {ops : Array Oper} {rest : List Oper} {o : Oper} {a : Act} {Q : Exit → Act → World → Prop} (hgd : o.guard = none) (s x : Operand)
    (ho : o.op = .call { callee := .builtin .append, args := #[s, x], argTypes := #[51, 9] }) {base : Nat} {v : Value} {L : List Nat} {t : ByteArray} (hs : a.eval s = v) (hx : a.eval x = .string t)
    (hown : OwnL w base v L) (hl : L.length + t.size ≤ 70368744177664) (hb : base ≤ w.heap.size)
    (h : ∀ v' w', OwnL w' base v' (L ++ K.sb t) → w.grownBy w' v.ownBlock → wpList Tryz.prog ops Q rest (a.put o.dst v') w') : wpList Tryz.prog ops Q (o :: rest) a w := by
  have hx2 : a.eval x = .string (strB t.size (lst (K.sb t))) := by rw [str_is]; exact hx
  refine wpList_append_txt hgd s x ho hs hx2 hown (fun j _ => lst_lt (K.sb_lt t) j) hl hb fun v' w' h1 h2 => h v' w' (OwnL.app ?_) h2
  rw [K.sb_length]
  exact h1
theorem rdb_two (w : World) (o : Obj) (x : Nat) (hx : x < 256) : RdB ((w.alloc o).alloc (.cells #[.int .u8 ((x : Nat) : Int)] 5)) (w.heap.size + 1 + 1) (some ⟨w.heap.size + 1, 0, none⟩) 1 (lst [x]) := by
  have h := rdb_one (w.alloc o) x hx
  rw [show (w.alloc o).heap.size = w.heap.size + 1 by simp] at h
  exact h
/-- the row of the call, behind two new blocks and an append to it -/
theorem own_two {w w2 : World} {o o2 : Obj} {base n m : Nat} {v v2 : Value} {X Y : Nat → Nat} {g : Nat} {t : TypeId} {cs : Array Value} (ho : Own8 w base v n X) (hg : ((w.alloc o).alloc o2).grownBy w2 v.ownBlock) (hb : Blk ((w.alloc o).alloc o2) w.heap.size t cs) : Blk w2 w.heap.size t cs :=
  hb.grown hg fun e => by have := (ho.lt e.symm).1; omega
theorem encs_snoc (l : List K.It) (k : Nat) (x : K.It) (h : l[k]? = some x) : K.encs (l.take (k + 1)) = K.encs (l.take k) ++ K.encI x := by
  have hk := (List.getElem?_eq_some_iff.1 h).1
  have e : l.take (k + 1) = l.take k ++ [x] := by
    rw [List.take_add_one, h]
    rfl
  rw [e, K.encs_append]
  show _ ++ (K.encI x ++ []) = _
  rw [List.append_nil]

set_option maxHeartbeats 400000 in
theorem encode_bad (A : Option Addr) (l : List K.It) (c B : Nat) (w : World) (hx : RdT w B A l) (hB : B ≤ w.heap.size) (hg : ∀ x ∈ l, Good x) (hlc : l.length ≤ c) (hcm : c ≤ maxLen) (hf : K.fault l ≠ 0) :
    Calls Tryz.prog 69 #[.slice A l.length c] w fun e w' => e = .returned (.tuple #[.slice none 0 0, .int .i64 (K.fault l)]) ∧ Below w.heap.size w w' := by
  have HF := fault_any A l c B w hx hB hg hlc hcm
  have hcm' := hcm
  unfold maxLen at hcm'
  obtain ⟨y, hy⟩ : ∃ y, y = K.fault l := ⟨_, rfl⟩
  rw [← hy] at hf HF ⊢
  have t1 : (y == 0) = false := by simpa using hf
  have t2 : (y != 0) = true := by simpa using hf
  have HFH := Lib.hid HF
  clear HF hy hx hg hf
  go_enter Tryz.func69, Tryz.ntmps69
  go_wp2_with fail
  refine HFH.out.mono ?_
  rintro e w' ⟨rfl, hl⟩
  have L := Lib.hid hl
  clear hl
  go_wp2_with fail
  go_ret2
  exact ⟨rfl, L.out⟩

set_option maxRecDepth 100000 in
set_option maxHeartbeats 1600000 in
theorem encode_ok (A : Option Addr) (l : List K.It) (c B : Nat) (w : World) (hx : RdT w B A l) (hB : B ≤ w.heap.size) (hg : ∀ x ∈ l, Good x) (hlc : l.length ≤ c) (hcm : c ≤ maxLen) (hf : K.fault l = 0) :
    Calls Tryz.prog 69 #[.slice A l.length c] w fun e w' => ∃ v, e = .returned (.tuple #[v, .int .i64 0]) ∧ OwnL w' w.heap.size v (K.encs l) ∧ Below w.heap.size w w' := by
  have HF := fault_any A l c B w hx hB hg hlc hcm
  have hok := K.fault_ok hf
  rw [hf] at HF
  have HFH := Lib.hid HF
  have hll := hok.1
  have HR := Lib.hid hok.2
  clear HF hf hok
  obtain ⟨n, hn⟩ : ∃ n, n = l.length := ⟨_, rfl⟩
  rw [← hn] at hlc hll HFH ⊢
  have HN := Lib.hid hn
  have HX := Lib.hid hx
  have HG := Lib.hid hg
  have HB := Lib.hid hB
  unfold maxLen at hcm
  clear hn hx hg hB
  go_enter Tryz.func69, Tryz.ntmps69
  go_wp2_with fail
  refine HFH.out.mono ?_
  rintro e w1 ⟨rfl, hl1⟩
  have L0 := Lib.hid hl1
  clear hl1
  go_wp2_with fail
  go_loopw [5, 15] (fun b x wr => ∃ (k : Nat), x = .int .i64 k ∧ k ≤ n ∧ Hid (OwnL wr w.heap.size b (K.encs (l.take k))) ∧ Hid (Below w.heap.size w wr)) (fun _ x _ => n - (intOf x).toNat)
  case atStart => exact ⟨0, rfl, by omega, Lib.hid (OwnL.nil _ _), L0⟩
  case round =>
    obtain ⟨k, rfl, hk, O1, L1⟩ := hrel
    clear L0
    by_cases hlt : k < n
    · obtain ⟨x, hxk⟩ : ∃ x, l[k]? = some x := ⟨_, List.getElem?_eq_getElem (by rw [← HN.out]; exact hlt)⟩
      have hmem := List.mem_of_getElem? hxk
      have HXK := Lib.hid (encs_snoc l k x hxk)
      have hgx := HG.out x hmem
      have hrx := (HR.out x hmem).cases
      obtain ⟨b, o, hA, hb, c0, c1, c2⟩ := (HX.out.below L1.out HB.out) k x hxk
      subst hA
      have ld := load_item c0 c1 c2
      have hz := hgx.2
      have hft := Lib.hid hgx.1
      have hel : (K.encs (l.take k)).length ≤ 16044000 := by
        have := K.encs_length_le (l := l.take k) (fun y hy => HR.out y (List.mem_of_mem_take hy)) (fun y hy => (HG.out y (List.mem_of_mem_take hy)).1)
        have h2 : (l.take k).length ≤ 2000 := by rw [List.length_take]; omega
        omega
      clear hxk c0 c1 c2 hgx hmem
      obtain ⟨xk, xn, xs⟩ := x
      unfold itA at ld
      dsimp only at hrx hz ld
      have i2 : (k : Int) < (n : Int) := by omega
      have LD := Lib.hid ld
      clear ld
      have hs := L1.out.size
      obtain ⟨E, hE⟩ : ∃ E, E = K.encs (l.take k) := ⟨_, rfl⟩
      rw [← hE] at O1 HXK hel
      have HEE := Lib.hid hE
      clear hE
      rcases hrx with ⟨h1, h2⟩ | ⟨h1, h2, h3⟩
      · subst h1; subst h2
        have X1 : Hid (Blk ((wr.alloc (.cells #[.int .i64 1, .int .i64 xn, .string ⟨#[]⟩] 104)).alloc (.cells #[.int .u8 ((1 : Nat) : Int)] 5)) wr.heap.size 104 #[.int .i64 1, .int .i64 xn, .string ⟨#[]⟩]) := Lib.hid ((Blk.new wr _ _).alloc _)
        have L2 : Hid (Below w.heap.size w ((wr.alloc (.cells #[.int .i64 1, .int .i64 xn, .string ⟨#[]⟩] 104)).alloc (.cells #[.int .u8 ((1 : Nat) : Int)] 5))) := Lib.hid ((L1.out.alloc hs _).alloc (by simp; omega) _)
        have R2 := Lib.hid (rdb_two wr (.cells #[.int .i64 1, .int .i64 xn, .string ⟨#[]⟩] 104) 1 (by omega))
        have O2 : Hid (Own8 ((wr.alloc (.cells #[.int .i64 1, .int .i64 xn, .string ⟨#[]⟩] 104)).alloc (.cells #[.int .u8 ((1 : Nat) : Int)] 5)) w.heap.size u5 E.length (lst E)) := Lib.hid (O1.out.keep fun g hg => (Below.heap_alloc _ _ g (by have := (O1.out.lt hg).1; simp; omega)).trans (Below.heap_alloc _ _ g (O1.out.lt hg).1))
        rw [show ((1 : Nat) : Int) = 1 from rfl] at X1 L2 R2 O2
        have hs2 : w.heap.size ≤ ((wr.alloc (.cells #[.int .i64 1, .int .i64 xn, .string ⟨#[]⟩] 104)).alloc (.cells #[.int .u8 1] 5)).heap.size := by simp; omega
        go_wp2_with (refine wpList_loadX rfl 104 (.tmp 17) rfl _ _ rfl LD.out ?_; refine of_hid ?_)
        refine Lib.hid ?_
        go_wp2_with ((with_reducible refine wpList_append_rd rfl (.tmp 19) (.tmp 23) rfl rfl rfl O2.out R2.out (fun e => by cases e) (Nat.le_refl _) (by omega) hs2 ?_); intro v2 w2 ho2 hg2 he2; refine of_hid ?_)
        refine Lib.hid ?_
        have X2 := Lib.hid (own_two (m := 0) (v2 := v2) (Y := fun _ => 0) (g := 0) O1.out hg2 X1.out)
        have L3 := Lib.hid (own_row L2.out O2.out hg2 hs2)
        have O3 := Lib.hid (OwnL.app (M := [1]) ho2)
        have hs3 := L3.out.size
        have HB3 : Hid (∀ g, v2.ownBlock = some g → g ≠ wr.heap.size) := Lib.hid fun g hg => by
          rcases he2 with e | e
          · have := (O1.out.lt (e.symm.trans hg)).1; omega
          · rw [e] at hg; injection hg with hg; simp at hg; omega
        have c0 := X2.out.cell 0
        have c1 := X2.out.cell 1
        have c2 := X2.out.cell 2
        simp at c0 c1 c2
        have hE1 : (E ++ [1]).length ≤ 16044001 := by simp; omega
        clear ho2 hg2 he2 O2 L2 R2 X1 O1 L1 LD
        go_wp2_with fail
        refine (fold_any xn _ hft.out.1 hft.out.2).mono ?_
        rintro e w' ⟨rfl, rfl⟩
        go_wp2_with fail
        refine (addCount_any _ _ _ w.heap.size _ O3.out hs3 (K.fold_lt hft.out.1 hft.out.2) (by omega)).mono ?_
        rintro e w4 ⟨v4, rfl, ho4, hg4⟩
        have L4 := Lib.hid (L3.out.trans (hg4.below O3.out hs3))
        have O4 := Lib.hid ho4
        clear ho4 hg4 c0 c1 c2
        go_wp2_with fail
        go_roundw
        case rel => exact ⟨k + 1, by go_num, by omega, by rw [HXK.out]; rw [List.append_assoc] at O4; exact O4, L4⟩
        case measure => simp [intOf]; omega
      · subst h1; subst h2
        have X1 : Hid (Blk ((wr.alloc (.cells #[.int .i64 2, .int .i64 0, .string xs] 104)).alloc (.cells #[.int .u8 ((2 : Nat) : Int)] 5)) wr.heap.size 104 #[.int .i64 2, .int .i64 0, .string xs]) := Lib.hid ((Blk.new wr _ _).alloc _)
        have L2 : Hid (Below w.heap.size w ((wr.alloc (.cells #[.int .i64 2, .int .i64 0, .string xs] 104)).alloc (.cells #[.int .u8 ((2 : Nat) : Int)] 5))) := Lib.hid ((L1.out.alloc hs _).alloc (by simp; omega) _)
        have R2 := Lib.hid (rdb_two wr (.cells #[.int .i64 2, .int .i64 0, .string xs] 104) 2 (by omega))
        have O2 : Hid (Own8 ((wr.alloc (.cells #[.int .i64 2, .int .i64 0, .string xs] 104)).alloc (.cells #[.int .u8 ((2 : Nat) : Int)] 5)) w.heap.size u5 E.length (lst E)) := Lib.hid (O1.out.keep fun g hg => (Below.heap_alloc _ _ g (by have := (O1.out.lt hg).1; simp; omega)).trans (Below.heap_alloc _ _ g (O1.out.lt hg).1))
        rw [show ((2 : Nat) : Int) = 2 from rfl] at X1 L2 R2 O2
        have hs2 : w.heap.size ≤ ((wr.alloc (.cells #[.int .i64 2, .int .i64 0, .string xs] 104)).alloc (.cells #[.int .u8 2] 5)).heap.size := by simp; omega
        go_wp2_with (refine wpList_loadX rfl 104 (.tmp 17) rfl _ _ rfl LD.out ?_; refine of_hid ?_)
        refine Lib.hid ?_
        go_wp2_with ((with_reducible refine wpList_append_rd rfl (.tmp 19) (.tmp 23) rfl rfl rfl O2.out R2.out (fun e => by cases e) (Nat.le_refl _) (by omega) hs2 ?_); intro v2 w2 ho2 hg2 he2; refine of_hid ?_)
        refine Lib.hid ?_
        have X2 := Lib.hid (own_two (m := 0) (v2 := v2) (Y := fun _ => 0) (g := 0) O1.out hg2 X1.out)
        have L3 := Lib.hid (own_row L2.out O2.out hg2 hs2)
        have O3 := Lib.hid (OwnL.app (M := [2]) ho2)
        have hs3 := L3.out.size
        have HB3 : Hid (∀ g, v2.ownBlock = some g → g ≠ wr.heap.size) := Lib.hid fun g hg => by
          rcases he2 with e | e
          · have := (O1.out.lt (e.symm.trans hg)).1; omega
          · rw [e] at hg; injection hg with hg; simp at hg; omega
        have c0 := X2.out.cell 0
        have c1 := X2.out.cell 1
        have c2 := X2.out.cell 2
        simp at c0 c1 c2
        have hE1 : (E ++ [2]).length ≤ 16044001 := by simp; omega
        clear ho2 hg2 he2 O2 L2 R2 X1 O1 L1 LD
        have hz2 : (xs.size : Int) ≤ 4000 := by omega
        go_wp2_with fail
        refine (addCount_any _ _ xs.size w.heap.size _ O3.out hs3 (by omega) (by omega)).mono ?_
        rintro e w4 ⟨v4, rfl, ho4, hg4⟩
        have L4 := Lib.hid (L3.out.trans (hg4.below O3.out hs3))
        have O4 := Lib.hid ho4
        have X4 := X2.out.grown hg4.1 (fun e => HB3.out _ e.symm rfl)
        have c2 := X4.cell 2
        simp at c2
        have hs4 := L4.out.size
        have hE4 : (E ++ [2] ++ K.cnt xs.size).length ≤ 16044011 := by rw [List.length_append]; have := K.cnt_length_le xs.size (by omega); omega
        clear ho4 hg4 c0 c1 X4
        go_wp2_with (refine wpList_append_str rfl (.tmp 39) (.tmp 41) rfl rfl rfl O4.out (by omega) hs4 ?_; intro v5 w5 ho5 hg5; refine of_hid ?_)
        refine Lib.hid ?_
        have L5 := Lib.hid (own_row L4.out O4.out hg5 hs4)
        have O5 := Lib.hid ho5
        clear ho5 hg5 c2
        go_wp2_with fail
        go_roundw
        case rel => exact ⟨k + 1, by go_num, by omega, by rw [HXK.out]; rw [List.append_assoc, List.append_assoc] at O5; exact O5, L5⟩
        case measure => simp [intOf]; omega
    · have i2 : (n : Int) ≤ (k : Int) := by omega
      have E2 : l.take k = l := List.take_of_length_le (by rw [← HN.out]; omega)
      rw [E2] at O1
      clear E2
      go_wp2_with fail
      go_ret2
      exact ⟨_, rfl, O1.out, L1.out⟩
end Go.Proofs.YthioanenljpclaaGreatDoor
