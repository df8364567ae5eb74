/-
  What single operations on numbers of 64 bits answer, and what a call leaves that draws alone. No conditions beyond those that each theorem types.
-/
import Derived.Test.YthioanenljpclaaGreatDoorTakeManyM
import Derived.Test.YthioanenljpclaaGreatDoorDrawSeqM
import Derived.Test.YthioanenljpclaaGreatDoorShaRestM
namespace Go.Proofs.YthioanenljpclaaGreatDoor
open Go Go.RowKit
set_option maxRecDepth 100000
set_option linter.unusedVariables false

/-- a call that draws alone -/
def Qt (w w' : World) : Prop := ∃ k, w' = w.drewN k
theorem Qt.cell {w w' : World} (h : Qt w w') (p : Addr) : w'.cell? p = w.cell? p := by obtain ⟨k, rfl⟩ := h; rfl
theorem Qt.heap {w w' : World} (h : Qt w w') : w'.heap = w.heap := by obtain ⟨k, rfl⟩ := h; rfl
theorem Qt.below {B : Nat} {a w w' : World} (h : Qt w w') (k : Below B a w) : Below B a w' := by obtain ⟨n, rfl⟩ := h; exact ⟨k.os, k.tape, k.output, k.size, k.block⟩
theorem Qt.own64 {w w' : World} {base n : Nat} {v : Value} {X : Nat → Nat} (h : Qt w w') (k : Own64 w base v n X) : Own64 w' base v n X := by obtain ⟨n, rfl⟩ := h; exact k
theorem Qt.rowN {w w' : World} {g n : Nat} {X : Nat → Nat} (h : Qt w w') (k : RowN w g n X) : RowN w' g n X := by obtain ⟨n, rfl⟩ := h; exact k
theorem Qt.drew (w : World) : Qt w w.drew := ⟨1, rfl⟩
theorem Qt.trans {a b c : World} (h : Qt a b) (k : Qt b c) : Qt a c := by
  obtain ⟨n, rfl⟩ := h
  obtain ⟨m, rfl⟩ := k
  exact ⟨n + m, by simp [go_sem]⟩
theorem Own64.drew {w : World} {base n : Nat} {v : Value} {X : Nat → Nat} (h : Own64 w base v n X) : Own64 w.drew base v n X := h
theorem RowN.drew {w : World} {g n : Nat} {X : Nat → Nat} (h : RowN w g n X) : RowN w.drew g n X := h
theorem RowG.drew {w : World} {g n : Nat} {X : Nat → Nat} (h : RowG w g n X) : RowG w.drew g n X := h

theorem sub_i64r (t k : Nat) (K : Int) (hK : K = (k : Int)) (h : k ≤ t) (ht : t ≤ 1000000) (w : World) : (binOp .sub 3 (.int .i64 (t : Int)) (.int .i64 K)).run Tryz.prog w = .ok (.int .i64 ((t - k : Nat) : Int)) w := by
  have h2 : (binOp .sub 3 (.int .i64 (t : Int)) (.int .i64 K)).run Tryz.prog w = .ok (.int .i64 (IntKind.i64.wrap ((t : Int) - K))) w := by kernel_rfl
  rw [h2, show IntKind.i64.wrap ((t : Int) - K) = ((t - k : Nat) : Int) by rw [IntKind.wrap_i64]; omega]
theorem xor_u64r (a b : Nat) (ha : a < 4294967296) (hb : b < 4294967296) (w : World) : (binOp .xor 24 (.int .u64 (a : Int)) (.int .u64 (b : Int))).run Tryz.prog w = .ok (.int .u64 ((a ^^^ b : Nat) : Int)) w := by
  rw [← xor_u64 a b ha hb]
  kernel_rfl
theorem cpl_u64r (a : Nat) (ha : a < 4294967296) (w : World) : (binOp .xor 24 (.int .u64 (a : Int)) (.int .u64 4294967295)).run Tryz.prog w = .ok (.int .u64 ((4294967295 ^^^ a : Nat) : Int)) w := by
  rw [Nat.xor_comm, ← xor_u64 a 4294967295 ha (by omega)]
  kernel_rfl
theorem and_u64r (a b : Nat) (ha : a < 4294967296) (hb : b < 4294967296) (w : World) : (binOp .and 24 (.int .u64 (a : Int)) (.int .u64 (b : Int))).run Tryz.prog w = .ok (.int .u64 ((a &&& b : Nat) : Int)) w := by
  rw [← and_u64 a b ha hb]
  kernel_rfl
theorem add_u64r (a b : Nat) (h : a + b < 18446744073709551616) (w : World) : (binOp .add 24 (.int .u64 (a : Int)) (.int .u64 (b : Int))).run Tryz.prog w = .ok (.int .u64 ((a + b : Nat) : Int)) w := by
  have h2 : (binOp .add 24 (.int .u64 (a : Int)) (.int .u64 (b : Int))).run Tryz.prog w = .ok (.int .u64 (IntKind.u64.wrap ((a : Int) + (b : Int)))) w := by kernel_rfl
  rw [h2, Mul64.addN, Mul64.wrapN _ h]
theorem shr_u64r (x k : Nat) (K : Int) (hK : K = (k : Int)) (hk : k ≤ 64) (w : World) : (binOp .shr 24 (.int .u64 (x : Int)) (.int .u64 K)).run Tryz.prog w = .ok (.int .u64 ((x >>> k : Nat) : Int)) w := by
  rw [binOp_shr, shift_shr_u64 .u64 (x : Int) K (show (0 : Int) ≤ K by omega) (show K ≤ 64 by omega), Sem.run_pure, hK, Int.toNat_natCast, Nat.shiftRight_eq_div_pow, Int.natCast_ediv, Int.natCast_pow]
  rfl
theorem size_u64 : (Tryz.prog.info? 24).map (·.size) = some 1 := by kernel_rfl
theorem index64 (g n c k : Nat) (K : Int) (hK : K = (k : Int)) (hlt : k < n) (w : World) : (Instr.indexAt 125 (.slice (some ⟨g, 0, none⟩) n c) (.int .i64 K)).run Tryz.prog w = .ok (.pointer (some ⟨g, k, none⟩)) w := by
  have h := index_slice (P := Tryz.prog) (t := 125) (e := 24) Tryz.underlying125 size_u64 g 0 n c k hlt w
  rw [Nat.zero_add] at h
  rw [hK]
  exact h
theorem load64 {w : World} {p : Addr} {a : Nat} (hc : w.cell? p = some (.int .u64 (a : Int))) : (Instr.loadAt 24 (.pointer (some p))).run Tryz.prog w = .ok (.int .u64 (a : Int)) w :=
  load_one Tryz.underlying24 (by kernel_rfl) hc
theorem wp_push64 {w0 : World} {o : Oper} {a : Act} {K : Act → World → Prop} {Q : Exit → Act → World → Prop} (s x : Operand)
    (ho : o.op = .call { callee := .builtin .append, args := #[s, x], argTypes := #[125, 125] }) {base n y : Nat} {v : Value} {X : Nat → Nat} (hs : a.eval s = v) (hx : a.eval x = .slice (some ⟨w0.heap.size, 0, none⟩) 1 1)
    (hown : Own64 w0 base v n X) (hl : n ≤ 1099511627776) (hb : base ≤ w0.heap.size)
    (h : ∀ v' w', Own64 w' base v' (n + 1) (upd X n y) → (w0.alloc (.cells #[.int .u64 ((y : Nat) : Int)] 24)).grownBy w' v.ownBlock → (v'.ownBlock = v.ownBlock ∨ v'.ownBlock = some (w0.heap.size + 1)) → K (a.put o.dst v') w') :
    o.wp Tryz.prog a (w0.alloc (.cells #[.int .u64 ((y : Nat) : Int)] 24)) K Q := by
  obtain ⟨i0, hi, hz0, hz1, hz2⟩ := info_parts info64
  obtain ⟨v', w', hrun, e2, e3, e4, e5⟩ := run_append_own_at (P := Tryz.prog) (w0.alloc (.cells #[.int .u64 ((y : Nat) : Int)] 24)) base 125 o.type 24 i0 (.int .u64 0) 1 8 Tryz.underlying125 hi hz0 hz1 hz2 rfl (by decide) v n _ (hown.alloc _) ⟨w0.heap.size, 0, none⟩ 1 1 [.int .u64 ((y : Nat) : Int)] rfl
    (fun j u hj => by
      have hj0 : j = 0 := by
        rcases j with _ | j
        · rfl
        · simp at hj
      subst hj0
      simp at hj
      subst hj
      rw [add_plain, (Blk.new w0 24 #[.int .u64 ((y : Nat) : Int)]).cell]
      rfl) (fun u hu => by simp at hu; subst hu; rfl) (by simp only [maxLen]; omega) (by omega) (by simp; omega)
  have e6 : numsL n X ++ [.int .u64 ((y : Nat) : Int)] = numsL (n + 1) (upd X n y) := by
    have h1 := numsL_cat n 1 X (fun _ => y)
    have h2 : numsL 1 (fun _ => y) = [.int .u64 ((y : Nat) : Int)] := rfl
    rw [h2] at h1
    rw [h1]
    exact numsL_congr fun j hj => by
      unfold cat upd
      by_cases hjn : j < n
      · rw [if_pos hjn, if_neg (by omega)]
      · rw [if_neg hjn, if_pos (by omega)]
  rw [e6] at e2
  unfold Oper.wp execOp
  simp only [ho, resolve, invoke, builtin, Sem.run_bind, Sem.run_pure, Result.andThen_ok, List.map_toArray, List.map_cons, List.map_nil, hs, hx, hrun]
  exact h v' w' e2 e3 (by simpa using e5)
theorem bs_u64 (x : Int) (w : World) : (Instr.buildSlice 125 1 #[(0, .int .u64 x)]).run Tryz.prog w = .ok (.slice (some ⟨w.heap.size, 0, none⟩) 1 1) (w.alloc (.cells #[.int .u64 x] 24)) := by kernel_rfl
theorem mask_u64r (a : Nat) (h : a < 18446744073709551616) (w : World) : (binOp .and 24 (.int .u64 (a : Int)) (.int .u64 4294967295)).run Tryz.prog w = .ok (.int .u64 ((a % 4294967296 : Nat) : Int)) w := by
  rw [← mask_u64 a h]
  kernel_rfl
theorem RowN.part {w : World} {g n m : Nat} {X : Nat → Nat} (h : RowN w g n X) (hm : m ≤ n) : RowN w g m X := by
  obtain ⟨cs, hb, h2⟩ := h
  exact ⟨cs, hb, fun j hj => h2 j (by omega)⟩
theorem RowN.store {w : World} {g n : Nat} {X : Nat → Nat} (h : RowN w g n X) {p : Addr} (hp : g ≠ p.block) (u : Value) : RowN (w.setCell p u) g n X := h.heap (Below.heap_setCell w p u g hp)
theorem Own64.set {w : World} {base n g c k v : Nat} {X : Nat → Nat} (h : Own64 w base (.slice (some ⟨g, 0, none⟩) n c) n X) (hk : k < n) : Own64 (w.setCell ⟨g, k, none⟩ (.int .u64 ((v : Nat) : Int))) base (.slice (some ⟨g, 0, none⟩) n c) n (upd X k v) := by
  refine ⟨by rw [numsL_length, Nat.mul_one], ?_⟩
  rcases h.2 with ⟨e, _⟩ | ⟨g', cap, cur, e, hg, hb, h1, h2, h3, h4⟩
  · cases e
  · cases e
    have hb : Blk w g 24 cur := hb
    refine .inr ⟨g, c, cur.setIfInBounds k (.int .u64 ((v : Nat) : Int)), rfl, hg, hb.set_ k _, h1, h2, by simpa using h3, ?_⟩
    apply List.ext_getElem?
    intro j
    by_cases hj : j < n
    · have h5 := numsL_get X hj
      rw [← h4, List.getElem?_take_of_lt (by omega), Array.getElem?_toList] at h5
      rw [List.getElem?_take_of_lt (by omega), Array.getElem?_toList, numsL_get _ hj, Array.getElem?_setIfInBounds]
      unfold upd
      by_cases e : k = j
      · subst e
        rw [if_pos rfl, if_pos (by omega), if_pos rfl]
      · rw [if_neg e, if_neg (fun q => e q.symm), h5]
    · rw [List.getElem?_eq_none (by rw [List.length_take]; omega), List.getElem?_eq_none (by rw [numsL_length]; omega)]
/-- 'append(v, y...)' -/
theorem wp_append8 {w : World} {o : Oper} {a : Act} {K : Act → World → Prop} {Q : Exit → Act → World → Prop} (s x : Operand)
    (ho : o.op = .call { callee := .builtin .append, args := #[s, x], argTypes := #[51, 51] }) {base n B m c : Nat} {v : Value} {A : Option Addr} {X Y : Nat → Nat} (hs : a.eval s = v) (hx : a.eval x = .slice A m c)
    (hown : Own8 w base v n X) (hy : RdB w B A m Y) (h0 : A = none → c = 0) (hmc : m ≤ c) (hl : n + m ≤ 70368744177664) (hb : base ≤ w.heap.size)
    (h : ∀ v' w', Own8 w' base v' (n + m) (cat n X Y) → w.grownBy w' v.ownBlock → (v'.ownBlock = v.ownBlock ∨ v'.ownBlock = some w.heap.size) → K (a.put o.dst v') w') : o.wp Tryz.prog a w K Q := by
  obtain ⟨v', w', hrun, h1, h2, h3⟩ := run_append_rd o.type hown hy h0 hmc hl hb
  unfold Oper.wp execOp
  simp only [ho, resolve, invoke, builtin, Sem.run_bind, Sem.run_pure, Result.andThen_ok, List.map_toArray, List.map_cons, List.map_nil, hs, hx, hrun]
  exact h v' w' h1 h2 h3
theorem own_grownR {w0 w w' : World} {base n : Nat} {v : Value} {X : Nat → Nat} (hb : Below base w0 w) (ho : Own8 w base v n X) (hg : w.grownBy w' v.ownBlock) (hs : base ≤ w.heap.size) : Below base w0 w' :=
  hb.trans ⟨hg.os, hg.tape, hg.output, hg.size, fun k hk => hg.block k (by omega) (fun e => by have := (ho.lt e.symm).2; omega)⟩
def quad (a b c d j : Nat) : Nat := if j = 0 then a else if j = 1 then b else if j = 2 then c else d
theorem quad_lt {a b c d : Nat} (ha : a < 256) (hb : b < 256) (hc : c < 256) (hd : d < 256) (j : Nat) : quad a b c d j < 256 := by
  unfold quad
  by_cases h0 : j = 0
  · rw [if_pos h0]; exact ha
  · rw [if_neg h0]
    by_cases h1 : j = 1
    · rw [if_pos h1]; exact hb
    · rw [if_neg h1]
      by_cases h2 : j = 2
      · rw [if_pos h2]; exact hc
      · rw [if_neg h2]; exact hd
theorem bs_four (a b c d : Int) (w : World) : (Instr.buildSlice 51 4 #[(0, .int .u8 a), (1, .int .u8 b), (2, .int .u8 c), (3, .int .u8 d)]).run Tryz.prog w = .ok (.slice (some ⟨w.heap.size, 0, none⟩) 4 4) (w.alloc (.cells #[.int .u8 a, .int .u8 b, .int .u8 c, .int .u8 d] 5)) := by kernel_rfl
theorem exec_build4 {w w' : World} {o : Oper} {a : Act} {ty : TypeId} {n i1 i2 i3 i4 : Nat} {x1 x2 x3 x4 : Operand} {u1 u2 u3 u4 v : Value} (ho : o.op = .buildSlice ty n #[(i1, x1), (i2, x2), (i3, x3), (i4, x4)]) (h1 : a.eval x1 = u1) (h2 : a.eval x2 = u2) (h3 : a.eval x3 = u3) (h4 : a.eval x4 = u4)
    (hl : (Instr.buildSlice ty n #[(i1, u1), (i2, u2), (i3, u3), (i4, u4)]).run Tryz.prog w = .ok v w') : (execOp a.eval o).run Tryz.prog w = .ok (.value v) w' := by
  unfold execOp
  simp only [ho, List.map_toArray, List.map_cons, List.map_nil, h1, h2, h3, h4, hl, Sem.run_bind, Sem.run_pure, Result.andThen_ok]
theorem rdb_quad (w : World) (a b c d : Nat) (ha : a < 256) (hb : b < 256) (hc : c < 256) (hd : d < 256) : RdB (w.alloc (.cells #[.int .u8 ((a : Nat) : Int), .int .u8 ((b : Nat) : Int), .int .u8 ((c : Nat) : Int), .int .u8 ((d : Nat) : Int)] 5)) (w.heap.size + 1) (some ⟨w.heap.size, 0, none⟩) 4 (quad a b c d) := fun j hj => by
  have hc' := (Blk.new w 5 #[.int .u8 ((a : Nat) : Int), .int .u8 ((b : Nat) : Int), .int .u8 ((c : Nat) : Int), .int .u8 ((d : Nat) : Int)])
  refine ⟨w.heap.size, 0, rfl, by omega, ?_, quad_lt ha hb hc hd j⟩
  rw [Nat.zero_add, hc'.cell]
  rcases j with _ | _ | _ | _ | j
  · rfl
  · rfl
  · rfl
  · rfl
  · omega
theorem conv_u64_u8 (x : Nat) (w : World) : (convert 24 5 (.int .u64 (x : Int))).run Tryz.prog w = .ok (.int .u8 ((x % 256 : Nat) : Int)) w := by
  have hw : IntKind.u8.wrap (x : Int) = ((x % 256 : Nat) : Int) := by rw [IntKind.wrap_u8]; omega
  simp [convert, run_underlying Tryz.underlying24, run_underlying Tryz.underlying5, go_sem, hw]
theorem plus_get (s t : M.S8) : ∀ j, j < 8 → (s.get j + t.get j) % 4294967296 = (M.plus s t).get j
  | 0, _ => by simp [M.S8.get, M.plus]
  | 1, _ => by simp [M.S8.get, M.plus]
  | 2, _ => by simp [M.S8.get, M.plus]
  | 3, _ => by simp [M.S8.get, M.plus]
  | 4, _ => by simp [M.S8.get, M.plus]
  | 5, _ => by simp [M.S8.get, M.plus]
  | 6, _ => by simp [M.S8.get, M.plus]
  | 7, _ => by simp [M.S8.get, M.plus]
  | j + 8, h => absurd h (by omega)
theorem rnd_get {za zb zc zd ze zf zg zh kt wt t1 t2 t4 t6 : Nat} (h1 : M.t1 ⟨za, zb, zc, zd, ze, zf, zg, zh⟩ kt wt = t1 % 4294967296) (h2 : M.t2 ⟨za, zb, zc, zd, ze, zf, zg, zh⟩ = t2 % 4294967296) (h4 : t4 = (t1 + t2) % 4294967296) (h6 : t6 = (zd + t1) % 4294967296) :
    ∀ j, j < 8 → upd (cat 1 (fun _ => t4) (M.S8.get ⟨za, zb, zc, zd, ze, zf, zg, zh⟩)) 4 t6 j = (M.rnd ⟨za, zb, zc, zd, ze, zf, zg, zh⟩ kt wt).get j
  | 0, _ => by simp [upd, cat, M.S8.get, M.rnd, h1, h2, h4]
  | 1, _ => by simp [upd, cat, M.S8.get, M.rnd]
  | 2, _ => by simp [upd, cat, M.S8.get, M.rnd]
  | 3, _ => by simp [upd, cat, M.S8.get, M.rnd]
  | 4, _ => by simp [upd, cat, M.S8.get, M.rnd, h1, h6]
  | 5, _ => by simp [upd, cat, M.S8.get, M.rnd]
  | 6, _ => by simp [upd, cat, M.S8.get, M.rnd]
  | 7, _ => by simp [upd, cat, M.S8.get, M.rnd]
  | j + 8, h => absurd h (by omega)
theorem out_quad (sv : M.S8) (j c : Nat) (hc : c < 4 * j + 4) : cat (4 * j) (M.outB sv) (quad ((sv.get j >>> 24) % 256) ((sv.get j >>> 16) % 256) ((sv.get j >>> 8) % 256) (sv.get j % 256)) c = M.outB sv c := by
  unfold cat
  by_cases e : c < 4 * j
  · rw [if_pos e]
  · rw [if_neg e]
    obtain ⟨r, hr, rfl⟩ : ∃ r, r < 4 ∧ c = 4 * j + r := ⟨c - 4 * j, by omega, by omega⟩
    unfold quad M.outB
    rw [show (4 * j + r) / 4 = j by omega, show (4 * j + r) % 4 = r by omega, show 4 * j + r - 4 * j = r by omega]
    rcases r with _ | _ | _ | _ | r
    · simp
    · simp
    · simp
    · simp
    · omega
theorem plTo_next (s t : M.S8) (j c : Nat) : upd (plTo s t j) j ((s.get j + t.get j) % 4294967296) c = plTo s t (j + 1) c := by
  unfold upd plTo
  by_cases e : c = j
  · subst e; rw [if_pos rfl, if_pos (by omega)]
  · rw [if_neg e]
    by_cases e2 : c < j
    · rw [if_pos e2, if_pos (by omega)]
    · rw [if_neg e2, if_neg (by omega)]
theorem plTo_all (s t : M.S8) (j : Nat) (hj : j < 8) : plTo s t 8 j = (M.plus s t).get j := by
  unfold plTo
  rw [if_pos hj]
  exact plus_get s t j hj
end Go.Proofs.YthioanenljpclaaGreatDoor
