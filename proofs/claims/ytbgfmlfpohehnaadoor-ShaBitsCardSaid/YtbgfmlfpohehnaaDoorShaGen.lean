/-
  What 'Digits' and 'Open' answer at every input, and the document's likewise. Conditions: texts below 2^40 bytes.
-/
import Derived.Test.YtbgfmlfpohehnaaDoorShaRefDoc
import Derived.Test.YtbgfmlfpohehnaaDoorShaKnown
namespace Go.Proofs.YtbgfmlfpohehnaaDoor
open Go Go.RowKit
set_option maxRecDepth 100000
set_option linter.unusedVariables false
def dgX (s : ByteArray) : ByteArray := if s.size = 32 then strB 64 (hexB (bOf s)) else ⟨#[]⟩
def dgE (s : ByteArray) : Int := if s.size = 32 then 0 else 1
theorem docDigits_gen (s : ByteArray) (w : World) (hm : s.size ≤ maxLen) : Calls Tryd.prog 10 #[.string s] w fun e w' => e = .returned (.tuple #[.string (dgX s), .int .i64 (dgE s)]) ∧ Below w.heap.size w w' := by
  unfold dgX dgE
  by_cases h : s.size = 32
  · rw [if_pos h, if_pos h]
    have e := str_is s
    rw [h] at e
    have k := docDigits_any (bOf s) w (bOf_lt s)
    rw [← e] at k
    exact k
  · rw [if_neg h, if_neg h]
    exact (docDigits_bad s w h hm).mono fun e w' ⟨h1, h2⟩ => ⟨h1, by rw [← h2]; exact Below.refl _ _⟩
theorem digits_gen (s : ByteArray) (w : World) (hm : s.size ≤ maxLen) : Calls Tryd.prog 11 #[.string s] w fun e w' => e = .returned (.tuple #[.string (dgX s), .int .i64 (dgE s)]) ∧ Below w.heap.size w w' := by
  unfold dgX dgE
  by_cases h : s.size = 32
  · rw [if_pos h, if_pos h]
    have e := str_is s
    rw [h] at e
    have k := digits_any (bOf s) w (bOf_lt s)
    rw [← e] at k
    exact k
  · rw [if_neg h, if_neg h]
    exact (digits_bad s w h hm).mono fun e w' ⟨h1, h2⟩ => ⟨h1, by rw [← h2]; exact Below.refl _ _⟩
/-- the count of bytes that 'Open' answers, and its error -/
noncomputable def opN (n : Nat) (X : Nat → Nat) : Nat := open Classical in if 32 ≤ n ∧ sealed n X then n - 32 else 0
noncomputable def opE (n : Nat) (X : Nat → Nat) : Int := open Classical in if 32 ≤ n ∧ sealed n X then 0 else 2
theorem strB_none (X : Nat → Nat) : (⟨#[]⟩ : ByteArray) = strB 0 X := rfl
theorem docOpen_gen (n : Nat) (X : Nat → Nat) (w : World) (hX : ∀ j, X j < 256) (hn : n ≤ 100000) : Calls Tryd.prog 15 #[.string (strB n X)] w fun e w' => e = .returned (.tuple #[.string (strB (opN n X) X), .int .i64 (opE n X)]) ∧ Below w.heap.size w w' := by
  unfold opN opE
  by_cases h : 32 ≤ n
  · by_cases k : sealed n X
    · rw [if_pos ⟨h, k⟩, if_pos ⟨h, k⟩]
      exact docOpen_yes n X w hX hn h k
    · rw [if_neg (fun q => k q.2), if_neg (fun q => k q.2)]
      exact docOpen_no n X w hX hn h k
  · rw [if_neg (fun q => h q.1), if_neg (fun q => h q.1)]
    exact docOpen_short n X w hX hn (by omega)
theorem open_gen8 (A : Option Addr) (n c B : Nat) (X : Nat → Nat) (w : World) (hx : RdB w B A n X) (hX : ∀ j, X j < 256) (hB : B ≤ w.heap.size) (hnc : n ≤ c) (hcm : c ≤ maxLen) (hn : n ≤ 1099511627776) (hl : Laid w) :
    Calls Tryd.prog 16 #[.slice A n c] w fun e w' => (∃ v, e = .returned (.tuple #[v, .int .i64 (opE n X)]) ∧ Own8 w' w.heap.size v (opN n X) X) ∧ Below w.heap.size w w' := by
  unfold opN opE
  by_cases h : 32 ≤ n
  · by_cases k : sealed n X
    · rw [if_pos ⟨h, k⟩, if_pos ⟨h, k⟩]
      exact open_yes A n c B X w hx hX hB hnc hcm hn hl h k
    · rw [if_neg (fun q => k q.2), if_neg (fun q => k q.2)]
      exact (open_no A n c B X w hx hX hB hnc hcm hn hl h k).mono fun e w' ⟨h1, h2⟩ => ⟨⟨_, h1, Own8.nil _ _ _⟩, h2⟩
  · rw [if_neg (fun q => h q.1), if_neg (fun q => h q.1)]
    exact (open_short A n c w (by omega)).mono fun e w' ⟨h1, h2⟩ => ⟨⟨_, h1, Own8.nil _ _ _⟩, h2⟩
theorem sealed_cat (n : Nat) (X : Nat → Nat) : sealed (n + 32) (cat n X (M.sum n X)) := fun j hj => by
  rw [show n + 32 - 32 = n by omega]
  have e : M.sum n (cat n X (M.sum n X)) j = M.sum n X j := M.sum_congr (fun i hi => by unfold cat; rw [if_pos hi]) j
  rw [e]
  unfold cat
  rw [if_neg (by omega), show n + j - n = j by omega]
theorem opN_cat (n : Nat) (X : Nat → Nat) : opN (n + 32) (cat n X (M.sum n X)) = n := by
  unfold opN
  rw [if_pos ⟨by omega, sealed_cat n X⟩]
  omega
theorem opE_cat (n : Nat) (X : Nat → Nat) : opE (n + 32) (cat n X (M.sum n X)) = 0 := by
  unfold opE
  rw [if_pos ⟨by omega, sealed_cat n X⟩]
theorem eq_str_t (a b : ByteArray) (h : a = b) (w : World) : (binOp .eql 9 (.string a) (.string b)).run Tryd.prog w = .ok (.bool true) w := by
  subst h
  have k : (binOp .eql 9 (.string a) (.string a)).run Tryd.prog w = .ok (.bool (a.toList == a.toList)) w := by kernel_rfl
  rw [k, beq_self_eq_true]
theorem eq_str_e (a b : ByteArray) (q : Bool) (h : q = (a.toList == b.toList)) (w : World) : (binOp .eql 9 (.string a) (.string b)).run Tryd.prog w = .ok (.bool q) w := by
  rw [h]
  kernel_rfl
theorem neq_str_s (a b : ByteArray) (h : a = b) (w : World) : (binOp .neq 9 (.string a) (.string b)).run Tryd.prog w = .ok (.bool false) w := neq_str_f a b (by rw [h]; exact beq_self_eq_true _) w
theorem neq_bool_same (b : Bool) (w : World) : (binOp .neq 4 (.bool b) (.bool b)).run Tryd.prog w = .ok (.bool false) w := by cases b <;> kernel_rfl
theorem eq_bool_same (b : Bool) (w : World) : (binOp .eql 4 (.bool b) (.bool b)).run Tryd.prog w = .ok (.bool true) w := by cases b <;> kernel_rfl
theorem eqG_bool (op : BinOp) (t : TypeId) (x y : Operand) (i j : Bool) (P : Program) (w : World) : (eqGuard op t x y (.bool i) (.bool j)).run P w = .ok () w := by
  unfold eqGuard
  cases op <;> rfl
theorem index_bytes0S (g n c i : Nat) (h : i < n) (w : World) : (Instr.indexAt 22 (.slice (some ⟨g, 0, none⟩) n c) (.int .i64 (i : Int))).run Tryd.prog w = .ok (.pointer (some ⟨g, i, none⟩)) w := by
  have k := index_slice (P := Tryd.prog) (t := 22) (e := 5) Tryd.underlying22 size_u8 g 0 n c i h w
  rw [Nat.zero_add] at k
  exact k
theorem quo_i64S (m : Nat) (hm : m ≤ 9223372036854775807) (w : World) : (binOp .quo 3 (.int .i64 (m : Int)) (.int .i64 8)).run Tryd.prog w = .ok (.int .i64 ((m / 8 : Nat) : Int)) w := by
  have h2 : (m : Int).tdiv 8 = ((m / 8 : Nat) : Int) := by rw [Int.tdiv_eq_ediv_of_nonneg (by omega)]; omega
  have h3 : IntKind.i64.wrap ((m / 8 : Nat) : Int) = ((m / 8 : Nat) : Int) := by rw [IntKind.wrap_i64]; omega
  have h5 : (binOp .quo 3 (.int .i64 (m : Int)) (.int .i64 8)).run Tryd.prog w = .ok (.int .i64 (IntKind.i64.wrap ((m : Int).tdiv 8))) w := by kernel_rfl
  rw [h5, h2, h3]
theorem rem_i64S (m : Nat) (w : World) : (binOp .rem 3 (.int .i64 (m : Int)) (.int .i64 8)).run Tryd.prog w = .ok (.int .i64 ((m % 8 : Nat) : Int)) w := by
  have h2 : (m : Int).tmod 8 = ((m % 8 : Nat) : Int) := by rw [Int.tmod_eq_emod_of_nonneg (by omega)]; omega
  have h5 : (binOp .rem 3 (.int .i64 (m : Int)) (.int .i64 8)).run Tryd.prog w = .ok (.int .i64 ((m : Int).tmod 8)) w := by kernel_rfl
  rw [h5, h2]
theorem shl_u8S (r : Nat) (hr : r < 8) (w : World) : (binOp .shl 5 (.int .u8 1) (.int .i64 (r : Int))).run Tryd.prog w = .ok (.int .u8 ((2 ^ r : Nat) : Int)) w := by
  rcases r with _ | _ | _ | _ | _ | _ | _ | _ | r
  all_goals first | (exfalso; omega) | kernel_rfl
theorem u8_xor_bytesS (a b : Nat) (ha : a < 256) (hb : b < 256) : bits .xor .u8 (a : Int) (b : Int) = ((a ^^^ b : Nat) : Int) ∧ a ^^^ b < 256 := by
  have hx : a ^^^ b < 256 := Nat.xor_lt_two_pow (n := 8) ha hb
  refine ⟨?_, hx⟩
  show IntKind.u8.wrap ((BitVec.ofInt 8 (a : Int) ^^^ BitVec.ofInt 8 (b : Int)).toNat : Int) = _
  rw [BitVec.toNat_xor, BitVec.ofInt_natCast, BitVec.ofInt_natCast, BitVec.toNat_ofNat, BitVec.toNat_ofNat, Nat.mod_eq_of_lt (by omega), Nat.mod_eq_of_lt (by omega), IntKind.wrap_u8]
  omega
theorem xor_u8S (w : World) (a b : Nat) (ha : a < 256) (hb : b < 256) : (binOp .xor 5 (.int .u8 (a : Int)) (.int .u8 (b : Int))).run Tryd.prog w = .ok (.int .u8 ((a ^^^ b : Nat) : Int)) w := by
  obtain ⟨h2, h1⟩ := u8_xor_bytesS a b ha hb
  have k : (binOp .xor 5 (.int .u8 (a : Int)) (.int .u8 (b : Int))).run Tryd.prog w = .ok (.int .u8 (bits .xor .u8 (a : Int) (b : Int))) w := by kernel_rfl
  rw [k, h2]
theorem exec_build0S {P : Program} {w w' : World} {o : Oper} {a : Act} {ty : TypeId} {v : Value} (ho : o.op = .buildSlice ty 0 #[]) (hl : (Instr.buildSlice ty 0 #[]).run P w = .ok v w') : (execOp a.eval o).run P w = .ok (.value v) w' := by
  unfold execOp
  simp only [ho, List.map_toArray, List.map_nil, hl, Sem.run_bind, Sem.run_pure, Result.andThen_ok]
theorem bs_bytes0S (w : World) : (Instr.buildSlice 22 0 #[]).run Tryd.prog w = .ok (.slice (some ⟨w.heap.size, 0, none⟩) 0 0) (w.alloc (.cells #[] 5)) := by kernel_rfl
theorem own_empty8 {w : World} {base : Nat} (hb : base ≤ w.heap.size) : Own8 (w.alloc (.cells #[] 5)) base (.slice (some ⟨w.heap.size, 0, none⟩) 0 0) 0 (fun _ => 0) :=
  .inr ⟨w.heap.size, 0, #[], (0, 0), rfl, hb, Blk.new w _ _, .inl (Nat.le_refl _), Nat.le_refl _, by simp [maxLen], rfl, fun j hj => absurd hj (by omega)⟩
theorem own_cat0 {w : World} {base n : Nat} {v : Value} {F Y : Nat → Nat} (h : Own8 w base v (0 + n) (cat 0 F Y)) : Own8 w base v n Y := by
  rw [Nat.zero_add] at h
  exact h.congr fun j hj => by unfold cat; rw [if_neg (Nat.not_lt_zero _)]; rfl
theorem rdb_oneS (w : World) (u : Nat) (hu : u < 256) : RdB (w.alloc (.cells #[.int .u8 ((u : Nat) : Int)] 5)) (w.heap.size + 1) (some ⟨w.heap.size, 0, none⟩) 1 (fun _ => u) := fun i hi => by
  obtain rfl : i = 0 := by omega
  refine ⟨w.heap.size, 0, rfl, by omega, ?_, hu⟩
  rw [Nat.zero_add, (Blk.new w _ _).cell]
  rfl
theorem eq_str_b (a b : ByteArray) (w : World) : (binOp .eql 9 (.string a) (.string b)).run Tryd.prog w = .ok (.bool (a.toList == b.toList)) w := by kernel_rfl
theorem eq_err_t (a : Int) (w : World) : (binOp .eql 24 (.int .i64 a) (.int .i64 a)).run Tryd.prog w = .ok (.bool true) w := by
  have k : (binOp .eql 24 (.int .i64 a) (.int .i64 a)).run Tryd.prog w = .ok (.bool (a == a)) w := by kernel_rfl
  rw [k, beq_self_eq_true]
theorem conv_own {w : World} {base n : Nat} {v : Value} {X : Nat → Nat} (h : Own8 w base v n X) (hX : ∀ j, X j < 256) : (convert 22 9 v).run Tryd.prog w = .ok (.string (strB n X)) w := by
  obtain ⟨A, c, rfl, hr, _⟩ := h.shape fun j _ => hX j
  exact conv_rd hr
theorem strB_app (n m : Nat) (X Y : Nat → Nat) : strB n X ++ strB m Y = strB (n + m) (cat n X Y) := by
  apply ByteArray.ext
  apply Array.toList_inj.1
  rw [ByteArray.data_append, Array.toList_append, strB_data, strB_data, strB_data]
  apply List.ext_getElem?
  intro j
  by_cases h : j < n
  · rw [List.getElem?_append_left (by simp; exact h), List.getElem?_map, List.getElem?_map, List.getElem?_range h, List.getElem?_range (by omega)]
    simp [cat, h]
  · rw [List.getElem?_append_right (by simp; omega)]
    simp only [List.length_map, List.length_range]
    by_cases h2 : j < n + m
    · rw [List.getElem?_map, List.getElem?_map, List.getElem?_range (by omega), List.getElem?_range h2]
      simp [cat, h]
    · rw [List.getElem?_eq_none (by simp; omega), List.getElem?_eq_none (by simp; omega)]
theorem add_str (n m : Nat) (X Y : Nat → Nat) (hnm : n + m ≤ 9223372036854775807) (w : World) : (binOp .add 9 (.string (strB n X)) (.string (strB m Y))).run Tryd.prog w = .ok (.string (strB (n + m) (cat n X Y))) w := by
  have k : strB n X ++ strB m Y = strB (n + m) (cat n X Y) := strB_app n m X Y
  have s1 := strB_size n X
  have s2 := strB_size m Y
  simp [binOp, Op.stringOp, k, s1, s2]
  omega
end Go.Proofs.YtbgfmlfpohehnaaDoor
