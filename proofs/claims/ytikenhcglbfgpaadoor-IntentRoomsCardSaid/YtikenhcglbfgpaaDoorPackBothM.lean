/-
  More steps of a region that draws its order: parts of slices, bytes of texts, lengths. No conditions beyond those that each theorem types.
-/
import Derived.Test.YtikenhcglbfgpaaDoorDrawMoreM
import Derived.Test.YtikenhcglbfgpaaDoorTakeTailM
namespace Go.Proofs.YtikenhcglbfgpaaDoor
open Go Go.RowKit
set_option maxRecDepth 100000
set_option linter.unusedVariables false
section
variable {P : Program} {a : Act}
theorem exec_slice {o : Oper} {t : TypeId} {x : Operand} {lo hi mx : Option Operand} {lo' hi' mx' : Option Value} {u v : Value} (w : World) (e : o.op = .slice t x lo hi mx) (hx : a.eval x = u) (hlo : lo.map a.eval = lo') (hhi : hi.map a.eval = hi') (hmx : mx.map a.eval = mx') (hf : (Instr.sliceAt t u lo' hi' mx').run P w = .ok v w) : (execOp a.eval o).run P w = .ok (.value v) w := by
  subst hlo hhi hmx
  unfold execOp; simp only [e, hx, hf, Sem.run_bind, Sem.run_pure, Result.andThen_ok]
theorem exec_at {o : Oper} {t : TypeId} {x y : Operand} {u1 u2 v : Value} (w : World) (e : o.op = .index t x y) (hx : a.eval x = u1) (hy : a.eval y = u2) (hf : (Instr.index t u1 u2).run P w = .ok v w) : (execOp a.eval o).run P w = .ok (.value v) w := by
  unfold execOp; simp only [e, hx, hy, hf, Sem.run_bind, Sem.run_pure, Result.andThen_ok]
theorem exec_len {o : Oper} {x : Operand} {t : TypeId} {u v : Value} (w : World) (e : o.op = .call { callee := .builtin .len, args := #[x], argTypes := #[t] }) (hx : a.eval x = u) (hf : (Builtin.len_ #[t] o.type #[u]).run P w = .ok v w) : (execOp a.eval o).run P w = .ok (.value v) w := by
  unfold execOp; simp [e, hx, hf, resolve, invoke, builtin, Sem.run_bind, Sem.run_pure, Result.andThen_ok]
theorem exec_un {o : Oper} {op : UnOp} {t : TypeId} {x : Operand} {u v : Value} (w : World) (e : o.op = .unOp op t x) (hx : a.eval x = u) (hf : (Op.unary op u).run P w = .ok v w) : (execOp a.eval o).run P w = .ok (.value v) w := by
  unfold execOp; simp only [e, hx, hf, Sem.run_bind, Sem.run_pure, Result.andThen_ok]
end
end Go.Proofs.YtikenhcglbfgpaaDoor
namespace Go.Proofs.YtikenhcglbfgpaaDoor
set_option maxRecDepth 100000
open Go Go.RowKit
set_option linter.unusedVariables false

theorem wp_append_rd {w : World} {o : Oper} {a : Act} {K : Act → World → Prop} {Q : Exit → Act → World → Prop} (s x : Operand)
    (ho : o.op = .call { callee := .builtin .append, args := #[s, x], argTypes := #[38, 38] }) {base n B m c : Nat} {v : Value} {A : Option Addr} {X Y : Nat → Nat} (hs : a.eval s = v) (hx : a.eval x = .slice A m c)
    (hown : Own8 w base v n X) (hy : RdB w B A m Y) (h0 : A = none → c = 0) (hmc : m ≤ c) (hl : n + m ≤ 70368744177664) (hb : base ≤ w.heap.size)
    (h : ∀ v' w', Own8 w' base v' (n + m) (cat n X Y) → w.grownBy w' v.ownBlock → K (a.put o.dst v') w') : o.wp Tryd.prog a w K Q := by
  obtain ⟨v', w', hrun, h1, h2, h3⟩ := run_append_rd o.type hown hy h0 hmc hl hb
  unfold Oper.wp execOp
  simp only [ho, resolve, invoke, builtin, Sem.run_bind, Sem.run_pure, Result.andThen_ok, List.map_toArray, List.map_cons, List.map_nil, hs, hx, hrun]
  exact h v' w' h1 h2
theorem wp_append_str {w : World} {o : Oper} {a : Act} {Kk : Act → World → Prop} {Q : Exit → Act → World → Prop} (s x : Operand)
    (ho : o.op = .call { callee := .builtin .append, args := #[s, x], argTypes := #[38, 9] }) {base : Nat} {v : Value} {L : List Nat} {t : ByteArray} (hs : a.eval s = v) (hx : a.eval x = .string t)
    (hown : OwnL w base v L) (hl : L.length + t.size ≤ 70368744177664) (hb : base ≤ w.heap.size)
    (h : ∀ v' w', OwnL w' base v' (L ++ K.sb t) → w.grownBy w' v.ownBlock → Kk (a.put o.dst v') w') : o.wp Tryd.prog a w Kk Q := by
  have hx2 : a.eval x = .string (strB t.size (lst (K.sb t))) := by rw [str_is]; exact hx
  obtain ⟨v', w', hrun, h1, h2⟩ := run_append_txt o.type hown (fun j _ => lst_lt (K.sb_lt t) j) hl hb
  unfold Oper.wp execOp
  simp only [ho, resolve, invoke, builtin, Sem.run_bind, Sem.run_pure, Result.andThen_ok, List.map_toArray, List.map_cons, List.map_nil, hs, hx2, hrun]
  refine h v' w' (OwnL.app ?_) h2
  rw [K.sb_length]
  exact h1
end Go.Proofs.YtikenhcglbfgpaaDoor
namespace Go.Proofs.YtikenhcglbfgpaaDoor
open Go Go.RowKit
set_option linter.unusedVariables false

theorem size_item : ∀ w, (sizeOf 81).run Tryd.prog w = .ok 3 w := by
  intro w
  obtain ⟨i0, hi, _, hz1, _⟩ := info_parts3 info_item
  unfold sizeOf typeInfo
  simp [Sem.run_bind, hi, hz1]
theorem index_item (b o n c i : Nat) (hlt : i < n) (w : World) : (Instr.indexAt 84 (.slice (some ⟨b, o, none⟩) n c) (.int .i64 (i : Int))).run Tryd.prog w = .ok (.pointer (some ⟨b, o + i * 3, none⟩)) w := by
  have h1 : (i : Int) < (n : Int) := by omega
  simp [Instr.indexAt, run_underlying Tryd.underlying84, asIntOf, Sem.run_bind, h1, hlt, size_item, add_plain]
theorem field_item1 (b o : Nat) (w : World) : (Instr.fieldAt 81 (.pointer (some ⟨b, o, none⟩)) 1).run Tryd.prog w = .ok (.pointer (some ⟨b, o + 1, none⟩)) w := by kernel_rfl
theorem field_item2 (b o : Nat) (w : World) : (Instr.fieldAt 81 (.pointer (some ⟨b, o, none⟩)) 2).run Tryd.prog w = .ok (.pointer (some ⟨b, o + 2, none⟩)) w := by kernel_rfl
theorem bs_byte (x : Int) (w : World) : (Instr.buildSlice 38 1 #[(0, .int .u8 x)]).run Tryd.prog w = .ok (.slice (some ⟨w.heap.size, 0, none⟩) 1 1) (w.alloc (.cells #[.int .u8 x] 5)) := by kernel_rfl
theorem len_str (s : ByteArray) (w : World) (ty : TypeId) : (Builtin.len_ #[9] ty #[.string s]).run Tryd.prog w = .ok (.int .i64 (s.size : Int)) w := by
  simp [Builtin.len_, Builtin.lenOf, goInt]
theorem conv_size (n : Nat) (h : n ≤ 4000) (w : World) : (convert 3 24 (.int .i64 (n : Int))).run Tryd.prog w = .ok (.int .u64 (n : Int)) w := by
  have hw : IntKind.u64.wrap (n : Int) = (n : Int) := wraps_u64 _ (by omega) (by omega)
  simp [convert, run_underlying Tryd.underlying3, run_underlying Tryd.underlying24, go_sem, hw]
end Go.Proofs.YtikenhcglbfgpaaDoor
namespace Go.Proofs.YtikenhcglbfgpaaDoor
open Go Go.RowKit
set_option linter.unusedVariables false

theorem flt_mem_big : ∀ (r : Int) (l : List K.It) (x : K.It), x ∈ l → K.big x = true → K.flt r l = 14
  | r, [], x, h, _ => by simp at h
  | r, y :: l, x, h, hb => by
    unfold K.flt
    by_cases hy : K.big y = true
    · rw [if_pos hy]
    · rw [if_neg hy]
      rcases List.mem_cons.1 h with rfl | h
      · exact absurd hb hy
      · exact flt_mem_big _ l x h hb
theorem flt_two_eq : ∀ (l : List K.It), (∀ x ∈ l, K.big x = false) → K.flt 2 l = 2
  | [], _ => rfl
  | y :: l, h => by
    unfold K.flt
    rw [if_neg (by rw [h y (by simp)]; simp)]
    have := flt_two_eq l fun x hx => h x (by simp [hx])
    split <;> exact this
theorem flt_unformed : ∀ (l : List K.It), (∀ x ∈ l, K.big x = false) → (∃ x ∈ l, K.formed x = false) → K.flt 0 l = 2
  | [], _, h => by obtain ⟨x, hx, _⟩ := h; simp at hx
  | y :: l, h, ⟨x, hx, hf⟩ => by
    unfold K.flt
    rw [if_neg (by rw [h y (by simp)]; simp)]
    have hl : ∀ z ∈ l, K.big z = false := fun z hz => h z (by simp [hz])
    by_cases hy : K.formed y = true
    · rw [if_pos hy]
      rcases List.mem_cons.1 hx with rfl | hx
      · rw [hy] at hf; cases hf
      · exact flt_unformed l hl ⟨x, hx, hf⟩
    · rw [if_neg hy]
      exact flt_two_eq l hl

end Go.Proofs.YtikenhcglbfgpaaDoor
namespace Go.Proofs.YtikenhcglbfgpaaDoor
open Go Go.RowKit
set_option linter.unusedVariables false

theorem sb_extract (s : ByteArray) (i j : Nat) (hij : i ≤ j) (h : j ≤ s.size) : s.extract i j = K.txt (((K.sb s).take j).drop i) := by
  apply K.sb_inj
  rw [K.sb_txt (fun x hx => K.sb_lt s x (List.mem_of_mem_take (List.mem_of_mem_drop hx)))]
  unfold K.sb
  rw [ByteArray.data_extract, Array.toList_extract]
  simp [List.map_drop, List.map_take, List.extract_eq_take_drop]
  rw [List.take_drop, show i + (j - i) = j by omega]
theorem index_sb (s : ByteArray) (k x : Nat) (h : (K.sb s)[k]? = some x) (W : World) : (Instr.index 9 (.string s) (.int .i64 (k : Int))).run Tryd.prog W = .ok (.int .u8 (x : Int)) W := by
  have hk : k < s.size := by have := (List.getElem?_eq_some_iff.1 h).1; rw [K.sb_length] at this; exact this
  have hx : (s[k]'hk).toNat = x := by
    unfold K.sb at h
    rw [List.getElem?_map] at h
    have h2 : s.data.toList[k]? = some (s[k]'hk) := by
      rw [Array.getElem?_toList]
      exact Array.getElem?_eq_getElem hk
    rw [h2] at h
    simpa using h
  simp [Instr.index, run_underlying Tryd.underlying9, asIntOf, Sem.run_bind, hk, hx]
theorem slice_strFrom (s : ByteArray) (k : Nat) (L : Int) (hL : L = (k : Int)) (h : k ≤ s.size) (W : World) : (Instr.sliceAt 9 (.string s) (some (.int .i64 L)) none none).run Tryd.prog W = .ok (.string (K.txt ((K.sb s).drop k))) W := by
  subst hL
  have e := sb_extract s k s.size h (Nat.le_refl _)
  rw [List.take_of_length_le (by rw [K.sb_length]; exact Nat.le_refl _)] at e
  rw [← e, run_sliceAt_string (P := Tryd.prog) (w := W) (h := Tryd.underlying9)]
  simp [go_sem]
  intro h2
  omega
theorem slice_strFromU (s : ByteArray) (k : Nat) (h : k ≤ s.size) (W : World) : (Instr.sliceAt 9 (.string s) (some (.int .u64 (k : Int))) none none).run Tryd.prog W = .ok (.string (K.txt ((K.sb s).drop k))) W := by
  have e := sb_extract s k s.size h (Nat.le_refl _)
  rw [List.take_of_length_le (by rw [K.sb_length]; exact Nat.le_refl _)] at e
  rw [← e, run_sliceAt_string (P := Tryd.prog) (w := W) (h := Tryd.underlying9)]
  simp [go_sem]
  intro h2
  omega
theorem slice_strToU (s : ByteArray) (k : Nat) (h : k ≤ s.size) (W : World) : (Instr.sliceAt 9 (.string s) none (some (.int .u64 (k : Int))) none).run Tryd.prog W = .ok (.string (K.txt ((K.sb s).take k))) W := by
  have e := sb_extract s 0 k (Nat.zero_le _) h
  rw [List.drop_zero] at e
  rw [← e, run_sliceAt_string (P := Tryd.prog) (w := W) (h := Tryd.underlying9)]
  simp [go_sem]
  intro h2
  omega
/-- what number answers -/
def NumOut (L : List Nat) (e : Ending) : Prop :=
  (K.tk 0 0 L = none ∧ e = .returned (.tuple #[.int .u64 0, .string ⟨#[]⟩, .bool false])) ∨
  ∃ v k, K.tk 0 0 L = some (v, L.drop k) ∧ v < 18446744073709551616 ∧ 0 < k ∧ k ≤ L.length ∧ e = .returned (.tuple #[.int .u64 v, .string (K.txt (L.drop k)), .bool true])
end Go.Proofs.YtikenhcglbfgpaaDoor
namespace Go.Proofs.YtikenhcglbfgpaaDoor
open Go Go.RowKit
set_option linter.unusedVariables false

theorem str_full {s : ByteArray} {b0 : Nat} {r : List Nat} (hs : K.sb s = b0 :: r) : s.toList ≠ [] ∧ s.toList.isEmpty = false ∧ (!s.toList.isEmpty) = true := by
  have h : s.toList ≠ [] := by
    intro e
    have h2 : s.data.toList = [] := by rw [← ByteArray.toList_eq]; exact e
    unfold K.sb at hs
    rw [h2] at hs
    cases hs
  exact ⟨h, by simpa using h, by simpa using h⟩
theorem below_drew2 {b : Nat} {w w' : World} (h : Below b w w') (n : Nat) : Below b w (w'.drewN n) := ⟨h.os, h.tape, h.output, h.size, h.block⟩
end Go.Proofs.YtikenhcglbfgpaaDoor
namespace Go.Proofs.YtikenhcglbfgpaaDoor
set_option maxRecDepth 100000
open Go Go.RowKit
set_option linter.unusedVariables false

theorem bytes_eq {a b : ByteArray} (h : a.toList = b.toList) : a = b := by
  obtain ⟨a⟩ := a
  obtain ⟨b⟩ := b
  rw [ByteArray.toList_eq, ByteArray.toList_eq] at h
  congr 1
  exact Array.toList_inj.1 h
theorem neq_same (x : K.It) (W : World) : (binOp .neq 81 (.agg (itA x)) (.agg (itA x))).run Tryd.prog W = .ok (.bool false) W := by
  unfold itA
  simp [go_sem, run_neq_struct]
theorem neq_diff (x y : K.It) (h : x ≠ y) (W : World) : (binOp .neq 81 (.agg (itA x)) (.agg (itA y))).run Tryd.prog W = .ok (.bool true) W := by
  obtain ⟨xk, xn, xs⟩ := x
  obtain ⟨yk, yn, ys⟩ := y
  unfold itA
  dsimp only
  by_cases h1 : xk = yk
  · subst h1
    by_cases h2 : xn = yn
    · subst h2
      have h3 : xs.toList ≠ ys.toList := fun e => h (by rw [bytes_eq e])
      simp [go_sem, run_neq_struct, h3]
    · simp [go_sem, run_neq_struct, h2]
  · simp [go_sem, run_neq_struct, h1]
theorem guard_item (op : BinOp) (x y : Operand) (a b : Array Value) (W : World) : (eqGuard op 81 x y (.agg a) (.agg b)).run Tryd.prog W = .ok () W := run_eqGuard_agg (P := Tryd.prog) W op _ x y a b (by kernel_rfl)
/-- what Same answers -/
def SameOut (l m : List K.It) (e : Ending) : Prop := (l = m ∧ e = .returned (.bool true)) ∨ (l ≠ m ∧ e = .returned (.bool false))
theorem load_itemN {w : World} {b o : Nat} {x : K.It} (h0 : w.cell? ⟨b, o, none⟩ = some (.int .i64 x.k)) (h1 : w.cell? ⟨b, o + 1, none⟩ = some (.int .i64 x.n)) (h2 : w.cell? ⟨b, o + 2, none⟩ = some (.string x.s)) (n : Nat) :
    (Instr.loadAt 81 (.pointer (some ⟨b, o, none⟩))).run Tryd.prog (w.drewN n) = .ok (.agg (itA x)) (w.drewN n) := load_item (w := w.drewN n) h0 h1 h2

end Go.Proofs.YtikenhcglbfgpaaDoor
namespace Go.Proofs.YtikenhcglbfgpaaDoor
set_option maxRecDepth 100000
open Go Go.RowKit
set_option linter.unusedVariables false

def outS (l : List K.It) : ByteArray := if K.fault l = 0 then K.txt (K.encs l) else ⟨#[]⟩
def outL (L : List Nat) : List K.It := (K.decs 2000 L).getD []
def outE (L : List Nat) : Int := if (K.decs 2000 L).isSome then 0 else 2
theorem encode_sh (A : Option Addr) (l : List K.It) (c B : Nat) (w : World) (hx : RdT w B A l) (hB : B ≤ w.heap.size) (hg : ∀ x ∈ l, Good x) (hlc : l.length ≤ c) (hcm : c ≤ maxLen) :
    Calls Tryd.prog 39 #[.slice A l.length c] w fun e w' => ∃ A' n' c', e = .returned (.tuple #[.slice A' n' c', .int .i64 (K.fault l)]) ∧ (∀ W, Below w'.heap.size w' W → (convert 38 9 (.slice A' n' c')).run Tryd.prog W = .ok (.string (outS l)) W) ∧ Below w.heap.size w w' := by
  unfold outS
  by_cases hf : K.fault l = 0
  · rw [if_pos hf, hf]
    refine (encode_ok A l c B w hx hB hg hlc hcm hf).mono ?_
    rintro e w' ⟨v, rfl, ho, hl⟩
    obtain ⟨A', c', rfl, hr, _, _, _, _⟩ := ho.shape (K.encs_lt _)
    exact ⟨A', _, c', rfl, fun W hW => conv_lst (hr.below hW (Nat.le_refl _)), hl⟩
  · rw [if_neg hf]
    refine (encode_bad A l c B w hx hB hg hlc hcm hf).mono ?_
    rintro e w' ⟨rfl, hl⟩
    exact ⟨none, 0, 0, rfl, fun W _ => conv_zero W none 0, hl⟩
theorem DecOut.sh {L : List Nat} {base : Nat} {e : Ending} {w' : World} (h : DecOut L base e w') : ∃ A c, e = .returned (.tuple #[.slice A (outL L).length c, .int .i64 (outE L)]) ∧ RdT w' w'.heap.size A (outL L) ∧ (outL L).length ≤ c ∧ c ≤ maxLen := by
  unfold outL outE
  rcases h with ⟨h, rfl⟩ | ⟨l, v, h, rfl, ho⟩
  · rw [h]
    exact ⟨none, 0, rfl, fun j x hj => by simp at hj, by simp, by unfold maxLen; omega⟩
  · rw [h]
    obtain ⟨A, c, rfl, hlc, hcm, hr, _, _⟩ := ho.shape
    exact ⟨A, c, rfl, hr, hlc, hcm⟩
end Go.Proofs.YtikenhcglbfgpaaDoor
