/-
  More steps of a region that draws its order: parts of slices, bytes of texts, lengths. No conditions beyond those that each theorem types.
-/
import Derived.Test.YtpbojhjbjnoihaaDrawMore
import Derived.Test.YtpbojhjbjnoihaaSpcEnd
namespace Go.Proofs.Ytpbojhjbjnoihaa
open Go Go.RowKit
set_option maxRecDepth 100000
set_option linter.unusedVariables false
section
variable {P : Program} {a : Act}
theorem exec_slice {o : Oper} {t : TypeId} {x : Operand} {lo hi mx : Option Operand} {lo' hi' mx' : Option Value} {u v : Value} (w : World) (e : o.op = .slice t x lo hi mx) (hx : a.eval x = u) (hlo : lo.map a.eval = lo') (hhi : hi.map a.eval = hi') (hmx : mx.map a.eval = mx') (hf : (Instr.sliceAt t u lo' hi' mx').run P w = .ok v w) : (execOp a.eval o).run P w = .ok (.value v) w := by
  subst hlo hhi hmx
  unfold execOp; simp only [e, hx, hf, Sem.run_bind, Sem.run_pure, Result.andThen_ok]
theorem exec_at {o : Oper} {t : TypeId} {x y : Operand} {u1 u2 v : Value} (w : World) (e : o.op = .index t x y) (hx : a.eval x = u1) (hy : a.eval y = u2) (hf : (Instr.index t u1 u2).run P w = .ok v w) : (execOp a.eval o).run P w = .ok (.value v) w := by
  unfold execOp; simp only [e, hx, hy, hf, Sem.run_bind, Sem.run_pure, Result.andThen_ok]
theorem exec_len {o : Oper} {x : Operand} {t : TypeId} {u v : Value} (w : World) (e : o.op = .call { callee := .builtin .len, args := #[x], argTypes := #[t] }) (hx : a.eval x = u) (hf : (Builtin.len_ #[t] o.type #[u]).run P w = .ok v w) : (execOp a.eval o).run P w = .ok (.value v) w := by
  unfold execOp; simp [e, hx, hf, resolve, invoke, builtin, Sem.run_bind, Sem.run_pure, Result.andThen_ok]
theorem exec_un {o : Oper} {op : UnOp} {t : TypeId} {x : Operand} {u v : Value} (w : World) (e : o.op = .unOp op t x) (hx : a.eval x = u) (hf : (Op.unary op u).run P w = .ok v w) : (execOp a.eval o).run P w = .ok (.value v) w := by
  unfold execOp; simp only [e, hx, hf, Sem.run_bind, Sem.run_pure, Result.andThen_ok]
end
end Go.Proofs.Ytpbojhjbjnoihaa
namespace Go.Proofs.Ytpbojhjbjnoihaa
open Go Go.RowKit
set_option maxRecDepth 100000
set_option linter.unusedVariables false
namespace Sp
theorem Rd.below {w w' : World} {A : Option Addr} {l : List Rg} (h : Rd w A l) (hb : Below w.heap.size w w') : Rd w' A l := by
  rcases h with e | ⟨b, o, e, h1, h2⟩
  · exact .inl e
  · exact .inr ⟨b, o, e, Nat.lt_of_lt_of_le h1 hb.size, fun j v hj => (hb.cell (p := ⟨b, o + j, none⟩) h1).trans (h2 j v hj)⟩
theorem size_rg (w : World) (a b : Nat) (ha : a ≤ 1000000) (hb : b ≤ 1000000) :
    Calls Try.prog 42 #[.agg #[.int .i64 (a : Int), .int .i64 (b : Int)]] w fun e w' => e = .returned (.int .i64 ((b : Int) - (a : Int))) ∧ Below w.heap.size w w' := by
  have L1 : Hid (Below w.heap.size w (w.alloc (.cells #[.int .i64 (a : Int), .int .i64 (b : Int)] 34))) := Lib.hid ((Below.refl _ _).alloc (Nat.le_refl _) _)
  go_enter Try.func42, Try.ntmps42
  go_wp2_with fail
  go_ret
  exact ⟨rfl, L1.out⟩
set_option maxHeartbeats 800000 in
theorem ending_rg (w : World) (A : Option Addr) (l : List Rg) (c x : Nat) (cnt : Int) (h : Rd w A l) (hn : l.length ≤ 100000) {lo0 : Nat} (hr : Ris lo0 l) :
    Calls Try.prog 46 #[.agg #[.slice A l.length c, .int .i64 cnt], .int .i64 (x : Int)] w fun e w' => e = .returned (.int .i64 (pos x l : Int)) ∧ Below w.heap.size w w' := by
  obtain ⟨W, hW⟩ : ∃ W, W = (w.alloc (.cells #[.slice A l.length c, .int .i64 cnt] 60)).alloc (.cells #[.int .i64 (x : Int)] 3) := ⟨_, rfl⟩
  have hs1 : (w.alloc (.cells #[.slice A l.length c, .int .i64 cnt] 60)).heap.size = w.heap.size + 1 := by simp
  have hb : Below w.heap.size w W := by rw [hW]; exact ((Below.refl _ _).alloc (Nat.le_refl _) _).alloc (by simp) _
  have X2 : Blk W w.heap.size 60 #[.slice A l.length c, .int .i64 cnt] := by rw [hW]; exact (Blk.new _ _ _).alloc _
  have X3 : Blk W (w.heap.size + 1) 3 #[.int .i64 (x : Int)] := by
    have h := Blk.new (w.alloc (.cells #[.slice A l.length c, .int .i64 cnt] 60)) 3 #[.int .i64 (x : Int)]
    rw [hs1, ← hW] at h
    exact h
  have HS := Lib.hid (search W w.heap.size (w.heap.size + 1) c x A l (X2.cell 0) (X3.cell 0) hn (h.below hb) hr)
  have L1 := Lib.hid hb
  have d0 : W.cell? ⟨w.heap.size, 0, none⟩ = some (.slice A l.length c) := X2.cell 0
  clear hb X2 X3 h hr
  obtain ⟨n, hnn⟩ : ∃ n, n = l.length := ⟨_, rfl⟩
  rw [← hnn] at HS d0 hW ⊢
  clear hnn hn hs1
  go_enter Try.func46, Try.ntmps46
  go_upto_region 1 with (fail)
  rw [← hW]
  clear hW
  go_wp2_with fail
  refine HS.out.mono ?_
  rintro e w' ⟨rfl, q, rfl⟩
  go_wp2_with fail
  go_ret
  exact ⟨rfl, below_drewN L1.out q⟩
set_option maxHeartbeats 1600000 in
theorem has_rg (w : World) (A : Option Addr) (l : List Rg) (c a b : Nat) (cnt : Int) (h : Rd w A l) (hn : l.length ≤ 100000) {lo0 : Nat} (hr : Ris lo0 l) :
    Calls Try.prog 43 #[.agg #[.slice A l.length c, .int .i64 cnt], .agg #[.int .i64 (a : Int), .int .i64 (b : Int)]] w fun e w' => e = .returned (.bool (hasL a b l)) ∧ Below w.heap.size w w' := by
  obtain ⟨W, hW⟩ : ∃ W, W = (w.alloc (.cells #[.slice A l.length c, .int .i64 cnt] 60)).alloc (.cells #[.int .i64 (a : Int), .int .i64 (b : Int)] 34) := ⟨_, rfl⟩
  have hs1 : (w.alloc (.cells #[.slice A l.length c, .int .i64 cnt] 60)).heap.size = w.heap.size + 1 := by simp
  have hb : Below w.heap.size w W := by rw [hW]; exact ((Below.refl _ _).alloc (Nat.le_refl _) _).alloc (by simp) _
  have X2 : Blk W w.heap.size 60 #[.slice A l.length c, .int .i64 cnt] := by rw [hW]; exact (Blk.new _ _ _).alloc _
  have X3 : Blk W (w.heap.size + 1) 34 #[.int .i64 (a : Int), .int .i64 (b : Int)] := by
    have h := Blk.new (w.alloc (.cells #[.slice A l.length c, .int .i64 cnt] 60)) 34 #[.int .i64 (a : Int), .int .i64 (b : Int)]
    rw [hs1, ← hW] at h
    exact h
  have HE := Lib.hid (ending_rg W A l c b cnt (h.below hb) hn hr)
  have HR := Lib.hid (h.below hb)
  have L1 := Lib.hid hb
  have B2 := Lib.hid X2
  have B3 := Lib.hid X3
  have d0 : W.cell? ⟨w.heap.size, 0, none⟩ = some (.slice A l.length c) := X2.cell 0
  have d1 : W.cell? ⟨w.heap.size, 1, none⟩ = some (.int .i64 cnt) := X2.cell 1
  have f1 : W.cell? ⟨w.heap.size + 1, 1, none⟩ = some (.int .i64 (b : Int)) := X3.cell 1
  have hpn := pos_le b l
  have HL : Hid (hasL a b l = match l[pos b l]? with | some r => decide (r.1 ≤ a) | none => false) := Lib.hid rfl
  obtain ⟨P, hP⟩ : ∃ P, P = pos b l := ⟨_, rfl⟩
  obtain ⟨ans, hans⟩ : ∃ ans, ans = hasL a b l := ⟨_, rfl⟩
  rw [← hP] at HE HL hpn
  rw [← hans] at HL ⊢
  obtain ⟨n, hnn⟩ : ∃ n, n = l.length := ⟨_, rfl⟩
  rw [← hnn] at HE B2 d0 hW hpn hn ⊢
  have HN := Lib.hid hnn
  clear hb X2 X3 h hr hnn hs1 hP hans
  go_enter Try.func43, Try.ntmps43
  go_upto_region 1 with (fail)
  rw [← hW]
  clear hW
  go_wp2_with fail
  refine HE.out.mono ?_
  rintro e w' ⟨rfl, b1⟩
  have L2 := Lib.hid (L1.out.trans (b1.mono L1.out.size))
  have R2 := Lib.hid (HR.out.below b1)
  have g0 : w'.cell? ⟨w.heap.size, 0, none⟩ = some (.slice A n c) := (B2.out.below b1 B2.out.lt).cell 0
  have g1 : w'.cell? ⟨w.heap.size + 1, 0, none⟩ = some (.int .i64 (a : Int)) := (B3.out.below b1 B3.out.lt).cell 0
  clear b1 d0 d1 f1 L1 HR B2 B3 HE
  by_cases hlt : P < n
  · have hlt' : P < l.length := by have := HN.out; omega
    have hg := List.getElem?_eq_getElem hlt'
    obtain ⟨r, hrr⟩ : ∃ r, r = l[P] := ⟨_, rfl⟩
    rw [← hrr] at hg
    obtain ⟨g, o, hA, hc⟩ : ∃ g o, A = some ⟨g, o, none⟩ ∧ w'.cell? ⟨g, o + P * 2, none⟩ = some (.int .i64 (r.1 : Int)) := by
      rcases R2.out with e | ⟨g, o, e, _, hc⟩
      · rw [e] at hlt'; simp at hlt'
      · exact ⟨g, o, e, hc _ _ (rcells_get hg).1⟩
    subst hA
    have ha : ans = decide (r.1 ≤ a) := by rw [HL.out, hg]
    obtain ⟨y, hy⟩ : ∃ y, y = r.1 := ⟨_, rfl⟩
    rw [← hy] at hc ha
    have t1 : (P : Int) < (n : Int) := by omega
    have i1 : (0 : Int) ≤ (P : Int) := by omega
    have HA := Lib.hid ha
    clear ha hg hrr hy hlt' HL R2
    go_wp2_with fail
    go_region
    go_wp2_with fail
    go_ret
    exact ⟨by rw [HA.out]; rfl, L2.out.drew⟩
  · have t1 : ¬ ((P : Int) < (n : Int)) := by omega
    have ha : ans = false := by rw [HL.out, List.getElem?_eq_none (by have := HN.out; omega)]
    have HA := Lib.hid ha
    clear ha HL R2
    go_wp2_with fail
    go_region
    go_wp2_with fail
    go_ret
    exact ⟨by rw [HA.out]; rfl, L2.out.drew⟩
end Sp
end Go.Proofs.Ytpbojhjbjnoihaa
