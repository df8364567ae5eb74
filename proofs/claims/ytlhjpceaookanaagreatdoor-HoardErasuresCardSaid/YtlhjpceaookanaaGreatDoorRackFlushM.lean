/-
  The steps of a region that draws its order, taken by hand, each by the operation's own words. No conditions beyond those that each theorem types.
-/
import Derived.Test.YtlhjpceaookanaaGreatDoorDrawByM
import Derived.Test.YtlhjpceaookanaaGreatDoorRackWrite
namespace Go.Proofs.YtlhjpceaookanaaGreatDoor
open Go Go.RowKit
set_option maxRecDepth 100000

/-- number i may be taken now -/
def takeB (md : Region.Mode) (ops : Array Oper) (z : Nat) (listed : Array Bool) (i : Nat) : Bool :=
  Region.noSelect ops && Region.free md ops listed i && (Region.ready md ops listed).contains i && (Region.waitsFor md ops z i || decide (ops.size ≤ z))
def isOp (ops : Array Oper) (i : Nat) : Option (Op × Option Tmp × Option (Nat × Bool)) := (ops[i]?).map fun o => (o.op, o.dst, o.guard)
theorem isOp_spec {ops : Array Oper} {i : Nat} {op : Op} {d : Option Tmp} (h : isOp ops i = some (op, d, none)) : ∃ o, ops[i]? = some o ∧ o.op = op ∧ o.dst = d ∧ o.guard = none := by
  unfold isOp at h
  cases e : ops[i]? with
  | none => rw [e] at h; cases h
  | some o =>
    rw [e] at h
    injection h with h
    injection h with h1 h2
    injection h2 with h2 h3
    exact ⟨o, rfl, h1, h2, h3⟩
section
variable {P : Program} {md : Region.Mode} {ops : Array Oper} {Q : Exit → Act → World → Prop} {S : World → Prop} {z n : Nat} {listed : Array Bool} {a : Act} {w : World}
theorem takeP (i : Nat) (op : Op) (d : Option Tmp) (v : Value) (ho : isOp ops i = some (op, d, none)) (hB : takeB md ops z listed i = true)
    (hQ : ∀ c a w, Q (.panic c) (a.put d v) w → Q (.panic c) a w) (hy : ∀ (o : Oper) w, o.op = op → S w → (execOp a.eval o).run P w = .ok (.value v) w) (hS : S w)
    (h : AnyZ P md ops Q S z n (listed.setIfInBounds i true) (a.put d v) w) : AnyZ P md ops Q S z (n + 1) listed a w := by
  obtain ⟨o, h1, h2, rfl, h4⟩ := isOp_spec ho
  simp only [takeB, Bool.and_eq_true] at hB
  exact AnyZ.take h1 hB.1.1.1 hB.1.1.2 hB.1.2 hB.2 hQ (yields_if h4 fun w hw => hy o w h2 hw) hS h
theorem takeMove (i : Nat) (x : Operand) (d : Option Tmp) (v : Value) (ho : isOp ops i = some (.move x, d, none)) (hB : takeB md ops z listed i = true) (hx : a.eval x = v)
    (hQ : ∀ c a w, Q (.panic c) (a.put d v) w → Q (.panic c) a w) (hS : S w)
    (h : AnyZ P md ops Q S z n (listed.setIfInBounds i true) (a.put d v) w) : AnyZ P md ops Q S z (n + 1) listed a w :=
  takeP i _ d v ho hB hQ (fun o w e _ => by unfold execOp; simp only [e, hx, Sem.run_pure]) hS h
theorem takeNil (i : Nat) (x : Operand) (d : Option Tmp) (p : Addr) (ho : isOp ops i = some (.nilCheck x, d, none)) (hB : takeB md ops z listed i = true) (hx : a.eval x = .pointer (some p))
    (hQ : ∀ c a w, Q (.panic c) (a.put d (.pointer (some p))) w → Q (.panic c) a w) (hS : S w)
    (h : AnyZ P md ops Q S z n (listed.setIfInBounds i true) (a.put d (.pointer (some p))) w) : AnyZ P md ops Q S z (n + 1) listed a w :=
  takeP i _ d _ ho hB hQ (fun o w e _ => by unfold execOp; simp only [e, hx, Sem.run_pure]) hS h
theorem takeField (i : Nat) (t : TypeId) (x : Operand) (f : Nat) (d : Option Tmp) (p v : Value) (ho : isOp ops i = some (.fieldAddr t x f, d, none)) (hB : takeB md ops z listed i = true) (hx : a.eval x = p) (hf : ∀ w, (Instr.fieldAt t p f).run P w = .ok v w)
    (hQ : ∀ c a w, Q (.panic c) (a.put d v) w → Q (.panic c) a w) (hS : S w)
    (h : AnyZ P md ops Q S z n (listed.setIfInBounds i true) (a.put d v) w) : AnyZ P md ops Q S z (n + 1) listed a w :=
  takeP i _ d v ho hB hQ (fun o w e _ => by unfold execOp; simp only [e, hx, hf, Sem.run_bind, Sem.run_pure, Result.andThen_ok]) hS h
theorem takeIndex (i : Nat) (t : TypeId) (x ix : Operand) (d : Option Tmp) (p j v : Value) (ho : isOp ops i = some (.indexAddr t x ix, d, none)) (hB : takeB md ops z listed i = true) (hx : a.eval x = p) (hj : a.eval ix = j) (hf : ∀ w, (Instr.indexAt t p j).run P w = .ok v w)
    (hQ : ∀ c a w, Q (.panic c) (a.put d v) w → Q (.panic c) a w) (hS : S w)
    (h : AnyZ P md ops Q S z n (listed.setIfInBounds i true) (a.put d v) w) : AnyZ P md ops Q S z (n + 1) listed a w :=
  takeP i _ d v ho hB hQ (fun o w e _ => by unfold execOp; simp only [e, hx, hj, hf, Sem.run_bind, Sem.run_pure, Result.andThen_ok]) hS h
theorem takeLoad (i : Nat) (t : TypeId) (x : Operand) (d : Option Tmp) (p v : Value) (ho : isOp ops i = some (.load t x, d, none)) (hB : takeB md ops z listed i = true) (hx : a.eval x = p) (hl : ∀ w, S w → (Instr.loadAt t p).run P w = .ok v w)
    (hQ : ∀ c a w, Q (.panic c) (a.put d v) w → Q (.panic c) a w) (hS : S w)
    (h : AnyZ P md ops Q S z n (listed.setIfInBounds i true) (a.put d v) w) : AnyZ P md ops Q S z (n + 1) listed a w :=
  takeP i _ d v ho hB hQ (fun o w e hw => exec_load e hx (hl w hw)) hS h
theorem takeBin (i : Nat) (op : BinOp) (t : TypeId) (x y : Operand) (ty : TypeId) (d : Option Tmp) (u1 u2 v : Value) (ho : isOp ops i = some (.binOp op t x y ty, d, none)) (hB : takeB md ops z listed i = true) (hx : a.eval x = u1) (hy : a.eval y = u2)
    (hf : ∀ w, (eqGuard op t x y u1 u2).run P w = .ok () w ∧ (binOp op t u1 u2).run P w = .ok v w)
    (hQ : ∀ c a w, Q (.panic c) (a.put d v) w → Q (.panic c) a w) (hS : S w)
    (h : AnyZ P md ops Q S z n (listed.setIfInBounds i true) (a.put d v) w) : AnyZ P md ops Q S z (n + 1) listed a w :=
  takeP i _ d v ho hB hQ (fun o w e _ => by unfold execOp; simp only [e, hx, hy, (hf w).1, (hf w).2, Sem.run_bind, Sem.run_pure, Result.andThen_ok]) hS h
/-- only i may come up: any operation -/
theorem lone (i : Nat) (op : Op) (d : Option Tmp) (ho : isOp ops i = some (op, d, none)) (hr : Region.ready md ops listed = [i])
    (h : ∀ o : Oper, o.op = op → o.dst = d → o.wp P a w (fun a' w' => (i ≠ z → S w') ∧ AnyZ P md ops Q S z n (listed.setIfInBounds i true) a' w') Q) : AnyZ P md ops Q S z (n + 1) listed a w := by
  obtain ⟨o, h1, h2, h3, h4⟩ := isOp_spec ho
  exact AnyZ.one hr (wpOp_op h1 h4 (h o h2 h3))
theorem lastOp (i : Nat) (op : Op) (d : Option Tmp) (ho : isOp ops i = some (op, d, none)) (hr : Region.ready md ops listed = [i]) (hd : Region.ready md ops (listed.setIfInBounds i true) = []) (hz : i = z)
    (h : ∀ o : Oper, o.op = op → o.dst = d → o.wp P a w (fun a' w' => Q .normal a' w') Q) : AnyZ P md ops Q S z (n + 1) listed a w := by
  obtain ⟨o, h1, h2, h3, h4⟩ := isOp_spec ho
  exact AnyZ.last_ hr hd hz (wpOp_op h1 h4 (h o h2 h3))
theorem lastStore (i : Nat) (t : TypeId) (x y : Operand) (p v : Value) (w' : World) (ho : isOp ops i = some (.store t x y, none, none)) (hr : Region.ready md ops listed = [i]) (hd : Region.ready md ops (listed.setIfInBounds i true) = []) (hz : i = z)
    (hx : a.eval x = p) (hy : a.eval y = v) (hl : (Instr.storeAt t p v).run P w = .ok () w') (h : Q .normal a w') : AnyZ P md ops Q S z (n + 1) listed a w := by
  obtain ⟨o, h1, h2, h3, h4⟩ := isOp_spec ho
  refine AnyZ.last_ hr hd hz (wpOp_skip h1 h4 (exec_store h2 hx hy hl) ?_)
  rw [h3]
  exact h
end
end Go.Proofs.YtlhjpceaookanaaGreatDoor
namespace Go.Proofs.YtlhjpceaookanaaGreatDoor
set_option maxRecDepth 100000
open Go.RowKit
set_option linter.unusedVariables false

/-- what lasts when of the first k that wait those are kept that P names -/
def RS.lay (s : RS) (P : Nat → Bool) : Nat → Nat → Nat → Nat → Nat
  | 0 => s.last
  | k + 1 => fun d a => if P k = true ∧ (s.W k).d = d ∧ (s.W k).a = a then (s.W k).x else s.lay P k d a
def RS.mid (s : RS) (P : Nat → Bool) (k : Nat) : RS := { s with last := s.lay P k, cost := s.cost + k }
/-- behind a flush, or a crash -/
def RS.laid (s : RS) (P : Nat → Bool) : RS := { s with nw := 0, last := s.lay P s.nw }
theorem RS.lay_lt {s : RS} (h : s.ok) (P : Nat → Bool) : ∀ k, k ≤ s.nw → ∀ d a j, j < 128 → s.lay P k d a j < 256
  | 0, _, d, a, j, hj => h.lp d a j hj
  | k + 1, hk, d, a, j, hj => by
    unfold RS.lay
    split
    · exact (h.wp k (by omega)).2.2 j hj
    · exact RS.lay_lt h P k (by omega) d a j hj
theorem RS.ok.laid {s : RS} (h : s.ok) (P : Nat → Bool) : (s.laid P).ok :=
  ⟨h.nd1, h.nd2, h.ns1, h.ns2, h.left, h.cost, fun i hi => absurd hi (Nat.not_lt_zero _), fun d a j hj => RS.lay_lt h P s.nw (Nat.le_refl _) d a j hj⟩
section
variable {B : Nat} {w w' : World} {r m1 m2 : Nat} {v : Value} {s : RS} {k : Nat} {P : Nat → Bool}
theorem RackK.atMid (h : RackK B w r m1 m2 v s k) : RackK B w r m1 m2 v (s.mid P 0) k := h
theorem RackK.skipMid (h : RackK B w r m1 m2 v (s.mid P k) s.nw) (hp : P k = false) : RackK B w r m1 m2 v (s.mid P (k + 1)) s.nw := by
  obtain ⟨n, F, f1, f2, f3⟩ := h.last
  refine ⟨h.blk, h.hr, h.h1, h.h2, h.ne, ⟨n, F, ?_, f2, fun d a hd ha => ?_⟩, h.newest, h.row⟩
  · have : n + s.nw ≤ s.cost + k := f1
    show n + s.nw ≤ s.cost + (k + 1)
    omega
  · rw [f3 d a hd ha]
    show _ = Value.agg (secA (s.lay P (k + 1) d a))
    have e : s.lay P (k + 1) d a = s.lay P k d a := by
      show (if P k = true ∧ _ then _ else _) = _
      rw [hp, if_neg (fun e => by cases e.1)]
    rw [e]
    rfl
theorem RackK.layMid (h : RackK B w r m1 m2 v (s.mid P k) s.nw) (hp : P k = true) (n : Nat) (F : Nat → Nat → Option Value) (f1 : n + s.nw ≤ s.cost + k)
    (f3 : ∀ d a, d < 4611686018427387904 → a < 4611686018427387904 → (F d a).getD (.agg (secA zeros)) = .agg (secA (s.lay P k d a)))
    (hg : w.grownBy w' (some m1)) (hm : MapS w' m1 (n + 1) (putF F (s.W k).d (s.W k).a (.agg (secA (s.W k).x)))) : RackK B w' r m1 m2 v (s.mid P (k + 1)) s.nw := by
  refine ⟨h.blk.grown hg (fun e => h.ne1 (by injection e with e; exact e.symm)), h.hr, h.h1, h.h2, h.ne, ⟨n + 1, _, ?_, hm, fun d a hd ha => ?_⟩, h.newest.grown hg (fun e => h.ne (by injection e with e; exact e.symm)), h.row.1, ?_⟩
  · show n + 1 + s.nw ≤ s.cost + (k + 1)
    omega
  · show _ = Value.agg (secA (s.lay P (k + 1) d a))
    have e : s.lay P (k + 1) d a = if (s.W k).d = d ∧ (s.W k).a = a then (s.W k).x else s.lay P k d a := by
      show (if P k = true ∧ _ then _ else _) = _
      rw [hp]
      simp
    rw [e]
    unfold putF
    by_cases e1 : (s.W k).d = d ∧ (s.W k).a = a
    · rw [if_pos e1, if_pos ⟨e1.1.symm, e1.2.symm⟩]
      rfl
    · rw [if_neg e1, if_neg (fun x => e1 ⟨x.1.symm, x.2.symm⟩)]
      exact f3 d a hd ha
  · rcases h.row.2 with e | ⟨g, cap, cur, rfl, g1, g2, g3⟩
    · exact .inl e
    · exact .inr ⟨g, cap, cur, rfl, g1, (hg.block g (Array.getElem?_eq_some_iff.1 g2).1 (fun e => h.row_ne1 (by rw [← e]; rfl))).trans g2, g3⟩
theorem Keep.ofMap1 {a : World} (h : Keep B a w) (hr : RackK B w r m1 m2 v s k) (hg : w.grownBy w' (some m1)) : Keep B a w' := by
  obtain ⟨n, F, f1, f2, f3⟩ := hr.last
  exact h.ofMap f2 hg hr.h1
end
/-- 'm[p] = v' as one operation -/
theorem wp_mapPut {p : Value → Bool} {o : Oper} {ac : Act} {w : World} {K : Act → World → Prop} {Q : Exit → Act → World → Prop}
    (m x v : Operand) (t e : TypeId) (hop : o.op = Op.mapUpdate t m x v) (ht : Tryz.prog.underlying t = some (.map 64 e)) (b n : Nat) (F : Nat → Nat → Option Value)
    (hm : ac.eval m = .map (some b)) (h : MapFp p w b n F) (hn : n < maxLen) (d a : Nat) (hd : d < 4611686018427387904) (ha : a < 4611686018427387904) (val : Value) (hx : ac.eval x = pkey d a) (hv : ac.eval v = val) (hpv : p val = true)
    (hK : ∀ w', MapFp p w' b (n + 1) (putF F d a val) → w.grownBy w' (some b) → w'.heap.size = w.heap.size → K (ac.put o.dst undef) w') :
    o.wp Tryz.prog ac w K Q := by
  obtain ⟨w', hrun, r1, r2, r3⟩ := h.put ht hn hd ha val hpv
  unfold Oper.wp
  simp [execOp, hop, hm, hx, hv, hrun, Result.andThen]
  exact hK w' r1 r2 r3
def LayS (r m1 bx : Nat) (cs : Array Value) (w : World) : Prop := w.cell? ⟨r, 2, none⟩ = some (.map (some m1)) ∧ Blk w bx 73 cs
end Go.Proofs.YtlhjpceaookanaaGreatDoor
namespace Go.Proofs.YtlhjpceaookanaaGreatDoor
set_option maxRecDepth 100000
open Go.RowKit
set_option linter.unusedVariables false

def RS.flushed (s : RS) : RS := s.laid (fun _ => true)

set_option maxRecDepth 100000 in
set_option maxHeartbeats 1600000 in
theorem flush_any {B : Nat} (w : World) (r : Nat) (s S' : RS) (E : Int) (h : RackAt B w r s) (hE : E = if s.pow then 0 else 16) (hS : S' = if s.pow then s.spent.flushed else s.spent) :
    Calls Tryz.prog 23 #[.pointer (some ⟨r, 0, none⟩)] w fun e w' => e = .returned (.int .i64 E) ∧ RackAt B w' r S' ∧ Keep B w w' := by
  have HE := Lib.hid hE
  have HS := Lib.hid hS
  clear hE hS
  obtain ⟨h0, m1, m2, v, hw⟩ := h
  have H0 := Lib.hid h0
  have HW := Lib.hid hw
  clear h0 hw
  go_enter Tryz.func23, Tryz.ntmps23
  go_wp2_with fail
  refine (powered_w _ r s H0.out HW.out).mono ?_
  rintro e w1 ⟨rfl, ⟨h1, hw1⟩, k1, g1⟩
  have K1 := Lib.hid k1
  have HW1 := Lib.hid hw1
  have OK1 := Lib.hid h1
  clear hw1 k1 g1 h1 HW
  by_cases hp : s.pow = true
  rotate_left
  · have hp' : s.pow = false := by simpa using hp
    rw [hp']
    have HP := Lib.hid hp'
    clear hp hp'
    go_wp2_with fail
    go_ret
    rw [HE.out, HS.out, HP.out]
    exact ⟨rfl, ⟨OK1.out, m1, m2, v, HW1.out⟩, K1.out⟩
  rw [hp]
  have EV : Hid (S' = s.spent.flushed ∧ E = 0) := Lib.hid ⟨by rw [HS.out, hp]; rfl, by rw [HE.out, hp]; rfl⟩
  clear hp HE HS
  generalize s.spent = s1 at *
  clear H0
  have c3 := HW1.out.c3
  have hcost := OK1.out.cost
  have hnw := HW1.out.nw_le
  obtain ⟨A, c, hv3⟩ : ∃ A c, v = .slice A s1.nw c := by
    rcases HW1.out.row.2 with ⟨rfl, e⟩ | ⟨g, cap, cur, rfl, _⟩
    · exact ⟨none, 0, by rw [e]⟩
    · exact ⟨_, _, rfl⟩
  subst hv3
  have hrowA : Hid (0 < s1.nw → ∃ g, A = some ⟨g, 0, none⟩) := by
    intro hn
    obtain ⟨g, cap, e⟩ := own_slice HW1.out.row hn
    injection e with e _
    exact ⟨g, e⟩
  have R : Hid (RackK B w1 r m1 m2 (.slice A s1.nw c) (s1.mid (fun _ => true) 0) s1.nw) := Lib.hid HW1.out.atMid
  have K : Hid (Keep B w w1) := K1
  clear HW1 K1
  generalize hN : s1.nw = N at *
  go_wp2_with fail
  go_loopw [15] (fun x wr => ∃ k : Nat, k ≤ N ∧ x = .int .i64 k ∧ Hid (RackK B wr r m1 m2 (.slice A N c) (s1.mid (fun _ => true) k) N) ∧ Hid (Keep B w wr)) (fun x _ => N - (intOf x).toNat)
  case atStart => exact ⟨0, by omega, rfl, R, K⟩
  case round =>
    obtain ⟨k, hk, rfl, R1, K1⟩ := hrel
    clear R K c3
    by_cases hlt2 : k < N
    · obtain ⟨g, rfl⟩ := hrowA.out (by omega)
      have hld := load_row (W := s1.W) (g := g) (c := c) (n := N) (by have := R1.out.row; rw [← hN]; rw [← hN] at this; exact this) hlt2
      have i1 : (0 : Int) ≤ (k : Int) := by omega
      have i2 : (k : Int) < (N : Int) := by omega
      have HN := Lib.hid hN
      clear hN
      go_wp2_with (refine wpList_loadX rfl 73 _ rfl _ _ rfl hld ?_; refine of_hid ?_)
      refine Lib.hid ?_
      refine wpList_allocX rfl 73 rfl _ (alloc_waiting _) ?_
      refine wpList_storeX rfl 73 (.tmp 4) (.tmp 18) rfl (.pointer (some ⟨wr.heap.size, 0, none⟩)) (.agg (waitA (s1.W k))) rfl rfl (store_newW wr ⟨0, 0, zeros⟩ (s1.W k)) ?_
      have hbx := Lib.hid (Blk.new wr 73 (waitA (s1.W k)))
      have R2 := Lib.hid (R1.out.alloc (.cells (waitA (s1.W k)) 73))
      have K2 := Lib.hid (K1.out.alloc R1.out.le (.cells (waitA (s1.W k)) 73))
      generalize wr.heap.size = bx at *
      clear R1 K1 hld
      generalize wr.alloc (.cells (waitA (s1.W k)) 73) = w2 at *
      obtain ⟨n, F, f1, f2, f3⟩ := R2.out.last
      have F1 := Lib.hid f1
      have F2 := Lib.hid f2
      have F3 := Lib.hid f3
      have hnm : n < maxLen := by
        have : n + s1.nw ≤ s1.cost + k := f1
        simp only [maxLen]
        have := HN.out
        omega
      have hw := OK1.out.wp k (by rw [HN.out]; exact hlt2)
      have hwd : (s1.W k).d < 4611686018427387904 := by have := OK1.out.nd2; omega
      have hwa : (s1.W k).a < 4611686018427387904 := by have := OK1.out.ns2; omega
      clear f1 f2 f3 hw
      have HS2 := Lib.hid (⟨R2.out.c2, hbx.out⟩ : LayS r m1 bx (waitA (s1.W k)) w2)
      go_wp2_with fail
      refine region_anyZ (LayS r m1 bx (waitA (s1.W k))) 8 (by kernel_rfl) ?_
      refine takeMove 0 (.tmp 0) (some 19) (.pointer (some ⟨r, 0, none⟩)) (by kernel_rfl) (by kernel_rfl) (by kernel_rfl) (fun _ _ _ h => h) HS2.out ?_
      refine takeNil 1 (.tmp 19) (some 20) ⟨r, 0, none⟩ (by kernel_rfl) (by kernel_rfl) (by kernel_rfl) (fun _ _ _ h => h) HS2.out ?_
      refine takeField 2 62 (.tmp 20) 2 (some 21) (.pointer (some ⟨r, 0, none⟩)) (.pointer (some ⟨r, 2, none⟩)) (by kernel_rfl) (by kernel_rfl) (by kernel_rfl) (fun w => by kernel_rfl) (fun _ _ _ h => h) HS2.out ?_
      refine takeLoad 3 57 (.tmp 21) (some 22) _ (.map (some m1)) (by kernel_rfl) (by kernel_rfl) (by kernel_rfl) (fun w hS => load_one Tryz.underlying57 rfl hS.1) (fun _ _ _ h => h) HS2.out ?_
      refine takeField 4 73 (.tmp 4) 0 (some 23) (.pointer (some ⟨bx, 0, none⟩)) (.pointer (some ⟨bx, 0, none⟩)) (by kernel_rfl) (by kernel_rfl) (by kernel_rfl) (fun w => by kernel_rfl) (fun _ _ _ h => h) HS2.out ?_
      refine takeLoad 5 64 (.tmp 23) (some 24) _ (pkey (s1.W k).d (s1.W k).a) (by kernel_rfl) (by kernel_rfl) (by kernel_rfl) (fun w hS => load_wplace hS.2) (fun _ _ _ h => h) HS2.out ?_
      refine takeField 6 73 (.tmp 4) 1 (some 25) (.pointer (some ⟨bx, 0, none⟩)) (.pointer (some ⟨bx, 2, none⟩)) (by kernel_rfl) (by kernel_rfl) (by kernel_rfl) (fun w => by kernel_rfl) (fun _ _ _ h => h) HS2.out ?_
      refine takeLoad 7 68 (.tmp 25) (some 26) _ (.agg (secA (s1.W k).x)) (by kernel_rfl) (by kernel_rfl) (by kernel_rfl) (fun w hS => load_wsector hS.2) (fun _ _ _ h => h) HS2.out ?_
      refine lastOp 8 (.mapUpdate 57 (.tmp 22) (.tmp 24) (.tmp 26)) none (by kernel_rfl) (by kernel_rfl) (by kernel_rfl) rfl ?_
      intro o ho hod
      refine wp_mapPut (.tmp 22) (.tmp 24) (.tmp 26) 57 68 ho Tryz.underlying57 m1 n F (by kernel_rfl) (F2.out.drew) hnm (s1.W k).d (s1.W k).a hwd hwa (.agg (secA (s1.W k).x)) (by kernel_rfl) (by kernel_rfl) (isSec_sec _) ?_
      rw [hod]
      clear hod ho
      intro w3 hm3 hg3 hs3
      have R3 : Hid (RackK B w3 r m1 m2 (.slice (some ⟨g, 0, none⟩) N c) (s1.mid (fun _ => true) (k + 1)) N) := by
        rw [← HN.out]
        have R2' := R2.out
        rw [← HN.out] at R2'
        exact R2'.drew.layMid rfl n F (F1.out) F3.out hg3 hm3
      have K3 : Hid (Keep B w w3) := K2.out.drew.ofMap1 R2.out.drew hg3
      clear hm3 hg3 hs3 R2 K2 HS2 F1 F2 F3 hbx
      go_wp2_with fail
      go_roundw
      case rel => exact ⟨k + 1, by omega, by go_num, R3, K3⟩
      case measure => simp [intOf]; omega
    · have e : k = N := by omega
      subst e
      have HN := Lib.hid hN
      clear hN
      have R0 := R1.out
      obtain ⟨n, F, f1, f2, f3⟩ := R0.last
      have hL : Hid (∃ n F, n ≤ s1.cost ∧ MapS wr m1 n F ∧ ∀ d a, d < 4611686018427387904 → a < 4611686018427387904 → (F d a).getD (.agg (secA zeros)) = .agg (secA (s1.flushed.last d a))) := by
        refine ⟨n, F, ?_, f2, fun d a hd ha => ?_⟩
        · have : n + s1.nw ≤ s1.cost + k := f1
          have := HN.out
          omega
        · rw [f3 d a hd ha, ← HN.out]
          rfl
      clear R0 f1 f2 f3
      go_wp2_with fail
      refine (await_nil B _ r m1 (s1.mid (fun _ => true) k) s1.flushed _ ⟨rfl, rfl, rfl, rfl, rfl, rfl⟩ m2 R1.out.blk R1.out.hr R1.out.h1 R1.out.ne1 rfl hL.out (OK1.out.laid _)).mono ?_
      rintro e w2 ⟨rfl, h2, k2⟩
      have H2 := Lib.hid h2
      have K2 := Lib.hid (K1.out.trans k2)
      clear h2 k2 R1 K1
      go_wp2_with fail
      go_ret
      rw [EV.out.1, EV.out.2]
      exact ⟨rfl, H2.out, K2.out⟩
end Go.Proofs.YtlhjpceaookanaaGreatDoor
