/-
  What lasts behind a flush or a crash: the rack's first map, entry by entry. Conditions: the rack is one.
-/
import Derived.Test.YthioanenljpclaaGreatDoorRackWrite
import Derived.Test.YthioanenljpclaaGreatDoorDrawSeqM
namespace Go.Proofs.YthioanenljpclaaGreatDoor
set_option maxRecDepth 100000
open Go.RowKit
set_option linter.unusedVariables false

/-- what lasts when of the first k that wait those are kept that P names -/
def RS.lay (s : RS) (P : Nat → Bool) : Nat → Nat → Nat → Nat → Nat
  | 0 => s.last
  | k + 1 => fun d a => if P k = true ∧ (s.W k).d = d ∧ (s.W k).a = a then (s.W k).x else s.lay P k d a
def RS.mid (s : RS) (P : Nat → Bool) (k : Nat) : RS := { s with last := s.lay P k, cost := s.cost + k }
/-- behind a flush, or a crash -/
def RS.laid (s : RS) (P : Nat → Bool) : RS := { s with nw := 0, last := s.lay P s.nw }
theorem RS.lay_lt {s : RS} (h : s.ok) (P : Nat → Bool) : ∀ k, k ≤ s.nw → ∀ d a j, j < 128 → s.lay P k d a j < 256
  | 0, _, d, a, j, hj => h.lp d a j hj
  | k + 1, hk, d, a, j, hj => by
    unfold RS.lay
    split
    · exact (h.wp k (by omega)).2.2 j hj
    · exact RS.lay_lt h P k (by omega) d a j hj
theorem RS.ok.laid {s : RS} (h : s.ok) (P : Nat → Bool) : (s.laid P).ok :=
  ⟨h.nd1, h.nd2, h.ns1, h.ns2, h.left, h.cost, fun i hi => absurd hi (Nat.not_lt_zero _), fun d a j hj => RS.lay_lt h P s.nw (Nat.le_refl _) d a j hj⟩
section
variable {B : Nat} {w w' : World} {r m1 m2 : Nat} {v : Value} {s : RS} {k : Nat} {P : Nat → Bool}
theorem RackK.atMid (h : RackK B w r m1 m2 v s k) : RackK B w r m1 m2 v (s.mid P 0) k := h
theorem RackK.skipMid (h : RackK B w r m1 m2 v (s.mid P k) s.nw) (hp : P k = false) : RackK B w r m1 m2 v (s.mid P (k + 1)) s.nw := by
  obtain ⟨n, F, f1, f2, f3⟩ := h.last
  refine ⟨h.blk, h.hr, h.h1, h.h2, h.ne, ⟨n, F, ?_, f2, fun d a hd ha => ?_⟩, h.newest, h.row⟩
  · have : n + s.nw ≤ s.cost + k := f1
    show n + s.nw ≤ s.cost + (k + 1)
    omega
  · rw [f3 d a hd ha]
    show _ = Value.agg (secA (s.lay P (k + 1) d a))
    have e : s.lay P (k + 1) d a = s.lay P k d a := by
      show (if P k = true ∧ _ then _ else _) = _
      rw [hp, if_neg (fun e => by cases e.1)]
    rw [e]
    rfl
theorem RackK.layMid (h : RackK B w r m1 m2 v (s.mid P k) s.nw) (hp : P k = true) (n : Nat) (F : Nat → Nat → Option Value) (f1 : n + s.nw ≤ s.cost + k)
    (f3 : ∀ d a, d < 4611686018427387904 → a < 4611686018427387904 → (F d a).getD (.agg (secA zeros)) = .agg (secA (s.lay P k d a)))
    (hg : w.grownBy w' (some m1)) (hm : MapS w' m1 (n + 1) (putF F (s.W k).d (s.W k).a (.agg (secA (s.W k).x)))) : RackK B w' r m1 m2 v (s.mid P (k + 1)) s.nw := by
  refine ⟨h.blk.grown hg (fun e => h.ne1 (by injection e with e; exact e.symm)), h.hr, h.h1, h.h2, h.ne, ⟨n + 1, _, ?_, hm, fun d a hd ha => ?_⟩, h.newest.grown hg (fun e => h.ne (by injection e with e; exact e.symm)), h.row.1, ?_⟩
  · show n + 1 + s.nw ≤ s.cost + (k + 1)
    omega
  · show _ = Value.agg (secA (s.lay P (k + 1) d a))
    have e : s.lay P (k + 1) d a = if (s.W k).d = d ∧ (s.W k).a = a then (s.W k).x else s.lay P k d a := by
      show (if P k = true ∧ _ then _ else _) = _
      rw [hp]
      simp
    rw [e]
    unfold putF
    by_cases e1 : (s.W k).d = d ∧ (s.W k).a = a
    · rw [if_pos e1, if_pos ⟨e1.1.symm, e1.2.symm⟩]
      rfl
    · rw [if_neg e1, if_neg (fun x => e1 ⟨x.1.symm, x.2.symm⟩)]
      exact f3 d a hd ha
  · rcases h.row.2 with e | ⟨g, cap, cur, rfl, g1, g2, g3⟩
    · exact .inl e
    · exact .inr ⟨g, cap, cur, rfl, g1, (hg.block g (Array.getElem?_eq_some_iff.1 g2).1 (fun e => h.row_ne1 (by rw [← e]; rfl))).trans g2, g3⟩
theorem Keep.ofMap1 {a : World} (h : Keep B a w) (hr : RackK B w r m1 m2 v s k) (hg : w.grownBy w' (some m1)) : Keep B a w' := by
  obtain ⟨n, F, f1, f2, f3⟩ := hr.last
  exact h.ofMap f2 hg hr.h1
end
/-- 'm[p] = v' as one operation -/
theorem wp_mapPut {p : Value → Bool} {o : Oper} {ac : Act} {w : World} {K : Act → World → Prop} {Q : Exit → Act → World → Prop}
    (m x v : Operand) (t e : TypeId) (hop : o.op = Op.mapUpdate t m x v) (ht : Tryz.prog.underlying t = some (.map 84 e)) (b n : Nat) (F : Nat → Nat → Option Value)
    (hm : ac.eval m = .map (some b)) (h : MapFp p w b n F) (hn : n < maxLen) (d a : Nat) (hd : d < 4611686018427387904) (ha : a < 4611686018427387904) (val : Value) (hx : ac.eval x = pkey d a) (hv : ac.eval v = val) (hpv : p val = true)
    (hK : ∀ w', MapFp p w' b (n + 1) (putF F d a val) → w.grownBy w' (some b) → w'.heap.size = w.heap.size → K (ac.put o.dst undef) w') :
    o.wp Tryz.prog ac w K Q := by
  obtain ⟨w', hrun, r1, r2, r3⟩ := h.put ht hn hd ha val hpv
  unfold Oper.wp
  simp [execOp, hop, hm, hx, hv, hrun, Result.andThen]
  exact hK w' r1 r2 r3
def LayS (r m1 bx : Nat) (cs : Array Value) (w : World) : Prop := w.cell? ⟨r, 2, none⟩ = some (.map (some m1)) ∧ Blk w bx 89 cs
end Go.Proofs.YthioanenljpclaaGreatDoor
namespace Go.Proofs.YthioanenljpclaaGreatDoor
set_option maxRecDepth 100000
open Go.RowKit
set_option linter.unusedVariables false

def RS.flushed (s : RS) : RS := s.laid (fun _ => true)

set_option maxRecDepth 100000 in
set_option maxHeartbeats 1600000 in
theorem flush_any {B : Nat} (w : World) (r : Nat) (s S' : RS) (E : Int) (h : RackAt B w r s) (hE : E = if s.pow then 0 else 16) (hS : S' = if s.pow then s.spent.flushed else s.spent) :
    Calls Tryz.prog 10 #[.pointer (some ⟨r, 0, none⟩)] w fun e w' => e = .returned (.int .i64 E) ∧ RackAt B w' r S' ∧ Keep B w w' := by
  have HE := Lib.hid hE
  have HS := Lib.hid hS
  clear hE hS
  obtain ⟨h0, m1, m2, v, hw⟩ := h
  have H0 := Lib.hid h0
  have HW := Lib.hid hw
  clear h0 hw
  go_enter Tryz.func10, Tryz.ntmps10
  go_wp2_with fail
  refine (powered_w _ r s H0.out HW.out).mono ?_
  rintro e w1 ⟨rfl, ⟨h1, hw1⟩, k1, g1⟩
  have K1 := Lib.hid k1
  have HW1 := Lib.hid hw1
  have OK1 := Lib.hid h1
  clear hw1 k1 g1 h1 HW
  by_cases hp : s.pow = true
  rotate_left
  · have hp' : s.pow = false := by simpa using hp
    rw [hp']
    have HP := Lib.hid hp'
    clear hp hp'
    go_wp2_with fail
    go_ret
    rw [HE.out, HS.out, HP.out]
    exact ⟨rfl, ⟨OK1.out, m1, m2, v, HW1.out⟩, K1.out⟩
  rw [hp]
  have EV : Hid (S' = s.spent.flushed ∧ E = 0) := Lib.hid ⟨by rw [HS.out, hp]; rfl, by rw [HE.out, hp]; rfl⟩
  clear hp HE HS
  generalize s.spent = s1 at *
  clear H0
  have c3 := HW1.out.c3
  have hcost := OK1.out.cost
  have hnw := HW1.out.nw_le
  obtain ⟨A, c, hv3⟩ : ∃ A c, v = .slice A s1.nw c := by
    rcases HW1.out.row.2 with ⟨rfl, e⟩ | ⟨g, cap, cur, rfl, _⟩
    · exact ⟨none, 0, by rw [e]⟩
    · exact ⟨_, _, rfl⟩
  subst hv3
  have hrowA : Hid (0 < s1.nw → ∃ g, A = some ⟨g, 0, none⟩) := by
    intro hn
    obtain ⟨g, cap, e⟩ := own_slice HW1.out.row hn
    injection e with e _
    exact ⟨g, e⟩
  have R : Hid (RackK B w1 r m1 m2 (.slice A s1.nw c) (s1.mid (fun _ => true) 0) s1.nw) := Lib.hid HW1.out.atMid
  have K : Hid (Keep B w w1) := K1
  clear HW1 K1
  generalize hN : s1.nw = N at *
  go_wp2_with fail
  go_loopw [15] (fun x wr => ∃ k : Nat, k ≤ N ∧ x = .int .i64 k ∧ Hid (RackK B wr r m1 m2 (.slice A N c) (s1.mid (fun _ => true) k) N) ∧ Hid (Keep B w wr)) (fun x _ => N - (intOf x).toNat)
  case atStart => exact ⟨0, by omega, rfl, R, K⟩
  case round =>
    obtain ⟨k, hk, rfl, R1, K1⟩ := hrel
    clear R K c3
    by_cases hlt2 : k < N
    · obtain ⟨g, rfl⟩ := hrowA.out (by omega)
      have hld := load_row (W := s1.W) (g := g) (c := c) (n := N) (by have := R1.out.row; rw [← hN]; rw [← hN] at this; exact this) hlt2
      have i1 : (0 : Int) ≤ (k : Int) := by omega
      have i2 : (k : Int) < (N : Int) := by omega
      have HN := Lib.hid hN
      clear hN
      go_wp2_with (refine wpList_loadX rfl 89 _ rfl _ _ rfl hld ?_; refine of_hid ?_)
      refine Lib.hid ?_
      refine wpList_allocX rfl 89 rfl _ (alloc_waiting _) ?_
      refine wpList_storeX rfl 89 (.tmp 4) (.tmp 18) rfl (.pointer (some ⟨wr.heap.size, 0, none⟩)) (.agg (waitA (s1.W k))) rfl rfl (store_newW wr ⟨0, 0, zeros⟩ (s1.W k)) ?_
      have hbx := Lib.hid (Blk.new wr 89 (waitA (s1.W k)))
      have R2 := Lib.hid (R1.out.alloc (.cells (waitA (s1.W k)) 89))
      have K2 := Lib.hid (K1.out.alloc R1.out.le (.cells (waitA (s1.W k)) 89))
      generalize wr.heap.size = bx at *
      clear R1 K1 hld
      generalize wr.alloc (.cells (waitA (s1.W k)) 89) = w2 at *
      obtain ⟨n, F, f1, f2, f3⟩ := R2.out.last
      have F1 := Lib.hid f1
      have F2 := Lib.hid f2
      have F3 := Lib.hid f3
      have hnm : n < maxLen := by
        have : n + s1.nw ≤ s1.cost + k := f1
        simp only [maxLen]
        have := HN.out
        omega
      have hw := OK1.out.wp k (by rw [HN.out]; exact hlt2)
      have hwd : (s1.W k).d < 4611686018427387904 := by have := OK1.out.nd2; omega
      have hwa : (s1.W k).a < 4611686018427387904 := by have := OK1.out.ns2; omega
      clear f1 f2 f3 hw
      have HS2 := Lib.hid (⟨R2.out.c2, hbx.out⟩ : LayS r m1 bx (waitA (s1.W k)) w2)
      go_wp2_with fail
      refine region_anyZ (LayS r m1 bx (waitA (s1.W k))) 8 (by kernel_rfl) ?_
      refine takeMove 0 (.tmp 0) (some 19) (.pointer (some ⟨r, 0, none⟩)) (by kernel_rfl) (by kernel_rfl) (by kernel_rfl) (fun _ _ _ h => h) HS2.out ?_
      refine takeNil 1 (.tmp 19) (some 20) ⟨r, 0, none⟩ (by kernel_rfl) (by kernel_rfl) (by kernel_rfl) (fun _ _ _ h => h) HS2.out ?_
      refine takeField 2 68 (.tmp 20) 2 (some 21) (.pointer (some ⟨r, 0, none⟩)) (.pointer (some ⟨r, 2, none⟩)) (by kernel_rfl) (by kernel_rfl) (by kernel_rfl) (fun w => by kernel_rfl) (fun _ _ _ h => h) HS2.out ?_
      refine takeLoad 3 63 (.tmp 21) (some 22) _ (.map (some m1)) (by kernel_rfl) (by kernel_rfl) (by kernel_rfl) (fun w hS => load_one Tryz.underlying63 rfl hS.1) (fun _ _ _ h => h) HS2.out ?_
      refine takeField 4 89 (.tmp 4) 0 (some 23) (.pointer (some ⟨bx, 0, none⟩)) (.pointer (some ⟨bx, 0, none⟩)) (by kernel_rfl) (by kernel_rfl) (by kernel_rfl) (fun w => by kernel_rfl) (fun _ _ _ h => h) HS2.out ?_
      refine takeLoad 5 84 (.tmp 23) (some 24) _ (pkey (s1.W k).d (s1.W k).a) (by kernel_rfl) (by kernel_rfl) (by kernel_rfl) (fun w hS => load_wplace hS.2) (fun _ _ _ h => h) HS2.out ?_
      refine takeField 6 89 (.tmp 4) 1 (some 25) (.pointer (some ⟨bx, 0, none⟩)) (.pointer (some ⟨bx, 2, none⟩)) (by kernel_rfl) (by kernel_rfl) (by kernel_rfl) (fun w => by kernel_rfl) (fun _ _ _ h => h) HS2.out ?_
      refine takeLoad 7 87 (.tmp 25) (some 26) _ (.agg (secA (s1.W k).x)) (by kernel_rfl) (by kernel_rfl) (by kernel_rfl) (fun w hS => load_wsector hS.2) (fun _ _ _ h => h) HS2.out ?_
      refine lastOp 8 (.mapUpdate 63 (.tmp 22) (.tmp 24) (.tmp 26)) none (by kernel_rfl) (by kernel_rfl) (by kernel_rfl) rfl ?_
      intro o ho hod
      refine wp_mapPut (.tmp 22) (.tmp 24) (.tmp 26) 63 87 ho Tryz.underlying63 m1 n F (by kernel_rfl) (F2.out.drew) hnm (s1.W k).d (s1.W k).a hwd hwa (.agg (secA (s1.W k).x)) (by kernel_rfl) (by kernel_rfl) (isSec_sec _) ?_
      rw [hod]
      clear hod ho
      intro w3 hm3 hg3 hs3
      have R3 : Hid (RackK B w3 r m1 m2 (.slice (some ⟨g, 0, none⟩) N c) (s1.mid (fun _ => true) (k + 1)) N) := by
        rw [← HN.out]
        have R2' := R2.out
        rw [← HN.out] at R2'
        exact R2'.drew.layMid rfl n F (F1.out) F3.out hg3 hm3
      have K3 : Hid (Keep B w w3) := K2.out.drew.ofMap1 R2.out.drew hg3
      clear hm3 hg3 hs3 R2 K2 HS2 F1 F2 F3 hbx
      go_wp2_with fail
      go_roundw
      case rel => exact ⟨k + 1, by omega, by go_num, R3, K3⟩
      case measure => simp [intOf]; omega
    · have e : k = N := by omega
      subst e
      have HN := Lib.hid hN
      clear hN
      have R0 := R1.out
      obtain ⟨n, F, f1, f2, f3⟩ := R0.last
      have hL : Hid (∃ n F, n ≤ s1.cost ∧ MapS wr m1 n F ∧ ∀ d a, d < 4611686018427387904 → a < 4611686018427387904 → (F d a).getD (.agg (secA zeros)) = .agg (secA (s1.flushed.last d a))) := by
        refine ⟨n, F, ?_, f2, fun d a hd ha => ?_⟩
        · have : n + s1.nw ≤ s1.cost + k := f1
          have := HN.out
          omega
        · rw [f3 d a hd ha, ← HN.out]
          rfl
      clear R0 f1 f2 f3
      go_wp2_with fail
      refine (await_nil B _ r m1 (s1.mid (fun _ => true) k) s1.flushed _ ⟨rfl, rfl, rfl, rfl, rfl, rfl⟩ m2 R1.out.blk R1.out.hr R1.out.h1 R1.out.ne1 rfl hL.out (OK1.out.laid _)).mono ?_
      rintro e w2 ⟨rfl, h2, k2⟩
      have H2 := Lib.hid h2
      have K2 := Lib.hid (K1.out.trans k2)
      clear h2 k2 R1 K1
      go_wp2_with fail
      go_ret
      rw [EV.out.1, EV.out.2]
      exact ⟨rfl, H2.out, K2.out⟩
end Go.Proofs.YthioanenljpclaaGreatDoor
namespace Go.Proofs.YthioanenljpclaaGreatDoor
set_option maxRecDepth 100000
open Go.RowKit
set_option linter.unusedVariables false

/-- a slice of n ints -/
def Ints (w : World) (A : Option Addr) (n : Nat) (p : Nat → Int) : Prop :=
  (∀ i, i < n → -9223372036854775808 ≤ p i ∧ p i ≤ 9223372036854775807) ∧ n ≤ maxLen ∧ (n = 0 ∨ ∃ g o t cs, A = some ⟨g, o, none⟩ ∧ Blk w g t cs ∧ (t == 68 || t == 89) = false ∧ ∀ i, i < n → cs[o + i]? = some (.int .i64 (p i)))
theorem Ints.keep {B : Nat} {w w' : World} {A : Option Addr} {n : Nat} {p : Nat → Int} (h : Ints w A n p) (hk : Keep B w w') : Ints w' A n p := by
  obtain ⟨h1, h2, h3⟩ := h
  refine ⟨h1, h2, ?_⟩
  rcases h3 with h3 | ⟨g, o, t, cs, h4, h5, h6, h7⟩
  · exact .inl h3
  · exact .inr ⟨g, o, t, cs, h4, hk.block h5 h6, h6, h7⟩
/-- which of those that wait a crash keeps -/
def odd (n : Nat) (p : Nat → Int) (i : Nat) : Bool := decide (i < n) && !decide ((p i).tmod 2 = 0)
def RS.crashed (s : RS) (P : Nat → Bool) : RS := { s.laid P with off := false, armed := false, left := 0 }
theorem RS.ok.crashed {s : RS} (h : s.ok) (P : Nat → Bool) : (s.crashed P).ok := by
  have := h.laid P
  exact ⟨this.nd1, this.nd2, this.ns1, this.ns2, Nat.zero_le _, this.cost, this.wp, this.lp⟩

theorem RackK.crashed3 {B : Nat} {w : World} {r m1 m2 k : Nat} {v : Value} {s : RS} (h : RackK B w r m1 m2 v s k) :
    RackK B (((w.setCell ⟨r, 21, none⟩ (.bool false)).setCell ⟨r, 22, none⟩ (.bool false)).setCell ⟨r, 23, none⟩ (.int .i64 0)) r m1 m2 v { s with off := false, armed := false, left := 0 } k := by
  have h1 : RackK B (w.setCell ⟨r, 21, none⟩ (.bool false)) r m1 m2 v { s with off := false } k := h.put (i := 21) (by omega) rfl (fun j hj hne => by unfold rackCell; simp [hne]) rfl rfl rfl rfl
  have h2 : RackK B ((w.setCell ⟨r, 21, none⟩ (.bool false)).setCell ⟨r, 22, none⟩ (.bool false)) r m1 m2 v { s with off := false, armed := false } k := h1.put (i := 22) (by omega) rfl (fun j hj hne => by unfold rackCell; simp [hne]) rfl rfl rfl rfl
  refine h2.put (i := 23) (by omega) rfl (fun j hj hne => ?_) rfl rfl rfl rfl
  unfold rackCell
  by_cases e1 : j = 21
  · subst e1; rfl
  by_cases e2 : j = 22
  · subst e2; rfl
  by_cases e3 : j < 21
  · simp [e3]
  · omega

set_option maxRecDepth 100000 in
set_option maxHeartbeats 1600000 in
theorem crash_any {B : Nat} (w : World) (r : Nat) (s1 : RS) (pa : Option Addr) (pn pc : Nat) (p : Nat → Int) (h : RackAt B w r s1) (hp : Ints w pa pn p) :
    Calls Tryz.prog 12 #[.pointer (some ⟨r, 0, none⟩), .slice pa pn pc] w fun e w' => e = .returned (.tuple #[]) ∧ RackAt B w' r (s1.crashed (odd pn p)) ∧ Keep B w w' := by
  obtain ⟨h0, m1, m2, v, hw⟩ := h
  have OK1 := Lib.hid h0
  have HW1 := Lib.hid hw
  have HP := Lib.hid hp
  clear h0 hw hp
  have c3 := HW1.out.c3
  have hcost := OK1.out.cost
  have hnw := HW1.out.nw_le
  obtain ⟨A, c, hv3⟩ : ∃ A c, v = .slice A s1.nw c := by
    rcases HW1.out.row.2 with ⟨rfl, e⟩ | ⟨g, cap, cur, rfl, _⟩
    · exact ⟨none, 0, by rw [e]⟩
    · exact ⟨_, _, rfl⟩
  subst hv3
  have hrowA : Hid (0 < s1.nw → ∃ g, A = some ⟨g, 0, none⟩) := by
    intro hn
    obtain ⟨g, cap, e⟩ := own_slice HW1.out.row hn
    injection e with e _
    exact ⟨g, e⟩
  have R : Hid (RackK B w r m1 m2 (.slice A s1.nw c) (s1.mid (odd pn p) 0) s1.nw) := Lib.hid HW1.out.atMid
  have K : Hid (Keep B w w) := Keep.refl B w
  clear HW1
  generalize hN : s1.nw = N at *
  have hpn : pn ≤ maxLen := HP.out.2.1
  unfold maxLen at hpn
  go_enter Tryz.func12, Tryz.ntmps12
  go_wp2_with fail
  go_loopw [13] (fun x wr => ∃ k : Nat, k ≤ N ∧ x = .int .i64 k ∧ Hid (RackK B wr r m1 m2 (.slice A N c) (s1.mid (odd pn p) k) N) ∧ Hid (Keep B w wr)) (fun x _ => N - (intOf x).toNat)
  case atStart => exact ⟨0, by omega, rfl, R, K⟩
  case round =>
    obtain ⟨k, hk, rfl, R1, K1⟩ := hrel
    clear R K c3
    by_cases hlt2 : k < N
    · obtain ⟨g, rfl⟩ := hrowA.out (by omega)
      have hld := load_row (W := s1.W) (g := g) (c := c) (n := N) (by have := R1.out.row; rw [← hN]; rw [← hN] at this; exact this) hlt2
      have i1 : (0 : Int) ≤ (k : Int) := by omega
      have i2 : (k : Int) < (N : Int) := by omega
      have HN := Lib.hid hN
      clear hN
      go_wp2_with (refine wpList_loadX rfl 89 _ rfl _ _ rfl hld ?_; refine of_hid ?_)
      refine Lib.hid ?_
      refine wpList_allocX rfl 89 rfl _ (alloc_waiting _) ?_
      refine wpList_assignX rfl _ rfl _ rfl ?_
      refine wpList_storeX rfl 89 (.tmp 5) (.tmp 17) rfl (.pointer (some ⟨wr.heap.size, 0, none⟩)) (.agg (waitA (s1.W k))) rfl rfl (store_newW wr ⟨0, 0, zeros⟩ (s1.W k)) ?_
      have hbx := Lib.hid (Blk.new wr 89 (waitA (s1.W k)))
      have R2 := Lib.hid (R1.out.alloc (.cells (waitA (s1.W k)) 89))
      have K2 := Lib.hid (K1.out.alloc R1.out.le (.cells (waitA (s1.W k)) 89))
      generalize wr.heap.size = bx at *
      clear R1 K1 hld
      generalize wr.alloc (.cells (waitA (s1.W k)) 89) = w2 at *
      obtain ⟨n, F, f1, f2, f3⟩ := R2.out.last
      have F1 := Lib.hid f1
      have F2 := Lib.hid f2
      have F3 := Lib.hid f3
      have hnm : n < maxLen := by
        have : n + s1.nw ≤ s1.cost + k := f1
        simp only [maxLen]
        have := HN.out
        omega
      have hwd : (s1.W k).d < 4611686018427387904 := by have := OK1.out.nd2; have := (OK1.out.wp k (by rw [HN.out]; exact hlt2)).1; omega
      have hwa : (s1.W k).a < 4611686018427387904 := by have := OK1.out.ns2; have := (OK1.out.wp k (by rw [HN.out]; exact hlt2)).2.1; omega
      clear f1 f2 f3
      have HS2 := Lib.hid (⟨R2.out.c2, hbx.out⟩ : LayS r m1 bx (waitA (s1.W k)) w2)
      have P2 := Lib.hid (HP.out.keep K2.out)
      by_cases hkp : k < pn
      rotate_left
      · have t1 : decide (k < pn) = false := by simp; omega
        have hodd : odd pn p k = false := by unfold odd; simp [hkp]
        have R3 : Hid (RackK B w2 r m1 m2 (.slice (some ⟨g, 0, none⟩) N c) (s1.mid (odd pn p) (k + 1)) N) := by
          rw [← HN.out]
          have R2' := R2.out
          rw [← HN.out] at R2'
          exact R2'.skipMid hodd
        clear hodd hkp
        go_wp2_with fail
        go_roundw
        case rel => exact ⟨k + 1, by omega, by go_num, R3, K2⟩
        case measure => simp [intOf]; omega
      have t1 : decide (k < pn) = true := by simp; omega
      obtain ⟨pg, po, pt, pcs, hpa, pb, _, pv⟩ := P2.out.2.2.resolve_left (by omega)
      subst hpa
      have pcell := (pb.cell (po + k)).trans (pv k hkp)
      have pbd := P2.out.1 k hkp
      have pb1 := pbd.1
      have pb2 := pbd.2
      have i3 : (k : Int) < (pn : Int) := by omega
      clear pb pv pbd
      by_cases hod : (p k).tmod 2 = 0
      · have hodd : odd pn p k = false := by unfold odd; simp [hod]
        have R3 : Hid (RackK B w2 r m1 m2 (.slice (some ⟨g, 0, none⟩) N c) (s1.mid (odd pn p) (k + 1)) N) := by
          rw [← HN.out]
          have R2' := R2.out
          rw [← HN.out] at R2'
          exact R2'.skipMid hodd
        clear hodd
        go_wp2_with fail
        go_roundw
        case rel => exact ⟨k + 1, by omega, by go_num, R3, K2⟩
        case measure => simp [intOf]; omega
      have hodd : odd pn p k = true := by unfold odd; simp [hod, hkp]
      have HO := Lib.hid hodd
      clear hodd
      go_wp2_with fail
      refine region_anyZ (LayS r m1 bx (waitA (s1.W k))) 8 (by kernel_rfl) ?_
      refine takeMove 0 (.tmp 0) (some 30) (.pointer (some ⟨r, 0, none⟩)) (by kernel_rfl) (by kernel_rfl) (by kernel_rfl) (fun _ _ _ h => h) HS2.out ?_
      refine takeNil 1 (.tmp 30) (some 31) ⟨r, 0, none⟩ (by kernel_rfl) (by kernel_rfl) (by kernel_rfl) (fun _ _ _ h => h) HS2.out ?_
      refine takeField 2 68 (.tmp 31) 2 (some 32) (.pointer (some ⟨r, 0, none⟩)) (.pointer (some ⟨r, 2, none⟩)) (by kernel_rfl) (by kernel_rfl) (by kernel_rfl) (fun w => by kernel_rfl) (fun _ _ _ h => h) HS2.out ?_
      refine takeLoad 3 63 (.tmp 32) (some 33) _ (.map (some m1)) (by kernel_rfl) (by kernel_rfl) (by kernel_rfl) (fun w hS => load_one Tryz.underlying63 rfl hS.1) (fun _ _ _ h => h) HS2.out ?_
      refine takeField 4 89 (.tmp 5) 0 (some 34) (.pointer (some ⟨bx, 0, none⟩)) (.pointer (some ⟨bx, 0, none⟩)) (by kernel_rfl) (by kernel_rfl) (by kernel_rfl) (fun w => by kernel_rfl) (fun _ _ _ h => h) HS2.out ?_
      refine takeLoad 5 84 (.tmp 34) (some 35) _ (pkey (s1.W k).d (s1.W k).a) (by kernel_rfl) (by kernel_rfl) (by kernel_rfl) (fun w hS => load_wplace hS.2) (fun _ _ _ h => h) HS2.out ?_
      refine takeField 6 89 (.tmp 5) 1 (some 36) (.pointer (some ⟨bx, 0, none⟩)) (.pointer (some ⟨bx, 2, none⟩)) (by kernel_rfl) (by kernel_rfl) (by kernel_rfl) (fun w => by kernel_rfl) (fun _ _ _ h => h) HS2.out ?_
      refine takeLoad 7 87 (.tmp 36) (some 37) _ (.agg (secA (s1.W k).x)) (by kernel_rfl) (by kernel_rfl) (by kernel_rfl) (fun w hS => load_wsector hS.2) (fun _ _ _ h => h) HS2.out ?_
      refine lastOp 8 (.mapUpdate 63 (.tmp 33) (.tmp 35) (.tmp 37)) none (by kernel_rfl) (by kernel_rfl) (by kernel_rfl) rfl ?_
      intro o ho hod
      refine wp_mapPut (.tmp 33) (.tmp 35) (.tmp 37) 63 87 ho Tryz.underlying63 m1 n F (by kernel_rfl) (F2.out.drew) hnm (s1.W k).d (s1.W k).a hwd hwa (.agg (secA (s1.W k).x)) (by kernel_rfl) (by kernel_rfl) (isSec_sec _) ?_
      rw [hod]
      clear hod ho
      intro w3 hm3 hg3 hs3
      have R3 : Hid (RackK B w3 r m1 m2 (.slice (some ⟨g, 0, none⟩) N c) (s1.mid (odd pn p) (k + 1)) N) := by
        rw [← HN.out]
        have R2' := R2.out
        rw [← HN.out] at R2'
        exact R2'.drew.layMid HO.out n F (F1.out) F3.out hg3 hm3
      have K3 : Hid (Keep B w w3) := K2.out.drew.ofMap1 R2.out.drew hg3
      clear hm3 hg3 hs3 R2 K2 HS2 F1 F2 F3 hbx
      go_wp2_with fail
      go_roundw
      case rel => exact ⟨k + 1, by omega, by go_num, R3, K3⟩
      case measure => simp [intOf]; omega
    · have e : k = N := by omega
      subst e
      have HN := Lib.hid hN
      clear hN
      have R0 := R1.out
      obtain ⟨n, F, f1, f2, f3⟩ := R0.last
      have hL : Hid (∃ n F, n ≤ s1.cost ∧ MapS wr m1 n F ∧ ∀ d a, d < 4611686018427387904 → a < 4611686018427387904 → (F d a).getD (.agg (secA zeros)) = .agg (secA ((s1.laid (odd pn p)).last d a))) := by
        refine ⟨n, F, ?_, f2, fun d a hd ha => ?_⟩
        · have : n + s1.nw ≤ s1.cost + k := f1
          have := HN.out
          omega
        · rw [f3 d a hd ha, ← HN.out]
          rfl
      clear R0 f1 f2 f3
      go_wp2_with fail
      refine (await_nil B _ r m1 (s1.mid (odd pn p) k) (s1.laid (odd pn p)) _ ⟨rfl, rfl, rfl, rfl, rfl, rfl⟩ m2 R1.out.blk R1.out.hr R1.out.h1 R1.out.ne1 rfl hL.out (OK1.out.laid _)).mono ?_
      rintro e w2 ⟨rfl, h2, k2⟩
      have K2 := Lib.hid (K1.out.trans k2)
      clear k2 R1 K1
      obtain ⟨_, n1, n2, v2, hw2⟩ := h2
      have c21 := hw2.c21
      have c22 := hw2.c22
      have c23 := hw2.c23
      have f21 := hw2.frozen 21
      have f22 := hw2.frozen 22
      have f23 := hw2.frozen 23
      have H4 := Lib.hid (hw2.crashed3)
      have K4 := Lib.hid (((K2.out.setRack hw2.blk hw2.hr 21 (.bool false)).setRack (hw2.blk.set_ 21 _) hw2.hr 22 (.bool false)).setRack ((hw2.blk.set_ 21 _).set_ 22 _) hw2.hr 23 (.int .i64 0))
      clear hw2
      go_wp2_with fail
      go_end0
      exact ⟨rfl, ⟨OK1.out.crashed _, n1, n2, v2, H4.out⟩, K4.out⟩
end Go.Proofs.YthioanenljpclaaGreatDoor
