/-
  The law's 'fresh' of stores: the program's and the document's stand on new racks. The conditions: bounds on the drives, the sectors, the transaction; nothing is used.
-/
import Derived.Test.YtkbndlnmbbbohaaGreatDoorStoCountsM
import Derived.Test.YtkbndlnmbbbohaaGreatDoorRefKeepM
import Derived.Test.YtkbndlnmbbbohaaGreatDoorRefNewM
import Derived.Test.YtkbndlnmbbbohaaGreatDoorArrShelfM
namespace Go.Proofs.YtkbndlnmbbbohaaGreatDoor
open Go Go.RowKit refRack
set_option maxRecDepth 100000
set_option linter.unusedVariables false
namespace Sto
open Sp Arr
section
variable {B : Nat} {w w' : World}
set_option maxHeartbeats 1600000 in
/-- the document's array is made -/
theorem r6new (w : World) (q f : Nat) (s : RS) (h : TAt B w q s) (h5 : 5 ≤ s.nd) (hn : s.nd ≤ 16) (hf : f < s.ns) (hs : s.ns ≤ 2000) :
    Calls Tryz.prog 48 #[.pointer (some ⟨q, 0, none⟩), .int .i64 (f : Int)] w fun e w' => ∃ b, e = .returned (.tuple #[.pointer (some ⟨b, 0, none⟩), .int .i64 0]) ∧ Below w.heap.size w w' ∧ TAt B w' q s ∧ Blk w' b 181 #[.pointer (some ⟨q, 0, none⟩), .int .i64 (s.nd : Int), .int .i64 (f : Int)] := by
  have HT := Lib.hid h
  obtain ⟨vL, vG, vW, H, C, hk⟩ := h
  obtain ⟨l, c, rfl, q1, _⟩ := hk.head (d := 0) (by omega)
  have q0 := hk.c0
  obtain ⟨nd, hnd⟩ : ∃ nd, nd = s.nd := ⟨_, rfl⟩
  obtain ⟨ns, hns⟩ : ∃ ns, ns = s.ns := ⟨_, rfl⟩
  have HND := Lib.hid hnd
  rw [← hnd] at q0 h5 hn
  rw [← hns] at q1 hf hs
  rw [← hnd]
  have t1 : ¬ ((nd : Int) < 5) := by omega
  have t2 : ¬ ((f : Int) < 0) := by omega
  have t3 : ¬ ((ns : Int) ≤ (f : Int)) := by omega
  have t4 : (0 : Int) < (nd : Int) := by omega
  have t5 : 0 < nd := by omega
  clear hk hnd hns h5 hf
  go_enter Tryz.func48, Tryz.ntmps48
  go_wp2_with fail
  go_ret2
  refine ⟨w.heap.size, rfl, (Below.refl _ _).alloc (Nat.le_refl _) _, HT.out.below ((Below.refl _ _).alloc (Nat.le_refl _) _), Blk.new _ _ _⟩
set_option maxHeartbeats 1600000 in
/-- the document's space is made, of which nothing is used -/
theorem r7new (w : World) (C : Nat) (h1 : 1 ≤ C) (h2 : C ≤ 40000) :
    Calls Tryz.prog 87 #[.int .i64 (C : Int), .slice none 0 0] w fun e w' => ∃ b, e = .returned (.tuple #[.pointer (some ⟨b, 0, none⟩), .int .i64 0]) ∧ Below w.heap.size w w' := by
  have t1 : ¬ ((C : Int) < 1) := by omega
  have t2 : ¬ ((40000 : Int) < (C : Int)) := by omega
  have mk := Ir.make_ints C (by omega) w (C : Int) rfl
  go_enter Tryz.func87, Tryz.ntmps87
  go_wp2_with fail
  go_loopw [6] (fun y wr => y = .int .i64 0 ∧ wr = w) (fun _ _ => 0)
  case atStart => exact ⟨rfl, rfl⟩
  case round =>
    obtain ⟨rfl, hw⟩ := hrel
    rw [hw]
    clear hw
    go_wp2_with fail
    go_loopw [8] (fun y wr => y = .int .i64 0 ∧ Hid (Below w.heap.size w wr)) (fun _ _ => 0)
    case atStart => exact ⟨rfl, Lib.hid (((Below.refl _ _).alloc (Nat.le_refl _) _).alloc (by simp) _)⟩
    case round =>
      obtain ⟨rfl, HB⟩ := hrel
      go_wp2_with fail
      go_ret2
      exact ⟨_, rfl, HB.out⟩
set_option maxHeartbeats 1600000 in
/-- the document's array's cells -/
theorem r6cells (w : World) (b q f : Nat) (s : RS) (h : TAt B w q s) (hb : Blk w b 181 #[.pointer (some ⟨q, 0, none⟩), .int .i64 (s.nd : Int), .int .i64 (f : Int)]) (h5 : 5 ≤ s.nd) (hn : s.nd ≤ 16) (hf : f < s.ns) (hs : s.ns ≤ 2000) :
    Calls Tryz.prog 88 #[.pointer (some ⟨b, 0, none⟩)] w fun e w' => e = .returned (.int .i64 ((Arr.cells s f : Nat) : Int)) ∧ ∃ n, w' = w.drewN n := by
  obtain ⟨vL, vG, vW, H, C, hk⟩ := h
  obtain ⟨l, c, rfl, q1, _⟩ := hk.head (d := 0) (by omega)
  have q0 := hk.c0
  have b0 : w.cell? ⟨b, 0, none⟩ = some (.pointer (some ⟨q, 0, none⟩)) := hb.cell 0
  have b1 : w.cell? ⟨b, 1, none⟩ = some (.int .i64 (s.nd : Int)) := hb.cell 1
  have b2 : w.cell? ⟨b, 2, none⟩ = some (.int .i64 (f : Int)) := hb.cell 2
  have HC : Hid (((Arr.cells s f : Nat) : Int) = (s.nd : Int) * ((s.ns : Int) - (f : Int))) := Lib.hid (by
    unfold Arr.cells
    rw [Int.natCast_mul, Int.natCast_sub (Nat.le_of_lt hf)])
  obtain ⟨nd, hnd⟩ : ∃ nd, nd = s.nd := ⟨_, rfl⟩
  obtain ⟨ns, hns⟩ : ∃ ns, ns = s.ns := ⟨_, rfl⟩
  rw [← hnd] at q0 h5 hn b1
  rw [← hns] at q1 hf hs
  rw [← hnd, ← hns] at HC
  rw [HC.out]
  have hmu : (0 : Int) ≤ (nd : Int) * ((ns : Int) - (f : Int)) ∧ (nd : Int) * ((ns : Int) - (f : Int)) ≤ 32000 := by
    have e : (nd : Int) * ((ns : Int) - (f : Int)) = ((nd * (ns - f) : Nat) : Int) := by rw [Int.natCast_mul, Int.natCast_sub (Nat.le_of_lt hf)]
    have h1 : nd * (ns - f) ≤ 16 * 2000 := Nat.mul_le_mul hn (by omega)
    omega
  have t4 : (0 : Int) < (nd : Int) := by omega
  have t5 : 0 < nd := by omega
  have i1 : I64 ((ns : Int) - (f : Int)) := by unfold I64; omega
  have i2 : I64 ((nd : Int) * ((ns : Int) - (f : Int))) := by unfold I64; omega
  clear hk hnd hns h5 hb HC
  obtain ⟨wr, hwr⟩ : ∃ wr, wr = w := ⟨_, rfl⟩
  rw [← hwr] at q0 q1 b0 b1 b2 ⊢
  clear hwr
  go_enter Tryz.func88, Tryz.ntmps88
  go_wp2_with fail
  go_quiet (fail)
  go_wp2_with fail
  go_ret
  exact ⟨rfl, _, rfl⟩
set_option maxHeartbeats 1600000 in
/-- the document's store is made -/
theorem r9new (w : World) (b q f tx : Nat) (s : RS) (h : TAt B w q s) (hb : Blk w b 181 #[.pointer (some ⟨q, 0, none⟩), .int .i64 (s.nd : Int), .int .i64 (f : Int)]) (h5 : 5 ≤ s.nd) (hn : s.nd ≤ 16) (hf : f < s.ns) (hs : s.ns ≤ 2000) (ht : 1 ≤ tx) (ht2 : tx ≤ 1000000000) :
    Calls Tryz.prog 49 #[.pointer (some ⟨b, 0, none⟩), .slice none 0 0, .int .i64 (tx : Int)] w fun e w' => ∃ g, e = .returned (.tuple #[.pointer (some ⟨g, 0, none⟩), .int .i64 0]) ∧ Below w.heap.size w w' := by
  have hc1 : 1 ≤ Arr.cells s f := by
    unfold Arr.cells
    exact Nat.le_trans (by omega) (Nat.mul_le_mul (show 1 ≤ s.nd by omega) (show 1 ≤ s.ns - f by omega))
  have hc2 : Arr.cells s f ≤ 40000 := by
    have h1 : s.nd * (s.ns - f) ≤ 16 * 2000 := Nat.mul_le_mul hn (by omega)
    unfold Arr.cells
    omega
  have HC := Lib.hid (r6cells w b q f s h hb h5 hn hf hs)
  have HN := Lib.hid (fun d => r7new (w.drewN d) (Arr.cells s f) hc1 hc2)
  have t1 : ¬ ((tx : Int) < 1) := by omega
  clear h hb h5 hn hf hs hc1 hc2
  go_enter Tryz.func49, Tryz.ntmps49
  go_wp2_with fail
  refine HC.out.mono ?_
  rintro e w1 ⟨rfl, d, rfl⟩
  go_wp2_with fail
  refine (HN.out d).mono ?_
  rintro e w2 ⟨g, rfl, b2⟩
  have B2 := Lib.hid ((below_drewN (Below.refl w.heap.size w) d).trans b2)
  clear b2
  go_wp2_with fail
  go_ret2
  exact ⟨_, rfl, B2.out.trans ((Below.refl w2.heap.size w2).alloc (Nat.le_refl _) _ |>.mono B2.out.size)⟩
set_option maxHeartbeats 800000 in
/-- both stand on new racks -/
theorem fresh_any (w : World) (D N tx : Nat) (h5 : 5 ≤ D) (h16 : D ≤ 16) (h2 : 2 ≤ N) (h20 : N ≤ 2000) (ht : 1 ≤ tx) (ht2 : tx ≤ 1000000000) :
    Calls Tryz.prog 19 #[.int .i64 (D : Int), .int .i64 (N : Int), .slice none 0 0, .int .i64 (tx : Int)] w fun e w' => ∃ g r a p sp m wd, e = .returned (.tuple #[.pointer (some ⟨g, 0, none⟩), .bool true, .bool true]) ∧
      Blk w' g 60 #[.pointer (some ⟨r, 0, none⟩), .pointer (some ⟨p, 0, none⟩), .pointer (some ⟨wd, 0, none⟩), .slice none 0 0] ∧ StoV w.heap.size w' p a r sp m 0 (.slice none 0 0) (new0 (RS.new D N) 1 tx) ∧ Keep w.heap.size w w' := by
  have HN := Lib.hid (new_any w D N (by omega) h16 (by omega) h20)
  have HB := Lib.hid (⟨h5, h16, h2, h20, ht, ht2⟩ : _ ∧ _ ∧ _ ∧ _ ∧ _ ∧ _)
  clear h5 h16 h2 h20 ht ht2
  go_enter Tryz.func19, Tryz.ntmps19
  go_wp2_with fail
  refine HN.out.mono ?_
  rintro e w1 ⟨⟨r, rfl, h1⟩, k1⟩
  have R1 := Lib.hid h1
  have K1 := Lib.hid k1
  have HQ := Lib.hid (new_k w1 D N (by have := HB.out.1; omega) HB.out.2.1 (by have := HB.out.2.2.1; omega) HB.out.2.2.2.1)
  clear h1 k1 HN
  go_wp2_with fail
  refine HQ.out.mono ?_
  rintro e w2 ⟨q, rfl, t2, b2⟩
  have T2 := Lib.hid t2
  have R2 := Lib.hid (R1.out.below b2)
  have K2 := Lib.hid (K1.out.new b2 R1.out.le)
  have HA := Lib.hid (new_ok w2 R2.out (f := 1) (by have := HB.out.1; exact this) (by have := HB.out.2.2.1; show 1 < N; omega))
  clear t2 b2 HQ R1 K1
  go_wp2_with fail
  refine HA.out.mono ?_
  rintro e w3 ⟨rfl, hw3, a3, k3⟩
  have B3 : Hid (Below w2.heap.size w2 w3) := Lib.hid (by rw [hw3]; exact (Below.refl _ _).alloc (Nat.le_refl _) _)
  clear hw3 HA
  obtain ⟨a, ha⟩ : ∃ a, a = w2.heap.size := ⟨_, rfl⟩
  rw [← ha] at a3 ⊢
  have A3 := Lib.hid a3
  have K3 := Lib.hid (K2.out.trans k3)
  have T3 := Lib.hid (T2.out.below B3.out)
  have HR6 := Lib.hid (r6new w3 q 1 (RS.new D N) T3.out (by have := HB.out.1; exact this) HB.out.2.1 (by have := HB.out.2.2.1; show 1 < N; omega) HB.out.2.2.2.1)
  clear a3 k3 ha T2 R2 K2 B3
  go_wp2_with fail
  refine HR6.out.mono ?_
  rintro e w4 ⟨b, rfl, b4, t4, x4⟩
  have A4 := Lib.hid (A3.out.grown_ b4)
  have K4 := Lib.hid (K3.out.new b4 A3.out.rack.le)
  have T4 := Lib.hid t4
  have X4 := Lib.hid x4
  have HC1 : Hid (1 ≤ Arr.cells (RS.new D N) 1) := Lib.hid (by
    show 1 ≤ D * (N - 1)
    exact Nat.le_trans (by omega) (Nat.mul_le_mul (show 1 ≤ D by have := HB.out.1; omega) (show 1 ≤ N - 1 by have := HB.out.2.2.1; omega)))
  have HST := Lib.hid (stonew_any w4 A4.out tx HB.out.2.2.2.2.1 HB.out.2.2.2.2.2 HC1.out)
  clear b4 t4 x4 HR6 A3 K3 T3
  go_wp2_with fail
  go_loopw [19, 20] (fun z y wr => z = .slice none 0 0 ∧ y = .int .i64 0 ∧ wr = w4) (fun _ _ _ => 0)
  case atStart => exact ⟨rfl, rfl, rfl⟩
  case round =>
    obtain ⟨rfl, rfl, hw⟩ := hrel
    rw [hw]
    clear hw
    go_wp2_with fail
    refine HST.out.mono ?_
    rintro e w5 ⟨p, sp, m, rfl, s5, b5⟩
    have S5 := Lib.hid s5
    have K5 := Lib.hid (K4.out.new b5 A4.out.rack.le)
    have T5 := Lib.hid (T4.out.below b5)
    have X5 := Lib.hid (X4.out.below b5 X4.out.lt)
    have H9 := Lib.hid (r9new w5 b q 1 tx (RS.new D N) T5.out X5.out (by have := HB.out.1; exact this) HB.out.2.1 (by have := HB.out.2.2.1; show 1 < N; omega) HB.out.2.2.2.1 HB.out.2.2.2.2.1 HB.out.2.2.2.2.2)
    clear s5 b5 HST A4 K4 T4 X4
    go_wp2_with fail
    refine H9.out.mono ?_
    rintro e w6 ⟨wd, rfl, b6⟩
    have S6 := Lib.hid (S5.out.below b6)
    have K6 := Lib.hid (K5.out.new b6 S5.out.le)
    clear b6 H9 S5 K5 T5 X5
    go_wp2_with fail
    refine bodyPost_ret (results_tmp3 rfl _ _ _) rfl ?_
    have hb := (Below.refl w6.heap.size w6).alloc (Nat.le_refl _) (.cells #[.pointer (some ⟨r, 0, none⟩), .pointer (some ⟨p, 0, none⟩), .pointer (some ⟨wd, 0, none⟩), .slice none 0 0] 60)
    exact ⟨w6.heap.size, r, a, p, sp, m, wd, rfl, Blk.new _ _ _, S6.out.below hb, K6.out.new hb S6.out.le⟩
end
end Sto
end Go.Proofs.YtkbndlnmbbbohaaGreatDoor
namespace Go.Proofs.YtkbndlnmbbbohaaGreatDoor
open Go Go.RowKit refRack
set_option maxRecDepth 100000
set_option linter.unusedVariables false
namespace Sto
open Sp Arr
def frontL (k C : Nat) : List Rg := if k < C then [(k, C)] else []
theorem mem_front (k C x : Nat) : Sp.mem (frontL k C) x ↔ k ≤ x ∧ x < C := by
  unfold frontL
  split
  · exact mem_one k C x
  · exact ⟨fun h => absurd h (mem_nil x), fun h => by omega⟩
theorem ris_front (k C : Nat) : Ris 0 (frontL k C) := by
  unfold frontL
  split
  · next h => exact ⟨Nat.zero_le _, h, trivial⟩
  · trivial
structure Front (s : SS) (k : Nat) : Prop where
  good : Sp.Good s
  kept : s.kept = 0
  s0 : s.S 0 = frontL k s.cells
  le : k ≤ s.cells
theorem Front.new {C : Nat} (h : Sp.Good (allFree C)) (hc : 1 ≤ C) : Front (allFree C) 0 := ⟨h, rfl, by
  show [(0, C)] = frontL 0 C
  unfold frontL
  rw [if_pos (by omega)], Nat.zero_le _⟩
theorem Front.step {s : SS} {k c : Nat} (h : Front s k) (hc : 1 ≤ c) (hk : k + c ≤ s.cells) : Sp.rowL c (s.S 0) = some k ∧ c + s.kept ≤ Sp.cnt (s.S 0) ∧ Front (s.mv 0 1 k (k + c)) (k + c) := by
  have e0 : s.S 0 = [(k, s.cells)] := by rw [h.s0, frontL, if_pos (by omega)]
  have hh : Sp.hasL k (k + c) (s.S 0) = true := (Ris.has (by omega) (h.good.ris 0 (by omega))).2 (fun x h1 h2 => by rw [h.s0, mem_front]; omega)
  have hg := h.good.mv (f := 0) (t := 1) (by omega) (by omega) (by omega) (by omega) hh
  refine ⟨?_, ?_, hg, h.kept, ?_, hk⟩
  · rw [e0]; unfold Sp.rowL; rw [if_pos (by show c ≤ s.cells - k; omega)]
  · rw [e0, h.kept]
    show c + 0 ≤ (s.cells - k) + 0
    omega
  · refine Ris.uniq (hg.ris 0 (by omega)) (ris_front _ _) fun x => ?_
    rw [h.good.mv_mem (f := 0) (t := 1) (by omega) (by omega) (by omega) (by omega) hh 0 (by omega) x, mem_front]
    show (if k ≤ x ∧ x < k + c then 0 = 1 else Sp.mem (s.S 0) x) ↔ k + c ≤ x ∧ x < s.cells
    split
    · next hx => exact ⟨fun h => absurd h (by omega), fun h => by omega⟩
    · next hx =>
      rw [h.s0, mem_front]
      omega
/-- N drives of M sectors, k cells given out, the others free -/
structure Run (S : St) (N M k K : Nat) : Prop where
  like : Like (RS.new N M) S.s
  f : S.f = 1
  front : Front S.ss k
  all : S.ss.cells = Arr.cells S.s S.f
  few : S.mem.length ≤ 64
  cost : S.s.cost ≤ K
theorem Run.nd {S : St} {N M k K : Nat} (h : Run S N M k K) : S.s.nd = N := h.like.nd
theorem Run.cells {S : St} {N M k K : Nat} (h : Run S N M k K) : S.ss.cells = N * (M - 1) := by
  rw [h.all]
  unfold Arr.cells
  rw [h.like.nd, h.like.ns, h.f]
  rfl
theorem Run.new (N M tx : Nat) (h1 : 1 ≤ N) (h16 : N ≤ 16) (h2 : 2 ≤ M) (h3 : M ≤ 2000) (hg : Sp.Good (allFree (Arr.cells (RS.new N M) 1))) : Run (new0 (RS.new N M) 1 tx) N M 0 0 :=
  ⟨Like.refl _, rfl, Front.new hg (by
    show 1 ≤ N * (M - 1)
    exact Nat.le_trans (by omega) (Nat.mul_le_mul h1 (show 1 ≤ M - 1 by omega))), rfl, by show 0 ≤ 64; omega, Nat.le_refl _⟩
section
variable {B : Nat} {w w' : World} {p a r sp m : Nat} {v : Value} {S : St}
theorem put_run (w : World) (h : StoV B w p a r sp m 0 v S) (hl : Laid w) (hB : 0 < B) {N M k K : Nat} (hr : Run S N M k K) (htx : S.tx ≤ 1000000000) (hc3 : S.c3 ≤ 1000000)
    (g o n c : Nat) (dat : List Nat) (hd : Byt w (some ⟨g, o, none⟩) dat) (hn : n = dat.length) (h1 : 1 ≤ n) (hn2 : n ≤ 1024) (hnc : n ≤ c) (hcm : c ≤ maxLen) (hcost : K + Arr.cost N n ≤ 1000000) (hk : k + Arr.cost N n ≤ N * (M - 1)) (hp : 1 ≤ Arr.cost N n) :
    Calls Tryz.prog 11 #[.pointer (some ⟨p, 0, none⟩), .slice (some ⟨g, o, none⟩) n c] w fun e w' => e = .returned (.tuple #[.agg #[.int .i64 (k : Int), .int .i64 (n : Int), .int .i64 (S.tx : Int), .string (sumS n fun j => dat.getD j 0)], .int .i64 0]) ∧
      (∃ v' S' x, StoV B w' p a r sp m 0 v' S' ∧ Run S' N M (k + Arr.cost N n) (K + Arr.cost N n) ∧ S'.tx = S.tx ∧ S'.c0 = S.c0 ∧ S'.c1 = S.c1 ∧ S'.c2 = S.c2 ∧ S'.c3 = S.c3 + 1 ∧ (x.addr = (k : Int) ∧ x.sum = sumS n (fun j => dat.getD j 0) ∧ x.dat = dat) ∧ S'.mem = old (Sto.cut (k : Int) S.mem) ++ [x] ∧ S'.s = wrAll S.s 1 k (cellX N n fun j => dat.getD j 0) (Arr.cost N n)) ∧ KeepT B w w' := by
  have hst := hr.front.step hp (by rw [hr.cells]; exact hk)
  have hnd := hr.nd
  have hlk := wrAll_like S.s S.f k (cellX S.s.nd n fun j => dat.getD j 0) (Arr.cost S.s.nd n)
  rw [← hnd] at hst hcost
  refine (put_yes w h hl hB (hr.like.calm ⟨rfl, rfl⟩) (fun d => by rw [hr.like.gone]; rfl) hr.all hr.few htx hc3 g o n c dat hd hn h1 hn2 hnc hcm (by have := hr.cost; omega) k hst.1 hst.2.1).mono ?_
  rintro e w' ⟨rfl, ⟨x, v', hx1, hx2, hx3, hs⟩, hk'⟩
  refine ⟨rfl, ⟨v', _, x, hs, ⟨hr.like.trans hlk.1, hr.f, ?_, ?_, ?_, ?_⟩, rfl, rfl, rfl, rfl, rfl, ⟨hx1, hx2, hx3⟩, rfl, ?_⟩, hk'⟩
  · have h3 := hst.2.2
    rw [hnd] at h3 ⊢
    exact h3
  · show S.ss.cells = Arr.cells _ S.f
    rw [hlk.1.cells, hr.all]
  · show (old (Sto.cut (k : Int) S.mem) ++ [x]).length ≤ 64
    have h4 := old_len (l := Sto.cut (k : Int) S.mem) (Nat.le_trans (cut_len _ _) hr.few)
    rw [List.length_append]
    show _ + 1 ≤ 64
    omega
  · have h5 := hlk.2
    have h6 := hr.cost
    rw [← hnd]
    show (wrAll S.s S.f k (cellX S.s.nd n fun j => dat.getD j 0) (Arr.cost S.s.nd n)).cost ≤ _
    omega
  · show wrAll S.s S.f k (cellX S.s.nd n fun j => dat.getD j 0) (Arr.cost S.s.nd n) = _
    rw [hr.f, hnd]
end
end Sto
end Go.Proofs.YtkbndlnmbbbohaaGreatDoor
