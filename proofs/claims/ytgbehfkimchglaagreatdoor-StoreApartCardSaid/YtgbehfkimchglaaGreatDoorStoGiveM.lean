/-
 The law's 'fresh' of stores: the program's and the document's stand on new racks. The conditions: bounds on the drives, the sectors, the transaction; nothing is used.
-/
import Derived.Test.YtgbehfkimchglaaGreatDoorStoCountsM
import Derived.Test.YtgbehfkimchglaaGreatDoorRefAnewM
import Derived.Test.YtgbehfkimchglaaGreatDoorRefNew
import Derived.Test.YtgbehfkimchglaaGreatDoorArrShelfM
namespace Go.Proofs.YtgbehfkimchglaaGreatDoor
open Go Go.RowKit refRack
set_option maxRecDepth 100000
set_option linter.unusedVariables false
namespace Sto
open Sp Arr
section
variable {B : Nat} {w w' : World}
set_option maxHeartbeats 1600000 in
theorem r6new (w : World) (q f : Nat) (s : RS) (h : TAt B w q s) (h5 : 5 ≤ s.nd) (hn : s.nd ≤ 16) (hf : f < s.ns) (hs : s.ns ≤ 2000) :
  Calls Tryz.prog 31 #[.pointer (some ⟨q, 0, none⟩), .int .i64 (f : Int)] w fun e w' => ∃ b, e = .returned (.tuple #[.pointer (some ⟨b, 0, none⟩), .int .i64 0]) ∧ Below w.heap.size w w' ∧ TAt B w' q s ∧ Blk w' b 59 #[.pointer (some ⟨q, 0, none⟩), .int .i64 (s.nd : Int), .int .i64 (f : Int)] := by
 have HT := Lib.hid h
 obtain ⟨vL, vG, vW, H, C, hk⟩ := h
 obtain ⟨l, c, rfl, q1, _⟩ := hk.head (d := 0) (by omega)
 have q0 := hk.c0
 obtain ⟨nd, hnd⟩ : ∃ nd, nd = s.nd := ⟨_, rfl⟩
 obtain ⟨ns, hns⟩ : ∃ ns, ns = s.ns := ⟨_, rfl⟩
 have HND := Lib.hid hnd
 rw [← hnd] at q0 h5 hn
 rw [← hns] at q1 hf hs
 rw [← hnd]
 have t1 : ¬ ((nd : Int) < 5) := by omega
 have t2 : ¬ ((f : Int) < 0) := by omega
 have t3 : ¬ ((ns : Int) ≤ (f : Int)) := by omega
 have t4 : (0 : Int) < (nd : Int) := by omega
 have t5 : 0 < nd := by omega
 clear hk hnd hns h5 hf
 go_enter Tryz.func31, Tryz.ntmps31
 go_wp2_with fail
 go_ret2
 refine ⟨w.heap.size, rfl, (Below.refl _ _).alloc (Nat.le_refl _) _, HT.out.below ((Below.refl _ _).alloc (Nat.le_refl _) _), Blk.new _ _ _⟩
set_option maxHeartbeats 1600000 in
theorem r7new (w : World) (C : Nat) (h1 : 1 ≤ C) (h2 : C ≤ 40000) :
  Calls Tryz.prog 80 #[.int .i64 (C : Int), .slice none 0 0] w fun e w' => ∃ b, e = .returned (.tuple #[.pointer (some ⟨b, 0, none⟩), .int .i64 0]) ∧ Below w.heap.size w w' := by
 have t1 : ¬ ((C : Int) < 1) := by omega
 have t2 : ¬ ((40000 : Int) < (C : Int)) := by omega
 have mk := Ir.make_ints C (by omega) w (C : Int) rfl
 go_enter Tryz.func80, Tryz.ntmps80
 go_wp2_with fail
 go_loopw [6] (fun y wr => y = .int .i64 0 ∧ wr = w) (fun _ _ => 0)
 case atStart => exact ⟨rfl, rfl⟩
 case round =>
  obtain ⟨rfl, hw⟩ := hrel
  rw [hw]
  clear hw
  go_wp2_with fail
  go_loopw [8] (fun y wr => y = .int .i64 0 ∧ Hid (Below w.heap.size w wr)) (fun _ _ => 0)
  case atStart => exact ⟨rfl, Lib.hid (((Below.refl _ _).alloc (Nat.le_refl _) _).alloc (by simp) _)⟩
  case round =>
   obtain ⟨rfl, HB⟩ := hrel
   go_wp2_with fail
   go_ret2
   exact ⟨_, rfl, HB.out⟩
set_option maxHeartbeats 1600000 in
theorem r6cells (w : World) (b q f : Nat) (s : RS) (h : TAt B w q s) (hb : Blk w b 59 #[.pointer (some ⟨q, 0, none⟩), .int .i64 (s.nd : Int), .int .i64 (f : Int)]) (h5 : 5 ≤ s.nd) (hn : s.nd ≤ 16) (hf : f < s.ns) (hs : s.ns ≤ 2000) :
  Calls Tryz.prog 81 #[.pointer (some ⟨b, 0, none⟩)] w fun e w' => e = .returned (.int .i64 ((Arr.cells s f : Nat) : Int)) ∧ ∃ n, w' = w.drewN n := by
 obtain ⟨vL, vG, vW, H, C, hk⟩ := h
 obtain ⟨l, c, rfl, q1, _⟩ := hk.head (d := 0) (by omega)
 have q0 := hk.c0
 have b0 : w.cell? ⟨b, 0, none⟩ = some (.pointer (some ⟨q, 0, none⟩)) := hb.cell 0
 have b1 : w.cell? ⟨b, 1, none⟩ = some (.int .i64 (s.nd : Int)) := hb.cell 1
 have b2 : w.cell? ⟨b, 2, none⟩ = some (.int .i64 (f : Int)) := hb.cell 2
 have HC : Hid (((Arr.cells s f : Nat) : Int) = (s.nd : Int) * ((s.ns : Int) - (f : Int))) := Lib.hid (by
  unfold Arr.cells
  rw [Int.natCast_mul, Int.natCast_sub (Nat.le_of_lt hf)])
 obtain ⟨nd, hnd⟩ : ∃ nd, nd = s.nd := ⟨_, rfl⟩
 obtain ⟨ns, hns⟩ : ∃ ns, ns = s.ns := ⟨_, rfl⟩
 rw [← hnd] at q0 h5 hn b1
 rw [← hns] at q1 hf hs
 rw [← hnd, ← hns] at HC
 rw [HC.out]
 have hmu : (0 : Int) ≤ (nd : Int) * ((ns : Int) - (f : Int)) ∧ (nd : Int) * ((ns : Int) - (f : Int)) ≤ 32000 := by
  have e : (nd : Int) * ((ns : Int) - (f : Int)) = ((nd * (ns - f) : Nat) : Int) := by rw [Int.natCast_mul, Int.natCast_sub (Nat.le_of_lt hf)]
  have h1 : nd * (ns - f) ≤ 16 * 2000 := Nat.mul_le_mul hn (by omega)
  omega
 have t4 : (0 : Int) < (nd : Int) := by omega
 have t5 : 0 < nd := by omega
 have i1 : I64 ((ns : Int) - (f : Int)) := by unfold I64; omega
 have i2 : I64 ((nd : Int) * ((ns : Int) - (f : Int))) := by unfold I64; omega
 clear hk hnd hns h5 hb HC
 obtain ⟨wr, hwr⟩ : ∃ wr, wr = w := ⟨_, rfl⟩
 rw [← hwr] at q0 q1 b0 b1 b2 ⊢
 clear hwr
 go_enter Tryz.func81, Tryz.ntmps81
 go_wp2_with fail
 go_quiet (fail)
 go_wp2_with fail
 go_ret
 exact ⟨rfl, _, rfl⟩
set_option maxHeartbeats 1600000 in
theorem r9new (w : World) (b q f tx : Nat) (s : RS) (h : TAt B w q s) (hb : Blk w b 59 #[.pointer (some ⟨q, 0, none⟩), .int .i64 (s.nd : Int), .int .i64 (f : Int)]) (h5 : 5 ≤ s.nd) (hn : s.nd ≤ 16) (hf : f < s.ns) (hs : s.ns ≤ 2000) (ht : 1 ≤ tx) (ht2 : tx ≤ 1000000000) :
  Calls Tryz.prog 32 #[.pointer (some ⟨b, 0, none⟩), .slice none 0 0, .int .i64 (tx : Int)] w fun e w' => ∃ g, e = .returned (.tuple #[.pointer (some ⟨g, 0, none⟩), .int .i64 0]) ∧ Below w.heap.size w w' := by
 have hc1 : 1 ≤ Arr.cells s f := by
  unfold Arr.cells
  exact Nat.le_trans (by omega) (Nat.mul_le_mul (show 1 ≤ s.nd by omega) (show 1 ≤ s.ns - f by omega))
 have hc2 : Arr.cells s f ≤ 40000 := by
  have h1 : s.nd * (s.ns - f) ≤ 16 * 2000 := Nat.mul_le_mul hn (by omega)
  unfold Arr.cells
  omega
 have HC := Lib.hid (r6cells w b q f s h hb h5 hn hf hs)
 have HN := Lib.hid (fun d => r7new (w.drewN d) (Arr.cells s f) hc1 hc2)
 have t1 : ¬ ((tx : Int) < 1) := by omega
 clear h hb h5 hn hf hs hc1 hc2
 go_enter Tryz.func32, Tryz.ntmps32
 go_wp2_with fail
 refine HC.out.mono ?_
 rintro e w1 ⟨rfl, d, rfl⟩
 go_wp2_with fail
 refine (HN.out d).mono ?_
 rintro e w2 ⟨g, rfl, b2⟩
 have B2 := Lib.hid ((below_drewN (Below.refl w.heap.size w) d).trans b2)
 clear b2
 go_wp2_with fail
 go_ret2
 exact ⟨_, rfl, B2.out.trans ((Below.refl w2.heap.size w2).alloc (Nat.le_refl _) _ |>.mono B2.out.size)⟩
set_option maxHeartbeats 800000 in
theorem fresh_any (w : World) (D N tx : Nat) (h5 : 5 ≤ D) (h16 : D ≤ 16) (h2 : 2 ≤ N) (h20 : N ≤ 2000) (ht : 1 ≤ tx) (ht2 : tx ≤ 1000000000) :
  Calls Tryz.prog 11 #[.int .i64 (D : Int), .int .i64 (N : Int), .slice none 0 0, .int .i64 (tx : Int)] w fun e w' => ∃ g r a p sp m wd, e = .returned (.tuple #[.pointer (some ⟨g, 0, none⟩), .bool true, .bool true]) ∧
   Blk w' g 43 #[.pointer (some ⟨r, 0, none⟩), .pointer (some ⟨p, 0, none⟩), .pointer (some ⟨wd, 0, none⟩), .slice none 0 0] ∧ StoV w.heap.size w' p a r sp m 0 (.slice none 0 0) (new0 (RS.new D N) 1 tx) ∧ Keep w.heap.size w w' := by
 have HN := Lib.hid (new_any w D N (by omega) h16 (by omega) h20)
 have HB := Lib.hid (⟨h5, h16, h2, h20, ht, ht2⟩ : _ ∧ _ ∧ _ ∧ _ ∧ _ ∧ _)
 clear h5 h16 h2 h20 ht ht2
 go_enter Tryz.func11, Tryz.ntmps11
 go_wp2_with fail
 refine HN.out.mono ?_
 rintro e w1 ⟨⟨r, rfl, h1⟩, k1⟩
 have R1 := Lib.hid h1
 have K1 := Lib.hid k1
 have HQ := Lib.hid (new_k w1 D N (by have := HB.out.1; omega) HB.out.2.1 (by have := HB.out.2.2.1; omega) HB.out.2.2.2.1)
 clear h1 k1 HN
 go_wp2_with fail
 refine HQ.out.mono ?_
 rintro e w2 ⟨q, rfl, t2, b2⟩
 have T2 := Lib.hid t2
 have R2 := Lib.hid (R1.out.below b2)
 have K2 := Lib.hid (K1.out.new b2 R1.out.le)
 have HA := Lib.hid (new_ok w2 R2.out (f := 1) (by have := HB.out.1; exact this) (by have := HB.out.2.2.1; show 1 < N; omega))
 clear t2 b2 HQ R1 K1
 go_wp2_with fail
 refine HA.out.mono ?_
 rintro e w3 ⟨rfl, hw3, a3, k3⟩
 have B3 : Hid (Below w2.heap.size w2 w3) := Lib.hid (by rw [hw3]; exact (Below.refl _ _).alloc (Nat.le_refl _) _)
 clear hw3 HA
 obtain ⟨a, ha⟩ : ∃ a, a = w2.heap.size := ⟨_, rfl⟩
 rw [← ha] at a3 ⊢
 have A3 := Lib.hid a3
 have K3 := Lib.hid (K2.out.trans k3)
 have T3 := Lib.hid (T2.out.below B3.out)
 have HR6 := Lib.hid (r6new w3 q 1 (RS.new D N) T3.out (by have := HB.out.1; exact this) HB.out.2.1 (by have := HB.out.2.2.1; show 1 < N; omega) HB.out.2.2.2.1)
 clear a3 k3 ha T2 R2 K2 B3
 go_wp2_with fail
 refine HR6.out.mono ?_
 rintro e w4 ⟨b, rfl, b4, t4, x4⟩
 have A4 := Lib.hid (A3.out.grown_ b4)
 have K4 := Lib.hid (K3.out.new b4 A3.out.rack.le)
 have T4 := Lib.hid t4
 have X4 := Lib.hid x4
 have HC1 : Hid (1 ≤ Arr.cells (RS.new D N) 1) := Lib.hid (by
  show 1 ≤ D * (N - 1)
  exact Nat.le_trans (by omega) (Nat.mul_le_mul (show 1 ≤ D by have := HB.out.1; omega) (show 1 ≤ N - 1 by have := HB.out.2.2.1; omega)))
 have HST := Lib.hid (stonew_any w4 A4.out tx HB.out.2.2.2.2.1 HB.out.2.2.2.2.2 HC1.out)
 clear b4 t4 x4 HR6 A3 K3 T3
 go_wp2_with fail
 go_loopw [19, 20] (fun z y wr => z = .slice none 0 0 ∧ y = .int .i64 0 ∧ wr = w4) (fun _ _ _ => 0)
 case atStart => exact ⟨rfl, rfl, rfl⟩
 case round =>
  obtain ⟨rfl, rfl, hw⟩ := hrel
  rw [hw]
  clear hw
  go_wp2_with fail
  refine HST.out.mono ?_
  rintro e w5 ⟨p, sp, m, rfl, s5, b5⟩
  have S5 := Lib.hid s5
  have K5 := Lib.hid (K4.out.new b5 A4.out.rack.le)
  have T5 := Lib.hid (T4.out.below b5)
  have X5 := Lib.hid (X4.out.below b5 X4.out.lt)
  have H9 := Lib.hid (r9new w5 b q 1 tx (RS.new D N) T5.out X5.out (by have := HB.out.1; exact this) HB.out.2.1 (by have := HB.out.2.2.1; show 1 < N; omega) HB.out.2.2.2.1 HB.out.2.2.2.2.1 HB.out.2.2.2.2.2)
  clear s5 b5 HST A4 K4 T4 X4
  go_wp2_with fail
  refine H9.out.mono ?_
  rintro e w6 ⟨wd, rfl, b6⟩
  have S6 := Lib.hid (S5.out.below b6)
  have K6 := Lib.hid (K5.out.new b6 S5.out.le)
  clear b6 H9 S5 K5 T5 X5
  go_wp2_with fail
  refine bodyPost_ret (results_tmp3 rfl _ _ _) rfl ?_
  have hb := (Below.refl w6.heap.size w6).alloc (Nat.le_refl _) (.cells #[.pointer (some ⟨r, 0, none⟩), .pointer (some ⟨p, 0, none⟩), .pointer (some ⟨wd, 0, none⟩), .slice none 0 0] 43)
  exact ⟨w6.heap.size, r, a, p, sp, m, wd, rfl, Blk.new _ _ _, S6.out.below hb, K6.out.new hb S6.out.le⟩
end
end Sto
end Go.Proofs.YtgbehfkimchglaaGreatDoor
namespace Go.Proofs.YtgbehfkimchglaaGreatDoor
open Go Go.RowKit refRack
set_option maxRecDepth 100000
set_option linter.unusedVariables false
namespace Sto
open Sp Arr
def frontL (k C : Nat) : List Rg := if k < C then [(k, C)] else []
theorem mem_front (k C x : Nat) : Sp.mem (frontL k C) x ↔ k ≤ x ∧ x < C := by
 unfold frontL
 split
 ·exact mem_one k C x
 ·exact ⟨fun h => absurd h (mem_nil x), fun h => by omega⟩
theorem ris_front (k C : Nat) : Ris 0 (frontL k C) := by
 unfold frontL
 split
 ·next h => exact ⟨Nat.zero_le _, h, trivial⟩
 ·trivial
structure Front (s : SS) (k : Nat) : Prop where
 good : Sp.Good s
 kept : s.kept = 0
 s0 : s.S 0 = frontL k s.cells
 le : k ≤ s.cells
theorem Front.new {C : Nat} (h : Sp.Good (allFree C)) (hc : 1 ≤ C) : Front (allFree C) 0 := ⟨h, rfl, by
 show [(0, C)] = frontL 0 C
 unfold frontL
 rw [if_pos (by omega)], Nat.zero_le _⟩
theorem Front.step {s : SS} {k c : Nat} (h : Front s k) (hc : 1 ≤ c) (hk : k + c ≤ s.cells) : Sp.rowL c (s.S 0) = some k ∧ c + s.kept ≤ Sp.cnt (s.S 0) ∧ Front (s.mv 0 1 k (k + c)) (k + c) := by
 have e0 : s.S 0 = [(k, s.cells)] := by rw [h.s0, frontL, if_pos (by omega)]
 have hh : Sp.hasL k (k + c) (s.S 0) = true := (Ris.has (by omega) (h.good.ris 0 (by omega))).2 (fun x h1 h2 => by rw [h.s0, mem_front]; omega)
 have hg := h.good.mv (f := 0) (t := 1) (by omega) (by omega) (by omega) (by omega) hh
 refine ⟨?_, ?_, hg, h.kept, ?_, hk⟩
 ·rw [e0]; unfold Sp.rowL; rw [if_pos (by show c ≤ s.cells - k; omega)]
 ·rw [e0, h.kept]
  show c + 0 ≤ (s.cells - k) + 0
  omega
 ·refine Ris.uniq (hg.ris 0 (by omega)) (ris_front _ _) fun x => ?_
  rw [h.good.mv_mem (f := 0) (t := 1) (by omega) (by omega) (by omega) (by omega) hh 0 (by omega) x, mem_front]
  show (if k ≤ x ∧ x < k + c then 0 = 1 else Sp.mem (s.S 0) x) ↔ k + c ≤ x ∧ x < s.cells
  split
  ·next hx => exact ⟨fun h => absurd h (by omega), fun h => by omega⟩
  ·next hx =>
   rw [h.s0, mem_front]
   omega
structure Run (S : St) (N M k K : Nat) : Prop where
 like : Like (RS.new N M) S.s
 f : S.f = 1
 front : Front S.ss k
 all : S.ss.cells = Arr.cells S.s S.f
 few : S.mem.length ≤ 64
 cost : S.s.cost ≤ K
theorem Run.nd {S : St} {N M k K : Nat} (h : Run S N M k K) : S.s.nd = N := h.like.nd
theorem Run.cells {S : St} {N M k K : Nat} (h : Run S N M k K) : S.ss.cells = N * (M - 1) := by
 rw [h.all]
 unfold Arr.cells
 rw [h.like.nd, h.like.ns, h.f]
 rfl
theorem Run.new (N M tx : Nat) (h1 : 1 ≤ N) (h16 : N ≤ 16) (h2 : 2 ≤ M) (h3 : M ≤ 2000) (hg : Sp.Good (allFree (Arr.cells (RS.new N M) 1))) : Run (new0 (RS.new N M) 1 tx) N M 0 0 :=
 ⟨Like.refl _, rfl, Front.new hg (by
  show 1 ≤ N * (M - 1)
  exact Nat.le_trans (by omega) (Nat.mul_le_mul h1 (show 1 ≤ M - 1 by omega))), rfl, by show 0 ≤ 64; omega, Nat.le_refl _⟩
section
variable {B : Nat} {w w' : World} {p a r sp m : Nat} {v : Value} {S : St}
theorem put_run (w : World) (h : StoV B w p a r sp m 0 v S) (hl : Laid w) (hB : 0 < B) {N M k K : Nat} (hr : Run S N M k K) (htx : S.tx ≤ 1000000000) (hc3 : S.c3 ≤ 1000000)
  (g o n c : Nat) (dat : List Nat) (hd : Byt w (some ⟨g, o, none⟩) dat) (hn : n = dat.length) (h1 : 1 ≤ n) (hn2 : n ≤ 1024) (hnc : n ≤ c) (hcm : c ≤ maxLen) (hcost : K + Arr.cost N n ≤ 1000000) (hk : k + Arr.cost N n ≤ N * (M - 1)) (hp : 1 ≤ Arr.cost N n) :
  Calls Tryz.prog 21 #[.pointer (some ⟨p, 0, none⟩), .slice (some ⟨g, o, none⟩) n c] w fun e w' => e = .returned (.tuple #[.agg #[.int .i64 (k : Int), .int .i64 (n : Int), .int .i64 (S.tx : Int), .string (sumS n fun j => dat.getD j 0)], .int .i64 0]) ∧
   (∃ v' S' x, StoV B w' p a r sp m 0 v' S' ∧ Run S' N M (k + Arr.cost N n) (K + Arr.cost N n) ∧ S'.tx = S.tx ∧ S'.c0 = S.c0 ∧ S'.c1 = S.c1 ∧ S'.c2 = S.c2 ∧ S'.c3 = S.c3 + 1 ∧ (x.addr = (k : Int) ∧ x.sum = sumS n (fun j => dat.getD j 0) ∧ x.dat = dat) ∧ S'.mem = old (Sto.cut (k : Int) S.mem) ++ [x] ∧ S'.s = wrAll S.s 1 k (cellX N n fun j => dat.getD j 0) (Arr.cost N n)) ∧ KeepT B w w' := by
 have hst := hr.front.step hp (by rw [hr.cells]; exact hk)
 have hnd := hr.nd
 have hlk := wrAll_like S.s S.f k (cellX S.s.nd n fun j => dat.getD j 0) (Arr.cost S.s.nd n)
 rw [← hnd] at hst hcost
 refine (put_yes w h hl hB (hr.like.calm ⟨rfl, rfl⟩) (fun d => by rw [hr.like.gone]; rfl) hr.all hr.few htx hc3 g o n c dat hd hn h1 hn2 hnc hcm (by have := hr.cost; omega) k hst.1 hst.2.1).mono ?_
 rintro e w' ⟨rfl, ⟨x, v', hx1, hx2, hx3, hs⟩, hk'⟩
 refine ⟨rfl, ⟨v', _, x, hs, ⟨hr.like.trans hlk.1, hr.f, ?_, ?_, ?_, ?_⟩, rfl, rfl, rfl, rfl, rfl, ⟨hx1, hx2, hx3⟩, rfl, ?_⟩, hk'⟩
 ·have h3 := hst.2.2
  rw [hnd] at h3 ⊢
  exact h3
 ·show S.ss.cells = Arr.cells _ S.f
  rw [hlk.1.cells, hr.all]
 ·show (old (Sto.cut (k : Int) S.mem) ++ [x]).length ≤ 64
  have h4 := old_len (l := Sto.cut (k : Int) S.mem) (Nat.le_trans (cut_len _ _) hr.few)
  rw [List.length_append]
  show _ + 1 ≤ 64
  omega
 ·have h5 := hlk.2
  have h6 := hr.cost
  rw [← hnd]
  show (wrAll S.s S.f k (cellX S.s.nd n fun j => dat.getD j 0) (Arr.cost S.s.nd n)).cost ≤ _
  omega
 ·show wrAll S.s S.f k (cellX S.s.nd n fun j => dat.getD j 0) (Arr.cost S.s.nd n) = _
  rw [hr.f, hnd]
end
end Sto
end Go.Proofs.YtgbehfkimchglaaGreatDoor
namespace Go.Proofs.YtgbehfkimchglaaGreatDoor
open Go Go.RowKit refRack
set_option maxRecDepth 100000
set_option linter.unusedVariables false
namespace Sto
open Sp Arr
section
variable {B : Nat} {w w' : World} {p a r sp m : Nat} {v : Value} {S : St}
set_option maxHeartbeats 3200000 in
theorem give_any (w : World) (h : StoV B w p a r sp m 0 v S) (hfew : S.mem.length ≤ 64) (ad : Int) (n : Nat) (bi : Int) (sm : ByteArray) (h1 : 1 ≤ n) (hn : n ≤ 1024) (ha1 : -9223372036854775808 ≤ ad) (ha2 : ad ≤ 9223372036854775807) (er : Int) (s' : SS) (hg : giveS S.ss ad ((Arr.cost S.s.nd n : Nat) : Int) = (er, s')) (her : er = 0 ∨ (er = 7 ∧ s' = S.ss)) :
  Calls Tryz.prog 23 #[.pointer (some ⟨p, 0, none⟩), .agg #[.int .i64 ad, .int .i64 (n : Int), .int .i64 bi, .string sm]] w fun e w' => e = .returned (.int .i64 er) ∧ (∃ v', StoV B w' p a r sp m 0 v' { S with ss := s', mem := if er = 0 then Sto.cut ad S.mem else S.mem }) ∧ KeepT B w w' := by
 obtain ⟨bx, hbx⟩ : ∃ bx, bx = w.heap.size := ⟨_, rfl⟩
 obtain ⟨wa, hwa⟩ : ∃ wa, wa = w.alloc (.cells #[.int .i64 ad, .int .i64 (n : Int), .int .i64 bi, .string sm] 73) := ⟨_, rfl⟩
 have hba : Below w.heap.size w wa := by rw [hwa]; exact (Below.refl _ _).alloc (Nat.le_refl _) _
 have HA := Lib.hid (h.below hba)
 have XB : Hid (Blk wa bx 73 #[.int .i64 ad, .int .i64 (n : Int), .int .i64 bi, .string sm]) := Lib.hid (by rw [hwa, hbx]; exact Blk.new _ _ _)
 have KA : Hid (KeepT B w wa) := Lib.hid (KeepT.of_new hba h.le)
 have HE := Lib.hid (enter_any wa HA.out)
 have HWA := Lib.hid hwa
 have HBX := Lib.hid hbx
 have hcr : Arr.cost S.s.nd n ≤ 32 := (cost_room h.arr.five h.arr.bounds.1 h1 hn).1
 obtain ⟨C, hC⟩ : ∃ C, C = Arr.cost S.s.nd n := ⟨_, rfl⟩
 have HC := Lib.hid hC
 rw [← hC] at hg hcr
 have HG := Lib.hid hg
 have HFW := Lib.hid hfew
 clear h hba hwa hbx hC hg hfew
 go_enter_defers Tryz.func23, Tryz.ntmps23
 go_wp2_with fail
 rw [← HWA.out, ← HBX.out]
 refine HE.out.mono ?_
 rintro e w1 ⟨rfl, s1, k1⟩
 have S1 := Lib.hid s1
 have K1 := Lib.hid (KA.out.trans (KeepT.mem k1))
 have X1 : Hid (Blk w1 bx 73 #[.int .i64 ad, .int .i64 (n : Int), .int .i64 bi, .string sm]) := Lib.hid (k1.kept _ _ XB.out rfl)
 clear s1 k1 HE HA XB KA
 go_upto_region 4 with (fail)
 have SD := Lib.hid (S1.out.below (Below.refl w1.heap.size w1).drew)
 have KD := Lib.hid (K1.out.new (Below.refl w1.heap.size w1).drew S1.out.le)
 have HS0 : Hid (w1.drew.cell? ⟨p, 0, none⟩ = some (.pointer (some ⟨a, 0, none⟩)) ∧ Blk w1.drew bx 73 #[.int .i64 ad, .int .i64 (n : Int), .int .i64 bi, .string sm]) := Lib.hid ⟨SD.out.blk.cell 0, show Blk w1 bx _ _ from X1.out⟩
 have HCO : Hid (Calls Tryz.prog 22 #[.pointer (some ⟨a, 0, none⟩), .int .i64 (n : Int)] w1.drew fun e w' => e = .returned (.tuple #[.int .i64 (C : Int), .int .i64 0]) ∧ w' = w1.drew) := Lib.hid (by rw [HC.out]; exact cost_ok w1.drew SD.out.arr n h1 hn)
 clear S1 K1 X1
 refine wp_region_noPanic ?_
 refine region_anyZ (fun W => W.cell? ⟨p, 0, none⟩ = some (.pointer (some ⟨a, 0, none⟩)) ∧ Blk W bx 73 #[.int .i64 ad, .int .i64 (n : Int), .int .i64 bi, .string sm]) 12 (by kernel_rfl) ?_
 refine takeG 0 (.move (.tmp 0)) (some 15) none (.pointer (some ⟨p, 0, none⟩)) (by kernel_rfl) (by kernel_rfl) (by kernel_rfl) (fun _ _ _ h => h) (fun o' wq e hS => exec_move wq e (by kernel_rfl)) HS0.out ?_
 refine takeG 1 (.nilCheck (.tmp 15)) (some 16) none (.pointer (some ⟨p, 0, none⟩)) (by kernel_rfl) (by kernel_rfl) (by kernel_rfl) (fun _ _ _ h => h) (fun o' wq e hS => exec_nil wq e (by kernel_rfl)) HS0.out ?_
 refine takeG 2 (.fieldAddr 103 (.tmp 16) 0) (some 17) none (.pointer (some ⟨p, 0, none⟩)) (by kernel_rfl) (by kernel_rfl) (by kernel_rfl) (fun _ _ _ h => h) (fun o' wq e hS => exec_field (u := .pointer (some ⟨p, 0, none⟩)) wq e (by kernel_rfl) (by kernel_rfl)) HS0.out ?_
 refine takeG 3 (.load 67 (.tmp 17)) (some 18) none (.pointer (some ⟨a, 0, none⟩)) (by kernel_rfl) (by kernel_rfl) (by kernel_rfl) (fun _ _ _ h => h) (fun o' wq e hS => exec_load (x := (.tmp 17)) e (by kernel_rfl) (load_one Tryz.underlying67 (by kernel_rfl) hS.1)) HS0.out ?_
 refine takeG 4 (.fieldAddr 73 (.tmp 3) 1) (some 19) none (.pointer (some ⟨bx, 1, none⟩)) (by kernel_rfl) (by kernel_rfl) (by kernel_rfl) (fun _ _ _ h => h) (fun o' wq e hS => exec_field (u := .pointer (some ⟨bx, 0, none⟩)) wq e (by kernel_rfl) (by kernel_rfl)) HS0.out ?_
 refine takeG 5 (.load 3 (.tmp 19)) (some 20) none (.int .i64 (n : Int)) (by kernel_rfl) (by kernel_rfl) (by kernel_rfl) (fun _ _ _ h => h) (fun o' wq e hS => exec_load (x := (.tmp 19)) e (by kernel_rfl) (load_one Tryz.underlying3 (by kernel_rfl) (hS.2.cell 1))) HS0.out ?_
 refine loneG 6 (.call ⟨.value (.func 22), #[(.tmp 18), (.tmp 20)], #[67, 3]⟩) (some 21) none (by kernel_rfl) (by kernel_rfl) (by kernel_rfl) ?_
 intro o' ho hod
 refine wp_callC (f := 22) (args := #[.pointer (some ⟨a, 0, none⟩), .int .i64 (n : Int)]) (by cases o'; cases ho; kernel_rfl) HCO.out ?_
 rintro ee w2 ⟨rfl, hw⟩
 have hw := hw.symm
 subst hw
 refine ⟨_, rfl, ?_⟩
 rw [hod]
 clear hod ho
 refine ⟨fun _ => HS0.out, ?_⟩
 refine takeG 7 (.move (.tmp 21)) (some 14) none (.tuple #[.int .i64 (C : Int), .int .i64 0]) (by kernel_rfl) (by kernel_rfl) (by kernel_rfl) (fun _ _ _ h => h) (fun o' wq e hS => exec_move wq e (by kernel_rfl)) HS0.out ?_
 refine takeG 8 (.extract (.tmp 14) 0) (some 22) none (.int .i64 (C : Int)) (by kernel_rfl) (by kernel_rfl) (by kernel_rfl) (fun _ _ _ h => h) (fun o' wq e hS => exec_ext (vs := #[.int .i64 (C : Int), .int .i64 0]) wq e (by kernel_rfl) (by rfl)) HS0.out ?_
 refine takeG 9 (.extract (.tmp 14) 1) (some 23) none (.int .i64 0) (by kernel_rfl) (by kernel_rfl) (by kernel_rfl) (fun _ _ _ h => h) (fun o' wq e hS => exec_ext (vs := #[.int .i64 (C : Int), .int .i64 0]) wq e (by kernel_rfl) (by rfl)) HS0.out ?_
 refine loneG 10 (.assign (.tmp 22)) (some 5) none (by kernel_rfl) (by kernel_rfl) (by kernel_rfl) ?_
 intro o' ho hod
 refine wp_val (v := .int .i64 (C : Int)) (exec_assign _ ho (by kernel_rfl)) ?_
 rw [hod]
 clear hod ho
 refine ⟨fun _ => HS0.out, ?_⟩
 refine lastS 11 (.assign (.tmp 23)) (some 6) (.int .i64 0) (by kernel_rfl) (by kernel_rfl) (by kernel_rfl) HS0.out (fun o' e => exec_assign _ e (by kernel_rfl)) ?_
 refine NoPanic.normal ?_
 simp only [put_some, put_none, List.setIfInBounds_toArray, List.set_cons_succ, List.set_cons_zero]
 obtain ⟨w2, hw2⟩ : ∃ w2, w2 = w1.drew := ⟨_, rfl⟩
 rw [← hw2] at SD KD HS0 ⊢
 clear hw2 HCO
 go_upto_region 7 with (fail)
 have SD2 := Lib.hid (SD.out.below (Below.refl w2.heap.size w2).drew)
 have KD2 := Lib.hid (KD.out.new (Below.refl w2.heap.size w2).drew SD.out.le)
 have HT0 : Hid (w2.drew.cell? ⟨p, 3, none⟩ = some (.pointer (some ⟨sp, 0, none⟩)) ∧ Blk w2.drew bx 73 #[.int .i64 ad, .int .i64 (n : Int), .int .i64 bi, .string sm]) := Lib.hid ⟨SD2.out.blk.cell 3, show Blk w2 bx _ _ from HS0.out.2⟩
 have HGI : Hid (Calls Tryz.prog 62 #[.pointer (some ⟨sp, 0, none⟩), .int .i64 ad, .int .i64 (C : Int)] w2.drew fun e w' => e = .returned (.int .i64 er) ∧ SpPost B w2.drew w' sp m S.ss s') := Lib.hid (by
  have h := give_x SD2.out.spc ad (C : Int) ha1 ha2 (by omega) (by omega)
  rw [HG.out] at h
  exact h)
 clear SD KD HS0
 refine wp_region_noPanic ?_
 refine region_anyZ (fun W => W.cell? ⟨p, 3, none⟩ = some (.pointer (some ⟨sp, 0, none⟩)) ∧ Blk W bx 73 #[.int .i64 ad, .int .i64 (n : Int), .int .i64 bi, .string sm]) 9 (by kernel_rfl) ?_
 refine takeG 0 (.move (.tmp 0)) (some 27) none (.pointer (some ⟨p, 0, none⟩)) (by kernel_rfl) (by kernel_rfl) (by kernel_rfl) (fun _ _ _ h => h) (fun o' wq e hS => exec_move wq e (by kernel_rfl)) HT0.out ?_
 refine takeG 1 (.nilCheck (.tmp 27)) (some 28) none (.pointer (some ⟨p, 0, none⟩)) (by kernel_rfl) (by kernel_rfl) (by kernel_rfl) (fun _ _ _ h => h) (fun o' wq e hS => exec_nil wq e (by kernel_rfl)) HT0.out ?_
 refine takeG 2 (.fieldAddr 103 (.tmp 28) 2) (some 29) none (.pointer (some ⟨p, 3, none⟩)) (by kernel_rfl) (by kernel_rfl) (by kernel_rfl) (fun _ _ _ h => h) (fun o' wq e hS => exec_field (u := .pointer (some ⟨p, 0, none⟩)) wq e (by kernel_rfl) (by kernel_rfl)) HT0.out ?_
 refine takeG 3 (.load 92 (.tmp 29)) (some 30) none (.pointer (some ⟨sp, 0, none⟩)) (by kernel_rfl) (by kernel_rfl) (by kernel_rfl) (fun _ _ _ h => h) (fun o' wq e hS => exec_load (x := (.tmp 29)) e (by kernel_rfl) (load_one Tryz.underlying92 (by kernel_rfl) hS.1)) HT0.out ?_
 refine takeG 4 (.fieldAddr 73 (.tmp 3) 0) (some 31) none (.pointer (some ⟨bx, 0, none⟩)) (by kernel_rfl) (by kernel_rfl) (by kernel_rfl) (fun _ _ _ h => h) (fun o' wq e hS => exec_field (u := .pointer (some ⟨bx, 0, none⟩)) wq e (by kernel_rfl) (by kernel_rfl)) HT0.out ?_
 refine takeG 5 (.load 3 (.tmp 31)) (some 32) none (.int .i64 ad) (by kernel_rfl) (by kernel_rfl) (by kernel_rfl) (fun _ _ _ h => h) (fun o' wq e hS => exec_load (x := (.tmp 31)) e (by kernel_rfl) (load_one Tryz.underlying3 (by kernel_rfl) (hS.2.cell 0))) HT0.out ?_
 refine takeG 6 (.move (.tmp 5)) (some 33) none (.int .i64 (C : Int)) (by kernel_rfl) (by kernel_rfl) (by kernel_rfl) (fun _ _ _ h => h) (fun o' wq e hS => exec_move wq e (by kernel_rfl)) HT0.out ?_
 refine loneG 7 (.call ⟨.value (.func 62), #[(.tmp 30), (.tmp 32), (.tmp 33)], #[92, 3, 3]⟩) (some 34) none (by kernel_rfl) (by kernel_rfl) (by kernel_rfl) ?_
 intro o' ho hod
 refine wp_callC (f := 62) (args := #[.pointer (some ⟨sp, 0, none⟩), .int .i64 ad, .int .i64 (C : Int)]) (by cases o'; cases ho; kernel_rfl) HGI.out ?_
 rintro ee w3 ⟨rfl, p3⟩
 refine ⟨_, rfl, ?_⟩
 rw [hod]
 clear hod ho
 have P3 := Lib.hid p3
 have HT1 : Hid (w3.cell? ⟨p, 3, none⟩ = some (.pointer (some ⟨sp, 0, none⟩)) ∧ Blk w3 bx 73 #[.int .i64 ad, .int .i64 (n : Int), .int .i64 bi, .string sm]) := Lib.hid (by
  obtain ⟨F2, V2, f1, f2, _⟩ := p3
  exact ⟨(show Blk w3 p 103 _ from Frm.out f1 f2 SD2.out.blk rfl).cell 3, Frm.out f1 f2 HT0.out.2 rfl⟩)
 clear p3
 refine ⟨fun _ => HT1.out, ?_⟩
 refine lastS 8 (.assign (.tmp 34)) (some 7) (.int .i64 er) (by kernel_rfl) (by kernel_rfl) (by kernel_rfl) HT1.out (fun o' e => exec_assign _ e (by kernel_rfl)) ?_
 refine NoPanic.normal ?_
 simp only [put_some, put_none, List.setIfInBounds_toArray, List.set_cons_succ, List.set_cons_zero]
 obtain ⟨s3, k3⟩ := SD2.out.spc_ P3.out
 have S3 := Lib.hid s3
 have K3 := Lib.hid (KD2.out.trans k3)
 clear s3 k3 SD2 KD2 HT0 HGI
 rcases her with rfl | ⟨rfl, rfl⟩
 ·go_upto_region 10 with (fail)
  have S4 := Lib.hid (S3.out.below (Below.refl w3.heap.size w3).drew)
  have K4 := Lib.hid (K3.out.new (Below.refl w3.heap.size w3).drew S3.out.le)
  have HU0 : Hid (Blk w3.drew bx 73 #[.int .i64 ad, .int .i64 (n : Int), .int .i64 bi, .string sm]) := Lib.hid (show Blk w3 bx _ _ from HT1.out.2)
  have HFO := Lib.hid (forget_any w3.drew p _ v S.mem ad S4.out.blk rfl S4.out.row HFW.out S4.out.lo)
  clear S3 K3
  refine wp_region_noPanic ?_
  refine region_anyZ (fun W => Blk W bx 73 #[.int .i64 ad, .int .i64 (n : Int), .int .i64 bi, .string sm]) 5 (by kernel_rfl) ?_
  refine takeE 0 (.move (.tmp 0)) (some 38) none (.pointer (some ⟨p, 0, none⟩)) (by kernel_rfl) (by kernel_rfl) (by kernel_rfl) (fun _ _ _ h => h) (fun o' wq e hS => exec_move wq e (by kernel_rfl)) HU0.out ?_
  refine takeE 1 (.nilCheck (.tmp 38)) (some 39) none (.pointer (some ⟨p, 0, none⟩)) (by kernel_rfl) (by kernel_rfl) (by kernel_rfl) (fun _ _ _ h => h) (fun o' wq e hS => exec_nil wq e (by kernel_rfl)) HU0.out ?_
  refine takeE 2 (.fieldAddr 103 (.tmp 39) 4) (some 40) none (.pointer (some ⟨p, 5, none⟩)) (by kernel_rfl) (by kernel_rfl) (by kernel_rfl) (fun _ _ _ h => h) (fun o' wq e hS => exec_field (u := .pointer (some ⟨p, 0, none⟩)) wq e (by kernel_rfl) (by kernel_rfl)) HU0.out ?_
  refine takeE 3 (.fieldAddr 73 (.tmp 3) 0) (some 41) none (.pointer (some ⟨bx, 0, none⟩)) (by kernel_rfl) (by kernel_rfl) (by kernel_rfl) (fun _ _ _ h => h) (fun o' wq e hS => exec_field (u := .pointer (some ⟨bx, 0, none⟩)) wq e (by kernel_rfl) (by kernel_rfl)) HU0.out ?_
  refine takeE 4 (.load 3 (.tmp 41)) (some 42) none (.int .i64 ad) (by kernel_rfl) (by kernel_rfl) (by kernel_rfl) (fun _ _ _ h => h) (fun o' wq e hS => exec_load (x := (.tmp 41)) e (by kernel_rfl) (load_one Tryz.underlying3 (by kernel_rfl) (hS.cell 0))) HU0.out ?_
  refine lastOp 5 (.call ⟨.value (.func 68), #[(.tmp 40), (.tmp 42)], #[95, 3]⟩) (some 43) (by kernel_rfl) (by kernel_rfl) (by kernel_rfl) rfl ?_
  intro o' ho hod
  refine wp_callC (f := 68) (args := #[.pointer (some ⟨p, 5, none⟩), .int .i64 ad]) (by cases o'; cases ho; kernel_rfl) HFO.out ?_
  rintro ee w5 ⟨rfl, hm⟩
  refine ⟨_, rfl, ?_⟩
  rw [hod]
  clear hod ho
  refine NoPanic.normal ?_
  simp only [put_some, put_none, List.setIfInBounds_toArray, List.set_cons_succ, List.set_cons_zero]
  obtain ⟨v5, s5, k5⟩ := S4.out.memo hm
  have S5 := Lib.hid s5
  have K5 := Lib.hid (K4.out.trans (KeepT.mem k5))
  have HU := Lib.hid (fun u => unlock_deferred ⟨p, 1, none⟩ u w5 (S5.out.blk.cell 1) (S5.out.blk.frozen 1))
  have HP := Lib.hid (s5.put (i := 1) (u := .int .i32 0) (lk' := 0) (S' := { S with ss := s', mem := Sto.cut ad S.mem }) rfl rfl rfl rfl rfl)
  clear s5 k5 hm S4 K4 HFO HU0
  go_wp2_with fail
  refine leaves_cons (f := 27) (args := #[.pointer (some ⟨p, 1, none⟩)]) (by simp) (by simp [go_sem]) ?_
  refine (HU.out _).mono ?_
  rintro e u' w7 ⟨rfl, rfl, rfl⟩
  simp [Leaves, settle, results, Tryz.results23]
  exact ⟨⟨v5, HP.out.1⟩, K5.out.trans (KeepT.mem HP.out.2)⟩
 ·have HU := Lib.hid (fun u => unlock_deferred ⟨p, 1, none⟩ u w3 (S3.out.blk.cell 1) (S3.out.blk.frozen 1))
  have HP := Lib.hid (S3.out.put (i := 1) (u := .int .i32 0) (lk' := 0) (S' := S) rfl rfl rfl rfl rfl)
  go_wp2_with fail
  refine leaves_cons (f := 27) (args := #[.pointer (some ⟨p, 1, none⟩)]) (by simp) (by simp [go_sem]) ?_
  refine (HU.out _).mono ?_
  rintro e u' w7 ⟨rfl, rfl, rfl⟩
  simp [Leaves, settle, results, Tryz.results23]
  exact ⟨⟨v, HP.out.1⟩, K3.out.trans (KeepT.mem HP.out.2)⟩
end
end Sto
end Go.Proofs.YtgbehfkimchglaaGreatDoor
