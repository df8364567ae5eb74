/-
 A range brought from one state to another: each cell is still in one of the three. What stands where, told by the cells alone.
-/
import Derived.Test.YtkbndlnmbbbohaaGreatDoorSpcMove
import Derived.IntWalk
import Derived.Below
import Derived.Laws.OwnMore
import Derived.Deep.Draws
import Derived.Laws.Rows
import Derived.Laws.AppendOwn
import Derived.Deep.OwnRows
import Derived.OwnWalk
import Derived.Test.YtkbndlnmbbbohaaGreatDoorFieldGaussM
import Derived.Test.YtkbndlnmbbbohaaGreatDoorRackMapM
namespace Go.Proofs.YtkbndlnmbbbohaaGreatDoor
open Go Go.RowKit
set_option maxRecDepth 100000
set_option linter.unusedVariables false
namespace Sp
def SS.mv (s : SS) (f t a e : Nat) : SS := (s.upd f (outL a e (s.S f))).upd t (withL a e (s.S t))
section
variable {s : SS} {f t a e : Nat}
theorem mv_S (k : Nat) : (s.mv f t a e).S k = if k = t then withL a e (s.S t) else if k = f then outL a e (s.S f) else s.S k := rfl
theorem Good.apart (h : Good s) (hf : f < 3) (ht : t < 3) (hft : f ≠ t) (hae : a < e) (hh : hasL a e (s.S f) = true) : ∀ c, a ≤ c → c < e → ¬ mem (s.S t) c := fun c h1 h2 h3 =>
 hft (h.one f t c hf ht ((Ris.has hae (h.ris f hf)).1 hh c h1 h2) h3)
theorem Good.mv_mem (h : Good s) (hf : f < 3) (ht : t < 3) (hft : f ≠ t) (hae : a < e) (hh : hasL a e (s.S f) = true) (k : Nat) (hk : k < 3) (c : Nat) :
  mem ((s.mv f t a e).S k) c ↔ if a ≤ c ∧ c < e then k = t else mem (s.S k) c := by
 have ho := ((h.ris f hf).out_ hae hh).2.1 c
 have hw := ((h.ris t ht).with_ hae (Nat.zero_le _) (h.apart hf ht hft hae hh)).2.1 c
 have hin := fun h1 h2 => (Ris.has hae (h.ris f hf)).1 hh c h1 h2
 rw [mv_S]
 by_cases hc : a ≤ c ∧ c < e
 ·rw [if_pos hc]
  by_cases e1 : k = t
  ·rw [if_pos e1, hw]
   exact ⟨fun _ => e1, fun _ => .inr hc⟩
  ·rw [if_neg e1]
   by_cases e2 : k = f
   ·rw [if_pos e2, ho]
    exact ⟨fun h1 => absurd hc h1.2, fun h1 => absurd h1 e1⟩
   ·rw [if_neg e2]
    exact ⟨fun h1 => absurd (h.one k f c hk hf h1 (hin hc.1 hc.2)) e2, fun h1 => absurd h1 e1⟩
 ·rw [if_neg hc]
  by_cases e1 : k = t
  ·rw [if_pos e1, hw, e1]
   exact ⟨fun h1 => h1.elim id (fun h2 => absurd h2 hc), fun h1 => .inl h1⟩
  ·rw [if_neg e1]
   by_cases e2 : k = f
   ·rw [if_pos e2, ho, e2]
    exact ⟨fun h1 => h1.1, fun h1 => ⟨h1, hc⟩⟩
   ·rw [if_neg e2]
theorem Good.mv (h : Good s) (hf : f < 3) (ht : t < 3) (hft : f ≠ t) (hae : a < e) (hh : hasL a e (s.S f) = true) : Good (s.mv f t a e) := by
 have hM := fun k hk c => h.mv_mem hf ht hft hae hh k hk c
 have hin := fun c h1 h2 => (Ris.has hae (h.ris f hf)).1 hh c h1 h2
 refine ⟨h.hc, fun k hk => ?_, fun k hk c hc => ?_, fun k j c hk hj h1 h2 => ?_, fun c hc => ?_, h.kp⟩
 ·rw [mv_S]
  by_cases e1 : k = t
  ·rw [if_pos e1]; exact ((h.ris t ht).with_ hae (Nat.zero_le _) (h.apart hf ht hft hae hh)).1
  ·rw [if_neg e1]
   by_cases e2 : k = f
   ·rw [if_pos e2]; exact ((h.ris f hf).out_ hae hh).1
   ·rw [if_neg e2]; exact h.ris k hk
 ·have h1 := (hM k hk c).1 hc
  by_cases hr : a ≤ c ∧ c < e
  ·exact h.in_ f hf c (hin c hr.1 hr.2)
  ·rw [if_neg hr] at h1
   exact h.in_ k hk c h1
 ·have h3 := (hM k hk c).1 h1
  have h4 := (hM j hj c).1 h2
  by_cases hr : a ≤ c ∧ c < e
  ·rw [if_pos hr] at h3 h4
   exact h3.trans h4.symm
  ·rw [if_neg hr] at h3 h4
   exact h.one k j c hk hj h3 h4
 ·by_cases hr : a ≤ c ∧ c < e
  ·exact ⟨t, ht, (hM t ht c).2 (by rw [if_pos hr])⟩
  ·obtain ⟨k, hk, h1⟩ := h.all c hc
   exact ⟨k, hk, (hM k hk c).2 (by rw [if_neg hr]; exact h1)⟩
end
theorem move_sp {w : World} {base b m n : Nat} {F : Nat → Option Value} {V : Nat → Value} {s : SS} (h : Spc w base b m n F V s) (hbs : base ≤ w.heap.size) (hnm : n + 2 < maxLen) {a e f t : Nat} (hf : f < 3) (ht : t < 3) (hft : f ≠ t) (hae : a < e) (hes : e ≤ 1000000) :
  Calls Tryz.prog 51 #[.pointer (some ⟨b, 0, none⟩), .agg #[.int .i64 (a : Int), .int .i64 (e : Int)], .int .i64 (f : Int), .int .i64 (t : Int)] w fun er w' =>
   er = .returned (.bool (hasL a e (s.S f))) ∧ ∃ F' V', Spc w' base b m (n + 2) F' V' (if hasL a e (s.S f) then s.mv f t a e else s) ∧ Chg w w' b m V V' :=
 (move_rg h hbs hnm hf ht hft hae hes).mono fun er w' ⟨h1, h2⟩ => by
  cases hh : hasL a e (s.S f) with
  | false =>
   obtain ⟨rfl, hb⟩ := h1 hh
   have hm := h.mem.below hb (Nat.le_refl _)
   exact ⟨rfl, F, V, ⟨⟨hm.blk, hm.map.mono (by omega), hm.val, hm.own, hm.apart, hm.lo⟩, h.good⟩, Chg.of_below hb⟩
  | true =>
   obtain ⟨rfl, F', V', hm, hc⟩ := h2 hh
   exact ⟨rfl, F', V', ⟨hm, h.good.mv hf ht hft hae hh⟩, hc⟩
end Sp
end Go.Proofs.YtkbndlnmbbbohaaGreatDoor
namespace Go.Proofs.YtkbndlnmbbbohaaGreatDoor
open Go Go.RowKit
set_option maxRecDepth 100000
set_option linter.unusedVariables false
namespace Sp
theorem Ris.lt_ {lo : Nat} : ∀ {l}, Ris lo l → ∀ r ∈ l, r.1 < r.2
 | [], _, r, h => by cases h
 | q :: l, h, r, hr => by
  rcases List.mem_cons.1 hr with rfl | hr
  ·exact h.2.1
  ·exact Ris.lt_ h.2.2 r hr
theorem take_arg {w : World} {base b m n : Nat} {F : Nat → Option Value} {V : Nat → Value} {s : SS} (h : Spc w base b m n F V s) (k : Int) (hk : k < 1) :
  Calls Tryz.prog 29 #[.pointer (some ⟨b, 0, none⟩), .int .i64 k] w fun er w' => er = .returned (.tuple #[.int .i64 0, .int .i64 1]) ∧ w' = w := by
 have hn := Lib.hid (none_rg h)
 clear h
 go_enter Tryz.func29, Tryz.ntmps29
 go_wp2_with fail
 refine hn.out.mono ?_
 rintro e w' ⟨rfl, rfl⟩
 go_wp2_with fail
 go_ret2
 exact ⟨rfl, rfl⟩
set_option maxHeartbeats 3200000 in
theorem take_no {w : World} {base b m n : Nat} {F : Nat → Option Value} {V : Nat → Value} {s : SS} (h : Spc w base b m n F V s) (j : Nat) (hj : 1 ≤ j) (hno : ∀ x, rowL j (s.S 0) = some x → cnt (s.S 0) < j + s.kept) :
  Calls Tryz.prog 29 #[.pointer (some ⟨b, 0, none⟩), .int .i64 (j : Int)] w fun er w' => er = .returned (.tuple #[.int .i64 0, .int .i64 5]) ∧ Below w.heap.size w w' := by
 have hn := Lib.hid (none_rg h)
 have c2 : w.cell? ⟨b, 2, none⟩ = some (.map (some m)) := h.mem.blk.cell 2
 have hl : (Instr.lookup 132 (.map (some m)) (.int .i64 0) false).run Tryz.prog w = .ok (.agg #[V 0, .int .i64 (cnt (s.S 0) : Int)]) w := h.mem.look (k := 0) (by omega)
 obtain ⟨A, c, hv, hRd, _, _, _⟩ := (h.mem.own 0 (by omega)).shape
 have hrow := row_rg w A (s.S 0) c j (cnt (s.S 0)) hRd (h.len (by omega)) (fun r hr => by
  have h1 := h.good.hc
  have h2 := ((h.good.ris 0 (by omega)).in_ (h.good.in_ 0 (by omega)) r hr).2
  have h3 := (h.good.ris 0 (by omega)).lt_ r hr
  omega)
 rw [hv] at hl
 have HF := Lib.hid (fun (w1 : World) (hb : Below w.heap.size w w1) => free_rg (w := w1) ⟨h.mem.below hb (Nat.le_refl _), h.good⟩)
 have t0 : ¬ ((j : Int) < 1) := by omega
 obtain ⟨ans, hans⟩ : ∃ ans, ans = rowL j (s.S 0) := ⟨_, rfl⟩
 rw [← hans] at hrow hno
 have HR := Lib.hid hrow
 have HN := Lib.hid hno
 have hkc := h.cnt_le (k := 0) (by omega)
 have hkp := h.good.kp
 obtain ⟨n0, hn0⟩ : ∃ n0, n0 = (s.S 0).length := ⟨_, rfl⟩
 obtain ⟨C, hC⟩ : ∃ C, C = cnt (s.S 0) := ⟨_, rfl⟩
 obtain ⟨K, hK⟩ : ∃ K, K = s.kept := ⟨_, rfl⟩
 rw [← hn0, ← hC] at HR hl
 rw [← hC] at hkc
 rw [← hK] at hkp
 rw [← hC, ← hK] at HF HN
 clear h hrow hv hRd hans hno hn0 hC hK
 go_enter Tryz.func29, Tryz.ntmps29
 go_wp2_with fail
 refine hn.out.mono ?_
 rintro e w' ⟨rfl, rfl⟩
 go_wp2_with fail
 refine HR.out.mono ?_
 rintro e w2 ⟨rfl, b2⟩
 have L2 := Lib.hid b2
 clear b2 hl c2
 cases ans with
 | none =>
  go_wp2_with fail
  go_ret2
  exact ⟨rfl, L2.out⟩
 | some x =>
  have hlt := HN.out x rfl
  go_wp2_with fail
  refine (HF.out w2 L2.out).mono ?_
  rintro e w3 ⟨rfl, b3⟩
  have L3 := Lib.hid (L2.out.trans (b3.mono L2.out.size))
  have t1 : (C : Int) - (K : Int) < (j : Int) := by omega
  clear b3
  go_wp2_with fail
  go_ret2
  exact ⟨rfl, L3.out⟩
end Sp
end Go.Proofs.YtkbndlnmbbbohaaGreatDoor
namespace Go.Proofs.YtkbndlnmbbbohaaGreatDoor
open Go Go.RowKit
set_option maxRecDepth 100000
set_option linter.unusedVariables false
namespace Sp
theorem row_has {s : SS} (h : Good s) {j x : Nat} (hj : 1 ≤ j) (hx : rowL j (s.S 0) = some x) : hasL x (x + j) (s.S 0) = true ∧ x + j ≤ s.cells := by
 have h1 := ((h.ris 0 (by omega)).row_some (by omega) hx).1
 refine ⟨(Ris.has (by omega) (h.ris 0 (by omega))).2 h1, ?_⟩
 have := h.in_ 0 (by omega) (x + j - 1) (h1 _ (by omega) (by omega))
 omega
set_option maxHeartbeats 3200000 in
theorem take_yes {w : World} {base b m n : Nat} {F : Nat → Option Value} {V : Nat → Value} {s : SS} (h : Spc w base b m n F V s) (hbs : base ≤ w.heap.size) (hnm : n + 2 < maxLen) (j x : Nat) (hj : 1 ≤ j) (hx : rowL j (s.S 0) = some x) (hle : j + s.kept ≤ cnt (s.S 0)) :
  Calls Tryz.prog 29 #[.pointer (some ⟨b, 0, none⟩), .int .i64 (j : Int)] w fun er w' => er = .returned (.tuple #[.int .i64 (x : Int), .int .i64 0]) ∧ ∃ F' V', Spc w' base b m (n + 2) F' V' (s.mv 0 1 x (x + j)) ∧ Chg w w' b m V V' := by
 have hn := Lib.hid (none_rg h)
 have c2 : w.cell? ⟨b, 2, none⟩ = some (.map (some m)) := h.mem.blk.cell 2
 have hl : (Instr.lookup 132 (.map (some m)) (.int .i64 0) false).run Tryz.prog w = .ok (.agg #[V 0, .int .i64 (cnt (s.S 0) : Int)]) w := h.mem.look (k := 0) (by omega)
 obtain ⟨A, c, hv, hRd, _, _, _⟩ := (h.mem.own 0 (by omega)).shape
 have hrow := row_rg w A (s.S 0) c j (cnt (s.S 0)) hRd (h.len (by omega)) (fun r hr => by
  have h1 := h.good.hc
  have h2 := ((h.good.ris 0 (by omega)).in_ (h.good.in_ 0 (by omega)) r hr).2
  have h3 := (h.good.ris 0 (by omega)).lt_ r hr
  omega)
 rw [hv] at hl
 obtain ⟨hhas, hxj⟩ := row_has h.good hj hx
 have hcm := h.good.hc.2
 have HS := Lib.hid (fun (w1 : World) (hb : Below w.heap.size w w1) => (⟨h.mem.below hb (Nat.le_refl _), h.good⟩ : Spc w1 base b m n F V s))
 have HF := Lib.hid (fun (w1 : World) (hb : Below w.heap.size w w1) => free_rg (HS.out w1 hb))
 have HMV := Lib.hid (fun (w1 : World) (hb : Below w.heap.size w w1) => move_sp (HS.out w1 hb) (Nat.le_trans hbs hb.size) hnm (a := x) (e := x + j) (f := 0) (t := 1) (by omega) (by omega) (by omega) (by omega) (by omega))
 rw [hhas] at HMV
 have t0 : ¬ ((j : Int) < 1) := by omega
 rw [hx] at hrow
 have HR := Lib.hid hrow
 have hkc := h.cnt_le (k := 0) (by omega)
 have hkp := h.good.kp
 have hxb : x ≤ 40000 := by omega
 have hjb : j ≤ 40000 := by omega
 obtain ⟨n0, hn0⟩ : ∃ n0, n0 = (s.S 0).length := ⟨_, rfl⟩
 obtain ⟨C, hC⟩ : ∃ C, C = cnt (s.S 0) := ⟨_, rfl⟩
 obtain ⟨K, hK⟩ : ∃ K, K = s.kept := ⟨_, rfl⟩
 rw [← hn0, ← hC] at HR hl
 rw [← hC] at hkc hle
 rw [← hK] at hkp hle
 rw [← hC, ← hK] at HF
 clear h hrow hv hRd hn0 hC hK hx hxj hcm hhas
 go_enter Tryz.func29, Tryz.ntmps29
 go_wp2_with fail
 refine hn.out.mono ?_
 rintro e w' ⟨rfl, rfl⟩
 go_wp2_with fail
 refine HR.out.mono ?_
 rintro e w2 ⟨rfl, b2⟩
 have L2 := Lib.hid b2
 clear b2 hl c2
 go_wp2_with fail
 refine (HF.out w2 L2.out).mono ?_
 rintro e w3 ⟨rfl, b3⟩
 have L3 := Lib.hid (L2.out.trans (b3.mono L2.out.size))
 have t1 : ¬ ((C : Int) - (K : Int) < (j : Int)) := by omega
 clear b3
 go_wp2_with fail
 have HM3 := Lib.hid (HMV.out w3 L3.out)
 have ex : (x : Int) + (j : Int) = ((x + j : Nat) : Int) := by omega
 rw [ex]
 refine HM3.out.mono ?_
 rintro e w4 ⟨rfl, hsp⟩
 have HSP := Lib.hid hsp
 clear hsp
 go_wp2_with fail
 go_ret2
 obtain ⟨F', V', h1, h2⟩ := HSP.out
 exact ⟨rfl, F', V', h1, (Chg.of_below L3.out).trans h2⟩
end Sp
end Go.Proofs.YtkbndlnmbbbohaaGreatDoor
namespace Go.Proofs.YtkbndlnmbbbohaaGreatDoor
open Go Go.RowKit
set_option maxRecDepth 100000
set_option linter.unusedVariables false
namespace Sp
end Sp
end Go.Proofs.YtkbndlnmbbbohaaGreatDoor
namespace Go.Proofs.YtkbndlnmbbbohaaGreatDoor
open Go Go.RowKit
set_option maxRecDepth 100000
set_option linter.unusedVariables false
namespace Sp
end Sp
end Go.Proofs.YtkbndlnmbbbohaaGreatDoor
namespace Go.Proofs.YtkbndlnmbbbohaaGreatDoor
open Go Go.RowKit
set_option maxRecDepth 100000
set_option linter.unusedVariables false
namespace Sp
theorem exec_bld2 {P : Program} {a : Act} {o : Oper} {ty : TypeId} {i j : Nat} {x y : Operand} {u0 u1 r : Value} (w : World) (e : o.op = .build ty #[(i, x), (j, y)]) (hx : a.eval x = u0) (hy : a.eval y = u1)
  (hl : (Instr.build ty #[(i, u0), (j, u1)]).run P w = .ok r w) : (execOp a.eval o).run P w = .ok (.value r) w := by
 unfold execOp; simp only [e, List.map_toArray, List.map_cons, List.map_nil, hx, hy, hl, Sem.run_bind, Sem.run_pure, Result.andThen_ok]
def allFree (C : Nat) : SS := ⟨C, 0, fun k => if k = 0 then [(0, C)] else []⟩
theorem mem_one (a e c : Nat) : mem [(a, e)] c ↔ a ≤ c ∧ c < e := by
 rw [mem_cons]
 exact ⟨fun h => h.elim id (fun h => absurd h (mem_nil c)), .inl⟩
theorem allFree_mem (C : Nat) {k : Nat} (c : Nat) : mem ((allFree C).S k) c ↔ k = 0 ∧ c < C := by
 show mem (if k = 0 then [(0, C)] else []) c ↔ _
 by_cases e : k = 0
 ·rw [if_pos e, mem_one]
  exact ⟨fun h => ⟨e, h.2⟩, fun h => ⟨Nat.zero_le _, h.2⟩⟩
 ·rw [if_neg e]
  exact ⟨fun h => absurd h (mem_nil c), fun h => absurd h.1 e⟩
theorem allFree_good {C : Nat} (h1 : 1 ≤ C) (h2 : C ≤ 40000) : Good (allFree C) := by
 refine ⟨⟨h1, h2⟩, fun k _ => ?_, fun k _ c hc => ((allFree_mem C c).1 hc).2, fun k j c _ _ hk hj => (((allFree_mem C c).1 hk).1).trans (((allFree_mem C c).1 hj).1).symm, fun c hc => ⟨0, by omega, (allFree_mem C c).2 ⟨rfl, hc⟩⟩, Nat.zero_le _⟩
 show Ris 0 (if k = 0 then [(0, C)] else [])
 by_cases e : k = 0
 ·rw [if_pos e]; exact ⟨Nat.zero_le _, h1, trivial⟩
 ·rw [if_neg e]; trivial
set_option maxHeartbeats 3200000 in
theorem blank_yes (w : World) (C : Nat) (h1 : 1 ≤ C) (h2 : C ≤ 40000) :
  Calls Tryz.prog 50 #[.int .i64 (C : Int)] w fun er w' => ∃ b m F V, er = .returned (.tuple #[.pointer (some ⟨b, 0, none⟩), .int .i64 0]) ∧ Spc w' w.heap.size b m 1 F V (allFree C) ∧ Below w.heap.size w w' := by
 have hmk : ∀ w : World, (Instr.makeMap 132 none).run Tryz.prog w = .ok (.map (some w.heap.size)) (w.alloc (.map #[] 0)) := fun w => by kernel_rfl
 obtain ⟨m, hm⟩ : ∃ m, m = w.heap.size := ⟨_, rfl⟩
 obtain ⟨b, hb⟩ : ∃ b, b = (w.alloc (.map #[] 0)).heap.size := ⟨_, rfl⟩
 have hbm : b = m + 1 := by rw [hb, hm]; simp
 obtain ⟨W, hW⟩ : ∃ W, W = (w.alloc (.map #[] 0)).alloc (.cells #[.int .i64 (C : Int), .int .i64 0, .map (some m)] 134) := ⟨_, rfl⟩
 have hB : Blk W b 134 #[.int .i64 (C : Int), .int .i64 0, .map (some m)] := by rw [hW, hb]; exact Blk.new _ _ _
 have hM : MapI W m 0 (fun _ => none) := by rw [hW, hm]; exact (MapI.made w).alloc _
 have hL : Below w.heap.size w W := by rw [hW]; exact ((Below.refl _ _).alloc (Nat.le_refl _) _).alloc (by rw [← hb, hbm, hm]; exact Nat.le_succ _) _
 have L1 := Lib.hid hL
 have HBM := Lib.hid hbm
 have HM0 := Lib.hid hm
 have HLK : Hid (∀ w1, MapI w1 m 0 (fun _ => none) → (Instr.lookup 132 (.map (some m)) (.int .i64 0) false).run Tryz.prog w1 = .ok (.agg #[.slice none 0 0, .int .i64 0]) w1) := Lib.hid fun w1 h => h.look Tryz.underlying132 (zero_part w1) (show 0 < 4611686018427387904 by omega) false
 have hwi := with_rg W.drew w.heap.size (.slice none 0 0) [] 0 0 C (Own.nil _ _) hL.size (by simp) (by omega) (by omega) (by omega) (lo0 := 0) trivial
 have hwl : withL 0 C [] = [(0, C)] := rfl
 rw [hwl, Nat.zero_add, Nat.sub_zero] at hwi
 have HWI := Lib.hid hwi
 have HS6 := Lib.hid (⟨hB.drew, hM.drew⟩ : Blk W.drew b 134 #[.int .i64 (C : Int), .int .i64 0, .map (some m)] ∧ MapI W.drew m 0 (fun _ => none))
 have HB0 := Lib.hid hB
 have HMM := Lib.hid hM
 clear hB hM hL hwi hbm
 go_enter Tryz.func50, Tryz.ntmps50
 go_upto_region 4 with (fail)
 rw [← hm]
 rw [← HBM.out, ← hW]
 clear hW hb hm
 refine region_anyZ (fun w' => Blk w' b 134 #[.int .i64 (C : Int), .int .i64 0, .map (some m)] ∧ MapI w' m 0 (fun _ => none)) 12 (by kernel_rfl) ?_
 refine takeG 0 (.move (.tmp 4)) (some 15) none (.pointer (some ⟨b, 0, none⟩)) (by kernel_rfl) (by kernel_rfl) (by kernel_rfl) (fun _ _ _ h => h) (fun o wq e hS => exec_move wq e (by kernel_rfl)) HS6.out ?_
 refine takeG 1 (.nilCheck (.tmp 15)) (some 16) none (.pointer (some ⟨b, 0, none⟩)) (by kernel_rfl) (by kernel_rfl) (by kernel_rfl) (fun _ _ _ h => h) (fun o wq e hS => exec_nil wq e (by kernel_rfl)) HS6.out ?_
 refine takeG 2 (.fieldAddr 134 (.tmp 16) 2) (some 17) none (.pointer (some ⟨b, 2, none⟩)) (by kernel_rfl) (by kernel_rfl) (by kernel_rfl) (fun _ _ _ h => h) (fun o wq e hS => exec_field (u := .pointer (some ⟨b, 0, none⟩)) wq e (by kernel_rfl) (by kernel_rfl)) HS6.out ?_
 refine takeG 3 (.load 132 (.tmp 17)) (some 18) none (.map (some m)) (by kernel_rfl) (by kernel_rfl) (by kernel_rfl) (fun _ _ _ h => h) (fun o wq e hS => exec_load (x := (.tmp 17)) e (by kernel_rfl) (load_one Tryz.underlying132 (by kernel_rfl) (hS.1.cell 2))) HS6.out ?_
 refine takeG 4 (.move (.tmp 4)) (some 19) none (.pointer (some ⟨b, 0, none⟩)) (by kernel_rfl) (by kernel_rfl) (by kernel_rfl) (fun _ _ _ h => h) (fun o wq e hS => exec_move wq e (by kernel_rfl)) HS6.out ?_
 refine takeG 5 (.nilCheck (.tmp 19)) (some 20) none (.pointer (some ⟨b, 0, none⟩)) (by kernel_rfl) (by kernel_rfl) (by kernel_rfl) (fun _ _ _ h => h) (fun o wq e hS => exec_nil wq e (by kernel_rfl)) HS6.out ?_
 refine takeG 6 (.fieldAddr 134 (.tmp 20) 2) (some 21) none (.pointer (some ⟨b, 2, none⟩)) (by kernel_rfl) (by kernel_rfl) (by kernel_rfl) (fun _ _ _ h => h) (fun o wq e hS => exec_field (u := .pointer (some ⟨b, 0, none⟩)) wq e (by kernel_rfl) (by kernel_rfl)) HS6.out ?_
 refine takeG 7 (.load 132 (.tmp 21)) (some 22) none (.map (some m)) (by kernel_rfl) (by kernel_rfl) (by kernel_rfl) (fun _ _ _ h => h) (fun o wq e hS => exec_load (x := (.tmp 21)) e (by kernel_rfl) (load_one Tryz.underlying132 (by kernel_rfl) (hS.1.cell 2))) HS6.out ?_
 refine takeG 8 (.lookup 132 (.tmp 22) (.const (.int .i64 0)) false) (some 23) none (.agg #[.slice none 0 0, .int .i64 0]) (by kernel_rfl) (by kernel_rfl) (by kernel_rfl) (fun _ _ _ h => h) (fun o wq e hS => exec_look (u1 := .map (some m)) (u2 := (.int .i64 0)) wq e (by kernel_rfl) (by kernel_rfl) (HLK.out _ hS.2)) HS6.out ?_
 refine takeG 9 (.move (.tmp 0)) (some 24) none (.int .i64 (C : Int)) (by kernel_rfl) (by kernel_rfl) (by kernel_rfl) (fun _ _ _ h => h) (fun o wq e hS => exec_move wq e (by kernel_rfl)) HS6.out ?_
 refine takeG 10 (.build 115 #[(0, (.const (.int .i64 0))), (1, (.tmp 24))]) (some 25) none (.agg #[.int .i64 0, .int .i64 (C : Int)]) (by kernel_rfl) (by kernel_rfl) (by kernel_rfl) (fun _ _ _ h => h) (fun o wq e hS => exec_bld2 (u0 := (.int .i64 0)) (u1 := .int .i64 (C : Int)) wq e (by kernel_rfl) (by kernel_rfl) (by kernel_rfl)) HS6.out ?_
 refine loneG 11 (.call ⟨.value (.func 72), #[(.tmp 23), (.tmp 25)], #[131, 115]⟩) (some 26) none (by kernel_rfl) (by kernel_rfl) (by kernel_rfl) ?_
 intro o ho hod
 refine wp_callC (f := 72) (args := #[.agg #[.slice none 0 0, .int .i64 0], .agg #[.int .i64 0, .int .i64 (C : Int)]]) (by cases o; cases ho; kernel_rfl) HWI.out ?_
 rintro ee W7 ⟨v2, rfl, hp7⟩
 refine ⟨.agg #[v2, .int .i64 (C : Int)], rfl, ?_⟩
 rw [hod]
 clear hod ho
 have HP7 := Lib.hid hp7
 have HS7 : Hid (Blk W7 b 134 #[.int .i64 (C : Int), .int .i64 0, .map (some m)] ∧ MapI W7 m 0 (fun _ => none)) := Lib.hid ⟨Blk_grown HS6.out.1 hp7.2.1 (fun e => by cases e), HS6.out.2.grown hp7.2.1 (fun e => by cases e)⟩
 clear hp7 HS6 HWI
 refine ⟨fun _ => HS7.out, ?_⟩
 refine lastOp 12 (.mapUpdate 132 (.tmp 18) (.const (.int .i64 0)) (.tmp 26)) none (by kernel_rfl) (by kernel_rfl) (by kernel_rfl) rfl ?_
 intro o ho hod
 obtain ⟨W8, hrun, m8, g8, s8⟩ := HS7.out.2.put Tryz.underlying132 (show 0 < maxLen by decide) (show 0 < 3 by omega) (.agg #[v2, .int .i64 (C : Int)])
 refine wp_put ho (by kernel_rfl) (by kernel_rfl) (by kernel_rfl) hrun ?_
 rw [hod]
 clear hod ho
 simp only [put_some, put_none, List.setIfInBounds_toArray, List.set_cons_succ, List.set_cons_zero]
 have hst := Mem.step (w := W.drew) (base := w.heap.size) (b := b) (m := m) (n := 0) (F := fun _ => none) (V := fun _ => .slice none 0 0) (s := ⟨C, 0, fun _ => []⟩) (k := 0) (r := [(0, C)]) ⟨HB0.out.drew, HMM.out.drew, fun k _ => rfl, fun k _ => Own.nil _ _, (fun k j _ _ _ g hg => by cases hg), ⟨by rw [HBM.out, HM0.out]; exact Nat.le_succ _, by rw [HM0.out]; exact Nat.le_refl _⟩⟩ (by omega) HP7.out m8 (by rw [show cnt [(0, C)] = C from by simp [cnt]]) g8
 have HST := Lib.hid hst
 clear hst m8 g8 s8 hrun
 go_wp2_with fail
 go_ret2
 have hc := HST.out.2
 have hl := L1.out.drew
 refine ⟨b, m, _, _, rfl, ⟨HST.out.1, allFree_good h1 h2⟩, ?_⟩
 exact { os := hc.os.trans hl.os, tape := hc.tape.trans hl.tape, output := hc.output.trans hl.output, size := Nat.le_trans hl.size hc.size, block := fun g hg => (hc.block g (Nat.lt_of_lt_of_le hg hl.size) (by rw [HBM.out, HM0.out]; omega) (by rw [HM0.out]; omega) (fun k _ e => by cases e)).trans (hl.block g hg) }
end Sp
end Go.Proofs.YtkbndlnmbbbohaaGreatDoor
namespace Go.Proofs.YtkbndlnmbbbohaaGreatDoor
open Go Go.RowKit
set_option maxRecDepth 100000
set_option linter.unusedVariables false
namespace Sp
set_option maxHeartbeats 1600000 in
theorem new_nil (w : World) (C : Nat) (h1 : 1 ≤ C) (h2 : C ≤ 40000) :
  Calls Tryz.prog 25 #[.int .i64 (C : Int), .slice none 0 0] w fun er w' => ∃ b m F V, er = .returned (.tuple #[.pointer (some ⟨b, 0, none⟩), .int .i64 0]) ∧ Spc w' w.heap.size b m 1 F V (allFree C) ∧ Below w.heap.size w w' := by
 have HB := Lib.hid (blank_yes w C h1 h2)
 clear h1 h2
 go_enter Tryz.func25, Tryz.ntmps25
 go_wp2_with fail
 refine HB.out.mono ?_
 rintro e w2 ⟨b, m, F, V, rfl, hsp⟩
 have HSP := Lib.hid hsp
 clear hsp
 go_wp2_with fail
 go_loopw [22] (fun y wr => y = .int .i64 0 ∧ wr = w2) (fun _ _ => 0)
 case atStart => exact ⟨rfl, rfl⟩
 case round =>
  obtain ⟨rfl, hw⟩ := hrel
  rw [hw]
  clear hw
  go_wp2_with fail
  go_loopw [45] (fun y wr => y = .int .i64 0 ∧ wr = w2) (fun _ _ => 0)
  case atStart => exact ⟨rfl, rfl⟩
  case round =>
   obtain ⟨rfl, hw⟩ := hrel
   rw [hw]
   clear hw
   go_wp2_with fail
   go_ret2
   exact ⟨b, m, F, V, rfl, HSP.out⟩
end Sp
end Go.Proofs.YtkbndlnmbbbohaaGreatDoor
namespace Go.Proofs.YtkbndlnmbbbohaaGreatDoor
open Go Go.RowKit
set_option maxRecDepth 100000
set_option linter.unusedVariables false
namespace Sp
def dn (F : Nat → Option Value) (left : Lit → Bool) (k : Nat) : Bool := (F k).isSome && !left (ilit k)
def dcnt (F : Nat → Option Value) (left : Lit → Bool) : Nat := (if dn F left 0 then 1 else 0) + (if dn F left 1 then 1 else 0) + (if dn F left 2 then 1 else 0)
structure DupRel (wr : World) (B m2 : Nat) (F : Nat → Option Value) (s : SS) (left : Lit → Bool) (G : Nat → Option Value) (V2 : Nat → Value) : Prop where
 map : MapI wr m2 (dcnt F left) G
 g : ∀ k, k < 3 → G k = if dn F left k then some (.agg #[V2 k, .int .i64 (cnt (s.S k) : Int)]) else none
 own : ∀ k, k < 3 → dn F left k = true → Own wr B (V2 k) (s.S k)
 nil : ∀ k, k < 3 → dn F left k = false → V2 k = .slice none 0 0
 apart : ∀ k j, k < 3 → j < 3 → k ≠ j → ∀ g, (V2 k).ownBlock = some g → (V2 j).ownBlock ≠ some g
section
variable {wr w1 w2 : World} {B m2 : Nat} {F : Nat → Option Value} {s : SS} {left : Lit → Bool} {G : Nat → Option Value} {V2 : Nat → Value}
end
end Sp
end Go.Proofs.YtkbndlnmbbbohaaGreatDoor
namespace Go.Proofs.YtkbndlnmbbbohaaGreatDoor
open Go Go.RowKit
set_option maxRecDepth 100000
set_option linter.unusedVariables false
namespace Sp
open Go.WideElems (Fit rd rg rd_key rg_of) in
theorem MapI.three {w : World} {b n : Nat} {F : Nat → Option Value} (h : MapI w b n F) : MapI w b 3 F := by
 obtain ⟨D, ⟨es, clock, hb, FT, hs, hD⟩, h2, h3, h4⟩ := h
 refine ⟨D, ⟨es, clock, hb, FT, ?_, hD⟩, h2, h3, h4⟩
 have hkey : ∀ x ∈ es.toList, ∃ k, k < 3 ∧ x.key = ikey k := fun x hx => by
  obtain ⟨y, hy⟩ := FT.reads x hx
  have hk := rd_key hy
  have hm : (rg Tryz.prog 127 RVi x) ∈ (es.toList.map (rg Tryz.prog 127 RVi)).foldr DataW.insert [] := mem_sorted.2 (List.mem_map_of_mem hx)
  rw [rg_of hy] at hm
  have hh : Maps.has D y.1 = true := by
   rw [hD, Maps.has_eq, List.any_eq_true]
   exact ⟨y, hm, WideAt.sameKey_self (keyedI.key hk)⟩
  obtain ⟨k, hk3, e⟩ := h4 _ hh
  rw [e] at hk
  obtain ⟨z, e1, e2, _⟩ := Maps.keyOf_int_inv Tryz.underlying127 hk
  refine ⟨k, hk3, ?_⟩
  rw [e1]
  unfold ilit at e2
  injection e2 with _ e2
  rw [← e2]
  rfl
 have hnd : (es.toList.map (·.key)).Nodup := FT.stamped.2.2
 rw [← Array.length_toList]
 generalize es.toList = l at hkey hnd
 match l, hkey, hnd with
 | [], _, _ => simp
 | [_], _, _ => simp
 | [_, _], _, _ => simp
 | [_, _, _], _, _ => simp
 | x1 :: x2 :: x3 :: x4 :: r, hkey, hnd =>
  obtain ⟨k1, a1, e1⟩ := hkey x1 (by simp)
  obtain ⟨k2, a2, e2⟩ := hkey x2 (by simp)
  obtain ⟨k3, a3, e3⟩ := hkey x3 (by simp)
  obtain ⟨k4, a4, e4⟩ := hkey x4 (by simp)
  simp only [List.map_cons, List.nodup_cons, List.mem_cons, not_or, e1, e2, e3, e4] at hnd
  have n12 : k1 ≠ k2 := fun e => hnd.1.1 (by rw [e])
  have n13 : k1 ≠ k3 := fun e => hnd.1.2.1 (by rw [e])
  have n14 : k1 ≠ k4 := fun e => hnd.1.2.2.1 (by rw [e])
  have n23 : k2 ≠ k3 := fun e => hnd.2.1.1 (by rw [e])
  have n24 : k2 ≠ k4 := fun e => hnd.2.1.2.1 (by rw [e])
  have n34 : k3 ≠ k4 := fun e => hnd.2.2.1.1 (by rw [e])
  omega
theorem Spc.three {w : World} {base b m n : Nat} {F : Nat → Option Value} {V : Nat → Value} {s : SS} (h : Spc w base b m n F V s) : Spc w base b m 3 F V s :=
 ⟨⟨h.mem.blk, h.mem.map.three, h.mem.val, h.mem.own, h.mem.apart, h.mem.lo⟩, h.good⟩
end Sp
end Go.Proofs.YtkbndlnmbbbohaaGreatDoor
namespace Go.Proofs.YtkbndlnmbbbohaaGreatDoor
open Go Go.RowKit
set_option maxRecDepth 100000
set_option linter.unusedVariables false
namespace Sp
end Sp
end Go.Proofs.YtkbndlnmbbbohaaGreatDoor
namespace Go.Proofs.YtkbndlnmbbbohaaGreatDoor
open Go Go.RowKit
set_option maxRecDepth 100000
set_option linter.unusedVariables false
namespace Sp
def addL (l0 m : List Rg) : List Rg := m.foldl (fun acc r => withL r.1 r.2 acc) l0
end Sp
end Go.Proofs.YtkbndlnmbbbohaaGreatDoor
namespace Go.Proofs.YtkbndlnmbbbohaaGreatDoor
open Go Go.RowKit
set_option maxRecDepth 100000
set_option linter.unusedVariables false
namespace Sp
section
variable {w w2 : World} {base b m n : Nat} {F : Nat → Option Value} {V : Nat → Value} {s : SS}
theorem Mem.three (h : Mem w base b m n F V s) : Mem w base b m 3 F V s := ⟨h.blk, h.map.three, h.val, h.own, h.apart, h.lo⟩
end
def SS.half (s : SS) (i : Nat) : SS := (s.upd 2 []).upd 0 (addL (s.S 0) ((s.S 2).take i))
end Sp
end Go.Proofs.YtkbndlnmbbbohaaGreatDoor
namespace Go.Proofs.YtkbndlnmbbbohaaGreatDoor
open Go Go.RowKit
set_option maxRecDepth 100000
set_option linter.unusedVariables false
namespace Sp
end Sp
end Go.Proofs.YtkbndlnmbbbohaaGreatDoor
namespace Go.Proofs.YtkbndlnmbbbohaaGreatDoor
open Go Go.RowKit
set_option maxRecDepth 100000
set_option linter.unusedVariables false
namespace Sp
def k1 : SS := (allFree 10).mv 0 1 2 4
def k2 : SS := k1.mv 0 1 4 7
def k3 : SS := k2.mv 1 2 2 4
end Sp
end Go.Proofs.YtkbndlnmbbbohaaGreatDoor
namespace Go.Proofs.YtkbndlnmbbbohaaGreatDoor
open Go Go.RowKit
set_option maxRecDepth 100000
set_option linter.unusedVariables false
namespace Sp
def SpA (B : Nat) (w : World) (b m : Nat) (s : SS) : Prop := B ≤ w.heap.size ∧ ∃ F V, Spc w B b m 3 F V s
section
variable {B : Nat} {w w' : World} {b m : Nat} {s : SS}
theorem SpA.keep (h : SpA B w b m s) (hb : Below w.heap.size w w') : SpA B w' b m s := by
 obtain ⟨h0, F, V, h⟩ := h
 exact ⟨Nat.le_trans h0 hb.size, F, V, h.mem.below hb (Nat.le_refl _), h.good⟩
end
def takeS (s : SS) (j : Int) : (Int × Int) × SS :=
 if j < 1 then ((0, 1), s) else match rowL j.toNat (s.S 0) with
  | none => ((0, 5), s)
  | some x => if j.toNat + s.kept ≤ cnt (s.S 0) then (((x : Int), 0), s.mv 0 1 x (x + j.toNat)) else ((0, 5), s)
section
variable {B : Nat} {w : World} {b m : Nat} {s : SS}
end
end Sp
end Go.Proofs.YtkbndlnmbbbohaaGreatDoor
namespace Go.Proofs.YtkbndlnmbbbohaaGreatDoor
open Go Go.RowKit
set_option maxRecDepth 100000
set_option linter.unusedVariables false
namespace Sp
structure Frm (O : Nat → Prop) (w w' : World) : Prop where
 os : w'.os = w.os
 tape : w'.tape = w.tape
 output : w'.output = w.output
 size : w.heap.size ≤ w'.heap.size
 block : ∀ g, g < w.heap.size → ¬ O g → w'.heap[g]? = w.heap[g]?
section
variable {O O2 : Nat → Prop} {B : Nat} {w w' : World} {b m b2 m2 : Nat} {s s2 : SS}
def More (O : Nat → Prop) (w w' : World) (g : Nat) : Prop := O g ∨ (w.heap.size ≤ g ∧ g < w'.heap.size)
theorem Frm.of (h : Below w.heap.size w w') (O : Nat → Prop) : Frm O w w' := ⟨h.os, h.tape, h.output, h.size, fun g hg _ => h.block g hg⟩
theorem takeS_nat (s : SS) (k : Nat) (hk : 1 ≤ k) : takeS s (k : Int) = match rowL k (s.S 0) with | none => ((0, 5), s) | some x => if k + s.kept ≤ cnt (s.S 0) then (((x : Int), 0), s.mv 0 1 x (x + k)) else ((0, 5), s) := by
 unfold takeS
 rw [if_neg (by omega), Int.toNat_natCast]
 try rfl
end
end Sp
end Go.Proofs.YtkbndlnmbbbohaaGreatDoor
namespace Go.Proofs.YtkbndlnmbbbohaaGreatDoor
set_option maxRecDepth 100000
open Go.RowKit
section
variable {w w' : World} {g : Nat} {t : TypeId} {cs : Array Value}
end
section
variable {a b c w w' : World} {g : Nat}
end
/-! ### the field's cells -/
def fcell (d s : Int) (k i : Nat) : Value :=
 if i = 0 then .int .u32 d else if i = 1 then .int .i32 s else if i = 2 then .int .u32 0
 else if i < 258 then .int .u8 (((if i - 3 < k then M.pw (i - 3) else 0 : Nat)) : Int) else .int .u8 ((M.lgTo k (i - 258) : Nat) : Int)
def fcells (d s : Int) (k : Nat) : Array Value := Array.ofFn (n := 514) fun i => fcell d s k i.val
theorem fcells_size (d s : Int) (k : Nat) : (fcells d s k).size = 514 := by simp [fcells]
theorem fcells_get (d s : Int) (k i : Nat) (h : i < 514) : (fcells d s k)[i]? = some (fcell d s k i) := by
 simp [fcells, h]
theorem fcells_done (d s : Int) (k : Nat) : (fcells d s k)[0]? = some (.int .u32 d) := by rw [fcells_get _ _ _ _ (by omega)]; rfl
theorem fcells_state (d s : Int) (k : Nat) : (fcells d s k)[1]? = some (.int .i32 s) := by rw [fcells_get _ _ _ _ (by omega)]; rfl
theorem fcells_pw (d s : Int) (k n : Nat) (h : n < 255) : (fcells d s k)[3 + n]? = some (.int .u8 (((if n < k then M.pw n else 0 : Nat)) : Int)) := by
 rw [fcells_get _ _ _ _ (by omega)]
 unfold fcell
 rw [if_neg (by omega), if_neg (by omega), if_neg (by omega), if_pos (by omega)]
 have e : 3 + n - 3 = n := by omega
 rw [e]
theorem fcells_lg (d s : Int) (k v : Nat) (h : v < 256) : (fcells d s k)[258 + v]? = some (.int .u8 ((M.lgTo k v : Nat) : Int)) := by
 rw [fcells_get _ _ _ _ (by omega)]
 unfold fcell
 rw [if_neg (by omega), if_neg (by omega), if_neg (by omega), if_neg (by omega)]
 have e : 258 + v - 258 = v := by omega
 rw [e]
theorem fcells_out (d s : Int) (k i : Nat) (h : ¬ i < 514) : (fcells d s k)[i]? = none := by
 rw [Array.getElem?_eq_none]; rw [fcells_size]; omega
theorem fcells_set (d s d' s' : Int) (k k' i : Nat) (u : Value) (hi : i < 514) (h : fcell d' s' k' i = u) (ho : ∀ j, j < 514 → j ≠ i → fcell d' s' k' j = fcell d s k j) :
  (fcells d s k).setIfInBounds i u = fcells d' s' k' := by
 apply Array.ext_getElem?
 intro j
 rw [Array.getElem?_setIfInBounds, fcells_size]
 by_cases hj : j < 514
 ·rw [fcells_get _ _ _ _ hj, fcells_get _ _ _ _ hj]
  by_cases e : i = j
  ·subst e; rw [if_pos rfl, if_pos hi, h]
  ·rw [if_neg e, ho j hj (fun e' => e e'.symm)]
 ·rw [fcells_out _ _ _ _ hj, fcells_out _ _ _ _ hj, if_neg (by omega)]
theorem fcells_set_done (d d' s : Int) (k : Nat) : (fcells d s k).setIfInBounds 0 (.int .u32 d') = fcells d' s k :=
 fcells_set d s d' s k k 0 _ (by omega) rfl fun j _ h => by unfold fcell; rw [if_neg h, if_neg h]
theorem fcells_set_state (d s s' : Int) (k : Nat) : (fcells d s k).setIfInBounds 1 (.int .i32 s') = fcells d s' k :=
 fcells_set d s d s' k k 1 _ (by omega) rfl fun j _ h => by unfold fcell; rw [if_neg h, if_neg h]
theorem fcells_round (d s : Int) (k : Nat) (hk : k < 255) :
  ((fcells d s k).setIfInBounds (3 + k) (.int .u8 ((M.pw k : Nat) : Int))).setIfInBounds (258 + M.pw k) (.int .u8 ((k : Nat) : Int)) = fcells d s (k + 1) := by
 have hlt := M.pw_lt hk
 apply Array.ext_getElem?
 intro i
 rw [Array.getElem?_setIfInBounds, Array.getElem?_setIfInBounds, Array.size_setIfInBounds, fcells_size]
 by_cases hi : i < 514
 ·rw [fcells_get _ _ _ _ hi, fcells_get _ _ _ _ hi]
  unfold fcell
  by_cases ha : 258 + M.pw k = i
  ·rw [if_pos ha, if_pos (by omega), if_neg (by omega), if_neg (by omega), if_neg (by omega), if_neg (by omega), M.lgTo_succ, if_pos (by omega)]
  ·rw [if_neg ha]
   by_cases hb : 3 + k = i
   ·rw [if_pos hb, if_pos (by omega), if_neg (by omega), if_neg (by omega), if_neg (by omega), if_pos (by omega), if_pos (by omega)]
    have e : i - 3 = k := by omega
    rw [e]
   ·rw [if_neg hb]
    by_cases h0 : i = 0
    ·subst h0; rfl
    by_cases h1' : i = 1
    ·subst h1'; rfl
    by_cases h2' : i = 2
    ·subst h2'; rfl
    rw [if_neg h0, if_neg h1', if_neg h2', if_neg h0, if_neg h1', if_neg h2']
    by_cases hc : i < 258
    ·rw [if_pos hc, if_pos hc]
     by_cases hd : i - 3 < k
     ·rw [if_pos hd, if_pos (by omega)]
     ·rw [if_neg hd, if_neg (by omega)]
    ·rw [if_neg hc, if_neg hc, M.lgTo_succ, if_neg (by omega)]
 ·rw [fcells_out _ _ _ _ hi, fcells_out _ _ _ _ hi, if_neg (by omega), if_neg (by omega)]
end Go.Proofs.YtkbndlnmbbbohaaGreatDoor
