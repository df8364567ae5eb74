/-
 A range brought from one state to another: each cell is still in one of the three. What stands where, told by the cells alone.
-/
import Derived.Test.YtgbehfkimchglaaGreatDoorSpcMove
namespace Go.Proofs.YtgbehfkimchglaaGreatDoor
open Go Go.RowKit
set_option maxRecDepth 100000
set_option linter.unusedVariables false
namespace Sp
def SS.mv (s : SS) (f t a e : Nat) : SS := (s.upd f (outL a e (s.S f))).upd t (withL a e (s.S t))
section
variable {s : SS} {f t a e : Nat}
theorem mv_S (k : Nat) : (s.mv f t a e).S k = if k = t then withL a e (s.S t) else if k = f then outL a e (s.S f) else s.S k := rfl
theorem Good.apart (h : Good s) (hf : f < 3) (ht : t < 3) (hft : f ≠ t) (hae : a < e) (hh : hasL a e (s.S f) = true) : ∀ c, a ≤ c → c < e → ¬ mem (s.S t) c := fun c h1 h2 h3 =>
 hft (h.one f t c hf ht ((Ris.has hae (h.ris f hf)).1 hh c h1 h2) h3)
theorem Good.mv_mem (h : Good s) (hf : f < 3) (ht : t < 3) (hft : f ≠ t) (hae : a < e) (hh : hasL a e (s.S f) = true) (k : Nat) (hk : k < 3) (c : Nat) :
  mem ((s.mv f t a e).S k) c ↔ if a ≤ c ∧ c < e then k = t else mem (s.S k) c := by
 have ho := ((h.ris f hf).out_ hae hh).2.1 c
 have hw := ((h.ris t ht).with_ hae (Nat.zero_le _) (h.apart hf ht hft hae hh)).2.1 c
 have hin := fun h1 h2 => (Ris.has hae (h.ris f hf)).1 hh c h1 h2
 rw [mv_S]
 by_cases hc : a ≤ c ∧ c < e
 ·rw [if_pos hc]
  by_cases e1 : k = t
  ·rw [if_pos e1, hw]
   exact ⟨fun _ => e1, fun _ => .inr hc⟩
  ·rw [if_neg e1]
   by_cases e2 : k = f
   ·rw [if_pos e2, ho]
    exact ⟨fun h1 => absurd hc h1.2, fun h1 => absurd h1 e1⟩
   ·rw [if_neg e2]
    exact ⟨fun h1 => absurd (h.one k f c hk hf h1 (hin hc.1 hc.2)) e2, fun h1 => absurd h1 e1⟩
 ·rw [if_neg hc]
  by_cases e1 : k = t
  ·rw [if_pos e1, hw, e1]
   exact ⟨fun h1 => h1.elim id (fun h2 => absurd h2 hc), fun h1 => .inl h1⟩
  ·rw [if_neg e1]
   by_cases e2 : k = f
   ·rw [if_pos e2, ho, e2]
    exact ⟨fun h1 => h1.1, fun h1 => ⟨h1, hc⟩⟩
   ·rw [if_neg e2]
theorem Good.mv (h : Good s) (hf : f < 3) (ht : t < 3) (hft : f ≠ t) (hae : a < e) (hh : hasL a e (s.S f) = true) : Good (s.mv f t a e) := by
 have hM := fun k hk c => h.mv_mem hf ht hft hae hh k hk c
 have hin := fun c h1 h2 => (Ris.has hae (h.ris f hf)).1 hh c h1 h2
 refine ⟨h.hc, fun k hk => ?_, fun k hk c hc => ?_, fun k j c hk hj h1 h2 => ?_, fun c hc => ?_, h.kp⟩
 ·rw [mv_S]
  by_cases e1 : k = t
  ·rw [if_pos e1]; exact ((h.ris t ht).with_ hae (Nat.zero_le _) (h.apart hf ht hft hae hh)).1
  ·rw [if_neg e1]
   by_cases e2 : k = f
   ·rw [if_pos e2]; exact ((h.ris f hf).out_ hae hh).1
   ·rw [if_neg e2]; exact h.ris k hk
 ·have h1 := (hM k hk c).1 hc
  by_cases hr : a ≤ c ∧ c < e
  ·exact h.in_ f hf c (hin c hr.1 hr.2)
  ·rw [if_neg hr] at h1
   exact h.in_ k hk c h1
 ·have h3 := (hM k hk c).1 h1
  have h4 := (hM j hj c).1 h2
  by_cases hr : a ≤ c ∧ c < e
  ·rw [if_pos hr] at h3 h4
   exact h3.trans h4.symm
  ·rw [if_neg hr] at h3 h4
   exact h.one k j c hk hj h3 h4
 ·by_cases hr : a ≤ c ∧ c < e
  ·exact ⟨t, ht, (hM t ht c).2 (by rw [if_pos hr])⟩
  ·obtain ⟨k, hk, h1⟩ := h.all c hc
   exact ⟨k, hk, (hM k hk c).2 (by rw [if_neg hr]; exact h1)⟩
end
theorem move_sp {w : World} {base b m n : Nat} {F : Nat → Option Value} {V : Nat → Value} {s : SS} (h : Spc w base b m n F V s) (hbs : base ≤ w.heap.size) (hnm : n + 2 < maxLen) {a e f t : Nat} (hf : f < 3) (ht : t < 3) (hft : f ≠ t) (hae : a < e) (hes : e ≤ 1000000) :
  Calls Tryz.prog 104 #[.pointer (some ⟨b, 0, none⟩), .agg #[.int .i64 (a : Int), .int .i64 (e : Int)], .int .i64 (f : Int), .int .i64 (t : Int)] w fun er w' =>
   er = .returned (.bool (hasL a e (s.S f))) ∧ ∃ F' V', Spc w' base b m (n + 2) F' V' (if hasL a e (s.S f) then s.mv f t a e else s) ∧ Chg w w' b m V V' :=
 (move_rg h hbs hnm hf ht hft hae hes).mono fun er w' ⟨h1, h2⟩ => by
  cases hh : hasL a e (s.S f) with
  | false =>
   obtain ⟨rfl, hb⟩ := h1 hh
   have hm := h.mem.below hb (Nat.le_refl _)
   exact ⟨rfl, F, V, ⟨⟨hm.blk, hm.map.mono (by omega), hm.val, hm.own, hm.apart, hm.lo⟩, h.good⟩, Chg.of_below hb⟩
  | true =>
   obtain ⟨rfl, F', V', hm, hc⟩ := h2 hh
   exact ⟨rfl, F', V', ⟨hm, h.good.mv hf ht hft hae hh⟩, hc⟩
end Sp
end Go.Proofs.YtgbehfkimchglaaGreatDoor
namespace Go.Proofs.YtgbehfkimchglaaGreatDoor
open Go Go.RowKit
set_option maxRecDepth 100000
set_option linter.unusedVariables false
namespace Sp
theorem Ris.lt_ {lo : Nat} : ∀ {l}, Ris lo l → ∀ r ∈ l, r.1 < r.2
 | [], _, r, h => by cases h
 | q :: l, h, r, hr => by
  rcases List.mem_cons.1 hr with rfl | hr
  ·exact h.2.1
  ·exact Ris.lt_ h.2.2 r hr
theorem take_arg {w : World} {base b m n : Nat} {F : Nat → Option Value} {V : Nat → Value} {s : SS} (h : Spc w base b m n F V s) (k : Int) (hk : k < 1) :
  Calls Tryz.prog 60 #[.pointer (some ⟨b, 0, none⟩), .int .i64 k] w fun er w' => er = .returned (.tuple #[.int .i64 0, .int .i64 1]) ∧ w' = w := by
 have hn := Lib.hid (none_rg h)
 clear h
 go_enter Tryz.func60, Tryz.ntmps60
 go_wp2_with fail
 refine hn.out.mono ?_
 rintro e w' ⟨rfl, rfl⟩
 go_wp2_with fail
 go_ret2
 exact ⟨rfl, rfl⟩
set_option maxHeartbeats 3200000 in
theorem take_no {w : World} {base b m n : Nat} {F : Nat → Option Value} {V : Nat → Value} {s : SS} (h : Spc w base b m n F V s) (j : Nat) (hj : 1 ≤ j) (hno : ∀ x, rowL j (s.S 0) = some x → cnt (s.S 0) < j + s.kept) :
  Calls Tryz.prog 60 #[.pointer (some ⟨b, 0, none⟩), .int .i64 (j : Int)] w fun er w' => er = .returned (.tuple #[.int .i64 0, .int .i64 5]) ∧ Below w.heap.size w w' := by
 have hn := Lib.hid (none_rg h)
 have c2 : w.cell? ⟨b, 2, none⟩ = some (.map (some m)) := h.mem.blk.cell 2
 have hl : (Instr.lookup 148 (.map (some m)) (.int .i64 0) false).run Tryz.prog w = .ok (.agg #[V 0, .int .i64 (cnt (s.S 0) : Int)]) w := h.mem.look (k := 0) (by omega)
 obtain ⟨A, c, hv, hRd, _, _, _⟩ := (h.mem.own 0 (by omega)).shape
 have hrow := row_rg w A (s.S 0) c j (cnt (s.S 0)) hRd (h.len (by omega)) (fun r hr => by
  have h1 := h.good.hc
  have h2 := ((h.good.ris 0 (by omega)).in_ (h.good.in_ 0 (by omega)) r hr).2
  have h3 := (h.good.ris 0 (by omega)).lt_ r hr
  omega)
 rw [hv] at hl
 have HF := Lib.hid (fun (w1 : World) (hb : Below w.heap.size w w1) => free_rg (w := w1) ⟨h.mem.below hb (Nat.le_refl _), h.good⟩)
 have t0 : ¬ ((j : Int) < 1) := by omega
 obtain ⟨ans, hans⟩ : ∃ ans, ans = rowL j (s.S 0) := ⟨_, rfl⟩
 rw [← hans] at hrow hno
 have HR := Lib.hid hrow
 have HN := Lib.hid hno
 have hkc := h.cnt_le (k := 0) (by omega)
 have hkp := h.good.kp
 obtain ⟨n0, hn0⟩ : ∃ n0, n0 = (s.S 0).length := ⟨_, rfl⟩
 obtain ⟨C, hC⟩ : ∃ C, C = cnt (s.S 0) := ⟨_, rfl⟩
 obtain ⟨K, hK⟩ : ∃ K, K = s.kept := ⟨_, rfl⟩
 rw [← hn0, ← hC] at HR hl
 rw [← hC] at hkc
 rw [← hK] at hkp
 rw [← hC, ← hK] at HF HN
 clear h hrow hv hRd hans hno hn0 hC hK
 go_enter Tryz.func60, Tryz.ntmps60
 go_wp2_with fail
 refine hn.out.mono ?_
 rintro e w' ⟨rfl, rfl⟩
 go_wp2_with fail
 refine HR.out.mono ?_
 rintro e w2 ⟨rfl, b2⟩
 have L2 := Lib.hid b2
 clear b2 hl c2
 cases ans with
 | none =>
  go_wp2_with fail
  go_ret2
  exact ⟨rfl, L2.out⟩
 | some x =>
  have hlt := HN.out x rfl
  go_wp2_with fail
  refine (HF.out w2 L2.out).mono ?_
  rintro e w3 ⟨rfl, b3⟩
  have L3 := Lib.hid (L2.out.trans (b3.mono L2.out.size))
  have t1 : (C : Int) - (K : Int) < (j : Int) := by omega
  clear b3
  go_wp2_with fail
  go_ret2
  exact ⟨rfl, L3.out⟩
end Sp
end Go.Proofs.YtgbehfkimchglaaGreatDoor
namespace Go.Proofs.YtgbehfkimchglaaGreatDoor
open Go Go.RowKit
set_option maxRecDepth 100000
set_option linter.unusedVariables false
namespace Sp
theorem row_has {s : SS} (h : Good s) {j x : Nat} (hj : 1 ≤ j) (hx : rowL j (s.S 0) = some x) : hasL x (x + j) (s.S 0) = true ∧ x + j ≤ s.cells := by
 have h1 := ((h.ris 0 (by omega)).row_some (by omega) hx).1
 refine ⟨(Ris.has (by omega) (h.ris 0 (by omega))).2 h1, ?_⟩
 have := h.in_ 0 (by omega) (x + j - 1) (h1 _ (by omega) (by omega))
 omega
set_option maxHeartbeats 3200000 in
theorem take_yes {w : World} {base b m n : Nat} {F : Nat → Option Value} {V : Nat → Value} {s : SS} (h : Spc w base b m n F V s) (hbs : base ≤ w.heap.size) (hnm : n + 2 < maxLen) (j x : Nat) (hj : 1 ≤ j) (hx : rowL j (s.S 0) = some x) (hle : j + s.kept ≤ cnt (s.S 0)) :
  Calls Tryz.prog 60 #[.pointer (some ⟨b, 0, none⟩), .int .i64 (j : Int)] w fun er w' => er = .returned (.tuple #[.int .i64 (x : Int), .int .i64 0]) ∧ ∃ F' V', Spc w' base b m (n + 2) F' V' (s.mv 0 1 x (x + j)) ∧ Chg w w' b m V V' := by
 have hn := Lib.hid (none_rg h)
 have c2 : w.cell? ⟨b, 2, none⟩ = some (.map (some m)) := h.mem.blk.cell 2
 have hl : (Instr.lookup 148 (.map (some m)) (.int .i64 0) false).run Tryz.prog w = .ok (.agg #[V 0, .int .i64 (cnt (s.S 0) : Int)]) w := h.mem.look (k := 0) (by omega)
 obtain ⟨A, c, hv, hRd, _, _, _⟩ := (h.mem.own 0 (by omega)).shape
 have hrow := row_rg w A (s.S 0) c j (cnt (s.S 0)) hRd (h.len (by omega)) (fun r hr => by
  have h1 := h.good.hc
  have h2 := ((h.good.ris 0 (by omega)).in_ (h.good.in_ 0 (by omega)) r hr).2
  have h3 := (h.good.ris 0 (by omega)).lt_ r hr
  omega)
 rw [hv] at hl
 obtain ⟨hhas, hxj⟩ := row_has h.good hj hx
 have hcm := h.good.hc.2
 have HS := Lib.hid (fun (w1 : World) (hb : Below w.heap.size w w1) => (⟨h.mem.below hb (Nat.le_refl _), h.good⟩ : Spc w1 base b m n F V s))
 have HF := Lib.hid (fun (w1 : World) (hb : Below w.heap.size w w1) => free_rg (HS.out w1 hb))
 have HMV := Lib.hid (fun (w1 : World) (hb : Below w.heap.size w w1) => move_sp (HS.out w1 hb) (Nat.le_trans hbs hb.size) hnm (a := x) (e := x + j) (f := 0) (t := 1) (by omega) (by omega) (by omega) (by omega) (by omega))
 rw [hhas] at HMV
 have t0 : ¬ ((j : Int) < 1) := by omega
 rw [hx] at hrow
 have HR := Lib.hid hrow
 have hkc := h.cnt_le (k := 0) (by omega)
 have hkp := h.good.kp
 have hxb : x ≤ 40000 := by omega
 have hjb : j ≤ 40000 := by omega
 obtain ⟨n0, hn0⟩ : ∃ n0, n0 = (s.S 0).length := ⟨_, rfl⟩
 obtain ⟨C, hC⟩ : ∃ C, C = cnt (s.S 0) := ⟨_, rfl⟩
 obtain ⟨K, hK⟩ : ∃ K, K = s.kept := ⟨_, rfl⟩
 rw [← hn0, ← hC] at HR hl
 rw [← hC] at hkc hle
 rw [← hK] at hkp hle
 rw [← hC, ← hK] at HF
 clear h hrow hv hRd hn0 hC hK hx hxj hcm hhas
 go_enter Tryz.func60, Tryz.ntmps60
 go_wp2_with fail
 refine hn.out.mono ?_
 rintro e w' ⟨rfl, rfl⟩
 go_wp2_with fail
 refine HR.out.mono ?_
 rintro e w2 ⟨rfl, b2⟩
 have L2 := Lib.hid b2
 clear b2 hl c2
 go_wp2_with fail
 refine (HF.out w2 L2.out).mono ?_
 rintro e w3 ⟨rfl, b3⟩
 have L3 := Lib.hid (L2.out.trans (b3.mono L2.out.size))
 have t1 : ¬ ((C : Int) - (K : Int) < (j : Int)) := by omega
 clear b3
 go_wp2_with fail
 have HM3 := Lib.hid (HMV.out w3 L3.out)
 have ex : (x : Int) + (j : Int) = ((x + j : Nat) : Int) := by omega
 rw [ex]
 refine HM3.out.mono ?_
 rintro e w4 ⟨rfl, hsp⟩
 have HSP := Lib.hid hsp
 clear hsp
 go_wp2_with fail
 go_ret2
 obtain ⟨F', V', h1, h2⟩ := HSP.out
 exact ⟨rfl, F', V', h1, (Chg.of_below L3.out).trans h2⟩
end Sp
end Go.Proofs.YtgbehfkimchglaaGreatDoor
namespace Go.Proofs.YtgbehfkimchglaaGreatDoor
open Go Go.RowKit
set_option maxRecDepth 100000
set_option linter.unusedVariables false
namespace Sp
theorem results_cell2 {fn : Func} {t s : Tmp} {ty : TypeId} (h : fn.results = #[.cell t ty, .tmp s]) {tmps : Array Value} {g : Nat} {v v1 : Value} {w : World} (hp : tmps.getD t undef = .pointer (some ⟨g, 0, none⟩)) (hl : (loadVar ty ⟨g, 0, none⟩).run Tryz.prog w = .ok v w) (h1 : tmps.getD s undef = v1) :
  (results fn tmps).run Tryz.prog w = .ok (.tuple #[v, v1]) w := by
 have hp2 : tmps[t]?.getD undef = .pointer (some ⟨g, 0, none⟩) := by rw [← hp]; simp
 have h12 : tmps[s]?.getD undef = v1 := by rw [← h1]; simp
 simp [results, h]
 rw [hp2]
 simp [asAddr, hl, h12]
set_option maxHeartbeats 1600000 in
theorem span_yes {w : World} {base b m n : Nat} {F : Nat → Option Value} {V : Nat → Value} {s : SS} (h : Spc w base b m n F V s) (a j : Nat) (hj : 1 ≤ j) (haj : a + j ≤ s.cells) :
  Calls Tryz.prog 112 #[.pointer (some ⟨b, 0, none⟩), .int .i64 (a : Int), .int .i64 (j : Int)] w fun er w' => er = .returned (.tuple #[.agg #[.int .i64 (a : Int), .int .i64 ((a + j : Nat) : Int)], .bool true]) ∧ Below w.heap.size w w' := by
 obtain ⟨W, hW⟩ : ∃ W, W = w.alloc (.cells #[.int .i64 0, .int .i64 0] 61) := ⟨_, rfl⟩
 have hb : Below w.heap.size w W := by rw [hW]; exact (Below.refl _ _).alloc (Nat.le_refl _) _
 have X5 : Blk W w.heap.size 61 #[.int .i64 0, .int .i64 0] := by rw [hW]; exact Blk.new _ _ _
 have hn := Lib.hid (none_rg (w := W) ⟨h.mem.below hb (Nat.le_refl _), h.good⟩)
 have c0 : W.cell? ⟨b, 0, none⟩ = some (.int .i64 (s.cells : Int)) := (h.mem.below hb (Nat.le_refl _)).blk.cell 0
 have hc := h.good.hc
 obtain ⟨C, hC⟩ : ∃ C, C = s.cells := ⟨_, rfl⟩
 obtain ⟨r5, hr5⟩ : ∃ r5, r5 = w.heap.size := ⟨_, rfl⟩
 rw [← hC] at c0 hc haj
 rw [← hr5] at X5
 have HR5 := Lib.hid hr5
 have L1 := Lib.hid hb
 have B5 := Lib.hid X5
 have t1 : ¬ ((j : Int) < 1) := by omega
 have t2 : ¬ ((a : Int) < 0) := by omega
 have t3 : ¬ ((C : Int) - (j : Int) < (a : Int)) := by omega
 have hc1 := hc.1
 have hc2 := hc.2
 have hjb : j ≤ 40000 := by omega
 have hab : a ≤ 40000 := by omega
 have d0 : W.cell? ⟨r5, 0, none⟩ = some (.int .i64 0) := X5.cell 0
 have d1 : W.cell? ⟨r5, 1, none⟩ = some (.int .i64 0) := X5.cell 1
 have f0 : W.frozen? ⟨r5, 0, none⟩ = false := X5.frozen 0
 have f1 : W.frozen? ⟨r5, 1, none⟩ = false := X5.frozen 1
 clear hb h hC X5 hc
 go_enter Tryz.func112, Tryz.ntmps112
 go_upto_region 1 with (fail)
 rw [← hW, ← HR5.out]
 clear hW hr5
 go_wp2_with fail
 refine hn.out.mono ?_
 rintro e w' ⟨rfl, rfl⟩
 go_wp2_with fail
 have T5 := (B5.out.set_ 0 (.int .i64 (a : Int))).set_ 1 (.int .i64 ((a : Int) + (j : Int)))
 refine bodyPost_ret (results_cell2 rfl rfl (loadVar_blk T5 Tryz.underlying61 rfl size_range) rfl) rfl ?_
 refine ⟨rfl, ?_⟩
 exact (L1.out.setCell (p := ⟨r5, 0, none⟩) (by rw [HR5.out]; exact Nat.le_refl _) _).setCell (p := ⟨r5, 1, none⟩) (by rw [HR5.out]; exact Nat.le_refl _) _
set_option maxHeartbeats 1600000 in
theorem span_no {w : World} {base b m n : Nat} {F : Nat → Option Value} {V : Nat → Value} {s : SS} (h : Spc w base b m n F V s) (a j : Int) (ha1 : -9223372036854775808 ≤ a) (ha2 : a ≤ 9223372036854775807) (hj1 : -9223372036854775808 ≤ j) (hj2 : j ≤ 9223372036854775807) (hno : j < 1 ∨ a < 0 ∨ (s.cells : Int) - j < a) :
  Calls Tryz.prog 112 #[.pointer (some ⟨b, 0, none⟩), .int .i64 a, .int .i64 j] w fun er w' => er = .returned (.tuple #[.agg #[.int .i64 0, .int .i64 0], .bool false]) ∧ Below w.heap.size w w' := by
 obtain ⟨W, hW⟩ : ∃ W, W = w.alloc (.cells #[.int .i64 0, .int .i64 0] 61) := ⟨_, rfl⟩
 have hb : Below w.heap.size w W := by rw [hW]; exact (Below.refl _ _).alloc (Nat.le_refl _) _
 have X5 : Blk W w.heap.size 61 #[.int .i64 0, .int .i64 0] := by rw [hW]; exact Blk.new _ _ _
 have hn := Lib.hid (none_rg (w := W) ⟨h.mem.below hb (Nat.le_refl _), h.good⟩)
 have c0 : W.cell? ⟨b, 0, none⟩ = some (.int .i64 (s.cells : Int)) := (h.mem.below hb (Nat.le_refl _)).blk.cell 0
 have hc := h.good.hc
 obtain ⟨C, hC⟩ : ∃ C, C = s.cells := ⟨_, rfl⟩
 obtain ⟨r5, hr5⟩ : ∃ r5, r5 = w.heap.size := ⟨_, rfl⟩
 rw [← hC] at c0 hc hno
 rw [← hr5] at X5
 have HR5 := Lib.hid hr5
 have L1 := Lib.hid hb
 have B5 := Lib.hid X5
 have hc1 := hc.1
 have hc2 := hc.2
 have d0 : W.cell? ⟨r5, 0, none⟩ = some (.int .i64 0) := X5.cell 0
 have d1 : W.cell? ⟨r5, 1, none⟩ = some (.int .i64 0) := X5.cell 1
 have f0 : W.frozen? ⟨r5, 0, none⟩ = false := X5.frozen 0
 have f1 : W.frozen? ⟨r5, 1, none⟩ = false := X5.frozen 1
 clear hb h hC X5 hc
 go_enter Tryz.func112, Tryz.ntmps112
 go_upto_region 1 with (fail)
 rw [← hW, ← HR5.out]
 clear hW hr5
 go_wp2_with fail
 refine hn.out.mono ?_
 rintro e w' ⟨rfl, rfl⟩
 have T5 := (B5.out.set_ 0 (.int .i64 0)).set_ 1 (.int .i64 0)
 have L5 : Below w.heap.size w ((w'.setCell ⟨r5, 0, none⟩ (.int .i64 0)).setCell ⟨r5, 1, none⟩ (.int .i64 0)) := (L1.out.setCell (p := ⟨r5, 0, none⟩) (by rw [HR5.out]; exact Nat.le_refl _) _).setCell (p := ⟨r5, 1, none⟩) (by rw [HR5.out]; exact Nat.le_refl _) _
 have HT5 := Lib.hid T5
 have HL5 := Lib.hid L5
 clear T5 L5
 by_cases e1 : j < 1
 ·clear hno
  go_wp2_with fail
  refine bodyPost_ret (results_cell2 rfl rfl (loadVar_blk HT5.out Tryz.underlying61 rfl size_range) rfl) rfl ⟨rfl, HL5.out⟩
 ·by_cases e2 : a < 0
  ·clear hno
   go_wp2_with fail
   refine bodyPost_ret (results_cell2 rfl rfl (loadVar_blk HT5.out Tryz.underlying61 rfl size_range) rfl) rfl ⟨rfl, HL5.out⟩
  ·have e3 : (C : Int) - j < a := by omega
   clear hno
   go_wp2_with fail
   refine bodyPost_ret (results_cell2 rfl rfl (loadVar_blk HT5.out Tryz.underlying61 rfl size_range) rfl) rfl ⟨rfl, HL5.out⟩
set_option maxHeartbeats 1600000 in
theorem list_rg {w : World} {base b m n : Nat} {F : Nat → Option Value} {V : Nat → Value} {s : SS} (h : Spc w base b m n F V s) (hbs : base ≤ w.heap.size) {k : Nat} (hk : k < 3) :
  Calls Tryz.prog 102 #[.pointer (some ⟨b, 0, none⟩), .int .i64 (k : Int)] w fun er w' => ∃ v', er = .returned v' ∧ Own w' w.heap.size v' (s.S k) ∧ Below w.heap.size w w' := by
 have hn := Lib.hid (none_rg h)
 have c2 : w.cell? ⟨b, 2, none⟩ = some (.map (some m)) := h.mem.blk.cell 2
 have hl : (Instr.lookup 148 (.map (some m)) (.int .i64 (k : Int)) false).run Tryz.prog w = .ok (.agg #[V k, .int .i64 (cnt (s.S k) : Int)]) w := h.mem.look hk
 have HC := Lib.hid (copy_rg w base (V k) (s.S k) (cnt (s.S k)) (h.mem.own k hk) hbs (h.len hk))
 obtain ⟨C, hC⟩ : ∃ C, C = cnt (s.S k) := ⟨_, rfl⟩
 obtain ⟨v, hv⟩ : ∃ v, v = V k := ⟨_, rfl⟩
 obtain ⟨l, hll⟩ : ∃ l, l = s.S k := ⟨_, rfl⟩
 rw [← hC, ← hv] at hl HC
 rw [← hll] at HC ⊢
 clear h hbs hC hv hll
 go_enter Tryz.func102, Tryz.ntmps102
 go_wp2_with fail
 refine hn.out.mono ?_
 rintro e w' ⟨rfl, rfl⟩
 go_wp2_with fail
 refine HC.out.mono ?_
 rintro e w2 ⟨v', rfl, ho, hb⟩
 obtain ⟨A', c', rfl, _, _, _, _⟩ := ho.shape
 have hf : (Instr.field 147 (.agg #[.slice A' l.length c', .int .i64 (C : Int)]) 0).run Tryz.prog w2 = .ok (.slice A' l.length c') w2 := by kernel_rfl
 have O := Lib.hid (⟨ho, hb⟩ : _ ∧ _)
 clear ho hb
 go_wp2_with fail
 go_ret
 exact ⟨_, rfl, O.out.1, O.out.2⟩
set_option maxHeartbeats 1600000 in
theorem give_no {w : World} {base b m n : Nat} {F : Nat → Option Value} {V : Nat → Value} {s : SS} (h : Spc w base b m n F V s) (a j : Int) (ha1 : -9223372036854775808 ≤ a) (ha2 : a ≤ 9223372036854775807) (hj1 : -9223372036854775808 ≤ j) (hj2 : j ≤ 9223372036854775807) (hno : j < 1 ∨ a < 0 ∨ (s.cells : Int) - j < a) :
  Calls Tryz.prog 62 #[.pointer (some ⟨b, 0, none⟩), .int .i64 a, .int .i64 j] w fun er w' => er = .returned (.int .i64 1) ∧ Below w.heap.size w w' := by
 have HS := Lib.hid (span_no h a j ha1 ha2 hj1 hj2 hno)
 clear h hno ha1 ha2 hj1 hj2
 go_enter Tryz.func62, Tryz.ntmps62
 go_wp2_with fail
 refine HS.out.mono ?_
 rintro e w2 ⟨rfl, b2⟩
 have L2 : Hid (Below w.heap.size w (w2.alloc (.cells #[.int .i64 0, .int .i64 0] 61))) := Lib.hid (b2.alloc b2.size _)
 clear b2
 go_wp2_with fail
 go_ret
 exact ⟨rfl, L2.out⟩
set_option maxHeartbeats 1600000 in
theorem give_sp {w : World} {base b m n : Nat} {F : Nat → Option Value} {V : Nat → Value} {s : SS} (h : Spc w base b m n F V s) (hbs : base ≤ w.heap.size) (hnm : n + 2 < maxLen) (a j : Nat) (hj : 1 ≤ j) (haj : a + j ≤ s.cells) :
  Calls Tryz.prog 62 #[.pointer (some ⟨b, 0, none⟩), .int .i64 (a : Int), .int .i64 (j : Int)] w fun er w' => er = .returned (.int .i64 (if hasL a (a + j) (s.S 1) then 0 else 7)) ∧ ∃ F' V', Spc w' base b m (n + 2) F' V' (if hasL a (a + j) (s.S 1) then s.mv 1 2 a (a + j) else s) ∧ Chg w w' b m V V' := by
 have HS := Lib.hid (span_yes h a j hj haj)
 have hc := h.good.hc.2
 have HMV := Lib.hid (fun (w1 : World) (hb : Below w.heap.size w w1) => move_sp (w := w1) ⟨h.mem.below hb (Nat.le_refl _), h.good⟩ (Nat.le_trans hbs hb.size) hnm (a := a) (e := a + j) (f := 1) (t := 2) (by omega) (by omega) (by omega) (by omega) (by omega))
 obtain ⟨ans, hans⟩ : ∃ ans, ans = hasL a (a + j) (s.S 1) := ⟨_, rfl⟩
 rw [← hans] at HMV ⊢
 obtain ⟨e0, he0⟩ : ∃ e0, e0 = a + j := ⟨_, rfl⟩
 rw [← he0] at HMV HS ⊢
 clear h hans haj hc he0 hbs hnm
 go_enter Tryz.func62, Tryz.ntmps62
 go_wp2_with fail
 refine HS.out.mono ?_
 rintro e w2 ⟨rfl, b2⟩
 have L2 : Hid (Below w.heap.size w (w2.alloc (.cells #[.int .i64 (a : Int), .int .i64 (e0 : Int)] 61))) := Lib.hid (b2.alloc b2.size _)
 clear b2
 go_wp2_with fail
 refine (HMV.out _ L2.out).mono ?_
 rintro e w3 ⟨rfl, hsp⟩
 have HSP := Lib.hid hsp
 clear hsp
 cases ans with
 | true =>
  go_wp2_with fail
  go_ret
  obtain ⟨F', V', h1, h2⟩ := HSP.out
  exact ⟨rfl, F', V', h1, (Chg.of_below L2.out).trans h2⟩
 | false =>
  go_wp2_with fail
  go_ret
  obtain ⟨F', V', h1, h2⟩ := HSP.out
  exact ⟨rfl, F', V', h1, (Chg.of_below L2.out).trans h2⟩
end Sp
end Go.Proofs.YtgbehfkimchglaaGreatDoor
namespace Go.Proofs.YtgbehfkimchglaaGreatDoor
open Go Go.RowKit
set_option maxRecDepth 100000
set_option linter.unusedVariables false
namespace Sp
end Sp
end Go.Proofs.YtgbehfkimchglaaGreatDoor
namespace Go.Proofs.YtgbehfkimchglaaGreatDoor
open Go Go.RowKit
set_option maxRecDepth 100000
set_option linter.unusedVariables false
namespace Sp
theorem exec_bld2 {P : Program} {a : Act} {o : Oper} {ty : TypeId} {i j : Nat} {x y : Operand} {u0 u1 r : Value} (w : World) (e : o.op = .build ty #[(i, x), (j, y)]) (hx : a.eval x = u0) (hy : a.eval y = u1)
  (hl : (Instr.build ty #[(i, u0), (j, u1)]).run P w = .ok r w) : (execOp a.eval o).run P w = .ok (.value r) w := by
 unfold execOp; simp only [e, List.map_toArray, List.map_cons, List.map_nil, hx, hy, hl, Sem.run_bind, Sem.run_pure, Result.andThen_ok]
def allFree (C : Nat) : SS := ⟨C, 0, fun k => if k = 0 then [(0, C)] else []⟩
theorem mem_one (a e c : Nat) : mem [(a, e)] c ↔ a ≤ c ∧ c < e := by
 rw [mem_cons]
 exact ⟨fun h => h.elim id (fun h => absurd h (mem_nil c)), .inl⟩
theorem allFree_mem (C : Nat) {k : Nat} (c : Nat) : mem ((allFree C).S k) c ↔ k = 0 ∧ c < C := by
 show mem (if k = 0 then [(0, C)] else []) c ↔ _
 by_cases e : k = 0
 ·rw [if_pos e, mem_one]
  exact ⟨fun h => ⟨e, h.2⟩, fun h => ⟨Nat.zero_le _, h.2⟩⟩
 ·rw [if_neg e]
  exact ⟨fun h => absurd h (mem_nil c), fun h => absurd h.1 e⟩
theorem allFree_good {C : Nat} (h1 : 1 ≤ C) (h2 : C ≤ 40000) : Good (allFree C) := by
 refine ⟨⟨h1, h2⟩, fun k _ => ?_, fun k _ c hc => ((allFree_mem C c).1 hc).2, fun k j c _ _ hk hj => (((allFree_mem C c).1 hk).1).trans (((allFree_mem C c).1 hj).1).symm, fun c hc => ⟨0, by omega, (allFree_mem C c).2 ⟨rfl, hc⟩⟩, Nat.zero_le _⟩
 show Ris 0 (if k = 0 then [(0, C)] else [])
 by_cases e : k = 0
 ·rw [if_pos e]; exact ⟨Nat.zero_le _, h1, trivial⟩
 ·rw [if_neg e]; trivial
set_option maxHeartbeats 3200000 in
theorem blank_yes (w : World) (C : Nat) (h1 : 1 ≤ C) (h2 : C ≤ 40000) :
  Calls Tryz.prog 103 #[.int .i64 (C : Int)] w fun er w' => ∃ b m F V, er = .returned (.tuple #[.pointer (some ⟨b, 0, none⟩), .int .i64 0]) ∧ Spc w' w.heap.size b m 1 F V (allFree C) ∧ Below w.heap.size w w' := by
 have hmk : ∀ w : World, (Instr.makeMap 148 none).run Tryz.prog w = .ok (.map (some w.heap.size)) (w.alloc (.map #[] 0)) := fun w => by kernel_rfl
 obtain ⟨m, hm⟩ : ∃ m, m = w.heap.size := ⟨_, rfl⟩
 obtain ⟨b, hb⟩ : ∃ b, b = (w.alloc (.map #[] 0)).heap.size := ⟨_, rfl⟩
 have hbm : b = m + 1 := by rw [hb, hm]; simp
 obtain ⟨W, hW⟩ : ∃ W, W = (w.alloc (.map #[] 0)).alloc (.cells #[.int .i64 (C : Int), .int .i64 0, .map (some m)] 150) := ⟨_, rfl⟩
 have hB : Blk W b 150 #[.int .i64 (C : Int), .int .i64 0, .map (some m)] := by rw [hW, hb]; exact Blk.new _ _ _
 have hM : MapI W m 0 (fun _ => none) := by rw [hW, hm]; exact (MapI.made w).alloc _
 have hL : Below w.heap.size w W := by rw [hW]; exact ((Below.refl _ _).alloc (Nat.le_refl _) _).alloc (by rw [← hb, hbm, hm]; exact Nat.le_succ _) _
 have L1 := Lib.hid hL
 have HBM := Lib.hid hbm
 have HM0 := Lib.hid hm
 have HLK : Hid (∀ w1, MapI w1 m 0 (fun _ => none) → (Instr.lookup 148 (.map (some m)) (.int .i64 0) false).run Tryz.prog w1 = .ok (.agg #[.slice none 0 0, .int .i64 0]) w1) := Lib.hid fun w1 h => h.look Tryz.underlying148 (zero_part w1) (show 0 < 4611686018427387904 by omega) false
 have hwi := with_rg W.drew w.heap.size (.slice none 0 0) [] 0 0 C (Own.nil _ _) hL.size (by simp) (by omega) (by omega) (by omega) (lo0 := 0) trivial
 have hwl : withL 0 C [] = [(0, C)] := rfl
 rw [hwl, Nat.zero_add, Nat.sub_zero] at hwi
 have HWI := Lib.hid hwi
 have HS6 := Lib.hid (⟨hB.drew, hM.drew⟩ : Blk W.drew b 150 #[.int .i64 (C : Int), .int .i64 0, .map (some m)] ∧ MapI W.drew m 0 (fun _ => none))
 have HB0 := Lib.hid hB
 have HMM := Lib.hid hM
 clear hB hM hL hwi hbm
 go_enter Tryz.func103, Tryz.ntmps103
 go_upto_region 4 with (fail)
 rw [← hm]
 rw [← HBM.out, ← hW]
 clear hW hb hm
 refine region_anyZ (fun w' => Blk w' b 150 #[.int .i64 (C : Int), .int .i64 0, .map (some m)] ∧ MapI w' m 0 (fun _ => none)) 12 (by kernel_rfl) ?_
 refine takeG 0 (.move (.tmp 4)) (some 15) none (.pointer (some ⟨b, 0, none⟩)) (by kernel_rfl) (by kernel_rfl) (by kernel_rfl) (fun _ _ _ h => h) (fun o wq e hS => exec_move wq e (by kernel_rfl)) HS6.out ?_
 refine takeG 1 (.nilCheck (.tmp 15)) (some 16) none (.pointer (some ⟨b, 0, none⟩)) (by kernel_rfl) (by kernel_rfl) (by kernel_rfl) (fun _ _ _ h => h) (fun o wq e hS => exec_nil wq e (by kernel_rfl)) HS6.out ?_
 refine takeG 2 (.fieldAddr 150 (.tmp 16) 2) (some 17) none (.pointer (some ⟨b, 2, none⟩)) (by kernel_rfl) (by kernel_rfl) (by kernel_rfl) (fun _ _ _ h => h) (fun o wq e hS => exec_field (u := .pointer (some ⟨b, 0, none⟩)) wq e (by kernel_rfl) (by kernel_rfl)) HS6.out ?_
 refine takeG 3 (.load 148 (.tmp 17)) (some 18) none (.map (some m)) (by kernel_rfl) (by kernel_rfl) (by kernel_rfl) (fun _ _ _ h => h) (fun o wq e hS => exec_load (x := (.tmp 17)) e (by kernel_rfl) (load_one Tryz.underlying148 (by kernel_rfl) (hS.1.cell 2))) HS6.out ?_
 refine takeG 4 (.move (.tmp 4)) (some 19) none (.pointer (some ⟨b, 0, none⟩)) (by kernel_rfl) (by kernel_rfl) (by kernel_rfl) (fun _ _ _ h => h) (fun o wq e hS => exec_move wq e (by kernel_rfl)) HS6.out ?_
 refine takeG 5 (.nilCheck (.tmp 19)) (some 20) none (.pointer (some ⟨b, 0, none⟩)) (by kernel_rfl) (by kernel_rfl) (by kernel_rfl) (fun _ _ _ h => h) (fun o wq e hS => exec_nil wq e (by kernel_rfl)) HS6.out ?_
 refine takeG 6 (.fieldAddr 150 (.tmp 20) 2) (some 21) none (.pointer (some ⟨b, 2, none⟩)) (by kernel_rfl) (by kernel_rfl) (by kernel_rfl) (fun _ _ _ h => h) (fun o wq e hS => exec_field (u := .pointer (some ⟨b, 0, none⟩)) wq e (by kernel_rfl) (by kernel_rfl)) HS6.out ?_
 refine takeG 7 (.load 148 (.tmp 21)) (some 22) none (.map (some m)) (by kernel_rfl) (by kernel_rfl) (by kernel_rfl) (fun _ _ _ h => h) (fun o wq e hS => exec_load (x := (.tmp 21)) e (by kernel_rfl) (load_one Tryz.underlying148 (by kernel_rfl) (hS.1.cell 2))) HS6.out ?_
 refine takeG 8 (.lookup 148 (.tmp 22) (.const (.int .i64 0)) false) (some 23) none (.agg #[.slice none 0 0, .int .i64 0]) (by kernel_rfl) (by kernel_rfl) (by kernel_rfl) (fun _ _ _ h => h) (fun o wq e hS => exec_look (u1 := .map (some m)) (u2 := (.int .i64 0)) wq e (by kernel_rfl) (by kernel_rfl) (HLK.out _ hS.2)) HS6.out ?_
 refine takeG 9 (.move (.tmp 0)) (some 24) none (.int .i64 (C : Int)) (by kernel_rfl) (by kernel_rfl) (by kernel_rfl) (fun _ _ _ h => h) (fun o wq e hS => exec_move wq e (by kernel_rfl)) HS6.out ?_
 refine takeG 10 (.build 61 #[(0, (.const (.int .i64 0))), (1, (.tmp 24))]) (some 25) none (.agg #[.int .i64 0, .int .i64 (C : Int)]) (by kernel_rfl) (by kernel_rfl) (by kernel_rfl) (fun _ _ _ h => h) (fun o wq e hS => exec_bld2 (u0 := (.int .i64 0)) (u1 := .int .i64 (C : Int)) wq e (by kernel_rfl) (by kernel_rfl) (by kernel_rfl)) HS6.out ?_
 refine loneG 11 (.call ⟨.value (.func 122), #[(.tmp 23), (.tmp 25)], #[147, 61]⟩) (some 26) none (by kernel_rfl) (by kernel_rfl) (by kernel_rfl) ?_
 intro o ho hod
 refine wp_callC (f := 122) (args := #[.agg #[.slice none 0 0, .int .i64 0], .agg #[.int .i64 0, .int .i64 (C : Int)]]) (by cases o; cases ho; kernel_rfl) HWI.out ?_
 rintro ee W7 ⟨v2, rfl, hp7⟩
 refine ⟨.agg #[v2, .int .i64 (C : Int)], rfl, ?_⟩
 rw [hod]
 clear hod ho
 have HP7 := Lib.hid hp7
 have HS7 : Hid (Blk W7 b 150 #[.int .i64 (C : Int), .int .i64 0, .map (some m)] ∧ MapI W7 m 0 (fun _ => none)) := Lib.hid ⟨Blk_grown HS6.out.1 hp7.2.1 (fun e => by cases e), HS6.out.2.grown hp7.2.1 (fun e => by cases e)⟩
 clear hp7 HS6 HWI
 refine ⟨fun _ => HS7.out, ?_⟩
 refine lastOp 12 (.mapUpdate 148 (.tmp 18) (.const (.int .i64 0)) (.tmp 26)) none (by kernel_rfl) (by kernel_rfl) (by kernel_rfl) rfl ?_
 intro o ho hod
 obtain ⟨W8, hrun, m8, g8, s8⟩ := HS7.out.2.put Tryz.underlying148 (show 0 < maxLen by decide) (show 0 < 3 by omega) (.agg #[v2, .int .i64 (C : Int)])
 refine wp_put ho (by kernel_rfl) (by kernel_rfl) (by kernel_rfl) hrun ?_
 rw [hod]
 clear hod ho
 simp only [put_some, put_none, List.setIfInBounds_toArray, List.set_cons_succ, List.set_cons_zero]
 have hst := Mem.step (w := W.drew) (base := w.heap.size) (b := b) (m := m) (n := 0) (F := fun _ => none) (V := fun _ => .slice none 0 0) (s := ⟨C, 0, fun _ => []⟩) (k := 0) (r := [(0, C)]) ⟨HB0.out.drew, HMM.out.drew, fun k _ => rfl, fun k _ => Own.nil _ _, (fun k j _ _ _ g hg => by cases hg), ⟨by rw [HBM.out, HM0.out]; exact Nat.le_succ _, by rw [HM0.out]; exact Nat.le_refl _⟩⟩ (by omega) HP7.out m8 (by rw [show cnt [(0, C)] = C from by simp [cnt]]) g8
 have HST := Lib.hid hst
 clear hst m8 g8 s8 hrun
 go_wp2_with fail
 go_ret2
 have hc := HST.out.2
 have hl := L1.out.drew
 refine ⟨b, m, _, _, rfl, ⟨HST.out.1, allFree_good h1 h2⟩, ?_⟩
 exact { os := hc.os.trans hl.os, tape := hc.tape.trans hl.tape, output := hc.output.trans hl.output, size := Nat.le_trans hl.size hc.size, block := fun g hg => (hc.block g (Nat.lt_of_lt_of_le hg hl.size) (by rw [HBM.out, HM0.out]; omega) (by rw [HM0.out]; omega) (fun k _ e => by cases e)).trans (hl.block g hg) }
end Sp
end Go.Proofs.YtgbehfkimchglaaGreatDoor
