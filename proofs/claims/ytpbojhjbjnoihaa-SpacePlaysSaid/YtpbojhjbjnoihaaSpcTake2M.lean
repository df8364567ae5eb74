/-
  'Take' of a space by contracts.
-/
import Derived.Test.YtpbojhjbjnoihaaSpcGood
namespace Go.Proofs.Ytpbojhjbjnoihaa
open Go Go.RowKit
set_option maxRecDepth 100000
set_option linter.unusedVariables false
namespace Sp
theorem Ris.lt_ {lo : Nat} : ∀ {l}, Ris lo l → ∀ r ∈ l, r.1 < r.2
  | [], _, r, h => by cases h
  | q :: l, h, r, hr => by
    rcases List.mem_cons.1 hr with rfl | hr
    · exact h.2.1
    · exact Ris.lt_ h.2.2 r hr
theorem take_arg {w : World} {base b m n : Nat} {F : Nat → Option Value} {V : Nat → Value} {s : SS} (h : Spc w base b m n F V s) (k : Int) (hk : k < 1) :
    Calls Try.prog 15 #[.pointer (some ⟨b, 0, none⟩), .int .i64 k] w fun er w' => er = .returned (.tuple #[.int .i64 0, .int .i64 1]) ∧ w' = w := by
  have hn := Lib.hid (none_rg h)
  clear h
  go_enter Try.func15, Try.ntmps15
  go_wp2_with fail
  refine hn.out.mono ?_
  rintro e w' ⟨rfl, rfl⟩
  go_wp2_with fail
  go_ret2
  exact ⟨rfl, rfl⟩
set_option maxHeartbeats 3200000 in
theorem take_no {w : World} {base b m n : Nat} {F : Nat → Option Value} {V : Nat → Value} {s : SS} (h : Spc w base b m n F V s) (j : Nat) (hj : 1 ≤ j) (hno : ∀ x, rowL j (s.S 0) = some x → cnt (s.S 0) < j + s.kept) :
    Calls Try.prog 15 #[.pointer (some ⟨b, 0, none⟩), .int .i64 (j : Int)] w fun er w' => er = .returned (.tuple #[.int .i64 0, .int .i64 5]) ∧ Below w.heap.size w w' := by
  have hn := Lib.hid (none_rg h)
  have c2 : w.cell? ⟨b, 2, none⟩ = some (.map (some m)) := h.mem.blk.cell 2
  have hl : (Instr.lookup 61 (.map (some m)) (.int .i64 0) false).run Try.prog w = .ok (.agg #[V 0, .int .i64 (cnt (s.S 0) : Int)]) w := h.mem.look (k := 0) (by omega)
  obtain ⟨A, c, hv, hRd, _, _, _⟩ := (h.mem.own 0 (by omega)).shape
  have hrow := row_rg w A (s.S 0) c j (cnt (s.S 0)) hRd (h.len (by omega)) (fun r hr => by
    have h1 := h.good.hc
    have h2 := ((h.good.ris 0 (by omega)).in_ (h.good.in_ 0 (by omega)) r hr).2
    have h3 := (h.good.ris 0 (by omega)).lt_ r hr
    omega)
  rw [hv] at hl
  have HF := Lib.hid (fun (w1 : World) (hb : Below w.heap.size w w1) => free_rg (w := w1) ⟨h.mem.below hb (Nat.le_refl _), h.good⟩)
  have t0 : ¬ ((j : Int) < 1) := by omega
  obtain ⟨ans, hans⟩ : ∃ ans, ans = rowL j (s.S 0) := ⟨_, rfl⟩
  rw [← hans] at hrow hno
  have HR := Lib.hid hrow
  have HN := Lib.hid hno
  have hkc := h.cnt_le (k := 0) (by omega)
  have hkp := h.good.kp
  obtain ⟨n0, hn0⟩ : ∃ n0, n0 = (s.S 0).length := ⟨_, rfl⟩
  obtain ⟨C, hC⟩ : ∃ C, C = cnt (s.S 0) := ⟨_, rfl⟩
  obtain ⟨K, hK⟩ : ∃ K, K = s.kept := ⟨_, rfl⟩
  rw [← hn0, ← hC] at HR hl
  rw [← hC] at hkc
  rw [← hK] at hkp
  rw [← hC, ← hK] at HF HN
  clear h hrow hv hRd hans hno hn0 hC hK
  go_enter Try.func15, Try.ntmps15
  go_wp2_with fail
  refine hn.out.mono ?_
  rintro e w' ⟨rfl, rfl⟩
  go_wp2_with fail
  refine HR.out.mono ?_
  rintro e w2 ⟨rfl, b2⟩
  have L2 := Lib.hid b2
  clear b2 hl c2
  cases ans with
  | none =>
    go_wp2_with fail
    go_ret2
    exact ⟨rfl, L2.out⟩
  | some x =>
    have hlt := HN.out x rfl
    go_wp2_with fail
    refine (HF.out w2 L2.out).mono ?_
    rintro e w3 ⟨rfl, b3⟩
    have L3 := Lib.hid (L2.out.trans (b3.mono L2.out.size))
    have t1 : (C : Int) - (K : Int) < (j : Int) := by omega
    clear b3
    go_wp2_with fail
    go_ret2
    exact ⟨rfl, L3.out⟩
end Sp
end Go.Proofs.Ytpbojhjbjnoihaa
namespace Go.Proofs.Ytpbojhjbjnoihaa
open Go Go.RowKit
set_option maxRecDepth 100000
set_option linter.unusedVariables false
namespace Sp
theorem row_has {s : SS} (h : Good s) {j x : Nat} (hj : 1 ≤ j) (hx : rowL j (s.S 0) = some x) : hasL x (x + j) (s.S 0) = true ∧ x + j ≤ s.cells := by
  have h1 := ((h.ris 0 (by omega)).row_some (by omega) hx).1
  refine ⟨(Ris.has (by omega) (h.ris 0 (by omega))).2 h1, ?_⟩
  have := h.in_ 0 (by omega) (x + j - 1) (h1 _ (by omega) (by omega))
  omega
set_option maxHeartbeats 3200000 in
theorem take_yes {w : World} {base b m n : Nat} {F : Nat → Option Value} {V : Nat → Value} {s : SS} (h : Spc w base b m n F V s) (hbs : base ≤ w.heap.size) (hnm : n + 2 < maxLen) (j x : Nat) (hj : 1 ≤ j) (hx : rowL j (s.S 0) = some x) (hle : j + s.kept ≤ cnt (s.S 0)) :
    Calls Try.prog 15 #[.pointer (some ⟨b, 0, none⟩), .int .i64 (j : Int)] w fun er w' => er = .returned (.tuple #[.int .i64 (x : Int), .int .i64 0]) ∧ ∃ F' V', Spc w' base b m (n + 2) F' V' (s.mv 0 1 x (x + j)) ∧ Chg w w' b m V V' := by
  have hn := Lib.hid (none_rg h)
  have c2 : w.cell? ⟨b, 2, none⟩ = some (.map (some m)) := h.mem.blk.cell 2
  have hl : (Instr.lookup 61 (.map (some m)) (.int .i64 0) false).run Try.prog w = .ok (.agg #[V 0, .int .i64 (cnt (s.S 0) : Int)]) w := h.mem.look (k := 0) (by omega)
  obtain ⟨A, c, hv, hRd, _, _, _⟩ := (h.mem.own 0 (by omega)).shape
  have hrow := row_rg w A (s.S 0) c j (cnt (s.S 0)) hRd (h.len (by omega)) (fun r hr => by
    have h1 := h.good.hc
    have h2 := ((h.good.ris 0 (by omega)).in_ (h.good.in_ 0 (by omega)) r hr).2
    have h3 := (h.good.ris 0 (by omega)).lt_ r hr
    omega)
  rw [hv] at hl
  obtain ⟨hhas, hxj⟩ := row_has h.good hj hx
  have hcm := h.good.hc.2
  have HS := Lib.hid (fun (w1 : World) (hb : Below w.heap.size w w1) => (⟨h.mem.below hb (Nat.le_refl _), h.good⟩ : Spc w1 base b m n F V s))
  have HF := Lib.hid (fun (w1 : World) (hb : Below w.heap.size w w1) => free_rg (HS.out w1 hb))
  have HMV := Lib.hid (fun (w1 : World) (hb : Below w.heap.size w w1) => move_sp (HS.out w1 hb) (Nat.le_trans hbs hb.size) hnm (a := x) (e := x + j) (f := 0) (t := 1) (by omega) (by omega) (by omega) (by omega) (by omega))
  rw [hhas] at HMV
  have t0 : ¬ ((j : Int) < 1) := by omega
  rw [hx] at hrow
  have HR := Lib.hid hrow
  have hkc := h.cnt_le (k := 0) (by omega)
  have hkp := h.good.kp
  have hxb : x ≤ 40000 := by omega
  have hjb : j ≤ 40000 := by omega
  obtain ⟨n0, hn0⟩ : ∃ n0, n0 = (s.S 0).length := ⟨_, rfl⟩
  obtain ⟨C, hC⟩ : ∃ C, C = cnt (s.S 0) := ⟨_, rfl⟩
  obtain ⟨K, hK⟩ : ∃ K, K = s.kept := ⟨_, rfl⟩
  rw [← hn0, ← hC] at HR hl
  rw [← hC] at hkc hle
  rw [← hK] at hkp hle
  rw [← hC, ← hK] at HF
  clear h hrow hv hRd hn0 hC hK hx hxj hcm hhas
  go_enter Try.func15, Try.ntmps15
  go_wp2_with fail
  refine hn.out.mono ?_
  rintro e w' ⟨rfl, rfl⟩
  go_wp2_with fail
  refine HR.out.mono ?_
  rintro e w2 ⟨rfl, b2⟩
  have L2 := Lib.hid b2
  clear b2 hl c2
  go_wp2_with fail
  refine (HF.out w2 L2.out).mono ?_
  rintro e w3 ⟨rfl, b3⟩
  have L3 := Lib.hid (L2.out.trans (b3.mono L2.out.size))
  have t1 : ¬ ((C : Int) - (K : Int) < (j : Int)) := by omega
  clear b3
  go_wp2_with fail
  have HM3 := Lib.hid (HMV.out w3 L3.out)
  have ex : (x : Int) + (j : Int) = ((x + j : Nat) : Int) := by omega
  rw [ex]
  refine HM3.out.mono ?_
  rintro e w4 ⟨rfl, hsp⟩
  have HSP := Lib.hid hsp
  clear hsp
  go_wp2_with fail
  go_ret2
  obtain ⟨F', V', h1, h2⟩ := HSP.out
  exact ⟨rfl, F', V', h1, (Chg.of_below L3.out).trans h2⟩
end Sp
end Go.Proofs.Ytpbojhjbjnoihaa
