/-
  'span', 'Give' and 'list' of a space by contracts.
-/
import Derived.Test.YtpbojhjbjnoihaaSpcTake2M
namespace Go.Proofs.Ytpbojhjbjnoihaa
open Go Go.RowKit
set_option maxRecDepth 100000
set_option linter.unusedVariables false
namespace Sp
theorem results_cell2 {fn : Func} {t s : Tmp} {ty : TypeId} (h : fn.results = #[.cell t ty, .tmp s]) {tmps : Array Value} {g : Nat} {v v1 : Value} {w : World} (hp : tmps.getD t undef = .pointer (some ⟨g, 0, none⟩)) (hl : (loadVar ty ⟨g, 0, none⟩).run Try.prog w = .ok v w) (h1 : tmps.getD s undef = v1) :
    (results fn tmps).run Try.prog w = .ok (.tuple #[v, v1]) w := by
  have hp2 : tmps[t]?.getD undef = .pointer (some ⟨g, 0, none⟩) := by rw [← hp]; simp
  have h12 : tmps[s]?.getD undef = v1 := by rw [← h1]; simp
  simp [results, h]
  rw [hp2]
  simp [asAddr, hl, h12]
set_option maxHeartbeats 1600000 in
theorem span_yes {w : World} {base b m n : Nat} {F : Nat → Option Value} {V : Nat → Value} {s : SS} (h : Spc w base b m n F V s) (a j : Nat) (hj : 1 ≤ j) (haj : a + j ≤ s.cells) :
    Calls Try.prog 27 #[.pointer (some ⟨b, 0, none⟩), .int .i64 (a : Int), .int .i64 (j : Int)] w fun er w' => er = .returned (.tuple #[.agg #[.int .i64 (a : Int), .int .i64 ((a + j : Nat) : Int)], .bool true]) ∧ Below w.heap.size w w' := by
  obtain ⟨W, hW⟩ : ∃ W, W = w.alloc (.cells #[.int .i64 0, .int .i64 0] 34) := ⟨_, rfl⟩
  have hb : Below w.heap.size w W := by rw [hW]; exact (Below.refl _ _).alloc (Nat.le_refl _) _
  have X5 : Blk W w.heap.size 34 #[.int .i64 0, .int .i64 0] := by rw [hW]; exact Blk.new _ _ _
  have hn := Lib.hid (none_rg (w := W) ⟨h.mem.below hb (Nat.le_refl _), h.good⟩)
  have c0 : W.cell? ⟨b, 0, none⟩ = some (.int .i64 (s.cells : Int)) := (h.mem.below hb (Nat.le_refl _)).blk.cell 0
  have hc := h.good.hc
  obtain ⟨C, hC⟩ : ∃ C, C = s.cells := ⟨_, rfl⟩
  obtain ⟨r5, hr5⟩ : ∃ r5, r5 = w.heap.size := ⟨_, rfl⟩
  rw [← hC] at c0 hc haj
  rw [← hr5] at X5
  have HR5 := Lib.hid hr5
  have L1 := Lib.hid hb
  have B5 := Lib.hid X5
  have t1 : ¬ ((j : Int) < 1) := by omega
  have t2 : ¬ ((a : Int) < 0) := by omega
  have t3 : ¬ ((C : Int) - (j : Int) < (a : Int)) := by omega
  have hc1 := hc.1
  have hc2 := hc.2
  have hjb : j ≤ 40000 := by omega
  have hab : a ≤ 40000 := by omega
  have d0 : W.cell? ⟨r5, 0, none⟩ = some (.int .i64 0) := X5.cell 0
  have d1 : W.cell? ⟨r5, 1, none⟩ = some (.int .i64 0) := X5.cell 1
  have f0 : W.frozen? ⟨r5, 0, none⟩ = false := X5.frozen 0
  have f1 : W.frozen? ⟨r5, 1, none⟩ = false := X5.frozen 1
  clear hb h hC X5 hc
  go_enter Try.func27, Try.ntmps27
  go_upto_region 1 with (fail)
  rw [← hW, ← HR5.out]
  clear hW hr5
  go_wp2_with fail
  refine hn.out.mono ?_
  rintro e w' ⟨rfl, rfl⟩
  go_wp2_with fail
  have T5 := (B5.out.set_ 0 (.int .i64 (a : Int))).set_ 1 (.int .i64 ((a : Int) + (j : Int)))
  refine bodyPost_ret (results_cell2 rfl rfl (loadVar_blk T5 Try.underlying34 rfl size_range) rfl) rfl ?_
  refine ⟨rfl, ?_⟩
  exact (L1.out.setCell (p := ⟨r5, 0, none⟩) (by rw [HR5.out]; exact Nat.le_refl _) _).setCell (p := ⟨r5, 1, none⟩) (by rw [HR5.out]; exact Nat.le_refl _) _
set_option maxHeartbeats 1600000 in
theorem span_no {w : World} {base b m n : Nat} {F : Nat → Option Value} {V : Nat → Value} {s : SS} (h : Spc w base b m n F V s) (a j : Int) (ha1 : -9223372036854775808 ≤ a) (ha2 : a ≤ 9223372036854775807) (hj1 : -9223372036854775808 ≤ j) (hj2 : j ≤ 9223372036854775807) (hno : j < 1 ∨ a < 0 ∨ (s.cells : Int) - j < a) :
    Calls Try.prog 27 #[.pointer (some ⟨b, 0, none⟩), .int .i64 a, .int .i64 j] w fun er w' => er = .returned (.tuple #[.agg #[.int .i64 0, .int .i64 0], .bool false]) ∧ Below w.heap.size w w' := by
  obtain ⟨W, hW⟩ : ∃ W, W = w.alloc (.cells #[.int .i64 0, .int .i64 0] 34) := ⟨_, rfl⟩
  have hb : Below w.heap.size w W := by rw [hW]; exact (Below.refl _ _).alloc (Nat.le_refl _) _
  have X5 : Blk W w.heap.size 34 #[.int .i64 0, .int .i64 0] := by rw [hW]; exact Blk.new _ _ _
  have hn := Lib.hid (none_rg (w := W) ⟨h.mem.below hb (Nat.le_refl _), h.good⟩)
  have c0 : W.cell? ⟨b, 0, none⟩ = some (.int .i64 (s.cells : Int)) := (h.mem.below hb (Nat.le_refl _)).blk.cell 0
  have hc := h.good.hc
  obtain ⟨C, hC⟩ : ∃ C, C = s.cells := ⟨_, rfl⟩
  obtain ⟨r5, hr5⟩ : ∃ r5, r5 = w.heap.size := ⟨_, rfl⟩
  rw [← hC] at c0 hc hno
  rw [← hr5] at X5
  have HR5 := Lib.hid hr5
  have L1 := Lib.hid hb
  have B5 := Lib.hid X5
  have hc1 := hc.1
  have hc2 := hc.2
  have d0 : W.cell? ⟨r5, 0, none⟩ = some (.int .i64 0) := X5.cell 0
  have d1 : W.cell? ⟨r5, 1, none⟩ = some (.int .i64 0) := X5.cell 1
  have f0 : W.frozen? ⟨r5, 0, none⟩ = false := X5.frozen 0
  have f1 : W.frozen? ⟨r5, 1, none⟩ = false := X5.frozen 1
  clear hb h hC X5 hc
  go_enter Try.func27, Try.ntmps27
  go_upto_region 1 with (fail)
  rw [← hW, ← HR5.out]
  clear hW hr5
  go_wp2_with fail
  refine hn.out.mono ?_
  rintro e w' ⟨rfl, rfl⟩
  have T5 := (B5.out.set_ 0 (.int .i64 0)).set_ 1 (.int .i64 0)
  have L5 : Below w.heap.size w ((w'.setCell ⟨r5, 0, none⟩ (.int .i64 0)).setCell ⟨r5, 1, none⟩ (.int .i64 0)) := (L1.out.setCell (p := ⟨r5, 0, none⟩) (by rw [HR5.out]; exact Nat.le_refl _) _).setCell (p := ⟨r5, 1, none⟩) (by rw [HR5.out]; exact Nat.le_refl _) _
  have HT5 := Lib.hid T5
  have HL5 := Lib.hid L5
  clear T5 L5
  by_cases e1 : j < 1
  · clear hno
    go_wp2_with fail
    refine bodyPost_ret (results_cell2 rfl rfl (loadVar_blk HT5.out Try.underlying34 rfl size_range) rfl) rfl ⟨rfl, HL5.out⟩
  · by_cases e2 : a < 0
    · clear hno
      go_wp2_with fail
      refine bodyPost_ret (results_cell2 rfl rfl (loadVar_blk HT5.out Try.underlying34 rfl size_range) rfl) rfl ⟨rfl, HL5.out⟩
    · have e3 : (C : Int) - j < a := by omega
      clear hno
      go_wp2_with fail
      refine bodyPost_ret (results_cell2 rfl rfl (loadVar_blk HT5.out Try.underlying34 rfl size_range) rfl) rfl ⟨rfl, HL5.out⟩
set_option maxHeartbeats 1600000 in
theorem list_rg {w : World} {base b m n : Nat} {F : Nat → Option Value} {V : Nat → Value} {s : SS} (h : Spc w base b m n F V s) (hbs : base ≤ w.heap.size) {k : Nat} (hk : k < 3) :
    Calls Try.prog 49 #[.pointer (some ⟨b, 0, none⟩), .int .i64 (k : Int)] w fun er w' => ∃ v', er = .returned v' ∧ Own w' w.heap.size v' (s.S k) ∧ Below w.heap.size w w' := by
  have hn := Lib.hid (none_rg h)
  have c2 : w.cell? ⟨b, 2, none⟩ = some (.map (some m)) := h.mem.blk.cell 2
  have hl : (Instr.lookup 61 (.map (some m)) (.int .i64 (k : Int)) false).run Try.prog w = .ok (.agg #[V k, .int .i64 (cnt (s.S k) : Int)]) w := h.mem.look hk
  have HC := Lib.hid (copy_rg w base (V k) (s.S k) (cnt (s.S k)) (h.mem.own k hk) hbs (h.len hk))
  obtain ⟨C, hC⟩ : ∃ C, C = cnt (s.S k) := ⟨_, rfl⟩
  obtain ⟨v, hv⟩ : ∃ v, v = V k := ⟨_, rfl⟩
  obtain ⟨l, hll⟩ : ∃ l, l = s.S k := ⟨_, rfl⟩
  rw [← hC, ← hv] at hl HC
  rw [← hll] at HC ⊢
  clear h hbs hC hv hll
  go_enter Try.func49, Try.ntmps49
  go_wp2_with fail
  refine hn.out.mono ?_
  rintro e w' ⟨rfl, rfl⟩
  go_wp2_with fail
  refine HC.out.mono ?_
  rintro e w2 ⟨v', rfl, ho, hb⟩
  obtain ⟨A', c', rfl, _, _, _, _⟩ := ho.shape
  have hf : (Instr.field 60 (.agg #[.slice A' l.length c', .int .i64 (C : Int)]) 0).run Try.prog w2 = .ok (.slice A' l.length c') w2 := by kernel_rfl
  have O := Lib.hid (⟨ho, hb⟩ : _ ∧ _)
  clear ho hb
  go_wp2_with fail
  go_ret
  exact ⟨_, rfl, O.out.1, O.out.2⟩
set_option maxHeartbeats 1600000 in
theorem give_no {w : World} {base b m n : Nat} {F : Nat → Option Value} {V : Nat → Value} {s : SS} (h : Spc w base b m n F V s) (a j : Int) (ha1 : -9223372036854775808 ≤ a) (ha2 : a ≤ 9223372036854775807) (hj1 : -9223372036854775808 ≤ j) (hj2 : j ≤ 9223372036854775807) (hno : j < 1 ∨ a < 0 ∨ (s.cells : Int) - j < a) :
    Calls Try.prog 9 #[.pointer (some ⟨b, 0, none⟩), .int .i64 a, .int .i64 j] w fun er w' => er = .returned (.int .i64 1) ∧ Below w.heap.size w w' := by
  have HS := Lib.hid (span_no h a j ha1 ha2 hj1 hj2 hno)
  clear h hno ha1 ha2 hj1 hj2
  go_enter Try.func9, Try.ntmps9
  go_wp2_with fail
  refine HS.out.mono ?_
  rintro e w2 ⟨rfl, b2⟩
  have L2 : Hid (Below w.heap.size w (w2.alloc (.cells #[.int .i64 0, .int .i64 0] 34))) := Lib.hid (b2.alloc b2.size _)
  clear b2
  go_wp2_with fail
  go_ret
  exact ⟨rfl, L2.out⟩
set_option maxHeartbeats 1600000 in
theorem give_sp {w : World} {base b m n : Nat} {F : Nat → Option Value} {V : Nat → Value} {s : SS} (h : Spc w base b m n F V s) (hbs : base ≤ w.heap.size) (hnm : n + 2 < maxLen) (a j : Nat) (hj : 1 ≤ j) (haj : a + j ≤ s.cells) :
    Calls Try.prog 9 #[.pointer (some ⟨b, 0, none⟩), .int .i64 (a : Int), .int .i64 (j : Int)] w fun er w' => er = .returned (.int .i64 (if hasL a (a + j) (s.S 1) then 0 else 7)) ∧ ∃ F' V', Spc w' base b m (n + 2) F' V' (if hasL a (a + j) (s.S 1) then s.mv 1 2 a (a + j) else s) ∧ Chg w w' b m V V' := by
  have HS := Lib.hid (span_yes h a j hj haj)
  have hc := h.good.hc.2
  have HMV := Lib.hid (fun (w1 : World) (hb : Below w.heap.size w w1) => move_sp (w := w1) ⟨h.mem.below hb (Nat.le_refl _), h.good⟩ (Nat.le_trans hbs hb.size) hnm (a := a) (e := a + j) (f := 1) (t := 2) (by omega) (by omega) (by omega) (by omega) (by omega))
  obtain ⟨ans, hans⟩ : ∃ ans, ans = hasL a (a + j) (s.S 1) := ⟨_, rfl⟩
  rw [← hans] at HMV ⊢
  obtain ⟨e0, he0⟩ : ∃ e0, e0 = a + j := ⟨_, rfl⟩
  rw [← he0] at HMV HS ⊢
  clear h hans haj hc he0 hbs hnm
  go_enter Try.func9, Try.ntmps9
  go_wp2_with fail
  refine HS.out.mono ?_
  rintro e w2 ⟨rfl, b2⟩
  have L2 : Hid (Below w.heap.size w (w2.alloc (.cells #[.int .i64 (a : Int), .int .i64 (e0 : Int)] 34))) := Lib.hid (b2.alloc b2.size _)
  clear b2
  go_wp2_with fail
  refine (HMV.out _ L2.out).mono ?_
  rintro e w3 ⟨rfl, hsp⟩
  have HSP := Lib.hid hsp
  clear hsp
  cases ans with
  | true =>
    go_wp2_with fail
    go_ret
    obtain ⟨F', V', h1, h2⟩ := HSP.out
    exact ⟨rfl, F', V', h1, (Chg.of_below L2.out).trans h2⟩
  | false =>
    go_wp2_with fail
    go_ret
    obtain ⟨F', V', h1, h2⟩ := HSP.out
    exact ⟨rfl, F', V', h1, (Chg.of_below L2.out).trans h2⟩
end Sp
end Go.Proofs.Ytpbojhjbjnoihaa
