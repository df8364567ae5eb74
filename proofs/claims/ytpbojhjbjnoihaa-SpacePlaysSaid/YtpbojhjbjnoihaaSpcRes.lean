/-
  'Reserve' of a space by contracts.
-/
import Derived.Test.YtpbojhjbjnoihaaSpcGive
namespace Go.Proofs.Ytpbojhjbjnoihaa
open Go Go.RowKit
set_option maxRecDepth 100000
set_option linter.unusedVariables false
namespace Sp
set_option maxHeartbeats 1600000 in
theorem res_arg {w : World} {base b m n : Nat} {F : Nat → Option Value} {V : Nat → Value} {s : SS} (h : Spc w base b m n F V s) (k : Int) (hk1 : -9223372036854775808 ≤ k) (hno : (s.kept : Int) + k < 0) :
    Calls Try.prog 19 #[.pointer (some ⟨b, 0, none⟩), .int .i64 k] w fun er w' => er = .returned (.int .i64 1) ∧ w' = w := by
  have hn := Lib.hid (none_rg h)
  have c1 : w.cell? ⟨b, 1, none⟩ = some (.int .i64 (s.kept : Int)) := h.mem.blk.cell 1
  have hkp := h.good.kp
  obtain ⟨K, hK⟩ : ∃ K, K = s.kept := ⟨_, rfl⟩
  rw [← hK] at c1 hkp hno
  have t0 : k < 0 := by omega
  have t1 : min k 0 = k := by omega
  clear h hK
  go_enter Try.func19, Try.ntmps19
  go_wp2_with fail
  refine hn.out.mono ?_
  rintro e w' ⟨rfl, rfl⟩
  go_wp2_with fail
  go_ret
  exact ⟨rfl, rfl⟩
set_option maxHeartbeats 1600000 in
theorem res_no {w : World} {base b m n : Nat} {F : Nat → Option Value} {V : Nat → Value} {s : SS} (h : Spc w base b m n F V s) (k : Int) (hk2 : k ≤ 9223372036854775807) (hno : (cnt (s.S 0) : Int) - (s.kept : Int) < k) (hge : 0 ≤ (s.kept : Int) + min k 0) :
    Calls Try.prog 19 #[.pointer (some ⟨b, 0, none⟩), .int .i64 k] w fun er w' => er = .returned (.int .i64 5) ∧ Below w.heap.size w w' := by
  have hn := Lib.hid (none_rg h)
  have hF := Lib.hid (free_rg h)
  have c1 : w.cell? ⟨b, 1, none⟩ = some (.int .i64 (s.kept : Int)) := h.mem.blk.cell 1
  have hkp := h.good.kp
  have hkc := h.cnt_le (k := 0) (by omega)
  obtain ⟨K, hK⟩ : ∃ K, K = s.kept := ⟨_, rfl⟩
  obtain ⟨C, hC⟩ : ∃ C, C = cnt (s.S 0) := ⟨_, rfl⟩
  rw [← hK] at c1 hkp hno hge
  rw [← hC] at hkc hno
  rw [← hK, ← hC] at hF
  clear h hK hC
  obtain ⟨mk, hmk⟩ : ∃ mk, mk = min k 0 := ⟨_, rfl⟩
  have hmk1 : mk ≤ 0 := by omega
  have hmk2 : -1000000 ≤ mk := by omega
  have t1 : ¬ ((K : Int) + mk < 0) := by omega
  rcases Int.lt_or_le k 0 with t0 | t0
  · have t2 : mk = k := by omega
    subst t2
    clear hmk hge
    have t3 : min mk 0 = mk := by omega
    go_enter Try.func19, Try.ntmps19
    go_wp2_with fail
    refine hn.out.mono ?_
    rintro e w' ⟨rfl, rfl⟩
    go_wp2_with fail
    refine hF.out.mono ?_
    rintro e w2 ⟨rfl, b2⟩
    have L2 := Lib.hid b2
    clear b2
    go_wp2_with fail
    go_ret
    exact ⟨rfl, L2.out⟩
  · have t2 : mk = 0 := by omega
    subst t2
    rcases Int.lt_or_le 0 k with t4 | t4
    · have t3 : min k 0 = 0 := by omega
      clear hge
      clear hmk
      go_enter Try.func19, Try.ntmps19
      go_wp2_with fail
      refine hn.out.mono ?_
      rintro e w' ⟨rfl, rfl⟩
      go_wp2_with fail
      refine hF.out.mono ?_
      rintro e w2 ⟨rfl, b2⟩
      have L2 := Lib.hid b2
      clear b2
      go_wp2_with fail
      go_ret
      exact ⟨rfl, L2.out⟩
    · obtain rfl : k = 0 := by omega
      have t3 : min (0 : Int) 0 = 0 := by omega
      clear hge
      clear hmk
      go_enter Try.func19, Try.ntmps19
      go_wp2_with fail
      refine hn.out.mono ?_
      rintro e w' ⟨rfl, rfl⟩
      go_wp2_with fail
      refine hF.out.mono ?_
      rintro e w2 ⟨rfl, b2⟩
      have L2 := Lib.hid b2
      clear b2
      go_wp2_with fail
      go_ret
      exact ⟨rfl, L2.out⟩
theorem Mem.setKept {w : World} {base b m n : Nat} {F : Nat → Option Value} {V : Nat → Value} {s : SS} (h : Mem w base b m n F V s) (K : Nat) : Mem (w.setCell ⟨b, 1, none⟩ (.int .i64 (K : Int))) base b m n F V { s with kept := K } := by
  have hbm : m ≠ b := h.map.ne_blk h.blk
  refine ⟨h.blk.set_ 1 _, h.map.setCell (p := ⟨b, 1, none⟩) hbm _, h.val, fun k hk => (h.own k hk).keep fun g hg => ?_, h.apart, h.lo⟩
  exact Below.heap_setCell w ⟨b, 1, none⟩ _ g (fun e => (h.own_ne hk).1 (by rw [hg, e]))
set_option maxHeartbeats 1600000 in
theorem res_yes {w : World} {base b m n : Nat} {F : Nat → Option Value} {V : Nat → Value} {s : SS} (h : Spc w base b m n F V s) (k : Int) (K' : Nat) (hK' : (K' : Int) = (s.kept : Int) + k) (hle : k ≤ (cnt (s.S 0) : Int) - (s.kept : Int)) :
    Calls Try.prog 19 #[.pointer (some ⟨b, 0, none⟩), .int .i64 k] w fun er w' => er = .returned (.int .i64 0) ∧ Spc w' base b m n F V { s with kept := K' } ∧ Chg w w' b m V V := by
  have hn := Lib.hid (none_rg h)
  have hF := Lib.hid (free_rg h)
  have c1 : w.cell? ⟨b, 1, none⟩ = some (.int .i64 (s.kept : Int)) := h.mem.blk.cell 1
  have hkp := h.good.kp
  have hkc := h.cnt_le (k := 0) (by omega)
  have hk1 : -1000000 ≤ k := by omega
  have hk2 : k ≤ 1000000 := by omega
  have HEND : Hid (∀ w2, Below w.heap.size w w2 → Spc (w2.setCell ⟨b, 1, none⟩ (.int .i64 (K' : Int))) base b m n F V { s with kept := K' } ∧ Chg w (w2.setCell ⟨b, 1, none⟩ (.int .i64 (K' : Int))) b m V V) := Lib.hid fun w2 hb => by
    have hm := (h.mem.below hb (Nat.le_refl _)).setKept K'
    refine ⟨⟨hm, ⟨h.good.hc, h.good.ris, h.good.in_, h.good.one, h.good.all, by show K' ≤ 1000000; omega⟩⟩, ?_⟩
    have g1 := grown_set w2 b 1 (.int .i64 (K' : Int))
    exact ⟨g1.os.trans hb.os, g1.tape.trans hb.tape, g1.output.trans hb.output, Nat.le_trans hb.size g1.size, fun g hg hgb _ _ => (g1.block g (Nat.lt_of_lt_of_le hg hb.size) (fun e => by injection e with e; exact hgb e)).trans (hb.block g hg), fun j hj g hg => .inr ⟨j, hj, hg⟩⟩
  have HB2 : Hid (∀ w2, Below w.heap.size w w2 → w2.cell? ⟨b, 1, none⟩ = some (.int .i64 (s.kept : Int)) ∧ w2.frozen? ⟨b, 1, none⟩ = false) := Lib.hid fun w2 hb => ⟨(h.mem.below hb (Nat.le_refl _)).blk.cell 1, (h.mem.below hb (Nat.le_refl _)).blk.frozen 1⟩
  obtain ⟨s2, hs2⟩ : ∃ s2, s2 = ({ s with kept := K' } : SS) := ⟨_, rfl⟩
  rw [← hs2] at HEND ⊢
  obtain ⟨K, hK⟩ : ∃ K, K = s.kept := ⟨_, rfl⟩
  obtain ⟨C, hC⟩ : ∃ C, C = cnt (s.S 0) := ⟨_, rfl⟩
  rw [← hK] at c1 hkp hle hK' HB2
  rw [← hC] at hkc hle
  rw [← hK, ← hC] at hF
  clear h hK hC hs2
  have t3 : ¬ ((C : Int) - (K : Int) < k) := by omega
  have HK := Lib.hid hK'
  have hnn : ¬ ((K : Int) + k < 0) := by omega
  clear hK' hle
  rcases Int.lt_or_le k 0 with t0 | t0
  · have t4 : min k 0 = k := by omega
    go_enter Try.func19, Try.ntmps19
    go_wp2_with fail
    refine hn.out.mono ?_
    rintro e w' ⟨rfl, rfl⟩
    go_wp2_with fail
    refine hF.out.mono ?_
    rintro e w2 ⟨rfl, b2⟩
    have L2 := Lib.hid b2
    obtain ⟨d1, f1⟩ := HB2.out w2 b2
    clear b2 c1
    go_wp2_with fail
    go_ret
    rw [← HK.out]
    exact ⟨rfl, HEND.out w2 L2.out⟩
  · rcases Int.lt_or_le 0 k with t4 | t4
    · have t5 : min k 0 = 0 := by omega
      go_enter Try.func19, Try.ntmps19
      go_wp2_with fail
      refine hn.out.mono ?_
      rintro e w' ⟨rfl, rfl⟩
      go_wp2_with fail
      refine hF.out.mono ?_
      rintro e w2 ⟨rfl, b2⟩
      have L2 := Lib.hid b2
      obtain ⟨d1, f1⟩ := HB2.out w2 b2
      clear b2 c1
      go_wp2_with fail
      go_ret
      rw [← HK.out]
      exact ⟨rfl, HEND.out w2 L2.out⟩
    · obtain rfl : k = 0 := by omega
      have t5 : min (0 : Int) 0 = 0 := by omega
      go_enter Try.func19, Try.ntmps19
      go_wp2_with fail
      refine hn.out.mono ?_
      rintro e w' ⟨rfl, rfl⟩
      go_wp2_with fail
      refine hF.out.mono ?_
      rintro e w2 ⟨rfl, b2⟩
      have L2 := Lib.hid b2
      obtain ⟨d1, f1⟩ := HB2.out w2 b2
      clear b2 c1
      go_wp2_with fail
      go_ret
      have e0 := HK.out
      rw [Int.add_zero] at e0
      rw [← e0]
      exact ⟨rfl, HEND.out w2 L2.out⟩
end Sp
end Go.Proofs.Ytpbojhjbjnoihaa
