/-
  The walk of 'FieldSolves': for all systems of up to five unknowns, and all that are none, Solve answers what the document says.
-/
import Derived.Test.YtejngiialodnoaaFieldFresh
import Derived.Test.YtejngiialodnoaaDetTell
namespace Go.Proofs.Ytejngiialodnoaa
open Go Go.RowKit
set_option linter.unusedVariables false
namespace fieldSolves

set_option maxRecDepth 100000 in
set_option maxHeartbeats 1600000 in
theorem few (A A2 : Option Addr) (n c m c2 : Nat) (w : World) (h5 : 5 < n) (h8 : n ≤ 8) :
    Calls Try.prog 6 #[.slice A n c, .slice A2 m c2] w fun e w' => e = .returned (.bool true) ∧ Below w.heap.size w w' := by
  have t1 : (5 : Int) < (n : Int) := by omega
  have t2 : (n : Int) ≤ 8 := by omega
  go_enter Try.func6, Try.ntmps6
  go_wp2_with fail
  refine (known_any _).mono ?_
  rintro e w1 ⟨rfl, hb1⟩
  have B1 := Lib.hid hb1
  clear hb1
  go_wp2_with fail
  go_ret
  exact ⟨rfl, B1.out⟩

set_option maxRecDepth 100000 in
set_option maxHeartbeats 1600000 in
theorem bad (A A2 : Option Addr) (n c m c2 : Nat) (ra : Nat → Option Addr) (rl rc : Nat → Nat) (x : Nat → Nat → Nat) (w : World) (hn : n ≤ 5 ∨ 8 < n) (hr : RdR w w.heap.size A n ra rl rc x) (hq : ¬ IsSq n m rl) :
    Calls Try.prog 6 #[.slice A n c, .slice A2 m c2] w fun e w' => e = .returned (.bool true) ∧ Below w.heap.size w w' := by
  have HR := Lib.hid hr
  have HQ := Lib.hid hq
  clear hr hq
  rcases hn with hn | hn
  all_goals
    go_enter Try.func6, Try.ntmps6
    go_wp2_with fail
    refine (known_any _).mono ?_
    rintro e w1 ⟨rfl, hb1⟩
    have B1 := Lib.hid hb1
    clear hb1
    have hle := B1.out.size
    go_wp2_with fail
    refine (det.solve_bad A A2 n c m c2 w.heap.size ra rl rc x _ (HR.out.below B1.out (Nat.le_refl _)) HQ.out).mono ?_
    rintro e w2 ⟨rfl, rfl⟩
    go_wp2_with fail
    refine (fresh_any _).mono ?_
    rintro e w2 ⟨rfl, hf2, hb2, hs2⟩
    have B2 := Lib.hid (B1.out.trans (hb2.mono B1.out.size))
    clear hb2 hf2 hs2 B1
    generalize w1.heap.size = g at *
    go_wp2_with fail
    refine (solve_bad g A A2 n c m c2 w.heap.size ra rl rc x _ (HR.out.below B2.out (Nat.le_refl _)) HQ.out).mono ?_
    rintro e w3 ⟨rfl, rfl⟩
    have k1 := conv_zero w2 none 0
    go_wp2_with fail
    go_ret
    exact ⟨rfl, B2.out⟩

set_option maxRecDepth 100000 in
set_option maxHeartbeats 3200000 in
theorem main (A A2 : Option Addr) (n c c2 : Nat) (ra : Nat → Option Addr) (rl rc : Nat → Nat) (x : Nat → Nat → Nat) (y : Nat → Nat) (w : World) (h5 : n ≤ 5) (hrc : ∀ i, i < n → rl i ≤ rc i ∧ rc i ≤ maxLen)
    (hr : RdR w w.heap.size A n ra rl rc x) (hy : RdB w w.heap.size A2 n y) (hq : IsSq n n rl) :
    Calls Try.prog 6 #[.slice A n c, .slice A2 n c2] w fun e w' => e = .returned (.bool true) ∧ Below w.heap.size w w' := by
  have HR := Lib.hid hr
  have HY := Lib.hid hy
  have HQ := Lib.hid hq
  have HRC := Lib.hid hrc
  have HXL : Hid (∀ i, i < n → ∀ j, j < n → x i j < 256) := Lib.hid fun i hi j hj => by
    obtain ⟨_, _, _, _, _, h⟩ := hr i hi
    obtain ⟨_, _, _, _, _, q⟩ := h j (by rw [hq.2.2.2 i hi]; exact hj)
    exact q
  have HYL : Hid (∀ i, i < n → y i < 256) := Lib.hid fun i hi => by obtain ⟨_, _, _, _, _, q⟩ := hy i hi; exact q
  have hn1 := hq.1
  clear hr hy hq hrc
  have t1 : (n : Int) ≤ 5 := by omega
  go_enter Try.func6, Try.ntmps6
  go_wp2_with fail
  refine (known_any _).mono ?_
  rintro e w1 ⟨rfl, hb1⟩
  have B1 := Lib.hid hb1
  clear hb1
  have hle := B1.out.size
  go_wp2_with fail
  refine (det.solve_ok A A2 n c c2 w.heap.size w.heap.size ra rl rc x y _ (HR.out.below B1.out (Nat.le_refl _)) (HY.out.below B1.out (Nat.le_refl _)) HQ.out HRC.out hle hle).mono ?_
  rintro e w2 ⟨hs2, hb2⟩
  have B2 := Lib.hid (B1.out.trans (hb2.mono hle))
  have hle2 := B2.out.size
  have S2 := Lib.hid hs2
  clear hs2 hb2
  rcases S2.out with ⟨v, hd, ho⟩ | ⟨hd⟩
  · have HD := Lib.hid hd
    have O2 := Lib.hid ho
    obtain ⟨g1, c1, rfl, hg1, hr1, hc1, hc1m⟩ := ho.row hn1
    have R2 := Lib.hid hr1
    clear S2 hd ho hr1
    go_wp2_with fail
    refine (fresh_any _).mono ?_
    rintro e w3 ⟨rfl, hf3, hb3, hs3⟩
    have F3 := Lib.hid hf3
    have B3 := Lib.hid (B2.out.trans (hb3.mono hle2))
    have R3 := Lib.hid (R2.out.below hb3 R2.out.lt)
    have hg1l := R2.out.lt
    have hle3 := B3.out.size
    generalize w2.heap.size = g at *
    clear hf3 hb3 hs3 R2 O2
    have HRS : Hid (∀ w5, Only g w3 w5 → RdR w5 w.heap.size A n ra rl rc x) := Lib.hid fun w5 ho => (HR.out.below B3.out (Nat.le_refl _)).below (ho.below hle2 hle3) (Nat.le_refl _)
    have HYS : Hid (∀ w5, Only g w3 w5 → RdB w5 w.heap.size A2 n y) := Lib.hid fun w5 ho => (HY.out.below B3.out (Nat.le_refl _)).below (ho.below hle2 hle3) (Nat.le_refl _)
    go_wp2_with fail
    refine (solve_ok g A A2 n c c2 w.heap.size w.heap.size ra rl rc x y _ hle3 hle3 HRS.out HYS.out HQ.out F3.out).mono ?_
    rintro e w4 ⟨hs4, hf4, ho4⟩
    have B4 := Lib.hid (B3.out.trans (ho4.below hle2 hle3))
    have R4 := Lib.hid (R3.out.heap (ho4.block g1 R3.out.lt (by simp; omega)))
    have S4 := Lib.hid hs4
    clear hs4 hf4 ho4 HRS HYS F3 R3
    rcases S4.out with ⟨g', X, hg', hb', hX, hsol⟩ | ⟨z, hz, hzn, hzne, hzs⟩
    · have ht := det.tell_one HXL.out HYL.out hX hsol
      have k1 := conv_rd (cap := c1) (R4.out.rdb' (fun j _ => det.solX_lt n x y j))
      have k2 := conv_rd (cap := n) ((RowG.of_blk hb' (Nat.le_refl n)).rdb' hX)
      rw [strB_congr ht.2] at k1
      generalize strB n X = tx at *
      clear S4 hg' hb' hX hsol ht R4
      go_wp2_with fail
      go_ret
      exact ⟨rfl, B4.out⟩
    · exact (HD.out (det.tell_none HXL.out hz hzn hzne hzs)).elim
  · have HD := Lib.hid hd
    clear S2 hd
    go_wp2_with fail
    refine (fresh_any _).mono ?_
    rintro e w3 ⟨rfl, hf3, hb3, hs3⟩
    have F3 := Lib.hid hf3
    have B3 := Lib.hid (B2.out.trans (hb3.mono hle2))
    have hle3 := B3.out.size
    generalize w2.heap.size = g at *
    clear hf3 hb3 hs3
    have HRS : Hid (∀ w5, Only g w3 w5 → RdR w5 w.heap.size A n ra rl rc x) := Lib.hid fun w5 ho => (HR.out.below B3.out (Nat.le_refl _)).below (ho.below hle2 hle3) (Nat.le_refl _)
    have HYS : Hid (∀ w5, Only g w3 w5 → RdB w5 w.heap.size A2 n y) := Lib.hid fun w5 ho => (HY.out.below B3.out (Nat.le_refl _)).below (ho.below hle2 hle3) (Nat.le_refl _)
    go_wp2_with fail
    refine (solve_ok g A A2 n c c2 w.heap.size w.heap.size ra rl rc x y _ hle3 hle3 HRS.out HYS.out HQ.out F3.out).mono ?_
    rintro e w4 ⟨hs4, hf4, ho4⟩
    have B4 := Lib.hid (B3.out.trans (ho4.below hle2 hle3))
    have S4 := Lib.hid hs4
    clear hs4 hf4 ho4 HRS HYS F3
    rcases S4.out with ⟨g', X, hg', hb', hX, hsol⟩ | ⟨z, hz, hzn, hzne, hzs⟩
    · exact ((det.tell_one HXL.out HYL.out hX hsol).1 HD.out).elim
    · have k1 := conv_zero w4 none 0
      clear S4 hz hzn hzne hzs
      go_wp2_with fail
      go_ret
      exact ⟨rfl, B4.out⟩

theorem walk (a0 : Option Addr) (len0 cap0 : Nat) (ra0 : Nat → Option Addr) (rl0 rc0 : Nat → Nat) (y0 : Nat → Nat → Nat) (a1 : Option Addr) (len1 cap1 : Nat) (y1 : Nat → Nat) (w : World)
    (hy0 : RdR w w.heap.size a0 len0 ra0 rl0 rc0 y0) (hl0 : len0 ≤ cap0) (hm0 : cap0 ≤ maxLen) (hc0 : ∀ i, i < len0 → rl0 i ≤ rc0 i ∧ rc0 i ≤ maxLen) (hy1 : RdB w w.heap.size a1 len1 y1) (hl1 : len1 ≤ cap1) (hm1 : cap1 ≤ maxLen) :
    Calls Try.prog 6 #[.slice a0 len0 cap0, .slice a1 len1 cap1] w fun e w' => e = .returned (.bool true) ∧ Below w.heap.size w w' := by
  by_cases h : 5 < len0 ∧ len0 ≤ 8
  · exact few a0 a1 len0 cap0 len1 cap1 w h.1 h.2
  by_cases hq : IsSq len0 len1 rl0
  · have h8 := hq.2.1
    obtain rfl := hq.2.2.1
    exact main a0 a1 len1 cap0 cap1 ra0 rl0 rc0 y0 y1 w (by omega) hc0 hy0 hy1 hq
  · exact bad a0 a1 len0 cap0 len1 cap1 ra0 rl0 rc0 y0 w (by omega) hy0 hq
end fieldSolves
end Go.Proofs.Ytejngiialodnoaa
