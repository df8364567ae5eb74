/-
  The document's own answers for parities: 'even' where it says no, 'right' without a bad column, 'DocMake', 'DocCheck', each by a contract. Conditions: what is handed in reads as rows of bytes.
-/
import Derived.Test.YtigclcnkmbokhaaParRef
namespace Go.Proofs.Ytigclcnkmbokhaa
open Go Go.RowKit
set_option maxRecDepth 100000
set_option linter.unusedVariables false

theorem slice_headR (b o n c N : Nat) (h1 : N ≤ c) (W : World) : (Instr.sliceAt 22 (.slice (some ⟨b, o, none⟩) n c) none (some (.int .i64 (N : Int))) none).run Try.prog W = .ok (.slice (some ⟨b, o, none⟩) N c) W := by
  have hu : Try.prog.underlying 22 = some (.slice (Try.prog.elem 22)) := by kernel_rfl
  have he : Try.prog.elem 22 = 34 := by kernel_rfl
  have hs : (sizeOf 34).run Try.prog W = .ok 1 W := by kernel_rfl
  rw [run_sliceAt_slice (P := Try.prog) (w := W) (h := hu), run_slice_h (P := Try.prog) (w := W) 22 (some ⟨b, o, none⟩) n c hu .i64 (N : Int) (by omega) (by omega), he, hs]
  simp [sliced, Addr.add, Result.andThen]
theorem add_int (a b : Nat) (h : a + b ≤ 9223372036854775807) (w : World) : (binOp .add 3 (.int .i64 (a : Int)) (.int .i64 (b : Int))).run Try.prog w = .ok (.int .i64 ((a + b : Nat) : Int)) w := by
  have e : IntKind.i64.wrap ((a : Int) + (b : Int)) = ((a + b : Nat) : Int) := by rw [IntKind.wrap_i64]; omega
  have h : (binOp .add 3 (.int .i64 (a : Int)) (.int .i64 (b : Int))).run Try.prog w = .ok (.int .i64 (IntKind.i64.wrap ((a : Int) + (b : Int)))) w := by kernel_rfl
  rw [h, e]
theorem neq_str (a b : ByteArray) (w : World) : (binOp .neq 9 (.string a) (.string b)).run Try.prog w = .ok (.bool (!(a.toList == b.toList))) w := by
  simp [binOp, Op.stringOp, bne]
theorem neq_str_same {n : Nat} {X Y : Nat → Nat} (h : ∀ v, v < n → X v = Y v) (w : World) : (binOp .neq 9 (.string (strB n X)) (.string (strB n Y))).run Try.prog w = .ok (.bool false) w := by
  rw [neq_str, strB_congr h, beq_self_eq_true]
  rfl
theorem neq_str_diff {m n j : Nat} {x : Nat → Nat → Nat} {Y : Nat → Nat} (h : ¬ ∀ v, v < n → M.par m j x v = Y v) (hy : ∀ v, v < n → Y v < 256) (w : World) : (binOp .neq 9 (.string (strB n (M.par m j x))) (.string (strB n Y))).run Try.prog w = .ok (.bool true) w := by
  have e : ((strB n (M.par m j x)).toList == (strB n Y).toList) = false := beq_eq_false_iff_ne.2 fun q => h (strB_inj (fun _ _ => M.par_lt _ _ _ _) hy q).2
  rw [neq_str, e]
  rfl

set_option maxHeartbeats 1600000 in
theorem even_no (k cd B : Nat) (A : Option Addr) (ra : Nat → Option Addr) (rl rc : Nat → Nat) (x : Nat → Nat → Nat) (w : World) (hr : RdR w B A k ra rl rc x) (hk0 : 0 < k) (hk : k ≤ 16) (ha : ¬ Alike k rl) :
    Calls Try.prog 20 #[.slice A k cd, .slice none 0 0] w fun e w' => e = .returned (.int .i64 (-1)) ∧ w = w' := by
  have HR := Lib.hid hr
  obtain ⟨i0, hi0, hgood, hbad⟩ : ∃ i0, 0 < i0 ∧ (∀ i, i < i0 → rl i = rl 0) ∧ ((i0 = k ∧ (rl 0 < 1 ∨ 4096 < rl 0)) ∨ (i0 < k ∧ rl i0 ≠ rl 0)) := by
    by_cases h : ∀ i, i < k → rl i = rl 0
    · refine ⟨k, hk0, h, .inl ⟨rfl, ?_⟩⟩
      by_cases h1 : rl 0 < 1
      · exact .inl h1
      · by_cases h2 : 4096 < rl 0
        · exact .inr h2
        · exact absurd ⟨by omega, by omega, h⟩ ha
    · obtain ⟨i0, a, b, c⟩ := least_p (p := fun i => rl i = rl 0) h
      refine ⟨i0, ?_, c, .inr ⟨a, b⟩⟩
      rcases Nat.eq_zero_or_pos i0 with e | e
      · exact absurd (by rw [e]) b
      · exact e
  have HG := Lib.hid hgood
  have HBAD := Lib.hid hbad
  have hik : i0 ≤ k := by rcases hbad with ⟨h, _⟩ | ⟨h, _⟩ <;> omega
  clear hr ha hgood hbad
  go_enter Try.func20, Try.ntmps20
  go_wp2_with fail
  go_loop [5, 6] (fun y t => ∃ i : Nat, i ≤ i0 ∧ t = .int .i64 i ∧ y = .int .i64 (if i = 0 then -1 else (rl 0 : Int))) (fun _ t => k - (intOf t).toNat)
  case atStart => exact ⟨0, by omega, rfl, rfl⟩
  case round =>
    obtain ⟨i, hi, rfl, rfl⟩ := hrel
    by_cases hlt : i < i0
    · have hltk : i < k := by omega
      obtain ⟨bx, ox, rfl, hbx, hcx, _⟩ := HR.out i hltk
      rw [HG.out i hlt] at hcx
      clear hbx
      by_cases hi00 : i = 0
      · subst hi00
        rw [if_pos rfl]
        rw [Nat.add_zero] at hcx
        generalize ra 0 = r1 at *
        generalize rc 0 = c1 at *
        generalize hn : rl 0 = n at *
        have HN := Lib.hid hn
        clear hn
        go_wp2_with fail
        refine (has_nil _ _).mono ?_
        rintro e w1 ⟨rfl, rfl⟩
        go_wp2_with fail
        go_round
        case rel => exact ⟨1, by omega, by go_num, rfl⟩
        case measure => simp [intOf]; omega
      · rw [if_neg hi00]
        generalize ra i = r1 at *
        generalize rc i = c1 at *
        generalize hn : rl 0 = n at *
        have HN := Lib.hid hn
        clear hn
        have h0n : (0 : Int) ≤ (n : Int) := by omega
        go_wp2_with fail
        refine (has_nil _ _).mono ?_
        rintro e w1 ⟨rfl, rfl⟩
        go_wp2_with fail
        go_round
        case rel => exact ⟨i + 1, by omega, by go_num, by rw [if_neg (by omega)]⟩
        case measure => simp [intOf]; omega
    · obtain rfl : i = i0 := by omega
      rw [if_neg (by omega)]
      rcases HBAD.out with ⟨hk2, hb⟩ | ⟨hk2, hb⟩
      · subst hk2
        generalize hn : rl 0 = n at *
        have HN := Lib.hid hn
        clear hn
        by_cases h1 : n < 1
        · have t1 : ((n : Int) < 1) = True := by simp; omega
          clear hb
          go_wp2_with fail
          go_ret
          exact ⟨rfl, rfl⟩
        · have t1 : ((n : Int) < 1) = False := by simp; omega
          have t2 : ((4096 : Int) < (n : Int)) = True := by simp; omega
          clear hb
          go_wp2_with fail
          go_ret
          exact ⟨rfl, rfl⟩
      · obtain ⟨bx, ox, rfl, hbx, hcx, _⟩ := HR.out i hk2
        have hne : (((rl i : Nat) : Int) != ((rl 0 : Nat) : Int)) = true := by rw [bne_iff_ne]; omega
        clear hbx hb
        generalize ra i = r1 at *
        generalize rc i = c1 at *
        generalize rl i = n1 at *
        generalize hn : rl 0 = n at *
        have HN := Lib.hid hn
        clear hn
        have h0n : (0 : Int) ≤ (n : Int) := by omega
        go_wp2_with fail
        refine (has_nil _ _).mono ?_
        rintro e w1 ⟨rfl, rfl⟩
        go_wp2_with fail
        go_ret
        exact ⟨rfl, rfl⟩

set_option maxHeartbeats 800000 in
theorem right_yes (k cd B : Nat) (A : Option Addr) (ra : Nat → Option Addr) (rl rc : Nat → Nat) (x : Nat → Nat → Nat) (w : World) (hr : RdR w B A k ra rl rc x) (hk : 4 ≤ k ∧ k ≤ 16) (ha : Alike k rl) :
    Calls Try.prog 24 #[.slice A k cd, .slice none 0 0] w fun e w' => e = .returned (.int .i64 0) ∧ w = w' := by
  have HA := Lib.hid ha
  have HR := Lib.hid hr
  obtain ⟨hk4, hk16⟩ := hk
  have t1 : ((k : Int) < 4) = False := by simp; omega
  have t2 : ((16 : Int) < (k : Int)) = False := by simp; omega
  clear hr ha
  go_enter Try.func24, Try.ntmps24
  go_wp2_with fail
  go_loop [5] (fun x => x = .int .i64 0) (fun _ => 0)
  case atStart => rfl
  case round =>
    obtain rfl := hrel
    go_wp2_with fail
    refine (even_yes k cd B A ra rl rc x _ HR.out (by omega) hk16 HA.out).mono ?_
    rintro e w1 ⟨rfl, rfl⟩
    have t3 : ((rl 0 : Int) < 0) = False := by simp
    go_wp2_with fail
    go_ret
    exact ⟨rfl, rfl⟩
set_option maxHeartbeats 800000 in
theorem right_no (k cd B : Nat) (A : Option Addr) (ra : Nat → Option Addr) (rl rc : Nat → Nat) (x : Nat → Nat → Nat) (w : World) (hr : RdR w B A k ra rl rc x) (hn : ¬ (4 ≤ k ∧ k ≤ 16 ∧ Alike k rl)) :
    Calls Try.prog 24 #[.slice A k cd, .slice none 0 0] w fun e w' => e = .returned (.int .i64 1) ∧ w = w' := by
  have HN := Lib.hid hn
  have HR := Lib.hid hr
  clear hr hn
  by_cases h1 : k < 4
  · have t1 : ((k : Int) < 4) = True := by simp; omega
    go_enter Try.func24, Try.ntmps24
    go_wp2_with fail
    go_ret
    exact ⟨rfl, rfl⟩
  have t1 : ((k : Int) < 4) = False := by simp; omega
  by_cases h2 : 16 < k
  · have t2 : ((16 : Int) < (k : Int)) = True := by simp; omega
    go_enter Try.func24, Try.ntmps24
    go_wp2_with fail
    go_ret
    exact ⟨rfl, rfl⟩
  have t2 : ((16 : Int) < (k : Int)) = False := by simp; omega
  go_enter Try.func24, Try.ntmps24
  go_wp2_with fail
  go_loop [5] (fun x => x = .int .i64 0) (fun _ => 0)
  case atStart => rfl
  case round =>
    obtain rfl := hrel
    go_wp2_with fail
    refine (even_no k cd B A ra rl rc x _ HR.out (by omega) (by omega) (fun h => HN.out ⟨by omega, by omega, h⟩)).mono ?_
    rintro e w1 ⟨rfl, rfl⟩
    go_wp2_with fail
    go_ret
    exact ⟨rfl, rfl⟩

set_option maxHeartbeats 1600000 in
theorem docmake_yes (k cd B : Nat) (A : Option Addr) (ra : Nat → Option Addr) (rl rc : Nat → Nat) (x : Nat → Nat → Nat) (w : World) (hr : RdR w B A k ra rl rc x) (hB : B ≤ w.heap.size) (hk0 : 0 < k) (hk : k ≤ 13) (ha : Alike k rl) :
    Calls Try.prog 13 #[.slice A k cd] w fun e w' => ∃ v, e = .returned (.tuple #[v, .int .i64 0]) ∧ IsPar w' v (rl 0) k x ∧ Below w.heap.size w w' := by
  have HA := Lib.hid ha
  have HR := Lib.hid hr
  have HBB := Lib.hid hB
  have t1 : ((k : Int) < 1) = False := by simp; omega
  have t2 : ((13 : Int) < (k : Int)) = False := by simp; omega
  have t3 : ((rl 0 : Int) < 0) = False := by simp
  clear hr ha hB
  go_enter Try.func13, Try.ntmps13
  go_wp2_with fail
  refine (even_yes k cd B A ra rl rc x _ HR.out hk0 (by omega) HA.out).mono ?_
  rintro e w1 ⟨rfl, rfl⟩
  obtain ⟨n, hn⟩ : ∃ n, n = rl 0 := ⟨_, rfl⟩
  have hn1 : 1 ≤ n := by rw [hn]; exact HA.out.1
  have hn2 : n ≤ 4096 := by rw [hn]; exact HA.out.2.1
  have HL : Hid (∀ i, i < k → rl i = n) := fun i hi => by rw [hn]; exact HA.out.2.2 i hi
  have HN := Lib.hid hn
  clear hn
  go_wp2_with fail
  refine (refpar_any n k cd B 0 A ra rl rc x _ HR.out HL.out hk0 (by omega) hn1 hn2 (by omega) HBB.out).mono ?_
  rintro e w1 ⟨rfl, hg1, hb1⟩
  have G1 := Lib.hid hg1
  have L1 := Lib.hid hb1
  have R1 := Lib.hid (HR.out.below hb1 HBB.out)
  clear hg1 hb1
  go_wp2_with fail
  refine (refpar_any n k cd B 1 A ra rl rc x _ R1.out HL.out hk0 (by omega) hn1 hn2 (by omega) (Nat.le_trans HBB.out L1.out.size)).mono ?_
  rintro e w2 ⟨rfl, hg2, hb2⟩
  have G2 := Lib.hid hg2
  have G12 := Lib.hid (G1.out.new_ hb2)
  have L2 := Lib.hid (L1.out.trans (hb2.mono L1.out.size))
  have R2 := Lib.hid (R1.out.below hb2 (Nat.le_trans HBB.out L1.out.size))
  clear hg2 hb2
  go_wp2_with fail
  refine (refpar_any n k cd B 2 A ra rl rc x _ R2.out HL.out hk0 (by omega) hn1 hn2 (by omega) (Nat.le_trans HBB.out L2.out.size)).mono ?_
  rintro e w3 ⟨rfl, hg3, hb3⟩
  have G3 := Lib.hid hg3
  have G13 := Lib.hid (G12.out.new_ hb3)
  have G23 := Lib.hid (G2.out.new_ hb3)
  have L3 := Lib.hid (L2.out.trans (hb3.mono L2.out.size))
  clear hg3 hb3
  go_wp2_with fail
  go_ret2
  refine ⟨_, rfl, ⟨w3.heap.size, fun i => if i = 0 then w.heap.size else if i = 1 then w1.heap.size else w2.heap.size, rfl, ?_⟩, L3.out.alloc L3.out.size _⟩
  rw [← HN.out]
  have BB : Below w3.heap.size w3 (w3.alloc (.cells #[.slice (some ⟨w.heap.size, 0, none⟩) n n, .slice (some ⟨w1.heap.size, 0, none⟩) n n, .slice (some ⟨w2.heap.size, 0, none⟩) n n] 34)) := (Below.refl _ _).alloc (Nat.le_refl _) _
  intro i hi
  refine ⟨w3.heap.size, 0, rfl, by simp, ?_, ?_⟩
  · rw [Nat.zero_add, (Blk.new w3 _ _).cell]
    match i, hi with
    | 0, _ => rfl
    | 1, _ => rfl
    | 2, _ => rfl
  · match i, hi with
    | 0, _ => exact (G13.out.new_ BB).rdb (fun _ _ => M.par_lt _ _ _ _) (G13.out.new_ BB).lt
    | 1, _ => exact (G23.out.new_ BB).rdb (fun _ _ => M.par_lt _ _ _ _) (G23.out.new_ BB).lt
    | 2, _ => exact (G3.out.new_ BB).rdb (fun _ _ => M.par_lt _ _ _ _) (G3.out.new_ BB).lt
set_option maxHeartbeats 800000 in
theorem docmake_no (k cd B : Nat) (A : Option Addr) (ra : Nat → Option Addr) (rl rc : Nat → Nat) (x : Nat → Nat → Nat) (w : World) (hr : RdR w B A k ra rl rc x) (hn : ¬ (0 < k ∧ k ≤ 13 ∧ Alike k rl)) :
    Calls Try.prog 13 #[.slice A k cd] w fun e w' => e = .returned (.tuple #[.slice none 0 0, .int .i64 1]) ∧ w = w' := by
  have HR := Lib.hid hr
  have HN := Lib.hid hn
  clear hr hn
  by_cases h1 : k < 1
  · have t1 : ((k : Int) < 1) = True := by simp; omega
    go_enter Try.func13, Try.ntmps13
    go_wp2_with fail
    go_ret2
    exact ⟨rfl, rfl⟩
  have t1 : ((k : Int) < 1) = False := by simp; omega
  by_cases h2 : 13 < k
  · have t2 : ((13 : Int) < (k : Int)) = True := by simp; omega
    go_enter Try.func13, Try.ntmps13
    go_wp2_with fail
    go_ret2
    exact ⟨rfl, rfl⟩
  have t2 : ((13 : Int) < (k : Int)) = False := by simp; omega
  go_enter Try.func13, Try.ntmps13
  go_wp2_with fail
  refine (even_no k cd B A ra rl rc x _ HR.out (by omega) (by omega) (fun h => HN.out ⟨by omega, by omega, h⟩)).mono ?_
  rintro e w1 ⟨rfl, rfl⟩
  go_wp2_with fail
  go_ret2
  exact ⟨rfl, rfl⟩

set_option maxHeartbeats 400000 in
theorem doccheck_bad (k cd B : Nat) (A : Option Addr) (ra : Nat → Option Addr) (rl rc : Nat → Nat) (x : Nat → Nat → Nat) (w : World) (hr : RdR w B A k ra rl rc x) (hn : ¬ (4 ≤ k ∧ k ≤ 16 ∧ Alike k rl)) :
    Calls Try.prog 15 #[.slice A k cd] w fun e w' => e = .returned (.tuple #[.bool false, .int .i64 1]) ∧ w = w' := by
  have HR := Lib.hid hr
  have HN := Lib.hid hn
  clear hr hn
  go_enter Try.func15, Try.ntmps15
  go_wp2_with fail
  refine (right_no k cd B A ra rl rc x _ HR.out HN.out).mono ?_
  rintro e w1 ⟨rfl, rfl⟩
  go_wp2_with fail
  go_ret2
  exact ⟨rfl, rfl⟩

set_option maxHeartbeats 1600000 in
theorem doccheck_yes (m cd B : Nat) (A : Option Addr) (ra : Nat → Option Addr) (rl rc : Nat → Nat) (x : Nat → Nat → Nat) (w : World) (hr : RdR w B A (m + 3) ra rl rc x) (hB : B ≤ w.heap.size) (hm0 : 0 < m) (hk : m + 3 ≤ 16) (hcd : m + 3 ≤ cd) (ha : Alike (m + 3) rl) (ht : ∀ j, j < 3 → Tells m (rl 0) x j) :
    Calls Try.prog 15 #[.slice A (m + 3) cd] w fun e w' => e = .returned (.tuple #[.bool true, .int .i64 0]) ∧ Below w.heap.size w w' := by
  have HA := Lib.hid ha
  have HR := Lib.hid hr
  have HBB := Lib.hid hB
  obtain ⟨b0, o0, rfl, _⟩ := hr 0 (by omega)
  have e1 : IntKind.i64.wrap (((m + 3 : Nat) : Int) - 3) = (m : Int) := by rw [IntKind.wrap_i64]; omega
  have HT := Lib.hid ht
  clear ht
  clear hr ha hB
  go_enter Try.func15, Try.ntmps15
  go_wp2_with fail
  refine (right_yes (m + 3) cd B _ ra rl rc x _ HR.out (by omega) HA.out).mono ?_
  rintro e w1 ⟨rfl, rfl⟩
  go_wp2_with fail
  clear e1
  go_loopw [6] (fun t wr => ∃ j : Nat, t = .int .i64 j ∧ j ≤ 3 ∧ Hid (Below w.heap.size w wr)) (fun t _ => 3 - (intOf t).toNat)
  case atStart => exact ⟨0, rfl, by omega, Lib.hid (Below.refl _ _)⟩
  case round =>
    obtain ⟨j, rfl, hj, L1⟩ := hrel
    have s1 := L1.out.size
    by_cases hlt : j < 3
    · have hj3 : j < 3 := by omega
      have XW := Lib.hid (HR.out.below L1.out HBB.out)
      obtain ⟨_, hcj, hxj⟩ := XW.out.head (i := m + j) (by omega)
      rw [HA.out.2.2 (m + j) (by omega)] at hcj hxj
      have HTJ : Hid (∀ v, v < rl 0 → M.par m j x v = x (m + j) v) := HT.out j hj3
      obtain ⟨n, hn⟩ : ∃ n, n = rl 0 := ⟨_, rfl⟩
      have hn1 : 1 ≤ n := by rw [hn]; exact HA.out.1
      have hn2 : n ≤ 4096 := by rw [hn]; exact HA.out.2.1
      have HL : Hid (∀ i, i < m → rl i = n) := fun i hi => by rw [hn]; exact HA.out.2.2 i (by omega)
      rw [← hn] at hcj hxj HTJ
      have HX : Hid (RdR wr.drew B (some ⟨b0, o0, none⟩) m ra rl rc x) := fun i hi => XW.out i (by omega)
      have HBW : Hid (B ≤ wr.drew.heap.size) := Nat.le_trans HBB.out s1
      obtain ⟨r1, hr1⟩ : ∃ r1, r1 = ra (m + j) := ⟨_, rfl⟩
      obtain ⟨ci, hci⟩ : ∃ ci, ci = rc (m + j) := ⟨_, rfl⟩
      rw [← hr1, ← hci] at hcj
      rw [← hr1] at hxj
      have hb0 : b0 < wr.heap.size := by obtain ⟨q, _, _⟩ := XW.out.head (i := 0) (by omega); have := HBB.out; omega
      have HST : Hid (∀ W : World, Below wr.drew.heap.size wr.drew W → W.cell? ⟨b0, o0 + (m + j), none⟩ = some (.slice r1 n ci) ∧ (convert 34 9 (.slice r1 n ci)).run Try.prog W = .ok (.string (strB n (x (m + j)))) W) := fun W hW =>
        ⟨(hW.cell (p := ⟨b0, o0 + (m + j), none⟩) hb0).trans hcj, conv_rd (cap := ci) ((show RdB wr.drew B r1 n (x (m + j)) from hxj).below hW HBW.out)⟩
      have HS : Hid (wr.drew.cell? ⟨b0, o0 + (m + j), none⟩ = some (.slice r1 n ci) ∧ (convert 34 9 (.slice r1 n ci)).run Try.prog wr.drew = .ok (.string (strB n (x (m + j)))) wr.drew) := HST.out _ (Below.refl _ _)
      clear hn hcj hxj hr1 hci XW
      go_wp2_with fail
      refine region_anyZ (fun W : World => W.cell? ⟨b0, o0 + (m + j), none⟩ = some (.slice r1 n ci) ∧ (convert 34 9 (.slice r1 n ci)).run Try.prog W = .ok (.string (strB n (x (m + j)))) W) 14 (by kernel_rfl) ?_
      refine takeG 0 (.move (.tmp 0)) (some 19) none (.slice (some ⟨b0, o0, none⟩) (m + 3) cd) (by kernel_rfl) (by kernel_rfl) (by kernel_rfl) (fun _ _ _ h => h) (fun o w e hS => exec_move w e (by kernel_rfl)) HS.out ?_
      refine takeG 1 (.move (.tmp 5)) (some 20) none (.int .i64 (m : Int)) (by kernel_rfl) (by kernel_rfl) (by kernel_rfl) (fun _ _ _ h => h) (fun o w e hS => exec_move w e (by kernel_rfl)) HS.out ?_
      refine takeG 2 (.slice 22 (.tmp 19) .none (.some (.tmp 20)) .none) (some 21) none (.slice (some ⟨b0, o0, none⟩) m cd) (by kernel_rfl) (by kernel_rfl) (by kernel_rfl) (fun _ _ _ h => h) (fun o w e hS => exec_slice (u := .slice (some ⟨b0, o0, none⟩) (m + 3) cd) w e (by kernel_rfl) (by kernel_rfl) (by kernel_rfl) (by kernel_rfl) (slice_headR b0 o0 (m + 3) cd m (by omega) _)) HS.out ?_
      refine takeG 3 (.move (.tmp 6)) (some 22) none (.int .i64 (j : Int)) (by kernel_rfl) (by kernel_rfl) (by kernel_rfl) (fun _ _ _ h => h) (fun o w e hS => exec_move w e (by kernel_rfl)) HS.out ?_
      refine takeG 6 (.move (.tmp 0)) (some 25) none (.slice (some ⟨b0, o0, none⟩) (m + 3) cd) (by kernel_rfl) (by kernel_rfl) (by kernel_rfl) (fun _ _ _ h => h) (fun o w e hS => exec_move w e (by kernel_rfl)) HS.out ?_
      refine takeG 7 (.move (.tmp 5)) (some 26) none (.int .i64 (m : Int)) (by kernel_rfl) (by kernel_rfl) (by kernel_rfl) (fun _ _ _ h => h) (fun o w e hS => exec_move w e (by kernel_rfl)) HS.out ?_
      refine takeG 8 (.move (.tmp 6)) (some 27) none (.int .i64 (j : Int)) (by kernel_rfl) (by kernel_rfl) (by kernel_rfl) (fun _ _ _ h => h) (fun o w e hS => exec_move w e (by kernel_rfl)) HS.out ?_
      refine takeG 9 (.binOp .add 3 (.tmp 26) (.tmp 27) 3) (some 28) none (.int .i64 ((m + j : Nat) : Int)) (by kernel_rfl) (by kernel_rfl) (by kernel_rfl) (fun _ _ _ h => h) (fun o w e hS => exec_bin (u1 := .int .i64 (m : Int)) (u2 := .int .i64 (j : Int)) w e (by kernel_rfl) (by kernel_rfl) (eqG_int ..) (add_int m j (by omega) _)) HS.out ?_
      refine takeG 10 (.indexAddr 22 (.tmp 25) (.tmp 28)) (some 29) none (.pointer (some ⟨b0, o0 + (m + j), none⟩)) (by kernel_rfl) (by kernel_rfl) (by kernel_rfl) (fun _ _ _ h => h) (fun o w e hS => exec_index (u1 := .slice (some ⟨b0, o0, none⟩) (m + 3) cd) (u2 := .int .i64 ((m + j : Nat) : Int)) w e (by kernel_rfl) (by kernel_rfl) (index_rows b0 o0 (m + 3) cd (m + j) (by omega) _)) HS.out ?_
      refine takeG 11 (.load 34 (.tmp 29)) (some 30) none (.slice r1 n ci) (by kernel_rfl) (by kernel_rfl) (by kernel_rfl) (fun _ _ _ h => h) (fun o w e hS => exec_load (x := (.tmp 29)) e (by kernel_rfl) (load_one Try.underlying34 (by kernel_rfl) hS.1)) HS.out ?_
      refine takeG 12 (.convert 34 9 (.tmp 30)) (some 31) none (.string (strB n (x (m + j)))) (by kernel_rfl) (by kernel_rfl) (by kernel_rfl) (fun _ _ _ h => h) (fun o w e hS => exec_conv (u := .slice r1 n ci) w e (by kernel_rfl) hS.2) HS.out ?_
      refine loneG 4 (.call ⟨.value (.func 21), #[(.tmp 21), (.tmp 22)], #[22, 3]⟩) (some 23) none (by kernel_rfl) (by kernel_rfl) (by kernel_rfl) ?_
      intro o ho hod
      refine wp_callC (f := 21) (args := #[.slice (some ⟨b0, o0, none⟩) m cd, .int .i64 (j : Int)]) (by cases o; cases ho; kernel_rfl) (refpar_any n m cd B j _ ra rl rc x _ HX.out HL.out hm0 (by omega) hn1 hn2 hj3 HBW.out) ?_
      rintro e w2 ⟨rfl, hg2, hb2⟩
      refine ⟨.slice (some ⟨wr.heap.size, 0, none⟩) n n, rfl, ?_⟩
      rw [hod]
      clear hod ho
      have G2 := Lib.hid hg2
      have L2 := Lib.hid hb2
      have HS2 := Lib.hid (HST.out w2 hb2)
      clear hg2 hb2
      refine ⟨fun _ => HS2.out, ?_⟩
      refine loneG 5 (.convert 34 9 (.tmp 23)) (some 24) none (by kernel_rfl) (by kernel_rfl) (by kernel_rfl) ?_
      intro o ho hod
      refine wp_val (v := .string (strB n (M.par m j x))) (exec_conv (u := .slice (some ⟨wr.heap.size, 0, none⟩) n n) _ ho (by kernel_rfl) (G2.out.conv (fun _ _ => M.par_lt _ _ _ _) n)) ?_
      rw [hod]
      clear hod ho
      refine ⟨fun _ => HS2.out, ?_⟩
      refine lastS 13 (.binOp .neq 9 (.tmp 24) (.tmp 31) 9) (some 32) (.bool false) (by kernel_rfl) (by kernel_rfl) (by kernel_rfl) HS2.out (fun o e => exec_bin (u1 := .string (strB n (M.par m j x))) (u2 := .string (strB n (x (m + j)))) _ e (by kernel_rfl) (by kernel_rfl) (eqG_str ..) (neq_str_same HTJ.out _)) ?_
      have L3 := Lib.hid ((below_drew L1.out).trans (L2.out.mono s1))
      clear HS HS2 HST G2 L2 L1 HX HBW HTJ
      simp only [put_some, put_none, List.setIfInBounds_toArray, List.set_cons_succ, List.set_cons_zero]
      go_wp2_with fail
      go_roundw
      case rel => exact ⟨j + 1, by go_num, by omega, L3⟩
      case measure => simp [intOf]; omega
    · go_wp2_with fail
      go_ret2
      exact ⟨rfl, L1.out⟩

set_option maxHeartbeats 1600000 in
theorem doccheck_no (m cd B : Nat) (A : Option Addr) (ra : Nat → Option Addr) (rl rc : Nat → Nat) (x : Nat → Nat → Nat) (w : World) (hr : RdR w B A (m + 3) ra rl rc x) (hB : B ≤ w.heap.size) (hm0 : 0 < m) (hk : m + 3 ≤ 16) (hcd : m + 3 ≤ cd) (ha : Alike (m + 3) rl) (ht : ¬ ∀ j, j < 3 → Tells m (rl 0) x j) :
    Calls Try.prog 15 #[.slice A (m + 3) cd] w fun e w' => e = .returned (.tuple #[.bool false, .int .i64 0]) ∧ Below w.heap.size w w' := by
  have HA := Lib.hid ha
  have HR := Lib.hid hr
  have HBB := Lib.hid hB
  obtain ⟨b0, o0, rfl, _⟩ := hr 0 (by omega)
  have e1 : IntKind.i64.wrap (((m + 3 : Nat) : Int) - 3) = (m : Int) := by rw [IntKind.wrap_i64]; omega
  obtain ⟨j0, hj0, hbad, hgood⟩ := least_p (p := fun j => Tells m (rl 0) x j) ht
  have HG := Lib.hid hgood
  have HBAD := Lib.hid hbad
  clear ht hgood hbad
  clear hr ha hB
  go_enter Try.func15, Try.ntmps15
  go_wp2_with fail
  refine (right_yes (m + 3) cd B _ ra rl rc x _ HR.out (by omega) HA.out).mono ?_
  rintro e w1 ⟨rfl, rfl⟩
  go_wp2_with fail
  clear e1
  go_loopw [6] (fun t wr => ∃ j : Nat, t = .int .i64 j ∧ j ≤ j0 ∧ Hid (Below w.heap.size w wr)) (fun t _ => 3 - (intOf t).toNat)
  case atStart => exact ⟨0, rfl, by omega, Lib.hid (Below.refl _ _)⟩
  case round =>
    obtain ⟨j, rfl, hj, L1⟩ := hrel
    have s1 := L1.out.size
    by_cases hlt : j < j0
    · have hj3 : j < 3 := by omega
      have XW := Lib.hid (HR.out.below L1.out HBB.out)
      obtain ⟨_, hcj, hxj⟩ := XW.out.head (i := m + j) (by omega)
      rw [HA.out.2.2 (m + j) (by omega)] at hcj hxj
      have HTJ : Hid (∀ v, v < rl 0 → M.par m j x v = x (m + j) v) := HG.out j hlt
      obtain ⟨n, hn⟩ : ∃ n, n = rl 0 := ⟨_, rfl⟩
      have hn1 : 1 ≤ n := by rw [hn]; exact HA.out.1
      have hn2 : n ≤ 4096 := by rw [hn]; exact HA.out.2.1
      have HL : Hid (∀ i, i < m → rl i = n) := fun i hi => by rw [hn]; exact HA.out.2.2 i (by omega)
      rw [← hn] at hcj hxj HTJ
      have HX : Hid (RdR wr.drew B (some ⟨b0, o0, none⟩) m ra rl rc x) := fun i hi => XW.out i (by omega)
      have HBW : Hid (B ≤ wr.drew.heap.size) := Nat.le_trans HBB.out s1
      obtain ⟨r1, hr1⟩ : ∃ r1, r1 = ra (m + j) := ⟨_, rfl⟩
      obtain ⟨ci, hci⟩ : ∃ ci, ci = rc (m + j) := ⟨_, rfl⟩
      rw [← hr1, ← hci] at hcj
      rw [← hr1] at hxj
      have hb0 : b0 < wr.heap.size := by obtain ⟨q, _, _⟩ := XW.out.head (i := 0) (by omega); have := HBB.out; omega
      have HST : Hid (∀ W : World, Below wr.drew.heap.size wr.drew W → W.cell? ⟨b0, o0 + (m + j), none⟩ = some (.slice r1 n ci) ∧ (convert 34 9 (.slice r1 n ci)).run Try.prog W = .ok (.string (strB n (x (m + j)))) W) := fun W hW =>
        ⟨(hW.cell (p := ⟨b0, o0 + (m + j), none⟩) hb0).trans hcj, conv_rd (cap := ci) ((show RdB wr.drew B r1 n (x (m + j)) from hxj).below hW HBW.out)⟩
      have HS : Hid (wr.drew.cell? ⟨b0, o0 + (m + j), none⟩ = some (.slice r1 n ci) ∧ (convert 34 9 (.slice r1 n ci)).run Try.prog wr.drew = .ok (.string (strB n (x (m + j)))) wr.drew) := HST.out _ (Below.refl _ _)
      clear hn hcj hxj hr1 hci XW
      go_wp2_with fail
      refine region_anyZ (fun W : World => W.cell? ⟨b0, o0 + (m + j), none⟩ = some (.slice r1 n ci) ∧ (convert 34 9 (.slice r1 n ci)).run Try.prog W = .ok (.string (strB n (x (m + j)))) W) 14 (by kernel_rfl) ?_
      refine takeG 0 (.move (.tmp 0)) (some 19) none (.slice (some ⟨b0, o0, none⟩) (m + 3) cd) (by kernel_rfl) (by kernel_rfl) (by kernel_rfl) (fun _ _ _ h => h) (fun o w e hS => exec_move w e (by kernel_rfl)) HS.out ?_
      refine takeG 1 (.move (.tmp 5)) (some 20) none (.int .i64 (m : Int)) (by kernel_rfl) (by kernel_rfl) (by kernel_rfl) (fun _ _ _ h => h) (fun o w e hS => exec_move w e (by kernel_rfl)) HS.out ?_
      refine takeG 2 (.slice 22 (.tmp 19) .none (.some (.tmp 20)) .none) (some 21) none (.slice (some ⟨b0, o0, none⟩) m cd) (by kernel_rfl) (by kernel_rfl) (by kernel_rfl) (fun _ _ _ h => h) (fun o w e hS => exec_slice (u := .slice (some ⟨b0, o0, none⟩) (m + 3) cd) w e (by kernel_rfl) (by kernel_rfl) (by kernel_rfl) (by kernel_rfl) (slice_headR b0 o0 (m + 3) cd m (by omega) _)) HS.out ?_
      refine takeG 3 (.move (.tmp 6)) (some 22) none (.int .i64 (j : Int)) (by kernel_rfl) (by kernel_rfl) (by kernel_rfl) (fun _ _ _ h => h) (fun o w e hS => exec_move w e (by kernel_rfl)) HS.out ?_
      refine takeG 6 (.move (.tmp 0)) (some 25) none (.slice (some ⟨b0, o0, none⟩) (m + 3) cd) (by kernel_rfl) (by kernel_rfl) (by kernel_rfl) (fun _ _ _ h => h) (fun o w e hS => exec_move w e (by kernel_rfl)) HS.out ?_
      refine takeG 7 (.move (.tmp 5)) (some 26) none (.int .i64 (m : Int)) (by kernel_rfl) (by kernel_rfl) (by kernel_rfl) (fun _ _ _ h => h) (fun o w e hS => exec_move w e (by kernel_rfl)) HS.out ?_
      refine takeG 8 (.move (.tmp 6)) (some 27) none (.int .i64 (j : Int)) (by kernel_rfl) (by kernel_rfl) (by kernel_rfl) (fun _ _ _ h => h) (fun o w e hS => exec_move w e (by kernel_rfl)) HS.out ?_
      refine takeG 9 (.binOp .add 3 (.tmp 26) (.tmp 27) 3) (some 28) none (.int .i64 ((m + j : Nat) : Int)) (by kernel_rfl) (by kernel_rfl) (by kernel_rfl) (fun _ _ _ h => h) (fun o w e hS => exec_bin (u1 := .int .i64 (m : Int)) (u2 := .int .i64 (j : Int)) w e (by kernel_rfl) (by kernel_rfl) (eqG_int ..) (add_int m j (by omega) _)) HS.out ?_
      refine takeG 10 (.indexAddr 22 (.tmp 25) (.tmp 28)) (some 29) none (.pointer (some ⟨b0, o0 + (m + j), none⟩)) (by kernel_rfl) (by kernel_rfl) (by kernel_rfl) (fun _ _ _ h => h) (fun o w e hS => exec_index (u1 := .slice (some ⟨b0, o0, none⟩) (m + 3) cd) (u2 := .int .i64 ((m + j : Nat) : Int)) w e (by kernel_rfl) (by kernel_rfl) (index_rows b0 o0 (m + 3) cd (m + j) (by omega) _)) HS.out ?_
      refine takeG 11 (.load 34 (.tmp 29)) (some 30) none (.slice r1 n ci) (by kernel_rfl) (by kernel_rfl) (by kernel_rfl) (fun _ _ _ h => h) (fun o w e hS => exec_load (x := (.tmp 29)) e (by kernel_rfl) (load_one Try.underlying34 (by kernel_rfl) hS.1)) HS.out ?_
      refine takeG 12 (.convert 34 9 (.tmp 30)) (some 31) none (.string (strB n (x (m + j)))) (by kernel_rfl) (by kernel_rfl) (by kernel_rfl) (fun _ _ _ h => h) (fun o w e hS => exec_conv (u := .slice r1 n ci) w e (by kernel_rfl) hS.2) HS.out ?_
      refine loneG 4 (.call ⟨.value (.func 21), #[(.tmp 21), (.tmp 22)], #[22, 3]⟩) (some 23) none (by kernel_rfl) (by kernel_rfl) (by kernel_rfl) ?_
      intro o ho hod
      refine wp_callC (f := 21) (args := #[.slice (some ⟨b0, o0, none⟩) m cd, .int .i64 (j : Int)]) (by cases o; cases ho; kernel_rfl) (refpar_any n m cd B j _ ra rl rc x _ HX.out HL.out hm0 (by omega) hn1 hn2 hj3 HBW.out) ?_
      rintro e w2 ⟨rfl, hg2, hb2⟩
      refine ⟨.slice (some ⟨wr.heap.size, 0, none⟩) n n, rfl, ?_⟩
      rw [hod]
      clear hod ho
      have G2 := Lib.hid hg2
      have L2 := Lib.hid hb2
      have HS2 := Lib.hid (HST.out w2 hb2)
      clear hg2 hb2
      refine ⟨fun _ => HS2.out, ?_⟩
      refine loneG 5 (.convert 34 9 (.tmp 23)) (some 24) none (by kernel_rfl) (by kernel_rfl) (by kernel_rfl) ?_
      intro o ho hod
      refine wp_val (v := .string (strB n (M.par m j x))) (exec_conv (u := .slice (some ⟨wr.heap.size, 0, none⟩) n n) _ ho (by kernel_rfl) (G2.out.conv (fun _ _ => M.par_lt _ _ _ _) n)) ?_
      rw [hod]
      clear hod ho
      refine ⟨fun _ => HS2.out, ?_⟩
      refine lastS 13 (.binOp .neq 9 (.tmp 24) (.tmp 31) 9) (some 32) (.bool false) (by kernel_rfl) (by kernel_rfl) (by kernel_rfl) HS2.out (fun o e => exec_bin (u1 := .string (strB n (M.par m j x))) (u2 := .string (strB n (x (m + j)))) _ e (by kernel_rfl) (by kernel_rfl) (eqG_str ..) (neq_str_same HTJ.out _)) ?_
      have L3 := Lib.hid ((below_drew L1.out).trans (L2.out.mono s1))
      clear HS HS2 HST G2 L2 L1 HX HBW HTJ
      simp only [put_some, put_none, List.setIfInBounds_toArray, List.set_cons_succ, List.set_cons_zero]
      go_wp2_with fail
      go_roundw
      case rel => exact ⟨j + 1, by go_num, by omega, L3⟩
      case measure => simp [intOf]; omega
    · obtain rfl : j = j0 := by omega
      have hj3 : j < 3 := by omega
      have XW := Lib.hid (HR.out.below L1.out HBB.out)
      obtain ⟨_, hcj, hxj⟩ := XW.out.head (i := m + j) (by omega)
      rw [HA.out.2.2 (m + j) (by omega)] at hcj hxj
      have HTJ : Hid (¬ ∀ v, v < rl 0 → M.par m j x v = x (m + j) v) := HBAD.out
      have HXL : Hid (∀ v, v < rl 0 → x (m + j) v < 256) := fun v hv => by obtain ⟨_, _, _, _, _, q⟩ := hxj v hv; exact q
      obtain ⟨n, hn⟩ : ∃ n, n = rl 0 := ⟨_, rfl⟩
      have hn1 : 1 ≤ n := by rw [hn]; exact HA.out.1
      have hn2 : n ≤ 4096 := by rw [hn]; exact HA.out.2.1
      have HL : Hid (∀ i, i < m → rl i = n) := fun i hi => by rw [hn]; exact HA.out.2.2 i (by omega)
      rw [← hn] at hcj hxj HTJ HXL
      have HX : Hid (RdR wr.drew B (some ⟨b0, o0, none⟩) m ra rl rc x) := fun i hi => XW.out i (by omega)
      have HBW : Hid (B ≤ wr.drew.heap.size) := Nat.le_trans HBB.out s1
      obtain ⟨r1, hr1⟩ : ∃ r1, r1 = ra (m + j) := ⟨_, rfl⟩
      obtain ⟨ci, hci⟩ : ∃ ci, ci = rc (m + j) := ⟨_, rfl⟩
      rw [← hr1, ← hci] at hcj
      rw [← hr1] at hxj
      have hb0 : b0 < wr.heap.size := by obtain ⟨q, _, _⟩ := XW.out.head (i := 0) (by omega); have := HBB.out; omega
      have HST : Hid (∀ W : World, Below wr.drew.heap.size wr.drew W → W.cell? ⟨b0, o0 + (m + j), none⟩ = some (.slice r1 n ci) ∧ (convert 34 9 (.slice r1 n ci)).run Try.prog W = .ok (.string (strB n (x (m + j)))) W) := fun W hW =>
        ⟨(hW.cell (p := ⟨b0, o0 + (m + j), none⟩) hb0).trans hcj, conv_rd (cap := ci) ((show RdB wr.drew B r1 n (x (m + j)) from hxj).below hW HBW.out)⟩
      have HS : Hid (wr.drew.cell? ⟨b0, o0 + (m + j), none⟩ = some (.slice r1 n ci) ∧ (convert 34 9 (.slice r1 n ci)).run Try.prog wr.drew = .ok (.string (strB n (x (m + j)))) wr.drew) := HST.out _ (Below.refl _ _)
      clear hn hcj hxj hr1 hci XW
      go_wp2_with fail
      refine region_anyZ (fun W : World => W.cell? ⟨b0, o0 + (m + j), none⟩ = some (.slice r1 n ci) ∧ (convert 34 9 (.slice r1 n ci)).run Try.prog W = .ok (.string (strB n (x (m + j)))) W) 14 (by kernel_rfl) ?_
      refine takeG 0 (.move (.tmp 0)) (some 19) none (.slice (some ⟨b0, o0, none⟩) (m + 3) cd) (by kernel_rfl) (by kernel_rfl) (by kernel_rfl) (fun _ _ _ h => h) (fun o w e hS => exec_move w e (by kernel_rfl)) HS.out ?_
      refine takeG 1 (.move (.tmp 5)) (some 20) none (.int .i64 (m : Int)) (by kernel_rfl) (by kernel_rfl) (by kernel_rfl) (fun _ _ _ h => h) (fun o w e hS => exec_move w e (by kernel_rfl)) HS.out ?_
      refine takeG 2 (.slice 22 (.tmp 19) .none (.some (.tmp 20)) .none) (some 21) none (.slice (some ⟨b0, o0, none⟩) m cd) (by kernel_rfl) (by kernel_rfl) (by kernel_rfl) (fun _ _ _ h => h) (fun o w e hS => exec_slice (u := .slice (some ⟨b0, o0, none⟩) (m + 3) cd) w e (by kernel_rfl) (by kernel_rfl) (by kernel_rfl) (by kernel_rfl) (slice_headR b0 o0 (m + 3) cd m (by omega) _)) HS.out ?_
      refine takeG 3 (.move (.tmp 6)) (some 22) none (.int .i64 (j : Int)) (by kernel_rfl) (by kernel_rfl) (by kernel_rfl) (fun _ _ _ h => h) (fun o w e hS => exec_move w e (by kernel_rfl)) HS.out ?_
      refine takeG 6 (.move (.tmp 0)) (some 25) none (.slice (some ⟨b0, o0, none⟩) (m + 3) cd) (by kernel_rfl) (by kernel_rfl) (by kernel_rfl) (fun _ _ _ h => h) (fun o w e hS => exec_move w e (by kernel_rfl)) HS.out ?_
      refine takeG 7 (.move (.tmp 5)) (some 26) none (.int .i64 (m : Int)) (by kernel_rfl) (by kernel_rfl) (by kernel_rfl) (fun _ _ _ h => h) (fun o w e hS => exec_move w e (by kernel_rfl)) HS.out ?_
      refine takeG 8 (.move (.tmp 6)) (some 27) none (.int .i64 (j : Int)) (by kernel_rfl) (by kernel_rfl) (by kernel_rfl) (fun _ _ _ h => h) (fun o w e hS => exec_move w e (by kernel_rfl)) HS.out ?_
      refine takeG 9 (.binOp .add 3 (.tmp 26) (.tmp 27) 3) (some 28) none (.int .i64 ((m + j : Nat) : Int)) (by kernel_rfl) (by kernel_rfl) (by kernel_rfl) (fun _ _ _ h => h) (fun o w e hS => exec_bin (u1 := .int .i64 (m : Int)) (u2 := .int .i64 (j : Int)) w e (by kernel_rfl) (by kernel_rfl) (eqG_int ..) (add_int m j (by omega) _)) HS.out ?_
      refine takeG 10 (.indexAddr 22 (.tmp 25) (.tmp 28)) (some 29) none (.pointer (some ⟨b0, o0 + (m + j), none⟩)) (by kernel_rfl) (by kernel_rfl) (by kernel_rfl) (fun _ _ _ h => h) (fun o w e hS => exec_index (u1 := .slice (some ⟨b0, o0, none⟩) (m + 3) cd) (u2 := .int .i64 ((m + j : Nat) : Int)) w e (by kernel_rfl) (by kernel_rfl) (index_rows b0 o0 (m + 3) cd (m + j) (by omega) _)) HS.out ?_
      refine takeG 11 (.load 34 (.tmp 29)) (some 30) none (.slice r1 n ci) (by kernel_rfl) (by kernel_rfl) (by kernel_rfl) (fun _ _ _ h => h) (fun o w e hS => exec_load (x := (.tmp 29)) e (by kernel_rfl) (load_one Try.underlying34 (by kernel_rfl) hS.1)) HS.out ?_
      refine takeG 12 (.convert 34 9 (.tmp 30)) (some 31) none (.string (strB n (x (m + j)))) (by kernel_rfl) (by kernel_rfl) (by kernel_rfl) (fun _ _ _ h => h) (fun o w e hS => exec_conv (u := .slice r1 n ci) w e (by kernel_rfl) hS.2) HS.out ?_
      refine loneG 4 (.call ⟨.value (.func 21), #[(.tmp 21), (.tmp 22)], #[22, 3]⟩) (some 23) none (by kernel_rfl) (by kernel_rfl) (by kernel_rfl) ?_
      intro o ho hod
      refine wp_callC (f := 21) (args := #[.slice (some ⟨b0, o0, none⟩) m cd, .int .i64 (j : Int)]) (by cases o; cases ho; kernel_rfl) (refpar_any n m cd B j _ ra rl rc x _ HX.out HL.out hm0 (by omega) hn1 hn2 hj3 HBW.out) ?_
      rintro e w2 ⟨rfl, hg2, hb2⟩
      refine ⟨.slice (some ⟨wr.heap.size, 0, none⟩) n n, rfl, ?_⟩
      rw [hod]
      clear hod ho
      have G2 := Lib.hid hg2
      have L2 := Lib.hid hb2
      have HS2 := Lib.hid (HST.out w2 hb2)
      clear hg2 hb2
      refine ⟨fun _ => HS2.out, ?_⟩
      refine loneG 5 (.convert 34 9 (.tmp 23)) (some 24) none (by kernel_rfl) (by kernel_rfl) (by kernel_rfl) ?_
      intro o ho hod
      refine wp_val (v := .string (strB n (M.par m j x))) (exec_conv (u := .slice (some ⟨wr.heap.size, 0, none⟩) n n) _ ho (by kernel_rfl) (G2.out.conv (fun _ _ => M.par_lt _ _ _ _) n)) ?_
      rw [hod]
      clear hod ho
      refine ⟨fun _ => HS2.out, ?_⟩
      refine lastS 13 (.binOp .neq 9 (.tmp 24) (.tmp 31) 9) (some 32) (.bool true) (by kernel_rfl) (by kernel_rfl) (by kernel_rfl) HS2.out (fun o e => exec_bin (u1 := .string (strB n (M.par m j x))) (u2 := .string (strB n (x (m + j)))) _ e (by kernel_rfl) (by kernel_rfl) (eqG_str ..) (neq_str_diff HTJ.out HXL.out _)) ?_
      have L3 := Lib.hid ((below_drew L1.out).trans (L2.out.mono s1))
      clear HS HS2 HST G2 L2 L1 HX HBW HTJ
      simp only [put_some, put_none, List.setIfInBounds_toArray, List.set_cons_succ, List.set_cons_zero]
      go_wp2_with fail
      go_ret2
      exact ⟨rfl, L3.out⟩
end Go.Proofs.Ytigclcnkmbokhaa
