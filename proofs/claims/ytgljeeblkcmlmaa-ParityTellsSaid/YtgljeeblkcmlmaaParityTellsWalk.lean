/-
  The walk of 'ParityTells'. Conditions: the first argument reads as rows of bytes.
-/
import Derived.Test.YtgljeeblkcmlmaaParTells
import Derived.Test.YtgljeeblkcmlmaaParAid
import Derived.Test.YtgljeeblkcmlmaaParKnown
import Derived.Test.YtgljeeblkcmlmaaFieldArgs
import Derived.Test.YtgljeeblkcmlmaaTakeTail
namespace Go.Proofs.Ytgljeeblkcmlmaa
open Go Go.RowKit
set_option maxRecDepth 100000
set_option linter.unusedVariables false
theorem quo_at {a b r : Nat} (h : a / b = r) (ha : a < 18446744073709551616) (hb : 0 < b) (w : World) : (binOp .quo 38 (.int .u64 (a : Int)) (.int .u64 (b : Int))).run Try.prog w = .ok (.int .u64 (r : Int)) w := by
  subst h
  exact quo_u64 a b ha hb w
theorem rem_at {a b r : Nat} (h : a % b = r) (ha : a < 18446744073709551616) (hb : 0 < b) (w : World) : (binOp .rem 38 (.int .u64 (a : Int)) (.int .u64 (b : Int))).run Try.prog w = .ok (.int .u64 (r : Int)) w := by
  subst h
  exact rem_u64 a b ha hb w
theorem Cols.open_ {w : World} {base i n : Nat} {v : Value} {H : Nat → Hd} {R : Nat → Nat} {x : Nat → Nat → Nat} (h : Cols w base v i n H R x) (hi : 0 < i) :
    ∃ g c, v = .slice (some ⟨g, 0, none⟩) i c ∧ i ≤ c ∧ c ≤ maxLen ∧ ∀ j, j < i → ∃ cj, w.cell? ⟨g, j, none⟩ = some (.slice (some ⟨R j, 0, none⟩) n cj) := by
  rcases h.own with ⟨_, rfl⟩ | ⟨g, cap, cur, fr, rfl, _, hb, _, h1, h2, _, h4⟩
  · omega
  · refine ⟨g, cap, rfl, h1, h2, fun j hj => ?_⟩
    obtain ⟨cj, e, _⟩ := h.hd j hj
    refine ⟨cj, ?_⟩
    rw [cell_of_row _ _ _ _ _ _ hb, h4 j hj, e]
    rfl
theorem Cols.rdr_ {w : World} {base i n c : Nat} {A : Option Addr} {H : Nat → Hd} {R : Nat → Nat} {x : Nat → Nat → Nat} (h : Cols w base (.slice A i c) i n H R x) (hx : ∀ j, j < i → ∀ v, v < n → x j v < 256) : RdR w w.heap.size A i (fun j => (H j).1) (fun j => (H j).2.1) (fun j => (H j).2.2) x := by
  obtain ⟨A', c', e, _, _, hr⟩ := h.rdr hx
  injection e with e1 e2 e3
  subst e1
  exact hr
theorem heads_of {w : World} {base i n c : Nat} {A : Option Addr} {H : Nat → Hd} {R : Nat → Nat} {x : Nat → Nat → Nat} (h : Cols w base (.slice A i c) i n H R x) : RdH w w.heap.size A i H := by
  obtain ⟨A', c', e, h1, _⟩ := h.own.shape
  injection e with e1 e2 e3
  subst e1
  exact h1
namespace parityTells

set_option maxHeartbeats 6400000 in
theorem walk (A : Option Addr) (k c : Nat) (ra : Nat → Option Addr) (rl rc : Nat → Nat) (x : Nat → Nat → Nat) (a1 a2 : Int) (w : World)
    (hr : RdR w w.heap.size A k ra rl rc x) (hl : k ≤ c) (hm : c ≤ maxLen) (hc : ∀ i, i < k → rl i ≤ rc i ∧ rc i ≤ maxLen) (w1 : (Lit.int .i64 a1).wf = true) (w2 : (Lit.int .u8 a2).wf = true) :
    Calls Try.prog 6 #[.slice A k c, .int .i64 a1, .int .u8 a2] w fun e w' => e = .returned (.bool true) ∧ Below w.heap.size w w' := by
  have HR := Lib.hid hr
  have HC := Lib.hid hc
  have hkm : k ≤ maxLen := Nat.le_trans hl hm
  obtain ⟨p1, p2⟩ := bounds_i64 w1
  have hb2 := bounds_u8 w2
  obtain ⟨eb, rfl, he256⟩ : ∃ x : Nat, a2 = (x : Int) ∧ x < 256 := ⟨a2.toNat, by omega, by omega⟩
  clear hr hc w1 w2 hb2
  go_enter Try.func6, Try.ntmps6
  go_wp2_with fail
  refine (known_any _).mono ?_
  rintro e0 w1 ⟨rfl, hb1⟩
  have B1 := Lib.hid hb1
  have R1 := Lib.hid (HR.out.below hb1 (Nat.le_refl _))
  clear hb1
  go_wp2_with fail
  refine (small_any k c w.heap.size A ra rl rc x _ R1.out hkm).mono ?_
  rintro e0 w2 ⟨hs, rfl⟩
  rcases hs with rfl | rfl
  · skip
    go_wp2_with fail
    refine (known_any _).mono ?_
    rintro e w3 ⟨rfl, hb3⟩
    have B3 := Lib.hid (B1.out.trans (hb3.mono B1.out.size))
    clear hb3
    go_wp2_with fail
    go_ret
    exact ⟨rfl, B3.out⟩
  go_wp2_with fail
  by_cases hok : 0 < k ∧ k ≤ 13 ∧ Alike k rl
  case neg =>
    refine (make_no k c w.heap.size A ra rl rc x _ R1.out hok).mono ?_
    rintro e0 w3 ⟨rfl, rfl⟩
    clear hok
    go_wp2_with fail
    go_ret
    exact ⟨rfl, B1.out⟩
  obtain ⟨hk0, hk13, hal⟩ := hok
  refine (make_cols k c w.heap.size A ra rl rc x _ R1.out B1.out.size hk0 hk13 hal).mono ?_
  rintro e0 w3 ⟨v3, R3, rfl, hp3, hb3⟩
  obtain ⟨n, hn⟩ : ∃ n, n = rl 0 := ⟨_, rfl⟩
  rw [← hn] at hp3
  have HLA : Hid (∀ i, i < k → rl i = n) := fun i hi => by rw [hn]; exact hal.2.2 i hi
  have hn1 : 1 ≤ n := by rw [hn]; exact hal.1
  have hn2 : n ≤ 4096 := by rw [hn]; exact hal.2.1
  have B3 := Lib.hid (B1.out.trans (hb3.mono B1.out.size))
  have X3 := Lib.hid (R1.out.below (hb3.mono B1.out.size) (Nat.le_refl _))
  obtain ⟨g3, c3, rfl, hc3, hc3m, _⟩ := hp3.open_ (by omega)
  have s13 := hb3.size
  have P3 := Lib.hid hp3
  have s03 := B3.out.size
  have s01 := B1.out.size
  have HX : Hid (∀ i, i < k → ∀ v, v < n → x i v < 256) := fun i hi v hv => by
    obtain ⟨_, _, _, _, _, h⟩ := X3.out i hi
    rw [HLA.out i hi] at h
    obtain ⟨_, _, _, _, _, q⟩ := h v hv
    exact q
  obtain ⟨b0, o0, rfl, _⟩ := X3.out 0 hk0
  unfold maxLen at hm hkm hc3m
  clear hal hp3 hb3 B1 R1 hn HR
  go_wp2_with fail
  go_loopw [9, 10] (fun v t wr => ∃ (i : Nat) (H : Nat → Hd) (R : Nat → Nat), t = .int .i64 i ∧ i ≤ k ∧ Hid (Cols wr w3.heap.size v i n H R x) ∧ Hid (Below w3.heap.size w3 wr)) (fun _ t _ => k - (intOf t).toNat)
  case atStart => exact ⟨0, fun _ => (none, 0, 0), fun _ => 0, rfl, by omega, Lib.hid (Cols.none_ _ _ _ _ _ _), Lib.hid (Below.refl _ _)⟩
  case round =>
    obtain ⟨wo, rfl⟩ : ∃ wo : World, wo = wr := ⟨_, rfl⟩
    obtain ⟨i, H, R, rfl, hi, C1, L1⟩ := hrel
    by_cases hlt : i < k
    · obtain ⟨hba, hca, hxa⟩ := (X3.out.below L1.out s03).head hlt
      rw [HLA.out i hlt] at hca hxa
      have hrc := HC.out i hlt
      rw [HLA.out i hlt] at hrc
      obtain ⟨bx, ox, hxe, _⟩ := hxa 0 (by omega)
      rw [hxe] at hca hxa
      have s41 := L1.out.size
      have hbw : b0 < wo.heap.size := by omega
      have O1 : Hid (Own8 (wo.alloc (.cells #[] 5)) wo.heap.size (.slice (some ⟨wo.heap.size, 0, none⟩) 0 0) 0 (fun _ => 0)) := Lib.hid (own_empty (Nat.le_refl _))
      have RX : Hid (RdB (wo.alloc (.cells #[] 5)) w.heap.size (some ⟨bx, ox, none⟩) n (x i)) := Lib.hid (hxa.below ((Below.refl wo.heap.size wo).alloc (Nat.le_refl _) _) (by omega))
      clear hxe hxa hba
      go_wp2_with ((with_reducible refine wpList_append_rd rfl (.tmp 37) (.tmp 41) rfl rfl rfl O1.out RX.out (fun e => by cases e) hrc.1 (by omega) (by simp) ?_); intro v2 w2 ho2 hg2 he2; refine of_hid ?_)
      refine Lib.hid ?_
      rw [Nat.zero_add] at ho2
      obtain ⟨g, cg, rfl, hgb, hrow, hng, hcg⟩ := ho2.row (by omega)
      have L2 : Hid (Below wo.heap.size wo w2) := Lib.hid (own_grown8 ((Below.refl wo.heap.size wo).alloc (Nat.le_refl _) _) O1.out hg2 (by simp))
      have G4 : Hid (RowG w2 g n (x i)) := hrow.congr fun v hv => rfl
      have C4 : Hid (Cols (w2.alloc (.cells #[.slice (some ⟨g, 0, none⟩) n cg] 34)) w3.heap.size u9 i n H R x) := Lib.hid ((C1.out.below L2.out (Nat.le_refl _)).below ((Below.refl w2.heap.size w2).alloc (Nat.le_refl _) _) (Nat.le_refl _))
      have H4 := Lib.hid (rdh_one w2 (some ⟨g, 0, none⟩) n cg)
      have s3 := L2.out.size
      have hzz : w3.heap.size ≤ (w2.alloc (.cells #[.slice (some ⟨g, 0, none⟩) n cg] 34)).heap.size := by simp; omega
      have HZ := Lib.hid hzz
      clear hzz ho2 hg2 he2 hrow O1 RX hca
      go_wp2_with ((with_reducible refine wpList_append_hd rfl (.tmp 36) (.tmp 43) rfl rfl rfl C4.out.own H4.out (fun e => by cases e) (Nat.le_refl _) (by omega) HZ.out ?_); intro v5 w5 ho5 hg5 he5; refine of_hid ?_)
      refine Lib.hid ?_
      have C5 := Lib.hid (C4.out.push ho5 hg5 (G4.out.alloc _) (by omega) ⟨hng, hcg⟩ (fun j hj => by have := (C1.out.row j hj).2.lt; omega) (fun _ _ => rfl))
      have L5 := Lib.hid (own_rowS ((L1.out.trans (L2.out.mono s41)).alloc (by omega) _) C4.out.own hg5 HZ.out)
      clear ho5 hg5 he5 C4 C1 L1 L2 G4 H4 HZ
      go_wp2_with fail
      go_roundw
      case rel => exact ⟨i + 1, _, _, by go_num, by omega, C5, L5⟩
      case measure => simp [intOf]; omega
    · obtain rfl : k = i := by omega
      have s41 := L1.out.size
      have P4 := Lib.hid ((P3.out.below L1.out (Nat.le_refl _)).lower s01)
      have C4 := Lib.hid (C1.out.lower (b := w.heap.size) s03)
      have H4 := Lib.hid (heads_of P4.out)
      have HNE : Hid (∀ j j2, j < k → j2 < 3 → R j ≠ R3 j2) := fun j j2 hj hj2 => by
        have h1 := (C1.out.row j hj).1
        have h2 := (P3.out.row j2 hj2).2.lt
        omega
      have LW := Lib.hid (B3.out.trans (L1.out.mono s03))
      have s04 := LW.out.size
      have HC3 : Hid (c3 ≤ maxLen) := by unfold maxLen; exact hc3m
      clear C1 L1 P3 X3 HC
      go_wp2_with ((with_reducible refine wpList_append_hd rfl (.tmp 45) (.tmp 46) rfl rfl rfl C4.out.own H4.out (fun e => by cases e) hc3 (by omega) s04 ?_); intro v6 w6 ho6 hg6 he6; refine of_hid ?_)
      refine Lib.hid ?_
      have L6 := Lib.hid (own_rowS LW.out C4.out.own hg6 s04)
      have C6 := C4.out.join P4.out ho6 hg6 HNE.out
      obtain ⟨R6, H6, C6⟩ : ∃ R6 H6, Cols w6 w.heap.size v6 (k + 3) n H6 R6 (withP k x) := ⟨_, _, C6⟩
      obtain ⟨g9, c9, rfl, hc9, hc9m, hcells⟩ := C6.open_ (by omega)
      have C6 := Lib.hid C6
      have HCL := Lib.hid hcells
      have HC9 := Lib.hid hc9m
      unfold maxLen at hc9m
      clear ho6 hg6 he6 C4 P4 H4 HNE LW hcells
      obtain ⟨q, hq, hq64⟩ : ∃ q : Nat, IntKind.u64.wrap a1 = (q : Int) ∧ q < 18446744073709551616 := by
        refine ⟨(IntKind.u64.wrap a1).toNat, ?_, ?_⟩ <;> simp [IntKind.wrap, IntKind.bits, IntKind.signed] <;> omega
      have HCQ : Hid (∀ W : World, (convert 3 38 (.int .i64 a1)).run Try.prog W = .ok (.int .u64 (q : Int)) W) := fun W => by rw [conv_u64, hq]
      obtain ⟨i, hiq⟩ : ∃ i, i = q % (k + 3) := ⟨_, rfl⟩
      have hik : i < k + 3 := by rw [hiq]; exact Nat.mod_lt _ (by omega)
      have hm0 : (IntKind.u64.wrap a1).tmod ((k : Int) + 3) = (i : Int) := by
        rw [hq, Int.tmod_eq_emod_of_nonneg (by omega), hiq, Int.natCast_emod]
        rfl
      have m1 : (i : Int) < (k : Int) + 3 := by omega
      have HQ := Lib.hid hq
      have HIQ := Lib.hid hiq
      clear hq hiq
      go_wp2_with fail
      clear hm0
      obtain ⟨ci, hci⟩ := HCL.out i hik
      obtain ⟨q1, HQ1⟩ : ∃ q1, Hid (q / (k + 3) = q1) := ⟨_, Lib.hid rfl⟩
      have hq1 : q1 < 18446744073709551616 := by have := Nat.div_le_self q (k + 3); have := HQ1.out; omega
      obtain ⟨j, HQJ⟩ : ∃ j, Hid (q1 % n = j) := ⟨_, Lib.hid rfl⟩
      have hjn : j < n := by have := HQJ.out; have := Nat.mod_lt q1 (show n > 0 by omega); omega
      obtain ⟨ri, HRI⟩ : ∃ ri, Hid (R6 i = ri) := ⟨_, Lib.hid rfl⟩
      rw [HRI.out] at hci
      have HS : Hid (w6.drew.cell? ⟨g9, i, none⟩ = some (.slice (some ⟨ri, 0, none⟩) n ci)) := hci
      have C7 := Lib.hid (C6.out.drew)
      have L7 := Lib.hid (below_drew L6.out)
      refine region_anyZ (fun W : World => W.cell? ⟨g9, i, none⟩ = some (.slice (some ⟨ri, 0, none⟩) n ci)) 15 (by kernel_rfl) ?_
      refine takeG 0 (.move (.tmp 1)) (some 55) none (.int .i64 a1) (by kernel_rfl) (by kernel_rfl) (by kernel_rfl) (fun _ _ _ h => h) (fun o w e hS => exec_move w e (by kernel_rfl)) HS.out ?_
      refine takeG 1 (.convert 3 38 (.tmp 55)) (some 56) none (.int .u64 (q : Int)) (by kernel_rfl) (by kernel_rfl) (by kernel_rfl) (fun _ _ _ h => h) (fun o w e hS => exec_conv (u := .int .i64 a1) w e (by kernel_rfl) (HCQ.out _)) HS.out ?_
      refine takeG 2 (.move (.tmp 9)) (some 57) none (.slice (some ⟨g9, 0, none⟩) (k + 3) c9) (by kernel_rfl) (by kernel_rfl) (by kernel_rfl) (fun _ _ _ h => h) (fun o w e hS => exec_move w e (by kernel_rfl)) HS.out ?_
      refine takeG 3 (.call ⟨.builtin .len, #[(.tmp 57)], #[22]⟩) (some 58) none (.int .i64 ((k + 3 : Nat) : Int)) (by kernel_rfl) (by kernel_rfl) (by kernel_rfl) (fun _ _ _ h => h) (fun o w e hS => exec_len (u := .slice (some ⟨g9, 0, none⟩) (k + 3) c9) w e (by kernel_rfl) (len_rows ..)) HS.out ?_
      refine takeG 4 (.convert 3 38 (.tmp 58)) (some 59) none (.int .u64 ((k + 3 : Nat) : Int)) (by kernel_rfl) (by kernel_rfl) (by kernel_rfl) (fun _ _ _ h => h) (fun o w e hS => exec_conv (u := .int .i64 ((k + 3 : Nat) : Int)) w e (by kernel_rfl) (conv_u64n _ (by omega) _)) HS.out ?_
      refine takeG 5 (.binOp .quo 38 (.tmp 56) (.tmp 59) 38) (some 60) none (.int .u64 (q1 : Int)) (by kernel_rfl) (by kernel_rfl) (by kernel_rfl) (fun _ _ _ h => h) (fun o w e hS => exec_bin (u1 := .int .u64 (q : Int)) (u2 := .int .u64 ((k + 3 : Nat) : Int)) w e (by kernel_rfl) (by kernel_rfl) (eqG_int ..) (quo_at HQ1.out (by omega) (by omega) _)) HS.out ?_
      refine takeG 6 (.move (.tmp 9)) (some 61) none (.slice (some ⟨g9, 0, none⟩) (k + 3) c9) (by kernel_rfl) (by kernel_rfl) (by kernel_rfl) (fun _ _ _ h => h) (fun o w e hS => exec_move w e (by kernel_rfl)) HS.out ?_
      refine takeG 7 (.move (.tmp 11)) (some 62) none (.int .i64 (i : Int)) (by kernel_rfl) (by kernel_rfl) (by kernel_rfl) (fun _ _ _ h => h) (fun o w e hS => exec_move w e (by kernel_rfl)) HS.out ?_
      refine takeG 8 (.indexAddr 22 (.tmp 61) (.tmp 62)) (some 63) none (.pointer (some ⟨g9, i, none⟩)) (by kernel_rfl) (by kernel_rfl) (by kernel_rfl) (fun _ _ _ h => h) (fun o w e hS => exec_index (u1 := .slice (some ⟨g9, 0, none⟩) (k + 3) c9) (u2 := .int .i64 (i : Int)) w e (by kernel_rfl) (by kernel_rfl) (index_rows_zero g9 (k + 3) c9 i hik _)) HS.out ?_
      refine takeG 9 (.load 34 (.tmp 63)) (some 64) none (.slice (some ⟨ri, 0, none⟩) n ci) (by kernel_rfl) (by kernel_rfl) (by kernel_rfl) (fun _ _ _ h => h) (fun o w e hS => exec_load (x := (.tmp 63)) e (by kernel_rfl) (load_one Try.underlying34 (by kernel_rfl) hS)) HS.out ?_
      refine takeG 10 (.call ⟨.builtin .len, #[(.tmp 64)], #[34]⟩) (some 65) none (.int .i64 (n : Int)) (by kernel_rfl) (by kernel_rfl) (by kernel_rfl) (fun _ _ _ h => h) (fun o w e hS => exec_len (u := .slice (some ⟨ri, 0, none⟩) n ci) w e (by kernel_rfl) (len_slice ..)) HS.out ?_
      refine takeG 11 (.convert 3 38 (.tmp 65)) (some 66) none (.int .u64 (n : Int)) (by kernel_rfl) (by kernel_rfl) (by kernel_rfl) (fun _ _ _ h => h) (fun o w e hS => exec_conv (u := .int .i64 (n : Int)) w e (by kernel_rfl) (conv_u64n _ (by omega) _)) HS.out ?_
      refine takeG 12 (.binOp .rem 38 (.tmp 60) (.tmp 66) 38) (some 67) none (.int .u64 (j : Int)) (by kernel_rfl) (by kernel_rfl) (by kernel_rfl) (fun _ _ _ h => h) (fun o w e hS => exec_bin (u1 := .int .u64 (q1 : Int)) (u2 := .int .u64 (n : Int)) w e (by kernel_rfl) (by kernel_rfl) (eqG_int ..) (rem_at HQJ.out (by omega) (by omega) _)) HS.out ?_
      refine takeG 13 (.convert 38 3 (.tmp 67)) (some 68) none (.int .i64 (j : Int)) (by kernel_rfl) (by kernel_rfl) (by kernel_rfl) (fun _ _ _ h => h) (fun o w e hS => exec_conv (u := .int .u64 (j : Int)) w e (by kernel_rfl) (conv_i64n _ (by omega) _)) HS.out ?_
      refine lastS 14 (.assign (.tmp 68)) (some 12) (.int .i64 (j : Int)) (by kernel_rfl) (by kernel_rfl) (by kernel_rfl) HS.out (fun o e => exec_assign _ e (by kernel_rfl)) ?_
      have HCI := Lib.hid HS.out
      simp only [put_some, put_none, List.setIfInBounds_toArray, List.set_cons_succ, List.set_cons_zero]
      clear HS C6 L6 hci HCL
      generalize w6.drew = wa at C7 L7 HCI ⊢
      have HUL : Hid (withP k x i j < 256) := by
        unfold withP
        by_cases h : i < k
        · rw [if_pos h]; exact HX.out i h j hjn
        · rw [if_neg h]; exact M.par_lt _ _ _ _
      have HEL := Lib.hid he256
      have HUB : Hid (∀ j', j' < k + 3 → ∀ v, v < n → updR (withP k x) i j (withP k x i j ^^^ eb) j' v < 256) := fun j' hj' v hv => by
        have h1 : ∀ j', j' < k + 3 → ∀ v, v < n → withP k x j' v < 256 := fun j' hj' v hv => by
          unfold withP
          by_cases h : j' < k
          · rw [if_pos h]; exact HX.out j' h v hv
          · rw [if_neg h]; exact M.par_lt _ _ _ _
        unfold updR
        by_cases h : j' = i
        · rw [if_pos h]
          unfold upd
          by_cases h2 : v = j
          · rw [if_pos h2]; exact M.xor_lt HUL.out HEL.out
          · rw [if_neg h2]; exact h1 i hik v hv
        · rw [if_neg h]; exact h1 j' hj' v hv
      go_wp2_with fail
      have hrow := C7.out.row i hik
      rw [HRI.out] at hrow
      have hrig := Lib.hid hrow.1
      have HS : Hid (wa.drew.cell? ⟨g9, i, none⟩ = some (.slice (some ⟨ri, 0, none⟩) n ci) ∧ wa.drew.cell? ⟨ri, j, none⟩ = some (.int .u8 ((withP k x i j : Nat) : Int))) := ⟨HCI.out, hrow.2.cell hjn⟩
      have HF : Hid (wa.drew.frozen? ⟨ri, j, none⟩ = false) := hrow.2.frozen hjn
      clear hrow
      refine region_anyZ (fun W : World => W.cell? ⟨g9, i, none⟩ = some (.slice (some ⟨ri, 0, none⟩) n ci) ∧ W.cell? ⟨ri, j, none⟩ = some (.int .u8 ((withP k x i j : Nat) : Int))) 15 (by kernel_rfl) ?_
      refine takeG 0 (.move (.tmp 9)) (some 69) none (.slice (some ⟨g9, 0, none⟩) (k + 3) c9) (by kernel_rfl) (by kernel_rfl) (by kernel_rfl) (fun _ _ _ h => h) (fun o w e hS => exec_move w e (by kernel_rfl)) HS.out ?_
      refine takeG 1 (.move (.tmp 11)) (some 70) none (.int .i64 (i : Int)) (by kernel_rfl) (by kernel_rfl) (by kernel_rfl) (fun _ _ _ h => h) (fun o w e hS => exec_move w e (by kernel_rfl)) HS.out ?_
      refine takeG 2 (.indexAddr 22 (.tmp 69) (.tmp 70)) (some 71) none (.pointer (some ⟨g9, i, none⟩)) (by kernel_rfl) (by kernel_rfl) (by kernel_rfl) (fun _ _ _ h => h) (fun o w e hS => exec_index (u1 := .slice (some ⟨g9, 0, none⟩) (k + 3) c9) (u2 := .int .i64 (i : Int)) w e (by kernel_rfl) (by kernel_rfl) (index_rows_zero g9 (k + 3) c9 i hik _)) HS.out ?_
      refine takeG 3 (.load 34 (.tmp 71)) (some 72) none (.slice (some ⟨ri, 0, none⟩) n ci) (by kernel_rfl) (by kernel_rfl) (by kernel_rfl) (fun _ _ _ h => h) (fun o w e hS => exec_load (x := (.tmp 71)) e (by kernel_rfl) (load_one Try.underlying34 (by kernel_rfl) hS.1)) HS.out ?_
      refine takeG 4 (.move (.tmp 12)) (some 73) none (.int .i64 (j : Int)) (by kernel_rfl) (by kernel_rfl) (by kernel_rfl) (fun _ _ _ h => h) (fun o w e hS => exec_move w e (by kernel_rfl)) HS.out ?_
      refine takeG 5 (.move (.tmp 9)) (some 74) none (.slice (some ⟨g9, 0, none⟩) (k + 3) c9) (by kernel_rfl) (by kernel_rfl) (by kernel_rfl) (fun _ _ _ h => h) (fun o w e hS => exec_move w e (by kernel_rfl)) HS.out ?_
      refine takeG 6 (.move (.tmp 11)) (some 75) none (.int .i64 (i : Int)) (by kernel_rfl) (by kernel_rfl) (by kernel_rfl) (fun _ _ _ h => h) (fun o w e hS => exec_move w e (by kernel_rfl)) HS.out ?_
      refine takeG 7 (.indexAddr 22 (.tmp 74) (.tmp 75)) (some 76) none (.pointer (some ⟨g9, i, none⟩)) (by kernel_rfl) (by kernel_rfl) (by kernel_rfl) (fun _ _ _ h => h) (fun o w e hS => exec_index (u1 := .slice (some ⟨g9, 0, none⟩) (k + 3) c9) (u2 := .int .i64 (i : Int)) w e (by kernel_rfl) (by kernel_rfl) (index_rows_zero g9 (k + 3) c9 i hik _)) HS.out ?_
      refine takeG 8 (.load 34 (.tmp 76)) (some 77) none (.slice (some ⟨ri, 0, none⟩) n ci) (by kernel_rfl) (by kernel_rfl) (by kernel_rfl) (fun _ _ _ h => h) (fun o w e hS => exec_load (x := (.tmp 76)) e (by kernel_rfl) (load_one Try.underlying34 (by kernel_rfl) hS.1)) HS.out ?_
      refine takeG 9 (.move (.tmp 12)) (some 78) none (.int .i64 (j : Int)) (by kernel_rfl) (by kernel_rfl) (by kernel_rfl) (fun _ _ _ h => h) (fun o w e hS => exec_move w e (by kernel_rfl)) HS.out ?_
      refine takeG 10 (.indexAddr 34 (.tmp 77) (.tmp 78)) (some 79) none (.pointer (some ⟨ri, j, none⟩)) (by kernel_rfl) (by kernel_rfl) (by kernel_rfl) (fun _ _ _ h => h) (fun o w e hS => exec_index (u1 := .slice (some ⟨ri, 0, none⟩) n ci) (u2 := .int .i64 (j : Int)) w e (by kernel_rfl) (by kernel_rfl) (index_zero ri n ci j hjn _)) HS.out ?_
      refine takeG 11 (.load 5 (.tmp 79)) (some 80) none (.int .u8 ((withP k x i j : Nat) : Int)) (by kernel_rfl) (by kernel_rfl) (by kernel_rfl) (fun _ _ _ h => h) (fun o w e hS => exec_load (x := (.tmp 79)) e (by kernel_rfl) (load_one Try.underlying5 (by kernel_rfl) hS.2)) HS.out ?_
      refine takeG 12 (.move (.tmp 2)) (some 81) none (.int .u8 (eb : Int)) (by kernel_rfl) (by kernel_rfl) (by kernel_rfl) (fun _ _ _ h => h) (fun o w e hS => exec_move w e (by kernel_rfl)) HS.out ?_
      refine takeG 13 (.binOp .xor 5 (.tmp 80) (.tmp 81) 5) (some 82) none (.int .u8 ((withP k x i j ^^^ eb : Nat) : Int)) (by kernel_rfl) (by kernel_rfl) (by kernel_rfl) (fun _ _ _ h => h) (fun o w e hS => exec_bin (u1 := .int .u8 ((withP k x i j : Nat) : Int)) (u2 := .int .u8 (eb : Int)) w e (by kernel_rfl) (by kernel_rfl) (eqG_int ..) (u8_xor_run _ _ HUL.out HEL.out _)) HS.out ?_
      refine takeG 14 (.indexAddr 34 (.tmp 72) (.tmp 73)) (some 83) none (.pointer (some ⟨ri, j, none⟩)) (by kernel_rfl) (by kernel_rfl) (by kernel_rfl) (fun _ _ _ h => h) (fun o w e hS => exec_index (u1 := .slice (some ⟨ri, 0, none⟩) n ci) (u2 := .int .i64 (j : Int)) w e (by kernel_rfl) (by kernel_rfl) (index_zero ri n ci j hjn _)) HS.out ?_
      refine lastStore 15 5 (.tmp 83) (.tmp 82) (.pointer (some ⟨ri, j, none⟩)) (.int .u8 ((withP k x i j ^^^ eb : Nat) : Int)) _ (by kernel_rfl) (by kernel_rfl) (by kernel_rfl) rfl (by kernel_rfl) (by kernel_rfl) (store_one size_u8 rfl rfl (by rw [HS.out.2]; rfl) HF.out (by rw [add_plain]; rfl)) ?_
      have C8 : Hid (Cols (wa.drew.setCell ⟨ri, j, none⟩ (.int .u8 ((withP k x i j ^^^ eb : Nat) : Int))) w.heap.size (.slice (some ⟨g9, 0, none⟩) (k + 3) c9) (k + 3) n H6 R6 (updR (withP k x) i j (withP k x i j ^^^ eb))) := by
        rw [← HRI.out]
        exact C7.out.drew.set hik hjn
      have L8 : Hid (Below w.heap.size w (wa.drew.setCell ⟨ri, j, none⟩ (.int .u8 ((withP k x i j ^^^ eb : Nat) : Int)))) := (below_drew L7.out).setCell (p := ⟨ri, j, none⟩) hrig.out _
      simp only [put_some, put_none, List.setIfInBounds_toArray, List.set_cons_succ, List.set_cons_zero]
      clear HS HF C7 L7 HCI
      generalize wa.drew.setCell ⟨ri, j, none⟩ (.int .u8 ((withP k x i j ^^^ eb : Nat) : Int)) = wb at C8 L8 ⊢
      have HRR := Lib.hid (C8.out.rdr_ HUB.out)
      have HAL := Lib.hid (C8.out.alike (by omega) hn1 hn2)
      have HN0 := Lib.hid (C8.out.len (j := 0) (by omega))
      have s8 := L8.out.size
      go_wp2_with fail
      by_cases he0 : eb = 0
      · subst he0
        refine (check_yes (k + 3) k c9 wb.heap.size (some ⟨g9, 0, none⟩) _ _ _ _ wb HRR.out (Nat.le_refl _) rfl hk0 (by omega) hc9 HC9.out HAL.out (by
          rw [HN0.out]
          exact tells_same k n i j x)).mono ?_
        rintro e1 w10 ⟨rfl, hb10⟩
        have LF := Lib.hid (L8.out.trans (hb10.mono s8))
        clear hb10 HRR HAL HN0 C8 L8 HUB HUL
        go_wp2_with fail
        go_ret
        exact ⟨rfl, LF.out⟩
      · have hxx : ((eb : Int) == 0) = false := by simpa using he0
        refine (check_no (k + 3) k c9 wb.heap.size (some ⟨g9, 0, none⟩) _ _ _ _ wb HRR.out (Nat.le_refl _) rfl hk0 (by omega) hc9 HC9.out HAL.out (by
          rw [HN0.out]
          exact tells_not k n i j eb x hik hjn HEL.out he0 HX.out)).mono ?_
        rintro e1 w10 ⟨rfl, hb10⟩
        have LF := Lib.hid (L8.out.trans (hb10.mono s8))
        clear hb10 HRR HAL HN0 C8 L8 HUB HUL
        go_wp2_with fail
        go_ret
        exact ⟨rfl, LF.out⟩
end parityTells
end Go.Proofs.Ytgljeeblkcmlmaa
