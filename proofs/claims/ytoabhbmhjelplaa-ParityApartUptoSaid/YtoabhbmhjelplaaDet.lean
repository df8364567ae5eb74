/-
  'hoardref02.Det' by a contract: a determinant by the first row. Conditions: the rows read as rows of as many bytes as there are rows, eight at most.
-/
import Derived.Test.YtoabhbmhjelplaaDetCols
import Derived.Test.YtoabhbmhjelplaaDetMath
import Derived.Test.YtoabhbmhjelplaaFieldRefA
import Derived.Deep.QuietTactic
import Derived.BigQuiet
namespace Go.Proofs.Ytoabhbmhjelplaa
open Go Go.RowKit
set_option maxRecDepth 100000
set_option linter.unusedVariables false

namespace det
theorem cols_grown {w w' : World} {B0 t n m : Nat} {v u : Value} {H : Nat → Hd} {R : Nat → Nat} {x : Nat → Nat → Nat} {X : Nat → Nat} (h : D.Cols w B0 v t n H R x) (ho : Own8 w B0 u m X) (hg : w.grownBy w' u.ownBlock) (hne : ∀ g, u.ownBlock = some g → v.ownBlock ≠ some g ∧ ∀ j, j < t → R j ≠ g) : D.Cols w' B0 v t n H R x := by
  refine ⟨h.own.keep fun g e => hg.block g (h.own.lt e).1 (fun q => (hne g q.symm).1 e), h.hd, fun j hj => ⟨(h.row j hj).1, (h.row j hj).2.heap (hg.block _ (h.row j hj).2.lt (fun q => (hne _ q.symm).2 j hj rfl))⟩, h.apart⟩
theorem cols_ne {w : World} {B0 t n : Nat} {v u u1 : Value} {H : Nat → Hd} {R : Nat → Nat} {x : Nat → Nat → Nat} (h : D.Cols w B0 v t n H R x) (hat : u1.ownBlock = u.ownBlock ∨ u1.ownBlock = some w.heap.size) (hne : ∀ g, u.ownBlock = some g → v.ownBlock ≠ some g ∧ ∀ j, j < t → R j ≠ g) :
    ∀ j, j < t → u1.ownBlock ≠ some (R j) := fun j hj e => by
  rcases hat with q | q
  · exact (hne (R j) (q.symm.trans e)).2 j hj rfl
  · rw [q] at e
    injection e with e
    have := (h.row j hj).2.lt
    omega
theorem cols_ne2 {w : World} {B0 t n : Nat} {v u u1 : Value} {H : Nat → Hd} {R : Nat → Nat} {x : Nat → Nat → Nat} (h : D.Cols w B0 v t n H R x) (hN : ∀ j, j < t → u.ownBlock ≠ some (R j)) (hat : u1.ownBlock = u.ownBlock ∨ u1.ownBlock = some w.heap.size) :
    ∀ j, j < t → u1.ownBlock ≠ some (R j) := fun j hj e => by
  rcases hat with q | q
  · exact hN j hj (q.symm.trans e)
  · rw [q] at e
    injection e with e
    have := (h.row j hj).2.lt
    omega
theorem ownS_ne8 {w : World} {base n m : Nat} {v u : Value} {X : Nat → Hd} {Y : Nat → Nat} (h : OwnS w base v n X) (k : Own8 w base u m Y) : ∀ g, v.ownBlock = some g → some g ≠ u.ownBlock := fun g e q => by
  rcases k with ⟨rfl, _⟩ | ⟨g', cap, cur, fr, rfl, _, hb, _⟩
  · cases q
  · simp [Value.ownBlock] at q
    subst q
    rcases h with ⟨rfl, _⟩ | ⟨g2, cap2, cur2, fr2, rfl, _, hb2, _⟩
    · cases e
    · simp [Value.ownBlock] at e
      subst e
      rw [hb] at hb2
      injection hb2 with hb2
      injection hb2 with _ hb2 _
      exact absurd hb2 (by decide)
theorem cols_grown8 {w w' : World} {B0 t n m : Nat} {v u : Value} {H : Nat → Hd} {R : Nat → Nat} {x : Nat → Nat → Nat} {X : Nat → Nat} (h : D.Cols w B0 v t n H R x) (ho : Own8 w B0 u m X) (hN : ∀ j, j < t → u.ownBlock ≠ some (R j)) (hg : w.grownBy w' u.ownBlock) : D.Cols w' B0 v t n H R x :=
  ⟨h.own.keep fun g e => hg.block g (h.own.lt e).1 (ownS_ne8 h.own ho g e), h.hd, fun j hj => ⟨(h.row j hj).1, (h.row j hj).2.heap (hg.block _ (h.row j hj).2.lt (fun q => hN j hj q.symm))⟩, h.apart⟩
theorem minor_row (x : Nat → Nat → Nat) (k t n v : Nat) (hk : k ≤ n) (hv : v < n) : cat (0 + k) (cat 0 (fun _ => 0) (x (t + 1))) (fun j => x (t + 1) (k + 1 + j)) v = M.minor x k t v := by
  unfold cat M.minor M.skip
  by_cases h : v < k
  · rw [if_pos (by omega), if_neg (by omega), if_pos h]; rfl
  · rw [if_neg (by omega), if_neg h]
    show x (t + 1) (k + 1 + (v - (0 + k))) = _
    rw [show k + 1 + (v - (0 + k)) = v + 1 by omega]

set_option maxHeartbeats 6400000 in
theorem det_any : ∀ (n : Nat) (A : Option Addr) (c B : Nat) (ra : Nat → Option Addr) (rl rc : Nat → Nat) (x : Nat → Nat → Nat) (w : World), RdR w B A n ra rl rc x → (∀ i, i < n → rl i = n ∧ n ≤ rc i ∧ rc i ≤ maxLen) → n ≤ 8 → B ≤ w.heap.size →
    Calls Try.prog 27 #[.slice A n c] w fun e w' => e = .returned (.int .u8 ((M.det n x : Nat) : Int)) ∧ Below w.heap.size w w'
  | 0, A, c, B, ra, rl, rc, x, w, hr, hl, hn, hB => by
    clear hr hl
    go_enter Try.func27, Try.ntmps27
    go_wp2_with fail
    go_ret
    exact ⟨rfl, Below.refl _ _⟩
  | n + 1, A, c, B, ra, rl, rc, x, w, hr, hl, hn, hB => by
    have IH : Hid (∀ (A : Option Addr) (c B : Nat) (ra : Nat → Option Addr) (rl rc : Nat → Nat) (x : Nat → Nat → Nat) (w : World), RdR w B A n ra rl rc x → (∀ i, i < n → rl i = n ∧ n ≤ rc i ∧ rc i ≤ maxLen) → n ≤ 8 → B ≤ w.heap.size →
      Calls Try.prog 27 #[.slice A n c] w fun e w' => e = .returned (.int .u8 ((M.det n x : Nat) : Int)) ∧ Below w.heap.size w w') := Lib.hid (det_any n)
    have HD : Hid (M.det (n + 1) x = M.xsum (n + 1) fun k => M.gmul (x 0 k) (M.det n (M.minor x k))) := Lib.hid rfl
    rw [HD.out]
    obtain ⟨N, hN⟩ : ∃ N, N = n + 1 := ⟨_, rfl⟩
    rw [← hN] at hr hl hn ⊢
    have hN1 : N ≤ n + 1 := by omega
    have hN2 : n + 1 ≤ N := by omega
    clear HD hN
    have HR := Lib.hid hr
    have HL := Lib.hid hl
    have HBB := Lib.hid hB
    obtain ⟨b, oo, rfl, hbB, hc0, hx0⟩ := hr 0 (by omega)
    obtain ⟨b0, o0, e0, hb0, _⟩ := hx0 0 (by rw [(hl 0 (by omega)).1]; omega)
    rw [(hl 0 (by omega)).1, e0, Nat.add_zero] at hc0
    rw [(hl 0 (by omega)).1, e0] at hx0
    have X0 := Lib.hid hx0
    have C0 := Lib.hid hc0
    obtain ⟨c0, hc0e⟩ : ∃ c0, c0 = rc 0 := ⟨_, rfl⟩
    rw [← hc0e] at C0
    clear hr hl hx0 hc0 e0 hc0e
    have hn1 : ((N : Int) == 0) = false := by simp; omega
    go_enter Try.func27, Try.ntmps27
    go_wp2_with fail
    go_loopw [3, 4] (fun s y wr => ∃ k : Nat, k ≤ N ∧ y = .int .i64 (k : Int) ∧ s = .int .u8 ((M.xsum k (fun k => M.gmul (x 0 k) (M.det n (M.minor x k))) : Nat) : Int) ∧ Hid (Below w.heap.size w wr)) (fun _ y _ => N - (intOf y).toNat)
    case atStart => exact ⟨0, by omega, rfl, rfl, Below.refl _ _⟩
    case round =>
      obtain ⟨k, hk, rfl, rfl, L0⟩ := hrel
      rename World => wo
      have hsl := M.xsum_lt (n := k) (f := fun k => M.gmul (x 0 k) (M.det n (M.minor x k))) (fun _ _ => M.gmul_lt _ _)
      have HSU : Hid (M.xsum (k + 1) (fun k => M.gmul (x 0 k) (M.det n (M.minor x k))) = M.xsum k (fun k => M.gmul (x 0 k) (M.det n (M.minor x k))) ^^^ M.gmul (x 0 k) (M.det n (M.minor x k))) := Lib.hid rfl
      generalize hS : M.xsum k (fun k => M.gmul (x 0 k) (M.det n (M.minor x k))) = s at *
      have HS0 := Lib.hid hS
      clear hS
      by_cases hlt : k < N
      · have i1 : (k : Int) < (N : Int) := by omega
        have cb := (L0.out.cell (p := ⟨b, oo, none⟩) (by have := HBB.out; show b < _; omega)).trans C0.out
        obtain ⟨bq, oq, eq, hbq, hcq, hxk⟩ := X0.out k hlt
        injection eq with eq
        injection eq with eq1 eq2
        subst eq1; subst eq2
        have cx := (L0.out.cell (p := ⟨b0, o0 + k, none⟩) (by have := HBB.out; show b0 < _; omega)).trans hcq
        clear hcq
        by_cases hz : x 0 k = 0
        · have e0 : ((x 0 k : Nat) : Int) = 0 := by rw [hz]; rfl
          rw [e0] at cx
          have HSV : Hid (M.xsum (k + 1) (fun k => M.gmul (x 0 k) (M.det n (M.minor x k))) = s) := Lib.hid (by rw [HSU.out, hz, M.gmul_zero_left, Nat.xor_zero])
          clear HSU e0 hz hxk
          go_wp2_with fail
          go_roundw
          case rel => exact ⟨k + 1, by omega, by go_num, by rw [HSV.out], L0⟩
          case measure => simp [intOf]; omega
        · have e0 : (((x 0 k : Nat) : Int) == 0) = false := by simp; exact hz
          obtain ⟨xk, hxke⟩ : ∃ xk, xk = x 0 k := ⟨_, rfl⟩
          rw [← hxke] at e0 cx hxk HSU
          have CB := Lib.hid cb
          have CX := Lib.hid cx
          generalize hB0 : wo.heap.size = B0 at *
          have HB0 := Lib.hid hB0
          have K0 : Hid (Below B0 wo wo) := Lib.hid (by rw [← hB0]; exact Below.refl _ _)
          have hwB : w.heap.size ≤ B0 := by have := L0.out.size; omega
          have HC : Hid (∀ (t : Nat), t < n → ∃ b3 o3, rl (t + 1) = N ∧ ra (t + 1) = some ⟨b3, o3, none⟩ ∧ b3 < B ∧ N ≤ rc (t + 1) ∧ rc (t + 1) ≤ maxLen) := Lib.hid fun t ht => by
            obtain ⟨_, _, _, _, _, hx⟩ := HR.out (t + 1) (by omega)
            obtain ⟨q1, q2, q3⟩ := HL.out (t + 1) (by omega)
            obtain ⟨b3, o3, e3, hb3, _⟩ := hx 0 (by omega)
            exact ⟨b3, o3, q1, e3, hb3, q2, q3⟩
          have HROW := HC
          clear HC hB0 hz hxke
          go_wp2_with fail
          clear cb cx e0
          go_loopw [5, 6] (fun v y wr => ∃ t : Nat, t ≤ n ∧ y = .int .i64 ((t + 1 : Nat) : Int) ∧ (∃ H Rr, Hid (D.Cols wr B0 v t n H Rr (M.minor x k))) ∧ Hid (Below B0 wo wr)) (fun _ y _ => N - (intOf y).toNat)
          case atStart => exact ⟨0, by omega, rfl, ⟨fun _ => (none, 0, 0), fun _ => 0, D.Cols.none_ _ _ _ _ _ _⟩, K0⟩
          case round =>
            obtain ⟨t, ht, rfl, ⟨H, Rr, C1⟩, L1⟩ := hrel
            clear K0
            have hbr : B0 ≤ wr.drew.heap.size := by have := L1.out.size; rw [HB0.out] at this; exact this
            by_cases htl : t < n
            · have i2 : ((t + 1 : Nat) : Int) < (N : Int) := by omega
              obtain ⟨b3, o3, q1, q2, hb3, q3, q4⟩ := HROW.out t htl
              obtain ⟨cr, hcr⟩ : ∃ cr, cr = rc (t + 1) := ⟨_, rfl⟩
              rw [← hcr] at q3 q4
              have hbw : b < w.heap.size := by have := HBB.out; omega
              have hb3w : b3 < w.heap.size := by have := HBB.out; omega
              have HC : Hid (∀ W : World, Below B0 wo W → W.cell? ⟨b, oo + (t + 1), none⟩ = some (.slice (some ⟨b3, o3, none⟩) N cr)) := Lib.hid fun W hW => by
                obtain ⟨_, hc, _⟩ := D.rdR_head HR.out (i := t + 1) (by omega)
                rw [q1, q2, ← hcr] at hc
                exact (hW.cell (p := ⟨b, oo + (t + 1), none⟩) (by show b < _; omega)).trans ((L0.out.cell (p := ⟨b, oo + (t + 1), none⟩) hbw).trans hc)
              have RX : Hid (∀ W : World, Below B0 wo W → RdB W B (some ⟨b3, o3, none⟩) N (x (t + 1))) := Lib.hid fun W hW => by
                obtain ⟨_, _, hx⟩ := D.rdR_head HR.out (i := t + 1) (by omega)
                rw [q1, q2] at hx
                have hBw := HBB.out
                exact (hx.below L0.out hBw).below hW (by omega)
              have RH : Hid (∀ W : World, Below B0 wo W → RdB W B (some ⟨b3, o3, none⟩) k (x (t + 1))) := Lib.hid fun W hW j hj => RX.out W hW j (by omega)
              obtain ⟨o4, ho4⟩ := D.subA_some b3 o3 cr (k + 1)
              have SF : Hid (∀ W, (Instr.sliceAt 31 (.slice (some ⟨b3, o3, none⟩) N cr) (some (.int .i64 ((k + 1 : Nat) : Int))) none none).run Try.prog W = .ok (.slice (some ⟨b3, o4, none⟩) (N - (k + 1)) (cr - (k + 1))) W) := Lib.hid fun W => by
                rw [slice_from (some ⟨b3, o3, none⟩) N cr (k + 1) _ rfl (by omega) W, ho4]
              have RT : Hid (∀ W : World, Below B0 wo W → RdB W B (some ⟨b3, o4, none⟩) (N - (k + 1)) (fun j => x (t + 1) (k + 1 + j))) := Lib.hid fun W hW => by
                have h := (RX.out W hW).sub (c := cr) (lo := k + 1) q3
                rw [ho4] at h
                exact h
              have hbk : Hid (∀ g, (Value.slice (some ⟨wr.drew.heap.size, 0, none⟩) 0 0).ownBlock = some g → u5.ownBlock ≠ some g ∧ ∀ j, j < t → Rr j ≠ g) := Lib.hid fun g e => by
                injection e with e
                subst e
                exact ⟨fun q => absurd (C1.out.own.lt q).1 (Nat.lt_irrefl _), fun j hj q => absurd (C1.out.row j hj).2.lt (by rw [q]; exact Nat.lt_irrefl _)⟩
              have HS := Lib.hid (HC.out wr.drew L1.out.drew)
              unfold maxLen at q4
              have QK1 : Hid (k ≤ cr) := Lib.hid (by omega)
              have QK2 : Hid (0 + k ≤ 70368744177664) := Lib.hid (by omega)
              have QK3 : Hid (N - (k + 1) ≤ cr - (k + 1)) := Lib.hid (by omega)
              have QK4 : Hid (0 + k + (N - (k + 1)) ≤ 70368744177664) := Lib.hid (by omega)
              have QK5 : Hid (0 < n) := Lib.hid (by omega)
              have QK6 : Hid (t + 1 ≤ 100000) := Lib.hid (by omega)
              have QK7 : Hid (0 + k + (N - (k + 1)) = n) := Lib.hid (by omega)
              have QK8 : Hid (k ≤ n) := Lib.hid (by omega)
              clear q1 q2 hcr ho4 RX
              go_wp2_with fail
              refine region_anyZ (fun W : World => W.cell? ⟨b, oo + (t + 1), none⟩ = some (.slice (some ⟨b3, o3, none⟩) N cr)) 20 (by kernel_rfl) ?_
              refine takeG 0 (.move (.tmp 5)) (some 29) none (u5) (by kernel_rfl) (by kernel_rfl) (by kernel_rfl) (fun _ _ _ h => h) (fun o w e hS => exec_move w e (by kernel_rfl)) HS.out ?_
              refine takeG 2 (.move (.tmp 0)) (some 31) none (.slice (some ⟨b, oo, none⟩) N c) (by kernel_rfl) (by kernel_rfl) (by kernel_rfl) (fun _ _ _ h => h) (fun o w e hS => exec_move w e (by kernel_rfl)) HS.out ?_
              refine takeG 3 (.move (.tmp 6)) (some 32) none (.int .i64 ((t + 1 : Nat) : Int)) (by kernel_rfl) (by kernel_rfl) (by kernel_rfl) (fun _ _ _ h => h) (fun o w e hS => exec_move w e (by kernel_rfl)) HS.out ?_
              refine takeG 4 (.indexAddr 22 (.tmp 31) (.tmp 32)) (some 33) none (.pointer (some ⟨b, oo + (t + 1), none⟩)) (by kernel_rfl) (by kernel_rfl) (by kernel_rfl) (fun _ _ _ h => h) (fun o w e hS => exec_index (u1 := .slice (some ⟨b, oo, none⟩) N c) (u2 := .int .i64 ((t + 1 : Nat) : Int)) w e (by kernel_rfl) (by kernel_rfl) (D.index_rows b oo N c (t + 1) (by omega) _)) HS.out ?_
              refine takeG 5 (.load 31 (.tmp 33)) (some 34) none (.slice (some ⟨b3, o3, none⟩) N cr) (by kernel_rfl) (by kernel_rfl) (by kernel_rfl) (fun _ _ _ h => h) (fun o w e hS => exec_load (x := (.tmp 33)) e (by kernel_rfl) (load_one Try.underlying31 (by kernel_rfl) hS)) HS.out ?_
              refine takeG 6 (.move (.tmp 4)) (some 35) none (.int .i64 (k : Int)) (by kernel_rfl) (by kernel_rfl) (by kernel_rfl) (fun _ _ _ h => h) (fun o w e hS => exec_move w e (by kernel_rfl)) HS.out ?_
              refine takeG 7 (.slice 31 (.tmp 34) .none (.some (.tmp 35)) .none) (some 36) none (.slice (some ⟨b3, o3, none⟩) k cr) (by kernel_rfl) (by kernel_rfl) (by kernel_rfl) (fun _ _ _ h => h) (fun o w e hS => exec_slice (u := .slice (some ⟨b3, o3, none⟩) N cr) w e (by kernel_rfl) (by kernel_rfl) (by kernel_rfl) (by kernel_rfl) (D.slice_headB b3 o3 N cr k (by omega) _)) HS.out ?_
              refine takeG 9 (.move (.tmp 0)) (some 38) none (.slice (some ⟨b, oo, none⟩) N c) (by kernel_rfl) (by kernel_rfl) (by kernel_rfl) (fun _ _ _ h => h) (fun o w e hS => exec_move w e (by kernel_rfl)) HS.out ?_
              refine takeG 10 (.move (.tmp 6)) (some 39) none (.int .i64 ((t + 1 : Nat) : Int)) (by kernel_rfl) (by kernel_rfl) (by kernel_rfl) (fun _ _ _ h => h) (fun o w e hS => exec_move w e (by kernel_rfl)) HS.out ?_
              refine takeG 11 (.indexAddr 22 (.tmp 38) (.tmp 39)) (some 40) none (.pointer (some ⟨b, oo + (t + 1), none⟩)) (by kernel_rfl) (by kernel_rfl) (by kernel_rfl) (fun _ _ _ h => h) (fun o w e hS => exec_index (u1 := .slice (some ⟨b, oo, none⟩) N c) (u2 := .int .i64 ((t + 1 : Nat) : Int)) w e (by kernel_rfl) (by kernel_rfl) (D.index_rows b oo N c (t + 1) (by omega) _)) HS.out ?_
              refine takeG 12 (.load 31 (.tmp 40)) (some 41) none (.slice (some ⟨b3, o3, none⟩) N cr) (by kernel_rfl) (by kernel_rfl) (by kernel_rfl) (fun _ _ _ h => h) (fun o w e hS => exec_load (x := (.tmp 40)) e (by kernel_rfl) (load_one Try.underlying31 (by kernel_rfl) hS)) HS.out ?_
              refine takeG 13 (.move (.tmp 4)) (some 42) none (.int .i64 (k : Int)) (by kernel_rfl) (by kernel_rfl) (by kernel_rfl) (fun _ _ _ h => h) (fun o w e hS => exec_move w e (by kernel_rfl)) HS.out ?_
              refine takeG 14 (.binOp .add 3 (.tmp 42) (.const (.int .i64 1)) 3) (some 43) none (.int .i64 ((k + 1 : Nat) : Int)) (by kernel_rfl) (by kernel_rfl) (by kernel_rfl) (fun _ _ _ h => h) (fun o w e hS => exec_bin (u1 := .int .i64 (k : Int)) (u2 := (.int .i64 1)) w e (by kernel_rfl) (by kernel_rfl) (eqG_int ..) (D.add_int k 1 (by omega) _)) HS.out ?_
              refine takeG 15 (.slice 31 (.tmp 41) (.some (.tmp 43)) .none .none) (some 44) none (.slice (some ⟨b3, o4, none⟩) (N - (k + 1)) (cr - (k + 1))) (by kernel_rfl) (by kernel_rfl) (by kernel_rfl) (fun _ _ _ h => h) (fun o w e hS => exec_slice (u := .slice (some ⟨b3, o3, none⟩) N cr) w e (by kernel_rfl) (by kernel_rfl) (by kernel_rfl) (by kernel_rfl) (SF.out _)) HS.out ?_
              refine loneG 1 (.buildSlice 31 0 #[]) (some 30) none (by kernel_rfl) (by kernel_rfl) (by kernel_rfl) ?_
              intro o ho hod
              refine wp_val (D.exec_build0 ho (D.bs_bytes0 _)) ?_
              rw [hod]
              clear hod ho
              have LA : Hid (Below B0 wo (wr.drew.alloc (.cells #[] 5))) := Lib.hid (L1.out.drew.alloc hbr _)
              have OA := Lib.hid (D.own_empty (w := wr.drew) (base := B0) hbr)
              have CA := Lib.hid (C1.out.below ((Below.refl wr.heap.size wr).drew.alloc (Nat.le_refl _) (.cells #[] 5)) (Nat.le_refl _))
              have sA := LA.out.size
              rw [HB0.out] at sA
              refine ⟨fun _ => HC.out _ LA.out, ?_⟩
              refine loneG 8 (.call ⟨.builtin .append, #[(.tmp 30), (.tmp 36)], #[31, 31]⟩) (some 37) none (by kernel_rfl) (by kernel_rfl) (by kernel_rfl) ?_
              intro o ho hod
              refine D.wp_append_rd8 (.tmp 30) (.tmp 36) ho (by kernel_rfl) (by kernel_rfl) OA.out (RH.out _ LA.out) (fun e => by cases e) QK1.out QK2.out sA ?_
              intro v1 w1 ho1 hg1 hat1
              rw [hod]
              clear hod ho
              have L2 : Hid (Below B0 wo w1) := Lib.hid (D.own_grown8 LA.out OA.out hg1 sA)
              have O1 := Lib.hid ho1
              have C2 : Hid (D.Cols w1 B0 u5 t n H Rr (M.minor x k)) := Lib.hid (cols_grown CA.out OA.out hg1 hbk.out)
              have s2 := L2.out.size
              rw [HB0.out] at s2
              have N1 : Hid (∀ j, j < t → v1.ownBlock ≠ some (Rr j)) := Lib.hid (cols_ne CA.out hat1 hbk.out)
              clear ho1 hg1 hat1 LA OA CA sA
              refine ⟨fun _ => HC.out _ L2.out, ?_⟩
              refine loneG 16 (.call ⟨.builtin .append, #[(.tmp 37), (.tmp 44)], #[31, 31]⟩) (some 45) none (by kernel_rfl) (by kernel_rfl) (by kernel_rfl) ?_
              intro o ho hod
              refine D.wp_append_rd8 (.tmp 37) (.tmp 44) ho (by kernel_rfl) (by kernel_rfl) O1.out (RT.out _ L2.out) (fun e => by cases e) QK3.out QK4.out s2 ?_
              intro v3 w4 ho3 hg3 hat3
              rw [hod]
              clear hod ho
              have L4 : Hid (Below B0 wo w4) := Lib.hid (D.own_grown8 L2.out O1.out hg3 s2)
              rw [QK7.out] at ho3
              have C4 : Hid (D.Cols w4 B0 u5 t n H Rr (M.minor x k)) := Lib.hid (cols_grown8 C2.out O1.out N1.out hg3)
              have N3 : Hid (∀ j, j < t → v3.ownBlock ≠ some (Rr j)) := Lib.hid (cols_ne2 C2.out N1.out hat3)
              obtain ⟨g2, c2, rfl, hg2, hr2, hc2, hc2m⟩ := ho3.row QK5.out
              have R2 := Lib.hid hr2
              have s4 := L4.out.size
              rw [HB0.out] at s4
              clear ho3 hg3 hat3 L2 O1 C2 N1 s2 hr2
              refine ⟨fun _ => HC.out _ L4.out, ?_⟩
              refine loneG 17 (.buildSlice 22 1 #[(0, (.tmp 45))]) (some 46) none (by kernel_rfl) (by kernel_rfl) (by kernel_rfl) ?_
              intro o ho hod
              refine wp_val (exec_buildSlice1 ho (u := .slice (some ⟨g2, 0, none⟩) n c2) (by kernel_rfl) (D.bs_rows1 _ _ _ _)) ?_
              rw [hod]
              clear hod ho
              have L5 := Lib.hid (L4.out.alloc s4 (.cells #[.slice (some ⟨g2, 0, none⟩) n c2] 31))
              have C5 := Lib.hid (C4.out.below ((Below.refl w4.heap.size w4).alloc (Nat.le_refl _) (.cells #[.slice (some ⟨g2, 0, none⟩) n c2] 31)) (Nat.le_refl _))
              have R5 := Lib.hid (R2.out.alloc (.cells #[.slice (some ⟨g2, 0, none⟩) n c2] 31))
              have s5 := L5.out.size
              rw [HB0.out] at s5
              have H5 := Lib.hid (D.rdh_one w4 (some ⟨g2, 0, none⟩) n c2)
              clear L4 C4 R2
              refine ⟨fun _ => HC.out _ L5.out, ?_⟩
              refine loneG 18 (.call ⟨.builtin .append, #[(.tmp 29), (.tmp 46)], #[22, 22]⟩) (some 47) none (by kernel_rfl) (by kernel_rfl) (by kernel_rfl) ?_
              intro o ho hod
              refine D.wp_append_hd (.tmp 29) (.tmp 46) ho (by kernel_rfl) (by kernel_rfl) C5.out.own H5.out (fun e => by cases e) (Nat.le_refl _) QK6.out s5 ?_
              intro v5 w6 ho5 hg5
              rw [hod]
              clear hod ho
              have L6 : Hid (Below B0 wo w6) := Lib.hid (D.own_rowS L5.out C5.out.own hg5 s5)
              have C6 := Lib.hid (C5.out.push ho5 hg5 R5.out hg2 ⟨hc2, hc2m⟩ (fun j hj e => N3.out j hj (by rw [e]; rfl)) (fun v hv => minor_row x k t n v QK8.out hv))
              clear ho5 hg5 L5 C5 R5 H5
              refine ⟨fun _ => HC.out _ L6.out, ?_⟩
              refine lastS 19 (.assign (.tmp 47)) (some 5) (v5) (by kernel_rfl) (by kernel_rfl) (by kernel_rfl) (HC.out _ L6.out) (fun o e => exec_assign _ e (by kernel_rfl)) ?_
              simp only [put_some, put_none, List.setIfInBounds_toArray, List.set_cons_succ, List.set_cons_zero]
              clear HS HC RH RT SF hbk C1 L1
              go_wp2_with fail
              go_roundw
              case rel => exact ⟨t + 1, by omega, by go_num, ⟨_, _, C6⟩, L6⟩
              case measure => simp [intOf]; omega
            · obtain rfl : t = n := by omega
              have hxm : ∀ j, j < t → ∀ v, v < t → M.minor x k j v < 256 := fun j hj v hv => by
                obtain ⟨_, _, _, _, _, hx⟩ := HR.out (j + 1) (by omega)
                obtain ⟨_, _, _, _, _, q⟩ := hx (M.skip k v) (by rw [(HL.out (j + 1) (by omega)).1]; exact Nat.lt_of_lt_of_le (M.skip_lt hv) hN2)
                exact q
              obtain ⟨A2, c2, rfl, hc2, hc2m, hrd⟩ := C1.out.rdr hxm
              have RD := Lib.hid hrd
              have HLM : Hid (∀ i, i < t → (H i).2.1 = t ∧ t ≤ (H i).2.2 ∧ (H i).2.2 ≤ maxLen) := Lib.hid fun i hi => by
                obtain ⟨ci, e, h1, h2⟩ := C1.out.hd i hi
                rw [e]
                exact ⟨rfl, h1, h2⟩
              have HC2 : Hid (∀ W : World, Below B0 wo W → W.cell? ⟨b, oo, none⟩ = some (.slice (some ⟨b0, o0, none⟩) N c0) ∧ W.cell? ⟨b0, o0 + k, none⟩ = some (.int .u8 (xk : Int))) := Lib.hid fun W hW =>
                ⟨(hW.cell (p := ⟨b, oo, none⟩) (by have := HBB.out; show b < _; omega)).trans CB.out, (hW.cell (p := ⟨b0, o0 + k, none⟩) (by have := HBB.out; show b0 < _; omega)).trans CX.out⟩
              have HS := Lib.hid (HC2.out wr.drew L1.out.drew)
              unfold maxLen at hc2m
              clear hrd hxm
              go_wp2_with fail
              refine region_anyZ (fun W : World => W.cell? ⟨b, oo, none⟩ = some (.slice (some ⟨b0, o0, none⟩) N c0) ∧ W.cell? ⟨b0, o0 + k, none⟩ = some (.int .u8 (xk : Int))) 12 (by kernel_rfl) ?_
              refine takeG 0 (.move (.tmp 3)) (some 48) none (.int .u8 (s : Int)) (by kernel_rfl) (by kernel_rfl) (by kernel_rfl) (fun _ _ _ h => h) (fun o w e hS => exec_move w e (by kernel_rfl)) HS.out ?_
              refine takeG 1 (.move (.tmp 0)) (some 49) none (.slice (some ⟨b, oo, none⟩) N c) (by kernel_rfl) (by kernel_rfl) (by kernel_rfl) (fun _ _ _ h => h) (fun o w e hS => exec_move w e (by kernel_rfl)) HS.out ?_
              refine takeG 2 (.indexAddr 22 (.tmp 49) (.const (.int .i64 0))) (some 50) none (.pointer (some ⟨b, oo, none⟩)) (by kernel_rfl) (by kernel_rfl) (by kernel_rfl) (fun _ _ _ h => h) (fun o w e hS => exec_index (u1 := .slice (some ⟨b, oo, none⟩) N c) (u2 := (.int .i64 0)) w e (by kernel_rfl) (by kernel_rfl) (D.index_rows0 b oo N c (by omega) _)) HS.out ?_
              refine takeG 3 (.load 31 (.tmp 50)) (some 51) none (.slice (some ⟨b0, o0, none⟩) N c0) (by kernel_rfl) (by kernel_rfl) (by kernel_rfl) (fun _ _ _ h => h) (fun o w e hS => exec_load (x := (.tmp 50)) e (by kernel_rfl) (load_one Try.underlying31 (by kernel_rfl) hS.1)) HS.out ?_
              refine takeG 4 (.move (.tmp 4)) (some 52) none (.int .i64 (k : Int)) (by kernel_rfl) (by kernel_rfl) (by kernel_rfl) (fun _ _ _ h => h) (fun o w e hS => exec_move w e (by kernel_rfl)) HS.out ?_
              refine takeG 5 (.indexAddr 31 (.tmp 51) (.tmp 52)) (some 53) none (.pointer (some ⟨b0, o0 + k, none⟩)) (by kernel_rfl) (by kernel_rfl) (by kernel_rfl) (fun _ _ _ h => h) (fun o w e hS => exec_index (u1 := .slice (some ⟨b0, o0, none⟩) N c0) (u2 := .int .i64 (k : Int)) w e (by kernel_rfl) (by kernel_rfl) (D.index_bytes b0 o0 N c0 k hlt _)) HS.out ?_
              refine takeG 6 (.load 5 (.tmp 53)) (some 54) none (.int .u8 (xk : Int)) (by kernel_rfl) (by kernel_rfl) (by kernel_rfl) (fun _ _ _ h => h) (fun o w e hS => exec_load (x := (.tmp 53)) e (by kernel_rfl) (load_one Try.underlying5 (by kernel_rfl) hS.2)) HS.out ?_
              refine takeG 7 (.move (.tmp 5)) (some 55) none (.slice A2 t c2) (by kernel_rfl) (by kernel_rfl) (by kernel_rfl) (fun _ _ _ h => h) (fun o w e hS => exec_move w e (by kernel_rfl)) HS.out ?_
              refine loneG 8 (.call ⟨.value (.func 27), #[(.tmp 55)], #[22]⟩) (some 56) none (by kernel_rfl) (by kernel_rfl) (by kernel_rfl) ?_
              intro o ho hod
              refine wp_callC (f := 27) (args := #[.slice A2 t c2]) (by cases o; cases ho; kernel_rfl) (IH.out A2 c2 wr.heap.size _ _ _ (M.minor x k) _ RD.out HLM.out (by omega) (Nat.le_refl _)) ?_
              rintro e w7 ⟨rfl, hl7⟩
              refine ⟨.int .u8 ((M.det t (M.minor x k) : Nat) : Int), rfl, ?_⟩
              rw [hod]
              clear hod ho
              have L7 := Lib.hid (L1.out.drew.trans (hl7.mono hbr))
              clear hl7
              have S7 := Lib.hid (HC2.out _ L7.out)
              refine ⟨fun _ => S7.out, ?_⟩
              refine loneG 9 (.call ⟨.value (.func 15), #[(.tmp 54), (.tmp 56)], #[5, 5]⟩) (some 57) none (by kernel_rfl) (by kernel_rfl) (by kernel_rfl) ?_
              intro o ho hod
              refine wp_callC (f := 15) (args := #[.int .u8 (xk : Int), .int .u8 ((M.det t (M.minor x k) : Nat) : Int)]) (by cases o; cases ho; kernel_rfl) (refmul_any xk (M.det t (M.minor x k)) hxk (M.det_lt _ _) _) ?_
              rintro e w8 ⟨rfl, rfl⟩
              refine ⟨.int .u8 ((M.gmul xk (M.det t (M.minor x k)) : Nat) : Int), rfl, ?_⟩
              rw [hod]
              clear hod ho
              refine ⟨fun _ => S7.out, ?_⟩
              refine takeG 10 (.binOp .xor 5 (.tmp 48) (.tmp 57) 5) (some 58) none (.int .u8 ((s ^^^ M.gmul xk (M.det t (M.minor x k)) : Nat) : Int)) (by kernel_rfl) (by kernel_rfl) (by kernel_rfl) (fun _ _ _ h => h) (fun o w e hS => exec_bin (u1 := .int .u8 (s : Int)) (u2 := .int .u8 ((M.gmul xk (M.det t (M.minor x k)) : Nat) : Int)) w e (by kernel_rfl) (by kernel_rfl) (eqG_int ..) (D.xor_u8 _ s _ hsl (M.gmul_lt _ _))) S7.out ?_
              refine lastS 11 (.assign (.tmp 58)) (some 3) (.int .u8 ((s ^^^ M.gmul xk (M.det t (M.minor x k)) : Nat) : Int)) (by kernel_rfl) (by kernel_rfl) (by kernel_rfl) S7.out (fun o e => exec_assign _ e (by kernel_rfl)) ?_
              simp only [put_some, put_none, List.setIfInBounds_toArray, List.set_cons_succ, List.set_cons_zero]
              have L8 := Lib.hid (L0.out.trans (L7.out.mono hwB))
              clear HS S7 C1 L1 RD HLM L7
              go_wp2_with fail
              go_roundw
              case rel => exact ⟨k + 1, by omega, by go_num, by rw [HSU.out], L8⟩
              case measure => simp [intOf]; omega
      · obtain rfl : k = N := by omega
        clear hlt hk HSU hN1 hN2
        go_wp2_with fail
        go_ret
        exact ⟨by rw [HS0.out]; rfl, L0.out⟩
end det
end Go.Proofs.Ytoabhbmhjelplaa
