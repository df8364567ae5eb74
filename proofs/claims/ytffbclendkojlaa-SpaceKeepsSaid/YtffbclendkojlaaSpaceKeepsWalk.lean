/-
  The walk of 'SpaceKeeps': what is kept back can't be taken; a copy goes its own way.
-/
import Derived.Test.YtffbclendkojlaaSpcTwo
namespace Go.Proofs.Ytffbclendkojlaa
open Go Go.RowKit
set_option maxRecDepth 100000
set_option linter.unusedVariables false
namespace spaceKeeps
open Sp
/-- C cells, K of them kept back -/
def sK (C K : Nat) : SS := { allFree C with kept := K }
theorem cntK (C K : Nat) : cnt ((sK C K).S 0) = C := by show C - 0 + 0 = C; omega
theorem rowK (C K j : Nat) (h : j ≤ C) : rowL j ((sK C K).S 0) = some 0 := by
  show (if j ≤ C - 0 then some 0 else none) = some 0
  rw [if_pos (by omega)]
theorem res1 (C K : Nat) (h : K ≤ C) : resS (allFree C) (K : Int) = (0, sK C K) := by
  have h0 : cnt ((allFree C).S 0) = C := cntK C 0
  have h1 : (allFree C).kept = 0 := rfl
  unfold resS
  rw [h0, h1, if_neg (by omega), if_neg (by omega)]
  congr 2
  omega
theorem res2 (C K : Nat) (h : K ≤ C) : resS (sK C K) ((C : Int) - (K : Int) + 1) = (5, sK C K) := by
  have h1 : (sK C K).kept = K := rfl
  unfold resS
  rw [cntK, h1, if_neg (by omega), if_pos (by omega)]
theorem res3 (C K : Nat) : resS (sK C K) (-(K : Int) - 1) = (1, sK C K) := by
  have h1 : (sK C K).kept = K := rfl
  unfold resS
  rw [h1, if_pos (by omega)]
theorem res4 (C K : Nat) : resS (sK C K) (-(K : Int)) = (0, sK C 0) := by
  have h1 : (sK C K).kept = K := rfl
  unfold resS
  rw [cntK, h1, if_neg (by omega), if_neg (by omega)]
  congr 2
  omega
theorem take1 (C K j : Nat) (hj : 1 ≤ j) (h : j ≤ C - K) : takeS (sK C K) (j : Int) = ((0, 0), (sK C K).mv 0 1 0 (0 + j)) := by
  have h1 : (sK C K).kept = K := rfl
  unfold takeS
  rw [if_neg (by omega), Int.toNat_natCast, rowK C K j (by omega), cntK, h1]
  dsimp only
  rw [if_pos (by omega)]
  rfl
theorem take2 (C K j : Nat) (hj : 1 ≤ j) (hC : j ≤ C) (h : ¬ j ≤ C - K) : takeS (sK C K) (j : Int) = ((0, 5), sK C K) := by
  have h1 : (sK C K).kept = K := rfl
  unfold takeS
  rw [if_neg (by omega), Int.toNat_natCast, rowK C K j hC, cntK, h1]
  dsimp only
  rw [if_neg (by omega)]
theorem cnt_all (C : Nat) (h : 1 ≤ C) : cnt (((sK C 0).mv 0 1 0 (0 + C)).S 0) = 0 := by
  have hh : hasL 0 (0 + C) ((sK C 0).S 0) = true := by
    have hp : pos (0 + C) ([(0, C)] : List Rg) = 0 := if_pos (by dsimp only; omega)
    show (match ([(0, C)] : List Rg)[pos (0 + C) [(0, C)]]? with | some r => decide (r.1 ≤ 0) | none => false) = true
    rw [hp]
    rfl
  have hris : Ris 0 ((sK C 0).S 0) := ⟨Nat.le_refl _, h, trivial⟩
  have := (Ris.out_ (show 0 < 0 + C by omega) hris hh).2.2
  rw [cntK] at this
  show cnt (outL 0 (0 + C) ((sK C 0).S 0)) = 0
  omega
set_option maxHeartbeats 6400000 in
theorem walk (a0 a1 a2 : Int) (w : World) (h0 : (Lit.int .i64 a0).wf = true) (h1 : (Lit.int .i64 a1).wf = true) (h2 : (Lit.int .i64 a2).wf = true) :
    Calls Try.prog 9 #[.int .i64 a0, .int .i64 a1, .int .i64 a2] w fun e w' => e = .returned (.bool true) ∧ Below w.heap.size w w' := by
  clear h0 h1 h2
  go_enter Try.func9, Try.ntmps9
  go_wp2_with fail
  refine (known_any _).mono ?_
  rintro e w1 ⟨rfl, b1⟩
  have L1 := Lib.hid b1
  clear b1
  obtain ⟨n0, hn0, hn0b⟩ := umodN a0 200 (by omega) (by omega)
  obtain ⟨C, hC⟩ : ∃ C, C = 1 + n0 := ⟨_, rfl⟩
  have hC1 : 1 ≤ C := by omega
  have hC2 : C ≤ 200 := by omega
  have hq0 : wrap64 (1 + wrap64 ((IntKind.u64.wrap a0).tmod 200)) = (C : Int) := by
    rw [show (200 : Int) = ((200 : Nat) : Int) from rfl, hn0]
    unfold wrap64
    omega
  clear hn0 hC hn0b
  go_upto_region 4 with (fail)
  rw [hq0]
  clear hq0
  obtain ⟨K, hK, hKb⟩ := umodN a1 (C + 1) (by omega) (by omega)
  obtain ⟨m0, hm0, hm0b⟩ := umodN a2 C (by omega) (by omega)
  obtain ⟨N, hN⟩ : ∃ N, N = 1 + m0 := ⟨_, rfl⟩
  have hN1 : 1 ≤ N := by omega
  have hN2 : N ≤ C := by omega
  have hKC : K ≤ C := by omega
  have hs5 : IntKind.i64.wrap (1 + (m0 : Int)) = (N : Int) := by rw [IntWalk.i64_in _ (by omega)]; omega
  clear hm0b hKb hN
  have hs1 : IntKind.i64.wrap ((C : Int) + 1) = (C : Int) + 1 := IntWalk.i64_in _ (by omega)
  have hs2 : IntKind.u64.wrap ((C : Int) + 1) = (C : Int) + 1 := by rw [IntKind.wrap_u64]; omega
  have hs3 : IntKind.u64.wrap (C : Int) = (C : Int) := by rw [IntKind.wrap_u64]; omega
  have hz1 : ((C : Int) + 1 == 0) = false := by simp; omega
  have hz2 : ((C : Int) == 0) = false := by simp; omega
  have hz3 : ¬ ((C : Int) + 1 = 0) := by omega
  have hz4 : ¬ ((C : Int) = 0) := by omega
  have hz5 : ¬ (C = 0) := by omega
  have hz6 : (C == 0) = false := by simp; omega
  have hK1 : IntKind.i64.wrap ((IntKind.u64.wrap a1).tmod ((C : Int) + 1)) = (K : Int) := by
    rw [← hK, IntWalk.i64_left]; rfl
  have hm1 : IntKind.i64.wrap ((IntKind.u64.wrap a2).tmod (C : Int)) = (m0 : Int) := by
    rw [← hm0, IntWalk.i64_left]
  clear hK hm0
  go_quiet (fail)
  clear hs5 hs1 hs2 hs3 hz1 hz2 hz3 hz4 hz5 hz6 hK1 hm1
  have LW : Hid (Below w.heap.size w (w1.drewN nq)) := Lib.hid (below_drewN L1.out nq)
  clear L1
  generalize w1.drewN nq = W at LW ⊢
  go_wp2_with fail
  refine (newnil_at W C hC1 (by omega)).mono ?_
  rintro e w2 ⟨b, m, rfl, s2, b2⟩
  obtain ⟨B, hB⟩ : ∃ B, B = W.heap.size := ⟨_, rfl⟩
  rw [← hB] at s2 b2
  have HB : Hid (w.heap.size ≤ B) := Lib.hid (by rw [hB]; exact LW.out.size)
  have S2 := Lib.hid s2
  have L2 := Lib.hid (LW.out.trans (b2.mono HB.out))
  clear s2 b2 hB
  go_wp2_with fail
  refine (res_at S2.out (K : Int) (by omega) (by omega)).mono ?_
  rw [res1 C K hKC]
  rintro e w3 ⟨rfl, s3, b3⟩
  have S3 := Lib.hid s3
  have L3 := Lib.hid (L2.out.trans (b3.mono HB.out))
  clear s3 b3 S2 L2
  go_wp2_with fail
  refine (free_at S3.out).mono ?_
  rw [cntK, show (sK C K).kept = K from rfl]
  rintro e w4 ⟨rfl, s4, b4⟩
  have S4 := Lib.hid s4
  have L4 := Lib.hid (L3.out.trans (b4.mono L3.out.size))
  clear s4 b4 S3 L3
  go_wp2_with fail
  refine (res_at S4.out ((C : Int) - (K : Int) + 1) (by omega) (by omega)).mono ?_
  rw [res2 C K hKC]
  rintro e w5 ⟨rfl, s5, b5⟩
  have S5 := Lib.hid s5
  have L5 := Lib.hid (L4.out.trans (b5.mono HB.out))
  clear s5 b5 S4 L4
  go_wp2_with fail
  refine (res_at S5.out (-(K : Int) - 1) (by omega) (by omega)).mono ?_
  rw [res3 C K]
  rintro e w6 ⟨rfl, s6, b6⟩
  have S6 := Lib.hid s6
  have L6 := Lib.hid (L5.out.trans (b6.mono HB.out))
  clear s6 b6 S5 L5
  go_wp2_with fail
  refine (dup_at S6.out).mono ?_
  rintro e w7 ⟨b', m', rfl, t7, s7, b7⟩
  obtain ⟨B2, hB2⟩ : ∃ B2, B2 = w6.heap.size := ⟨_, rfl⟩
  rw [← hB2] at t7 b7
  have HB2 : Hid (w.heap.size ≤ B2 ∧ B ≤ B2) := Lib.hid (by rw [hB2]; exact ⟨L6.out.size, S6.out.1⟩)
  have T7 := Lib.hid t7
  have L7 := Lib.hid (L6.out.trans (b7.mono HB2.out.1))
  have K7 : Hid (∀ w', Below B2 w7 w' → SpO (fun g => B ≤ g ∧ g < B2) w' b m (sK C K)) := Lib.hid fun w' hb => by
    have hb7 : Below B2 w6 w' := b7.trans hb
    have h6 := S6.out.o
    rw [← hB2] at h6
    exact h6.keep hb7.size fun g hg => hb7.block g hg.2
  clear s7 b7 t7 S6 L6 hB2
  go_wp2_with fail
  have HT := Lib.hid (take_at T7.out (N : Int) (by omega))
  by_cases hfit : N ≤ C - K
  · have ef : (N : Int) ≤ (C : Int) - (K : Int) := by omega
    rw [take1 C K N hN1 hfit] at HT
    refine HT.out.mono ?_
    rintro e w8 ⟨rfl, t8, b8⟩
    obtain ⟨s', hs'⟩ : ∃ s', s' = (sK C K).mv 0 1 0 (0 + N) := ⟨_, rfl⟩
    rw [← hs'] at t8
    clear hs'
    obtain ⟨z8, hz8⟩ : ∃ z8, z8 = w8.heap.size := ⟨_, rfl⟩
    have T8 : Hid (SpO (fun g => B2 ≤ g ∧ g < z8) w8 b' m' s') := Lib.hid (by rw [hz8]; exact t8.o)
    have Z8 : Hid (B2 ≤ z8 ∧ z8 ≤ w8.heap.size) := Lib.hid ⟨by rw [hz8]; exact t8.1, by rw [hz8]; exact Nat.le_refl _⟩
    have S8 := Lib.hid (K7.out w8 b8)
    have L8 := Lib.hid (L7.out.trans (b8.mono HB2.out.1))
    clear t8 b8 HT K7 T7 L7 hfit hz8
    go_wp2_with fail
    refine (free_at (S8.out.a (B := B) (fun g hg => hg.1) (Nat.le_trans HB2.out.2 (Nat.le_trans Z8.out.1 Z8.out.2)))).mono ?_
    rw [cntK, show (sK C K).kept = K from rfl]
    rintro e w9 ⟨rfl, _, b9⟩
    have S9 := Lib.hid (S8.out.keep b9.size fun g hg => b9.block g (S8.out.1 g hg))
    have T9 := Lib.hid (T8.out.keep b9.size fun g hg => b9.block g (T8.out.1 g hg))
    have L9 := Lib.hid (L8.out.trans (b9.mono L8.out.size))
    have Z9 : Hid (B2 ≤ z8 ∧ z8 ≤ w9.heap.size) := Lib.hid ⟨Z8.out.1, Nat.le_trans Z8.out.2 b9.size⟩
    clear b9 T8 S8 L8 Z8
    go_wp2_with fail
    refine (used_at (S9.out.a (B := B) (fun g hg => hg.1) (Nat.le_trans HB2.out.2 (Nat.le_trans Z9.out.1 Z9.out.2)))).mono ?_
    rintro e w10 ⟨v', rfl, o10, _, b10⟩
    obtain ⟨A', c', rfl, _, _, _, _⟩ := o10.shape
    rw [show ((sK C K).S 1).length = 0 from rfl]
    have S10 := Lib.hid (S9.out.keep b10.size fun g hg => b10.block g (S9.out.1 g hg))
    have T10 := Lib.hid (T9.out.keep b10.size fun g hg => b10.block g (T9.out.1 g hg))
    have L10 := Lib.hid (L9.out.trans (b10.mono L9.out.size))
    have Z10 : Hid (B2 ≤ z8 ∧ z8 ≤ w10.heap.size) := Lib.hid ⟨Z9.out.1, Nat.le_trans Z9.out.2 b10.size⟩
    clear b10 o10 S9 T9 L9 Z9
    go_wp2_with fail
    refine (res_o S10.out (-(K : Int)) (by omega) (by omega)).mono ?_
    rw [res4 C K]
    rintro e w11 ⟨rfl, s11, f11⟩
    have T11 := Lib.hid (T10.out.beside f11 (fun g h1 h2 => by have := h1.1; have := h2.2; omega))
    have b11 := f11.below (B := w.heap.size) (fun g hg => by have := hg.1; have := HB.out; omega) L10.out.size
    have L11 := Lib.hid (L10.out.trans b11)
    have S11 := Lib.hid s11
    have Z11 : Hid (B2 ≤ z8 ∧ z8 ≤ w10.heap.size ∧ w10.heap.size ≤ w11.heap.size) := Lib.hid ⟨Z10.out.1, Z10.out.2, f11.size⟩
    clear s11 f11 b11 S10 T10 L10 Z10
    go_wp2_with fail
    refine (take_o S11.out (C : Int) (by omega)).mono ?_
    rw [take1 C 0 C hC1 (by omega)]
    rintro e w12 ⟨rfl, s12, f12⟩
    have T12 := Lib.hid (T11.out.beside f12 (fun g h1 h2 => by
      have := Z11.out
      rcases h2 with h2 | h2 <;> omega))
    have b12 := f12.below (B := w.heap.size) (fun g hg => by
      have := HB.out; have := HB2.out; have := Z11.out
      rcases hg with hg | hg <;> omega) L11.out.size
    have L12 := Lib.hid (L11.out.trans b12)
    have Z12 : Hid (B2 ≤ w12.heap.size) := Lib.hid (by have := Z11.out; have := f12.size; omega)
    have S12 : Hid (SpA B w12 b m ((sK C 0).mv 0 1 0 (0 + C))) := Lib.hid (s12.a (B := B) (fun g hg => by
      have := HB2.out; have := Z11.out
      rcases hg with (hg | hg) | hg <;> omega) (Nat.le_trans HB2.out.2 Z12.out))
    clear s12 f12 b12 S11 T11 L11 Z11
    go_wp2_with fail
    refine (free_at S12.out).mono ?_
    rw [cnt_all C hC1, show ((sK C 0).mv 0 1 0 (0 + C)).kept = 0 from rfl]
    rintro e w13 ⟨rfl, _, b13⟩
    have T13 : Hid (SpA B2 w13 b' m' s') := Lib.hid ((T12.out.a (B := B2) (fun g hg => hg.1) Z12.out).keep b13)
    have L13 := Lib.hid (L12.out.trans (b13.mono L12.out.size))
    clear b13 S12 T12 L12
    go_wp2_with fail
    refine (dup_at T13.out).mono ?_
    rintro e w14 ⟨b3, m3, rfl, t14, s14, b14⟩
    have S14 := Lib.hid s14
    have T14 := Lib.hid t14
    have L14 := Lib.hid (L13.out.trans (b14.mono L13.out.size))
    clear s14 t14 b14 T13 L13
    obtain ⟨fr, hfr⟩ : ∃ fr : Int, fr = (cnt (s'.S 0) : Int) - (s'.kept : Int) := ⟨_, rfl⟩
    go_wp2_with fail
    refine (free_at T14.out).mono ?_
    rw [← hfr]
    rintro e w15 ⟨rfl, _, b15⟩
    have S15 := Lib.hid (S14.out.keep b15)
    have L15 := Lib.hid (L14.out.trans (b15.mono L14.out.size))
    clear b15 S14 T14 L14
    have HFR := Lib.hid hfr
    clear hfr
    go_wp2_with fail
    refine (free_at S15.out).mono ?_
    rw [← HFR.out]
    rintro e w16 ⟨rfl, _, b16⟩
    have L16 := Lib.hid (L15.out.trans (b16.mono L15.out.size))
    clear b16 S15 L15
    go_wp2_with fail
    go_ret
    exact ⟨rfl, L16.out⟩
  · have ef : ¬ ((N : Int) ≤ (C : Int) - (K : Int)) := by omega
    rw [take2 C K N hN1 hN2 hfit] at HT
    refine HT.out.mono ?_
    rintro e w8 ⟨rfl, t8, b8⟩
    obtain ⟨s', hs'⟩ : ∃ s', s' = sK C K := ⟨_, rfl⟩
    rw [← hs'] at t8
    clear hs'
    obtain ⟨z8, hz8⟩ : ∃ z8, z8 = w8.heap.size := ⟨_, rfl⟩
    have T8 : Hid (SpO (fun g => B2 ≤ g ∧ g < z8) w8 b' m' s') := Lib.hid (by rw [hz8]; exact t8.o)
    have Z8 : Hid (B2 ≤ z8 ∧ z8 ≤ w8.heap.size) := Lib.hid ⟨by rw [hz8]; exact t8.1, by rw [hz8]; exact Nat.le_refl _⟩
    have S8 := Lib.hid (K7.out w8 b8)
    have L8 := Lib.hid (L7.out.trans (b8.mono HB2.out.1))
    clear t8 b8 HT K7 T7 L7 hfit hz8
    go_wp2_with fail
    refine (free_at (S8.out.a (B := B) (fun g hg => hg.1) (Nat.le_trans HB2.out.2 (Nat.le_trans Z8.out.1 Z8.out.2)))).mono ?_
    rw [cntK, show (sK C K).kept = K from rfl]
    rintro e w9 ⟨rfl, _, b9⟩
    have S9 := Lib.hid (S8.out.keep b9.size fun g hg => b9.block g (S8.out.1 g hg))
    have T9 := Lib.hid (T8.out.keep b9.size fun g hg => b9.block g (T8.out.1 g hg))
    have L9 := Lib.hid (L8.out.trans (b9.mono L8.out.size))
    have Z9 : Hid (B2 ≤ z8 ∧ z8 ≤ w9.heap.size) := Lib.hid ⟨Z8.out.1, Nat.le_trans Z8.out.2 b9.size⟩
    clear b9 T8 S8 L8 Z8
    go_wp2_with fail
    refine (used_at (S9.out.a (B := B) (fun g hg => hg.1) (Nat.le_trans HB2.out.2 (Nat.le_trans Z9.out.1 Z9.out.2)))).mono ?_
    rintro e w10 ⟨v', rfl, o10, _, b10⟩
    obtain ⟨A', c', rfl, _, _, _, _⟩ := o10.shape
    rw [show ((sK C K).S 1).length = 0 from rfl]
    have S10 := Lib.hid (S9.out.keep b10.size fun g hg => b10.block g (S9.out.1 g hg))
    have T10 := Lib.hid (T9.out.keep b10.size fun g hg => b10.block g (T9.out.1 g hg))
    have L10 := Lib.hid (L9.out.trans (b10.mono L9.out.size))
    have Z10 : Hid (B2 ≤ z8 ∧ z8 ≤ w10.heap.size) := Lib.hid ⟨Z9.out.1, Nat.le_trans Z9.out.2 b10.size⟩
    clear b10 o10 S9 T9 L9 Z9
    go_wp2_with fail
    refine (res_o S10.out (-(K : Int)) (by omega) (by omega)).mono ?_
    rw [res4 C K]
    rintro e w11 ⟨rfl, s11, f11⟩
    have T11 := Lib.hid (T10.out.beside f11 (fun g h1 h2 => by have := h1.1; have := h2.2; omega))
    have b11 := f11.below (B := w.heap.size) (fun g hg => by have := hg.1; have := HB.out; omega) L10.out.size
    have L11 := Lib.hid (L10.out.trans b11)
    have S11 := Lib.hid s11
    have Z11 : Hid (B2 ≤ z8 ∧ z8 ≤ w10.heap.size ∧ w10.heap.size ≤ w11.heap.size) := Lib.hid ⟨Z10.out.1, Z10.out.2, f11.size⟩
    clear s11 f11 b11 S10 T10 L10 Z10
    go_wp2_with fail
    refine (take_o S11.out (C : Int) (by omega)).mono ?_
    rw [take1 C 0 C hC1 (by omega)]
    rintro e w12 ⟨rfl, s12, f12⟩
    have T12 := Lib.hid (T11.out.beside f12 (fun g h1 h2 => by
      have := Z11.out
      rcases h2 with h2 | h2 <;> omega))
    have b12 := f12.below (B := w.heap.size) (fun g hg => by
      have := HB.out; have := HB2.out; have := Z11.out
      rcases hg with hg | hg <;> omega) L11.out.size
    have L12 := Lib.hid (L11.out.trans b12)
    have Z12 : Hid (B2 ≤ w12.heap.size) := Lib.hid (by have := Z11.out; have := f12.size; omega)
    have S12 : Hid (SpA B w12 b m ((sK C 0).mv 0 1 0 (0 + C))) := Lib.hid (s12.a (B := B) (fun g hg => by
      have := HB2.out; have := Z11.out
      rcases hg with (hg | hg) | hg <;> omega) (Nat.le_trans HB2.out.2 Z12.out))
    clear s12 f12 b12 S11 T11 L11 Z11
    go_wp2_with fail
    refine (free_at S12.out).mono ?_
    rw [cnt_all C hC1, show ((sK C 0).mv 0 1 0 (0 + C)).kept = 0 from rfl]
    rintro e w13 ⟨rfl, _, b13⟩
    have T13 : Hid (SpA B2 w13 b' m' s') := Lib.hid ((T12.out.a (B := B2) (fun g hg => hg.1) Z12.out).keep b13)
    have L13 := Lib.hid (L12.out.trans (b13.mono L12.out.size))
    clear b13 S12 T12 L12
    go_wp2_with fail
    refine (dup_at T13.out).mono ?_
    rintro e w14 ⟨b3, m3, rfl, t14, s14, b14⟩
    have S14 := Lib.hid s14
    have T14 := Lib.hid t14
    have L14 := Lib.hid (L13.out.trans (b14.mono L13.out.size))
    clear s14 t14 b14 T13 L13
    obtain ⟨fr, hfr⟩ : ∃ fr : Int, fr = (cnt (s'.S 0) : Int) - (s'.kept : Int) := ⟨_, rfl⟩
    go_wp2_with fail
    refine (free_at T14.out).mono ?_
    rw [← hfr]
    rintro e w15 ⟨rfl, _, b15⟩
    have S15 := Lib.hid (S14.out.keep b15)
    have L15 := Lib.hid (L14.out.trans (b15.mono L14.out.size))
    clear b15 S14 T14 L14
    have HFR := Lib.hid hfr
    clear hfr
    go_wp2_with fail
    refine (free_at S15.out).mono ?_
    rw [← HFR.out]
    rintro e w16 ⟨rfl, _, b16⟩
    have L16 := Lib.hid (L15.out.trans (b16.mono L15.out.size))
    clear b16 S15 L15
    go_wp2_with fail
    go_ret
    exact ⟨rfl, L16.out⟩
end spaceKeeps
end Go.Proofs.Ytffbclendkojlaa
