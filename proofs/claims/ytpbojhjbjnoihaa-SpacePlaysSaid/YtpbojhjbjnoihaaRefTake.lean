/-
  The document's Take of a space, told by what it keeps. Numbers of 64 bits.
-/
import Derived.Test.YtpbojhjbjnoihaaRefCalls
namespace Go.Proofs.Ytpbojhjbjnoihaa
open Go Go.RowKit
set_option maxRecDepth 100000
set_option linter.unusedVariables false
namespace Rf
open Sp
theorem rowL_big {n a : Nat} : ∀ {l : List Rg}, rowL n l = some a → n ≤ cnt l
  | [], h => by cases h
  | r :: l, h => by
    unfold rowL at h
    show n ≤ (r.2 - r.1) + cnt l
    by_cases hx : n ≤ r.2 - r.1
    · omega
    · rw [if_neg hx] at h
      have := rowL_big h
      omega
theorem take_ref_arg (w : World) (b : Nat) (j : Int) (hj : j < 1) : Calls Try.prog 16 #[.pointer (some ⟨b, 0, none⟩), .int .i64 j] w fun e w' => e = .returned (.tuple #[.int .i64 0, .int .i64 1]) ∧ Below w.heap.size w w' := by
  go_enter Try.func16, Try.ntmps16
  go_wp2_with fail
  go_ret2
  exact ⟨rfl, Below.refl _ _⟩
theorem ge_is (a b : Int) (r : Bool) (h : decide (b ≤ a) = r) (W : World) : (binOp .geq 3 (.int .i64 a) (.int .i64 b)).run Try.prog W = .ok (.bool r) W := by rw [← h]; rfl
def TkPost (w : World) (O : Nat → Prop) (b : Nat) (r : (Int × Int) × SS) (e : Ending) (w' : World) : Prop := e = .returned (.tuple #[.int .i64 r.1.1, .int .i64 r.1.2]) ∧ RefS w' O b r.2 ∧ Frm O w w'
set_option maxHeartbeats 6400000 in
theorem take_ref (w : World) (O : Nat → Prop) (b : Nat) (s : SS) (hOlt : ∀ q, O q → q < w.heap.size) (h : RefS w O b s) (j : Nat) (hj : 1 ≤ j) (hj2 : (j : Int) ≤ 9223372036854775807) (R : (Int × Int) × SS)
    (hR : R = match rowL j (s.S 0) with | none => ((0, 5), s) | some x => if j + s.kept ≤ cnt (s.S 0) then (((x : Int), 0), s.mv 0 1 x (x + j)) else ((0, 5), s)) :
    Calls Try.prog 16 #[.pointer (some ⟨b, 0, none⟩), .int .i64 (j : Int)] w fun e w' => TkPost w O b R e w' := by
  have HOL := Lib.hid hOlt
  have HF := Lib.hid (free_rs h)
  have HRS := Lib.hid h
  have hg := h.1
  have hj1 : ¬ ((j : Int) < 1) := by omega
  obtain ⟨K, hK⟩ : ∃ K, K = s.kept := ⟨_, rfl⟩
  obtain ⟨n0, hn0⟩ : ∃ n0, n0 = cnt (s.S 0) := ⟨_, rfl⟩
  have hn0b : n0 ≤ 100000 := by
    obtain ⟨h0, f, h1, h2⟩ := h
    have := num_of h2 h0 (k := 0) (by omega)
    have h3 := numB_le (fun c => f c == ((0 : Nat) : Int)) s.cells
    have := h0.hc.2
    omega
  have hKb : K ≤ 1000000 := by rw [hK]; exact hg.kp
  rw [← hK, ← hn0] at HF hR
  by_cases hfree : (n0 : Int) - (K : Int) < (j : Int)
  · have hR2 : R = ((0, 5), s) := by
      rw [hR]
      split
      · rfl
      · rw [if_neg (by omega)]
    have HR := Lib.hid hR2
    clear hR hR2 h hg hK hn0 hOlt
    go_enter Try.func16, Try.ntmps16
    go_wp2_with fail
    refine HF.out.mono ?_
    rintro e w2 ⟨rfl, b2⟩
    have B2 := Lib.hid b2
    clear b2
    go_wp2_with fail
    go_ret2
    rw [HR.out]
    exact ⟨rfl, HRS.out.keep B2.out, .of B2.out O⟩
  · have hR2 : R = match rowL j (s.S 0) with | none => ((0, 5), s) | some x => (((x : Int), 0), s.mv 0 1 x (x + j)) := by
      rw [hR]
      split
      · rfl
      · rw [if_pos (by omega)]
    have HR := Lib.hid hR2
    have HRG : Hid (∀ w2, Below w.heap.size w w2 → Calls Try.prog 34 #[.pointer (some ⟨b, 0, none⟩), .int .i64 0] w2 fun e w' => ∃ v, e = .returned v ∧ OwnR w' w2.heap.size v (s.S 0) ∧ Below w2.heap.size w2 w') := Lib.hid fun w2 hb => ranges_rs (HRS.out.keep hb) 0 (by omega)
    have HST : Hid (∀ w2 (x : Nat), Below w.heap.size w w2 → rowL j (s.S 0) = some x → Calls Try.prog 35 #[.pointer (some ⟨b, 0, none⟩), .int .i64 (x : Int), .int .i64 (j : Int), .int .i64 1] w2 fun e w' => e = .returned (.tuple #[]) ∧ RefS w' O b (s.mv 0 1 x (x + j)) ∧ Frm O w2 w') := Lib.hid fun w2 x hb hx => by
      obtain ⟨h0, f, h1, h2⟩ := HRS.out.keep hb
      obtain ⟨r1, r2⟩ := row_has h0 hj hx
      refine (set_rf h1 h0.hc.2 x j r2 1).mono ?_
      rintro e w' ⟨e1, e2, e3⟩
      exact ⟨e1, ⟨h0.mv (f := 0) (t := 1) (by decide) (by decide) (by decide) (by omega) r1, _, e2, h2.mv (p := 0) (t := 1) h0 (by decide) (by decide) (by decide) (by omega) r1⟩, e3⟩
    have HEN : Hid (∀ q ∈ s.S 0, q.1 ≤ 50000 ∧ q.2 ≤ 50000 ∧ q.1 < q.2) := Lib.hid fun q hq => by
      have hl := (hg.ris 0 (by omega)).lt_ q hq
      have := hg.in_ 0 (by omega) (q.2 - 1) ⟨q, hq, by omega, by omega⟩
      have := hg.hc.2
      omega
    have hLb : (s.S 0).length ≤ 50000 := by
      have := (hg.ris 0 (by omega)).len (N := s.cells) (hg.in_ 0 (by omega))
      have := hg.hc.2
      omega
    clear hR hR2 h hg hK hn0 hOlt
    go_enter Try.func16, Try.ntmps16
    go_wp2_with fail
    refine HF.out.mono ?_
    rintro e w2 ⟨rfl, b2⟩
    have L2 := Lib.hid b2
    have HRG2 := Lib.hid (HRG.out _ L2.out)
    clear b2 HRG
    go_wp2_with fail
    refine HRG2.out.mono ?_
    rintro e w3 ⟨v, rfl, ho, b3⟩
    obtain ⟨A, c, rfl, hrd, _, _, _, hbase⟩ := ho.shape (fun _ => rfl)
    have HBS : Hid (∀ q o2 s2, A = some ⟨q, o2, s2⟩ → ¬ O q) := Lib.hid fun q o2 s2 e ho2 => by
      have h1 := (hbase q o2 s2 e).1
      have h2 := HOL.out q ho2
      have h3 := L2.out.size
      have h4 : w2.heap.size ≤ q := h1
      omega
    have L3 : Hid (Below w.heap.size w w3) := Lib.hid (L2.out.trans (b3.mono L2.out.size))
    have HRD := Lib.hid hrd
    obtain ⟨n, hn⟩ : ∃ n, n = (s.S 0).length := ⟨_, rfl⟩
    have HNL := Lib.hid hn
    rw [← hn] at hLb ⊢
    have HL0 : Hid (rowL j (s.S 0) = rowL j ((s.S 0).drop 0)) := Lib.hid rfl
    have LW : Hid (Below w3.heap.size w3 w3) := Lib.hid (Below.refl _ _)
    have HW3 : Hid (w.heap.size ≤ w3.heap.size) := Lib.hid L3.out.size
    clear b3 ho hrd hn HRG2 L2 hbase
    go_wp2_with fail
    go_loopw [7] (fun y wr => ∃ i : Nat, i ≤ n ∧ y = .int .i64 (i : Int) ∧ Hid (rowL j (s.S 0) = rowL j ((s.S 0).drop i)) ∧ Hid (Below w3.heap.size w3 wr)) (fun y _ => n - (intOf y).toNat)
    case atStart => exact ⟨0, by omega, rfl, HL0, LW⟩
    case round =>
      clear HL0 LW
      obtain ⟨i, hi, rfl, HL0, LW⟩ := hrel
      by_cases hlt : i < n
      · have i1 : (i : Int) < (n : Int) := by omega
        have hil : i < (s.S 0).length := by have := HNL.out; omega
        obtain ⟨r, hr⟩ : ∃ r, r = (s.S 0)[i] := ⟨_, rfl⟩
        have hri : (s.S 0)[i]? = some r := by rw [hr]; exact List.getElem?_eq_getElem hil
        obtain ⟨hx1, hx2, hlr⟩ := HEN.out r (List.mem_of_getElem? hri)
        have hrow : rowL j (s.S 0) = if j ≤ r.2 - r.1 then some r.1 else rowL j ((s.S 0).drop (i + 1)) := by rw [HL0.out, List.drop_eq_getElem_cons hil, ← hr]; rfl
        obtain ⟨g, o, hA, hgb, kk⟩ := (HRD.out.below LW.out) i r hri
        have k1 := kk 0 (.int .i64 (r.1 : Int)) rfl
        have k2 := kk 1 (.int .i64 (r.2 : Int)) rfl
        rw [Nat.add_zero] at k1
        obtain ⟨x, y⟩ := r
        dsimp only at hrow hx1 hx2 hlr k1 k2
        subst hA
        have HS := Lib.hid (⟨k1, k2⟩ : wr.drew.cell? ⟨g, o + i * 2, none⟩ = some (.int .i64 (x : Int)) ∧ wr.drew.cell? ⟨g, o + i * 2 + 1, none⟩ = some (.int .i64 (y : Int)))
        have hsub : ∀ W : World, (binOp .sub 3 (.int .i64 (y : Int)) (.int .i64 (x : Int))).run Try.prog W = .ok (.int .i64 ((y : Int) - (x : Int))) W := fun W => by
          rw [show binOp .sub 3 (.int .i64 (y : Int)) (.int .i64 (x : Int)) = pure (.int .i64 (IntKind.i64.wrap ((y : Int) - (x : Int)))) from rfl, IntWalk.i64_in _ (by omega)]
          rfl
        have LW1 := Lib.hid LW.out.drew
        have HK := Lib.hid (⟨k1, k2⟩ : wr.cell? ⟨g, o + i * 2, none⟩ = some (.int .i64 (x : Int)) ∧ wr.cell? ⟨g, o + i * 2 + 1, none⟩ = some (.int .i64 (y : Int)))
        clear hri hr hil kk k1 k2 HL0 LW
        by_cases hfit : j ≤ y - x
        · have ej : decide ((j : Int) ≤ (y : Int) - (x : Int)) = true := by simp; omega
          rw [if_pos hfit] at hrow
          have HROW := Lib.hid hrow
          have HBW : Hid (Below w.heap.size w wr.drew) := Lib.hid (L3.out.trans (LW1.out.mono HW3.out))
          have HSET := Lib.hid (HST.out _ x HBW.out hrow)
          clear hrow hfit HST
          go_upto_region 9 with (fail)
          refine region_anyZ (fun w' => w'.cell? ⟨g, o + i * 2, none⟩ = some (.int .i64 (x : Int)) ∧ w'.cell? ⟨g, o + i * 2 + 1, none⟩ = some (.int .i64 (y : Int))) 13 (by kernel_rfl) ?_
          refine takeG 0 (.move (.tmp 6)) (some 22) none (.slice (some ⟨g, o, none⟩) n c) (by kernel_rfl) (by kernel_rfl) (by kernel_rfl) (fun _ _ _ h => h) (fun o' wq e hS => exec_move wq e (by kernel_rfl)) HS.out ?_
          refine takeG 1 (.move (.tmp 7)) (some 23) none (.int .i64 (i : Int)) (by kernel_rfl) (by kernel_rfl) (by kernel_rfl) (fun _ _ _ h => h) (fun o' wq e hS => exec_move wq e (by kernel_rfl)) HS.out ?_
          refine takeG 2 (.indexAddr 22 (.tmp 22) (.tmp 23)) (some 24) none (.pointer (some ⟨g, o + i * 2, none⟩)) (by kernel_rfl) (by kernel_rfl) (by kernel_rfl) (fun _ _ _ h => h) (fun o' wq e hS => exec_index (u1 := .slice (some ⟨g, o, none⟩) n c) (u2 := .int .i64 (i : Int)) wq e (by kernel_rfl) (by kernel_rfl) (index_ref g o n c i hlt _)) HS.out ?_
          refine takeG 3 (.fieldAddr 33 (.tmp 24) 1) (some 25) none (.pointer (some ⟨g, o + i * 2 + 1, none⟩)) (by kernel_rfl) (by kernel_rfl) (by kernel_rfl) (fun _ _ _ h => h) (fun o' wq e hS => exec_field (u := .pointer (some ⟨g, o + i * 2, none⟩)) wq e (by kernel_rfl) (by kernel_rfl)) HS.out ?_
          refine takeG 4 (.load 3 (.tmp 25)) (some 26) none (.int .i64 (y : Int)) (by kernel_rfl) (by kernel_rfl) (by kernel_rfl) (fun _ _ _ h => h) (fun o' wq e hS => exec_load (x := (.tmp 25)) e (by kernel_rfl) (load_one Try.underlying3 (by kernel_rfl) hS.2)) HS.out ?_
          refine takeG 5 (.move (.tmp 6)) (some 27) none (.slice (some ⟨g, o, none⟩) n c) (by kernel_rfl) (by kernel_rfl) (by kernel_rfl) (fun _ _ _ h => h) (fun o' wq e hS => exec_move wq e (by kernel_rfl)) HS.out ?_
          refine takeG 6 (.move (.tmp 7)) (some 28) none (.int .i64 (i : Int)) (by kernel_rfl) (by kernel_rfl) (by kernel_rfl) (fun _ _ _ h => h) (fun o' wq e hS => exec_move wq e (by kernel_rfl)) HS.out ?_
          refine takeG 7 (.indexAddr 22 (.tmp 27) (.tmp 28)) (some 29) none (.pointer (some ⟨g, o + i * 2, none⟩)) (by kernel_rfl) (by kernel_rfl) (by kernel_rfl) (fun _ _ _ h => h) (fun o' wq e hS => exec_index (u1 := .slice (some ⟨g, o, none⟩) n c) (u2 := .int .i64 (i : Int)) wq e (by kernel_rfl) (by kernel_rfl) (index_ref g o n c i hlt _)) HS.out ?_
          refine takeG 8 (.fieldAddr 33 (.tmp 29) 0) (some 30) none (.pointer (some ⟨g, o + i * 2, none⟩)) (by kernel_rfl) (by kernel_rfl) (by kernel_rfl) (fun _ _ _ h => h) (fun o' wq e hS => exec_field (u := .pointer (some ⟨g, o + i * 2, none⟩)) wq e (by kernel_rfl) (by kernel_rfl)) HS.out ?_
          refine takeG 9 (.load 3 (.tmp 30)) (some 31) none (.int .i64 (x : Int)) (by kernel_rfl) (by kernel_rfl) (by kernel_rfl) (fun _ _ _ h => h) (fun o' wq e hS => exec_load (x := (.tmp 30)) e (by kernel_rfl) (load_one Try.underlying3 (by kernel_rfl) hS.1)) HS.out ?_
          refine takeG 10 (.binOp .sub 3 (.tmp 26) (.tmp 31) 3) (some 32) none (.int .i64 ((y : Int) - (x : Int))) (by kernel_rfl) (by kernel_rfl) (by kernel_rfl) (fun _ _ _ h => h) (fun o' wq e hS => exec_bin (u1 := .int .i64 (y : Int)) (u2 := .int .i64 (x : Int)) wq e (by kernel_rfl) (by kernel_rfl) (eqG_int ..) (hsub _)) HS.out ?_
          refine takeG 11 (.move (.tmp 1)) (some 33) none (.int .i64 (j : Int)) (by kernel_rfl) (by kernel_rfl) (by kernel_rfl) (fun _ _ _ h => h) (fun o' wq e hS => exec_move wq e (by kernel_rfl)) HS.out ?_
          refine lastS 12 (.binOp .geq 3 (.tmp 32) (.tmp 33) 3) (some 34) (.bool true) (by kernel_rfl) (by kernel_rfl) (by kernel_rfl) HS.out (fun o' e => exec_bin (u1 := .int .i64 ((y : Int) - (x : Int))) (u2 := .int .i64 (j : Int)) _ e (by kernel_rfl) (by kernel_rfl) (eqG_int ..) (ge_is ((y : Int) - (x : Int)) (j : Int) _ ej _)) ?_
          simp only [put_some, put_none, List.setIfInBounds_toArray, List.set_cons_succ, List.set_cons_zero]
          have q1 := HK.out.1
          clear HS hsub
          go_wp2_with fail
          refine HSET.out.mono ?_
          rintro e w5 ⟨rfl, r5, b5⟩
          have R5 := Lib.hid (⟨r5, b5⟩ : _ ∧ _)
          have q5 : w5.cell? ⟨g, o + i * 2, none⟩ = some (.int .i64 (x : Int)) := by
            have h6 := b5.block g hgb (HBS.out g o none rfl)
            unfold World.cell? at q1 ⊢
            rw [h6]
            exact q1
          clear r5 b5 q1
          go_wp2_with fail
          go_ret2
          rw [HR.out, HROW.out]
          exact ⟨rfl, R5.out.1, (Frm.of HBW.out O).trans R5.out.2⟩
        · have ej : decide ((j : Int) ≤ (y : Int) - (x : Int)) = false := by simp; omega
          rw [if_neg hfit] at hrow
          have HL2 : Hid (rowL j (s.S 0) = rowL j ((s.S 0).drop (i + 1))) := Lib.hid hrow
          clear hrow hfit HST
          go_upto_region 9 with (fail)
          refine region_anyZ (fun w' => w'.cell? ⟨g, o + i * 2, none⟩ = some (.int .i64 (x : Int)) ∧ w'.cell? ⟨g, o + i * 2 + 1, none⟩ = some (.int .i64 (y : Int))) 13 (by kernel_rfl) ?_
          refine takeG 0 (.move (.tmp 6)) (some 22) none (.slice (some ⟨g, o, none⟩) n c) (by kernel_rfl) (by kernel_rfl) (by kernel_rfl) (fun _ _ _ h => h) (fun o' wq e hS => exec_move wq e (by kernel_rfl)) HS.out ?_
          refine takeG 1 (.move (.tmp 7)) (some 23) none (.int .i64 (i : Int)) (by kernel_rfl) (by kernel_rfl) (by kernel_rfl) (fun _ _ _ h => h) (fun o' wq e hS => exec_move wq e (by kernel_rfl)) HS.out ?_
          refine takeG 2 (.indexAddr 22 (.tmp 22) (.tmp 23)) (some 24) none (.pointer (some ⟨g, o + i * 2, none⟩)) (by kernel_rfl) (by kernel_rfl) (by kernel_rfl) (fun _ _ _ h => h) (fun o' wq e hS => exec_index (u1 := .slice (some ⟨g, o, none⟩) n c) (u2 := .int .i64 (i : Int)) wq e (by kernel_rfl) (by kernel_rfl) (index_ref g o n c i hlt _)) HS.out ?_
          refine takeG 3 (.fieldAddr 33 (.tmp 24) 1) (some 25) none (.pointer (some ⟨g, o + i * 2 + 1, none⟩)) (by kernel_rfl) (by kernel_rfl) (by kernel_rfl) (fun _ _ _ h => h) (fun o' wq e hS => exec_field (u := .pointer (some ⟨g, o + i * 2, none⟩)) wq e (by kernel_rfl) (by kernel_rfl)) HS.out ?_
          refine takeG 4 (.load 3 (.tmp 25)) (some 26) none (.int .i64 (y : Int)) (by kernel_rfl) (by kernel_rfl) (by kernel_rfl) (fun _ _ _ h => h) (fun o' wq e hS => exec_load (x := (.tmp 25)) e (by kernel_rfl) (load_one Try.underlying3 (by kernel_rfl) hS.2)) HS.out ?_
          refine takeG 5 (.move (.tmp 6)) (some 27) none (.slice (some ⟨g, o, none⟩) n c) (by kernel_rfl) (by kernel_rfl) (by kernel_rfl) (fun _ _ _ h => h) (fun o' wq e hS => exec_move wq e (by kernel_rfl)) HS.out ?_
          refine takeG 6 (.move (.tmp 7)) (some 28) none (.int .i64 (i : Int)) (by kernel_rfl) (by kernel_rfl) (by kernel_rfl) (fun _ _ _ h => h) (fun o' wq e hS => exec_move wq e (by kernel_rfl)) HS.out ?_
          refine takeG 7 (.indexAddr 22 (.tmp 27) (.tmp 28)) (some 29) none (.pointer (some ⟨g, o + i * 2, none⟩)) (by kernel_rfl) (by kernel_rfl) (by kernel_rfl) (fun _ _ _ h => h) (fun o' wq e hS => exec_index (u1 := .slice (some ⟨g, o, none⟩) n c) (u2 := .int .i64 (i : Int)) wq e (by kernel_rfl) (by kernel_rfl) (index_ref g o n c i hlt _)) HS.out ?_
          refine takeG 8 (.fieldAddr 33 (.tmp 29) 0) (some 30) none (.pointer (some ⟨g, o + i * 2, none⟩)) (by kernel_rfl) (by kernel_rfl) (by kernel_rfl) (fun _ _ _ h => h) (fun o' wq e hS => exec_field (u := .pointer (some ⟨g, o + i * 2, none⟩)) wq e (by kernel_rfl) (by kernel_rfl)) HS.out ?_
          refine takeG 9 (.load 3 (.tmp 30)) (some 31) none (.int .i64 (x : Int)) (by kernel_rfl) (by kernel_rfl) (by kernel_rfl) (fun _ _ _ h => h) (fun o' wq e hS => exec_load (x := (.tmp 30)) e (by kernel_rfl) (load_one Try.underlying3 (by kernel_rfl) hS.1)) HS.out ?_
          refine takeG 10 (.binOp .sub 3 (.tmp 26) (.tmp 31) 3) (some 32) none (.int .i64 ((y : Int) - (x : Int))) (by kernel_rfl) (by kernel_rfl) (by kernel_rfl) (fun _ _ _ h => h) (fun o' wq e hS => exec_bin (u1 := .int .i64 (y : Int)) (u2 := .int .i64 (x : Int)) wq e (by kernel_rfl) (by kernel_rfl) (eqG_int ..) (hsub _)) HS.out ?_
          refine takeG 11 (.move (.tmp 1)) (some 33) none (.int .i64 (j : Int)) (by kernel_rfl) (by kernel_rfl) (by kernel_rfl) (fun _ _ _ h => h) (fun o' wq e hS => exec_move wq e (by kernel_rfl)) HS.out ?_
          refine lastS 12 (.binOp .geq 3 (.tmp 32) (.tmp 33) 3) (some 34) (.bool false) (by kernel_rfl) (by kernel_rfl) (by kernel_rfl) HS.out (fun o' e => exec_bin (u1 := .int .i64 ((y : Int) - (x : Int))) (u2 := .int .i64 (j : Int)) _ e (by kernel_rfl) (by kernel_rfl) (eqG_int ..) (ge_is ((y : Int) - (x : Int)) (j : Int) _ ej _)) ?_
          simp only [put_some, put_none, List.setIfInBounds_toArray, List.set_cons_succ, List.set_cons_zero]
          clear HS hsub
          go_wp2_with fail
          go_roundw
          case rel => exact ⟨i + 1, by omega, by go_num, HL2, LW1⟩
          case measure => simp [intOf]; omega
      · have i1 : ¬ ((i : Int) < (n : Int)) := by omega
        have hrow : rowL j (s.S 0) = none := by
          rw [HL0.out, List.drop_eq_nil_of_le (by have := HNL.out; omega)]
          rfl
        have HROW := Lib.hid hrow
        clear hrow
        go_wp2_with fail
        go_ret2
        rw [HR.out, HROW.out]
        exact ⟨rfl, HRS.out.keep (L3.out.trans (LW.out.mono HW3.out)), .of (L3.out.trans (LW.out.mono HW3.out)) O⟩
theorem RefS.narrow {w : World} {O : Nat → Prop} {b : Nat} {s : SS} (h : RefS w O b s) : RefS w (fun q => O q ∧ q < w.heap.size) b s := by
  obtain ⟨h0, f, ⟨g, c, cs, h1, h2, h3, h4, h5⟩, h6⟩ := h
  exact ⟨h0, f, ⟨g, c, cs, h1, h2, h3, ⟨h4, h1.lt⟩, ⟨h5, h2.lt⟩⟩, h6⟩
theorem RefS.wide {w : World} {O O' : Nat → Prop} {b : Nat} {s : SS} (h : RefS w O b s) (hO : ∀ q, O q → O' q) : RefS w O' b s := by
  obtain ⟨h0, f, ⟨g, c, cs, h1, h2, h3, h4, h5⟩, h6⟩ := h
  exact ⟨h0, f, ⟨g, c, cs, h1, h2, h3, hO _ h4, hO _ h5⟩, h6⟩
theorem take_rs {w : World} {O : Nat → Prop} {b : Nat} {s : SS} (h : RefS w O b s) (j : Int) (hj : j ≤ 9223372036854775807) :
    Calls Try.prog 16 #[.pointer (some ⟨b, 0, none⟩), .int .i64 j] w fun e w' => TkPost w O b (takeS s j) e w' := by
  by_cases hj1 : j < 1
  · have e1 : takeS s j = ((0, 1), s) := if_pos hj1
    rw [e1]
    exact (take_ref_arg w b j hj1).mono fun e w' ⟨h1, h2⟩ => ⟨h1, h.keep h2, .of h2 O⟩
  · obtain ⟨k, rfl⟩ : ∃ k : Nat, j = (k : Int) := ⟨j.toNat, by omega⟩
    refine (take_ref w _ b s (fun q hq => hq.2) h.narrow k (by omega) hj (takeS s (k : Int)) (takeS_nat s k (by omega))).mono ?_
    rintro e w' ⟨h1, h2, h3⟩
    exact ⟨h1, h2.wide fun q hq => hq.1, Frm.wide h3 fun q hq => hq.1⟩
end Rf
end Go.Proofs.Ytpbojhjbjnoihaa
