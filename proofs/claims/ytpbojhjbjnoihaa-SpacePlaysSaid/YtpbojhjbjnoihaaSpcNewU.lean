/-
  'New' of a space with used ranges, by one contract. Conditions: what is handed in can be read, and its numbers are of 64 bits.
-/
import Derived.Test.YtpbojhjbjnoihaaSpcSettle
namespace Go.Proofs.Ytpbojhjbjnoihaa
open Go Go.RowKit
set_option maxRecDepth 100000
set_option linter.unusedVariables false
namespace Sp
/-- ranges that are handed in: any numbers -/
def RdZ2 (w : World) (A : Option Addr) (l : List (Int × Int)) : Prop := ∀ i r, l[i]? = some r → ∃ b o, A = some ⟨b, o, none⟩ ∧ b < w.heap.size ∧ w.cell? ⟨b, o + i * 2, none⟩ = some (.int .i64 r.1) ∧ w.cell? ⟨b, o + i * 2 + 1, none⟩ = some (.int .i64 r.2)
theorem RdZ2.below {w w' : World} {A : Option Addr} {l : List (Int × Int)} (h : RdZ2 w A l) (hb : Below w.heap.size w w') : RdZ2 w' A l := fun i r hr => by
  obtain ⟨b, o, h1, h2, h3, h4⟩ := h i r hr
  exact ⟨b, o, h1, Nat.lt_of_lt_of_le h2 hb.size, (hb.cell (p := ⟨b, o + i * 2, none⟩) h2).trans h3, (hb.cell (p := ⟨b, o + i * 2 + 1, none⟩) h2).trans h4⟩
def Z64 (x : Int) : Prop := -9223372036854775808 ≤ x ∧ x ≤ 9223372036854775807
def fitsZ (C : Nat) (r : Int × Int) : Bool := decide (0 ≤ r.1) && decide (r.1 < r.2) && decide (r.2 ≤ (C : Int))
def putAll : SS → List (Int × Int) → Option SS
  | s, [] => some s
  | s, r :: l => if hasL r.1.toNat r.2.toNat (s.S 0) then putAll (s.mv 0 1 r.1.toNat r.2.toNat) l else none
/-- what New makes of it: an error's number, or a space -/
def newS (C : Int) (l : List (Int × Int)) : Except Int SS :=
  if C < 1 ∨ 40000 < C then .error 1
  else if l.all (fitsZ C.toNat) then (match putAll (allFree C.toNat) l with | some s => .ok s | none => .error 8)
  else .error 2
def NewPost (w : World) (r : Except Int SS) (er : Ending) (w' : World) : Prop :=
  match r with
  | .error e => er = .returned (.tuple #[.pointer none, .int .i64 e]) ∧ Below w.heap.size w w'
  | .ok s => ∃ b m F V, er = .returned (.tuple #[.pointer (some ⟨b, 0, none⟩), .int .i64 0]) ∧ Spc w' w.heap.size b m 3 F V s ∧ Below w.heap.size w w'
theorem Chg.below {w w' : World} {base b m n : Nat} {F : Nat → Option Value} {V V' : Nat → Value} {s : SS} (c : Chg w w' b m V V') (h : Mem w base b m n F V s) (hb : base ≤ w.heap.size) : Below base w w' :=
  ⟨c.os, c.tape, c.output, c.size, fun g hg => c.block g (by omega) (fun e => by have := h.lo.1; omega) (fun e => by have := h.lo.2; omega) fun k hk e => by have := ((h.own k hk).lt e).2; omega⟩
/-- half way: so many have been put in -/
def PutRel (s0 : SS) (l : List (Int × Int)) (i : Nat) (s : SS) : Prop := putAll s0 l = putAll s (l.drop i)
theorem PutRel.yes {s0 s : SS} {l : List (Int × Int)} {i : Nat} {r : Int × Int} (h : PutRel s0 l i s) (hr : l[i]? = some r) (hh : hasL r.1.toNat r.2.toNat (s.S 0) = true) : PutRel s0 l (i + 1) (s.mv 0 1 r.1.toNat r.2.toNat) := by
  obtain ⟨hi, he⟩ := List.getElem?_eq_some_iff.1 hr
  unfold PutRel at h ⊢
  rw [h, List.drop_eq_getElem_cons hi, he]
  show (if hasL r.1.toNat r.2.toNat (s.S 0) then _ else _) = _
  rw [if_pos hh]
theorem PutRel.no {s0 s : SS} {l : List (Int × Int)} {i : Nat} {r : Int × Int} (h : PutRel s0 l i s) (hr : l[i]? = some r) (hh : hasL r.1.toNat r.2.toNat (s.S 0) = false) : putAll s0 l = none := by
  obtain ⟨hi, he⟩ := List.getElem?_eq_some_iff.1 hr
  unfold PutRel at h
  rw [h, List.drop_eq_getElem_cons hi, he]
  show (if hasL r.1.toNat r.2.toNat (s.S 0) then _ else _) = _
  rw [if_neg (by simp [hh])]
theorem all_to {C : Nat} {l : List (Int × Int)} {i : Nat} {r : Int × Int} (h : (l.take i).all (fitsZ C) = true) (hr : l[i]? = some r) (hf : fitsZ C r = true) : (l.take (i + 1)).all (fitsZ C) = true := by
  obtain ⟨hi, he⟩ := List.getElem?_eq_some_iff.1 hr
  rw [List.take_succ_eq_append_getElem hi, List.all_append, h, he]
  simp [hf]
theorem not_all {C : Nat} {l : List (Int × Int)} {i : Nat} {r : Int × Int} (hr : l[i]? = some r) (hf : fitsZ C r = false) : l.all (fitsZ C) = false := by
  rw [List.all_eq_false]
  exact ⟨r, List.mem_of_getElem? hr, by simp [hf]⟩
theorem allFree_cells (C : Nat) : (allFree C).cells = C := rfl
theorem mv_cells (s : SS) (f t a e : Nat) : (s.mv f t a e).cells = s.cells := rfl
set_option maxHeartbeats 3200000 in
theorem new_arg (w : World) (C : Int) (A : Option Addr) (len c : Nat) (h : C < 1 ∨ 40000 < C) :
    Calls Try.prog 13 #[.int .i64 C, .slice A len c] w fun er w' => er = .returned (.tuple #[.pointer none, .int .i64 1]) ∧ Below w.heap.size w w' := by
  have HB := Lib.hid (blank_no w C h)
  clear h
  go_enter Try.func13, Try.ntmps13
  go_wp2_with fail
  refine HB.out.mono ?_
  rintro e w2 ⟨rfl, hw⟩
  have hw := hw.symm
  subst hw
  go_wp2_with fail
  go_ret2
  exact ⟨rfl, Below.refl _ _⟩
set_option maxHeartbeats 6400000 in
theorem new_in (w : World) (C : Nat) (A : Option Addr) (l : List (Int × Int)) (c : Nat) (h1 : 1 ≤ C) (h2 : C ≤ 40000) (hl : l.length ≤ 4611686018427387904) (hrd : RdZ2 w A l) (hz : ∀ r ∈ l, Z64 r.1 ∧ Z64 r.2) :
    Calls Try.prog 13 #[.int .i64 (C : Int), .slice A l.length c] w fun er w' => NewPost w (newS (C : Int) l) er w' := by
  have hnew : newS (C : Int) l = if l.all (fitsZ C) then (match putAll (allFree C) l with | some s => .ok s | none => .error 8) else .error 2 := by
    unfold newS
    rw [if_neg (by omega)]
    rfl
  have HNEW := Lib.hid hnew
  have HB := Lib.hid (blank_yes w C h1 h2)
  obtain ⟨n, hn⟩ : ∃ n, n = l.length := ⟨_, rfl⟩
  have HN := Lib.hid hn
  have HRD := Lib.hid hrd
  have HZ := Lib.hid hz
  obtain ⟨R, hR⟩ : ∃ R, R = newS (C : Int) l := ⟨_, rfl⟩
  have HR := Lib.hid hR
  rw [← hn] at hl ⊢
  rw [← hR]
  clear hn hrd hz hnew hR
  go_enter Try.func13, Try.ntmps13
  go_wp2_with fail
  refine HB.out.mono ?_
  rintro e w2 ⟨b, m, F, V, rfl, hsp, hbl⟩
  have HSP := Lib.hid hsp.three
  have HL2 := Lib.hid hbl
  clear hsp hbl HB
  go_wp2_with fail
  go_loopw [22] (fun y wr => ∃ i : Nat, i ≤ n ∧ y = .int .i64 (i : Int) ∧ Hid ((l.take i).all (fitsZ C) = true) ∧ Hid (Below w2.heap.size w2 wr)) (fun y _ => n - (intOf y).toNat)
  case atStart => exact ⟨0, by omega, rfl, Lib.hid rfl, Lib.hid (Below.refl _ _)⟩
  case round =>
    obtain ⟨i, hi, rfl, HALL, L0⟩ := hrel
    by_cases hlt : i < n
    · have i1 : (i : Int) < (n : Int) := by omega
      have hil : i < l.length := by have := HN.out; omega
      have L9 := HL2.out.trans (L0.out.mono HL2.out.size)
      obtain ⟨g, o, hA, hgb, k1, k2⟩ := (HRD.out.below L9) i l[i] (List.getElem?_eq_getElem hil)
      obtain ⟨r, hr⟩ : ∃ r, r = l[i] := ⟨_, rfl⟩
      have hri : l[i]? = some r := by rw [hr]; exact List.getElem?_eq_getElem hil
      rw [← hr] at k1 k2
      obtain ⟨x, y⟩ := r
      obtain ⟨⟨z1, z2⟩, z3, z4⟩ := HZ.out (x, y) (List.mem_of_getElem? hri)
      dsimp only at z1 z2 z3 z4 k1 k2
      subst hA
      have HRI := Lib.hid hri
      have L1 : Hid (Below w2.heap.size w2 (wr.alloc (.cells #[.int .i64 x, .int .i64 y] 34))) := Lib.hid (L0.out.alloc L0.out.size _)
      have L2 : Hid (Below w.heap.size w (wr.alloc (.cells #[.int .i64 x, .int .i64 y] 34))) := Lib.hid (L9.alloc L9.size _)
      have hne : ∀ q, q = fitsZ C (x, y) → q = false → R = .error 2 := fun q e1 e2 => by
        rw [HR.out, HNEW.out, not_all HRI.out (e1.symm.trans e2)]
        rfl
      have HNE := Lib.hid hne
      clear hri hr hil L9 hgb hne
      by_cases g1 : x < 0
      · have hq : R = .error 2 := HNE.out _ rfl (by unfold fitsZ; simp; omega)
        have HQ := Lib.hid hq
        clear hq L0 HALL
        go_wp2_with fail
        go_ret2
        rw [HQ.out]
        exact ⟨rfl, L2.out⟩
      · by_cases g2 : y ≤ x
        · have hq : R = .error 2 := HNE.out _ rfl (by unfold fitsZ; simp; omega)
          have HQ := Lib.hid hq
          clear hq L0 HALL
          go_wp2_with fail
          go_ret2
          rw [HQ.out]
          exact ⟨rfl, L2.out⟩
        · by_cases g3 : (C : Int) < y
          · have hq : R = .error 2 := HNE.out _ rfl (by unfold fitsZ; simp; omega)
            have HQ := Lib.hid hq
            clear hq L0 HALL
            go_wp2_with fail
            go_ret2
            rw [HQ.out]
            exact ⟨rfl, L2.out⟩
          · have HALL2 := Lib.hid (all_to HALL.out HRI.out (by unfold fitsZ; simp; omega))
            clear L0 HALL HNE
            go_wp2_with fail
            go_roundw
            case rel => exact ⟨i + 1, by omega, by go_num, HALL2, L1⟩
            case measure => simp [intOf]; omega
    · have i1 : ¬ ((i : Int) < (n : Int)) := by omega
      have hall : l.all (fitsZ C) = true := by
        have := HALL.out
        rw [List.take_of_length_le (by have := HN.out; omega)] at this
        exact this
      have HNEW2 : Hid (newS (C : Int) l = match putAll (allFree C) l with | some s => .ok s | none => .error 8) := Lib.hid (by rw [HNEW.out, hall]; rfl)
      have HFIT : Hid (∀ r ∈ l, 0 ≤ r.1 ∧ r.1 < r.2 ∧ r.2 ≤ (C : Int)) := Lib.hid fun r hr => by
        have := List.all_eq_true.1 hall r hr
        unfold fitsZ at this
        simp at this
        omega
      have HSP2 : Hid (Spc wr w.heap.size b m 3 F V (allFree C)) := Lib.hid ⟨HSP.out.mem.below L0.out (Nat.le_refl _), HSP.out.good⟩
      have LW := Lib.hid (HL2.out.trans (L0.out.mono HL2.out.size))
      clear hall HALL HNEW L0 HSP HZ
      go_wp2_with fail
      go_loopw [45] (fun y wq => ∃ (i : Nat) (F1 : Nat → Option Value) (V1 : Nat → Value) (s : SS), i ≤ n ∧ y = .int .i64 (i : Int) ∧ Hid (Spc wq w.heap.size b m 3 F1 V1 s) ∧ Hid (PutRel (allFree C) l i s) ∧ Hid (s.cells = C) ∧ Hid (Below w.heap.size w wq)) (fun y _ => n - (intOf y).toNat)
      case atStart => exact ⟨0, F, V, allFree C, by omega, rfl, HSP2, Lib.hid rfl, Lib.hid rfl, LW⟩
      case round =>
        clear HSP2 LW
        obtain ⟨i, F1, V1, s, hi, rfl, HS, HP, HC, L0⟩ := hrel
        by_cases hlt : i < n
        · have i1 : (i : Int) < (n : Int) := by omega
          have hil : i < l.length := by have := HN.out; omega
          obtain ⟨g, o, hA, hgb, k1, k2⟩ := (HRD.out.below L0.out) i l[i] (List.getElem?_eq_getElem hil)
          obtain ⟨r, hr⟩ : ∃ r, r = l[i] := ⟨_, rfl⟩
          have hri : l[i]? = some r := by rw [hr]; exact List.getElem?_eq_getElem hil
          rw [← hr] at k1 k2
          have hf := HFIT.out r (List.mem_of_getElem? hri)
          obtain ⟨x, hx⟩ : ∃ x, x = r.1.toNat := ⟨_, rfl⟩
          obtain ⟨y, hy⟩ : ∃ y, y = r.2.toNat := ⟨_, rfl⟩
          have ex : r.1 = (x : Int) := by omega
          have ey : r.2 = (y : Int) := by omega
          rw [ex] at k1
          rw [ey] at k2
          rw [ex, ey] at hf
          subst hA
          have hxy : x < y := by omega
          have hyb : y ≤ 40000 := by omega
          obtain ⟨W, hW⟩ : ∃ W, W = wr.alloc (.cells #[.int .i64 (x : Int), .int .i64 (y : Int)] 34) := ⟨_, rfl⟩
          have BW : Below wr.heap.size wr W := by rw [hW]; exact (Below.refl _ _).alloc (Nat.le_refl _) _
          have SW : Spc W w.heap.size b m 3 F1 V1 s := ⟨HS.out.mem.below BW (Nat.le_refl _), HS.out.good⟩
          have LW := L0.out.trans (BW.mono L0.out.size)
          have HMV := Lib.hid (move_sp SW LW.size (show 3 + 2 < maxLen by decide) (a := x) (e := y) (f := 0) (t := 1) (by omega) (by omega) (by omega) hxy (by omega))
          have HY : Hid (hasL x y (s.S 0) = true → PutRel (allFree C) l (i + 1) (s.mv 0 1 x y)) := Lib.hid fun hh => by
            have := HP.out.yes hri (by rw [← hx, ← hy]; exact hh)
            rw [← hx, ← hy] at this
            exact this
          have HNO : Hid (hasL x y (s.S 0) = false → R = .error 8) := Lib.hid fun hh => by
            rw [HR.out, HNEW2.out, HP.out.no hri (by rw [← hx, ← hy]; exact hh)]
          have HSW := Lib.hid SW
          have HLW := Lib.hid LW
          obtain ⟨ans, hans⟩ : ∃ ans, ans = hasL x y (s.S 0) := ⟨_, rfl⟩
          rw [← hans] at HMV HY HNO
          clear hri hr hil hgb hf hx hy ex ey BW SW LW hans HS L0 HP
          go_upto_region 13 with (fail)
          rw [← hW]
          clear k1 k2
          have X := Blk.new wr 34 #[.int .i64 (x : Int), .int .i64 (y : Int)]
          rw [← hW] at X
          have q0 : W.cell? ⟨wr.heap.size, 0, none⟩ = some (.int .i64 (x : Int)) := X.cell 0
          have q1 : W.cell? ⟨wr.heap.size, 1, none⟩ = some (.int .i64 (y : Int)) := X.cell 1
          clear hW X
          go_wp2_with fail
          refine HMV.out.mono ?_
          rintro e w4 ⟨rfl, hsp⟩
          have HSP := Lib.hid hsp
          clear hsp HMV q0 q1
          cases ans with
          | true =>
            have HPR := Lib.hid (HY.out rfl)
            obtain ⟨F2, V2, h3, h4⟩ := HSP.out
            rw [if_pos rfl] at h3
            have HS4 := Lib.hid h3.three
            have L4 : Hid (Below w.heap.size w w4) := Lib.hid (HLW.out.trans (h4.below HSW.out.mem HLW.out.size))
            clear h3 h4 HSP HY HNO
            go_wp2_with fail
            go_roundw
            case rel => exact ⟨i + 1, F2, V2, _, by omega, by go_num, HS4, HPR, HC, L4⟩
            case measure => simp [intOf]; omega
          | false =>
            have hq := HNO.out rfl
            have HQ := Lib.hid hq
            obtain ⟨F2, V2, h3, h4⟩ := HSP.out
            have L4 : Hid (Below w.heap.size w w4) := Lib.hid (HLW.out.trans (h4.below HSW.out.mem HLW.out.size))
            clear hq h3 h4 HSP HY HNO
            go_wp2_with fail
            go_ret2
            rw [HQ.out]
            exact ⟨rfl, L4.out⟩
        · have i1 : ¬ ((i : Int) < (n : Int)) := by omega
          have hq : R = .ok s := by
            have h5 := HP.out
            unfold PutRel at h5
            rw [List.drop_eq_nil_of_le (by have := HN.out; omega)] at h5
            rw [HR.out, HNEW2.out, h5]
            rfl
          have HQ := Lib.hid hq
          clear hq HP
          go_wp2_with fail
          go_ret2
          rw [HQ.out]
          exact ⟨b, m, F1, V1, rfl, HS.out, L0.out⟩
end Sp
end Go.Proofs.Ytpbojhjbjnoihaa
