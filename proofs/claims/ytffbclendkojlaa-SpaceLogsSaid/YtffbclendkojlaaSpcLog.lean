/-
  'redo' and 'Replay' of a space by contracts. Conditions: numbers of 64 bits; what is handed in can be read.
-/
import Derived.Test.YtffbclendkojlaaIntRowM
import Derived.Test.YtffbclendkojlaaGenArgs
namespace Go.Proofs.Ytffbclendkojlaa
open Go Go.RowKit
set_option maxRecDepth 100000
set_option linter.unusedVariables false
namespace Sp
def redoS (s : SS) (t : Bool) (a j : Int) : Bool × SS :=
  if j < 1 ∨ a < 0 ∨ (s.cells : Int) - j < a then (false, s)
  else if t then (if hasL a.toNat (a.toNat + j.toNat) (s.S 0) then (true, s.mv 0 1 a.toNat (a.toNat + j.toNat)) else (false, s))
  else (if hasL a.toNat (a.toNat + j.toNat) (s.S 1) then (true, s.mv 1 0 a.toNat (a.toNat + j.toNat)) else (false, s))
def repAll : SS → List (Bool × Int × Int) → Option SS
  | s, [] => some s
  | s, o :: l => if (redoS s o.1 o.2.1 o.2.2).1 then repAll (redoS s o.1 o.2.1 o.2.2).2 l else none
def repS (C : Int) (l : List (Bool × Int × Int)) : Except Int SS :=
  if C < 1 ∨ 40000 < C then .error 1 else match repAll (allFree C.toNat) l with | some s => .ok s | none => .error 2
theorem redoS_cells (s : SS) (t : Bool) (a j : Int) : (redoS s t a j).2.cells = s.cells ∧ (redoS s t a j).2.kept = s.kept := by
  unfold redoS
  split
  · exact ⟨rfl, rfl⟩
  · split
    · split <;> exact ⟨rfl, rfl⟩
    · split <;> exact ⟨rfl, rfl⟩
theorem redo_no {B : Nat} {w : World} {b m : Nat} {s : SS} (h : SpA B w b m s) (t : Bool) (a j : Int) (ha1 : -9223372036854775808 ≤ a) (ha2 : a ≤ 9223372036854775807) (hj1 : -9223372036854775808 ≤ j) (hj2 : j ≤ 9223372036854775807) (hno : j < 1 ∨ a < 0 ∨ (s.cells : Int) - j < a) :
    Calls Try.prog 45 #[.pointer (some ⟨b, 0, none⟩), .agg #[.bool t, .int .i64 a, .int .i64 j]] w fun e w' => e = .returned (.bool false) ∧ Below w.heap.size w w' := by
  obtain ⟨h0, F, V, hs⟩ := h
  obtain ⟨W, hW⟩ : ∃ W, W = w.alloc (.cells #[.bool t, .int .i64 a, .int .i64 j] 51) := ⟨_, rfl⟩
  have hb : Below w.heap.size w W := by rw [hW]; exact (Below.refl _ _).alloc (Nat.le_refl _) _
  have X : Blk W w.heap.size 51 #[.bool t, .int .i64 a, .int .i64 j] := by rw [hW]; exact Blk.new _ _ _
  have HN := Lib.hid (span_no (w := W) ⟨hs.mem.below hb (Nat.le_refl _), hs.good⟩ a j ha1 ha2 hj1 hj2 hno)
  have L1 := Lib.hid hb
  obtain ⟨ro, hro⟩ : ∃ ro, ro = w.heap.size := ⟨_, rfl⟩
  have HRO := Lib.hid hro
  rw [← hro] at X
  have d1 : W.cell? ⟨ro, 1, none⟩ = some (.int .i64 a) := X.cell 1
  have d2 : W.cell? ⟨ro, 2, none⟩ = some (.int .i64 j) := X.cell 2
  clear hs hno ha1 ha2 hj1 hj2 hb X h0
  go_enter Try.func45, Try.ntmps45
  go_upto_region 1 with (fail)
  rw [← hW, ← HRO.out]
  clear hW hro
  go_wp2_with fail
  refine HN.out.mono ?_
  rintro e w2 ⟨rfl, b2⟩
  have L2 : Hid (Below w.heap.size w (w2.alloc (.cells #[.int .i64 0, .int .i64 0] 34))) := Lib.hid (by
    have := L1.out.trans (b2.mono L1.out.size)
    exact this.alloc this.size _)
  clear b2 d1 d2
  go_wp2_with fail
  go_ret
  exact ⟨rfl, L2.out⟩
set_option maxHeartbeats 3200000 in
theorem redo_yes {B : Nat} {w : World} {b m : Nat} {s : SS} (h : SpA B w b m s) (t : Bool) (a j : Nat) (hj : 1 ≤ j) (haj : a + j ≤ s.cells) :
    Calls Try.prog 45 #[.pointer (some ⟨b, 0, none⟩), .agg #[.bool t, .int .i64 (a : Int), .int .i64 (j : Int)]] w fun e w' => e = .returned (.bool (redoS s t a j).1) ∧ SpA B w' b m (redoS s t a j).2 ∧ Below B w w' := by
  obtain ⟨h0, F, V, hs⟩ := h
  have hc := hs.good.hc.2
  have hq : redoS s t a j = if t then (if hasL a (a + j) (s.S 0) then (true, s.mv 0 1 a (a + j)) else (false, s)) else (if hasL a (a + j) (s.S 1) then (true, s.mv 1 0 a (a + j)) else (false, s)) := by
    unfold redoS
    rw [if_neg (by omega), Int.toNat_natCast, Int.toNat_natCast]
  obtain ⟨W, hW⟩ : ∃ W, W = w.alloc (.cells #[.bool t, .int .i64 (a : Int), .int .i64 (j : Int)] 51) := ⟨_, rfl⟩
  have hb : Below w.heap.size w W := by rw [hW]; exact (Below.refl _ _).alloc (Nat.le_refl _) _
  have X : Blk W w.heap.size 51 #[.bool t, .int .i64 (a : Int), .int .i64 (j : Int)] := by rw [hW]; exact Blk.new _ _ _
  have HN := Lib.hid (span_yes (w := W) ⟨hs.mem.below hb (Nat.le_refl _), hs.good⟩ a j hj haj)
  have HMV : Hid (∀ (w1 : World) (f t : Nat), f < 3 → t < 3 → f ≠ t → Below w.heap.size w w1 → Calls Try.prog 34 #[.pointer (some ⟨b, 0, none⟩), .agg #[.int .i64 (a : Int), .int .i64 ((a + j : Nat) : Int)], .int .i64 (f : Int), .int .i64 (t : Int)] w1 fun er w' =>
      er = .returned (.bool (hasL a (a + j) (s.S f))) ∧ SpA B w' b m (if hasL a (a + j) (s.S f) then s.mv f t a (a + j) else s) ∧ Below B w w') := Lib.hid fun w1 f t hf ht hft hb1 => by
    have h1 : Spc w1 B b m 3 F V s := ⟨hs.mem.below hb1 (Nat.le_refl _), hs.good⟩
    refine (move_sp h1 (Nat.le_trans h0 hb1.size) (by decide) hf ht hft (by omega) (by omega)).mono fun er w' ⟨e1, F', V', e2, e3⟩ => ⟨e1, SpA.of (Nat.le_trans h0 (Nat.le_trans hb1.size e3.size)) e2, (hb1.mono h0).trans (e3.below h1.mem (Nat.le_trans h0 hb1.size))⟩
  have L1 := Lib.hid hb
  obtain ⟨ro, hro⟩ : ∃ ro, ro = w.heap.size := ⟨_, rfl⟩
  have HRO := Lib.hid hro
  rw [← hro] at X
  have HX := Lib.hid X
  have d1 : W.cell? ⟨ro, 1, none⟩ = some (.int .i64 (a : Int)) := X.cell 1
  have d2 : W.cell? ⟨ro, 2, none⟩ = some (.int .i64 (j : Int)) := X.cell 2
  have HQ := Lib.hid hq
  obtain ⟨e0, he0⟩ : ∃ e0, e0 = a + j := ⟨_, rfl⟩
  rw [← he0] at HN HMV HQ
  clear hs hb X h0 hq he0 hc haj
  go_enter Try.func45, Try.ntmps45
  go_upto_region 1 with (fail)
  rw [← hW, ← HRO.out]
  clear hW hro
  go_wp2_with fail
  refine HN.out.mono ?_
  rintro e w2 ⟨rfl, b2⟩
  have hl2 := L1.out.trans (b2.mono L1.out.size)
  have L2 : Hid (Below w.heap.size w (w2.alloc (.cells #[.int .i64 (a : Int), .int .i64 (e0 : Int)] 34))) := Lib.hid (hl2.alloc hl2.size _)
  have X2 := (HX.out.below b2 HX.out.lt).alloc (.cells #[.int .i64 (a : Int), .int .i64 (e0 : Int)] 34)
  have p0 : (w2.alloc (.cells #[.int .i64 (a : Int), .int .i64 (e0 : Int)] 34)).cell? ⟨ro, 0, none⟩ = some (.bool t) := X2.cell 0
  clear b2 d1 d2 hl2 X2
  cases t with
  | true =>
    have HM := Lib.hid (HMV.out _ 0 1 (by omega) (by omega) (by omega) L2.out)
    obtain ⟨ans, hans⟩ : ∃ ans, ans = hasL a e0 (s.S 0) := ⟨_, rfl⟩
    have HQ2 : Hid (redoS s true (a : Int) (j : Int) = if ans then (true, s.mv 0 1 a e0) else (false, s)) := Lib.hid (by rw [HQ.out, ← hans]; rfl)
    rw [← hans] at HM
    clear hans HQ HMV
    go_wp2_with fail
    refine HM.out.mono ?_
    rintro e w3 ⟨rfl, s3, b3⟩
    have S3 := Lib.hid (⟨s3, b3⟩ : _ ∧ _)
    clear s3 b3
    go_wp2_with fail
    go_ret
    rw [HQ2.out]
    cases ans with
    | true => exact ⟨rfl, S3.out.1, S3.out.2⟩
    | false => exact ⟨rfl, S3.out.1, S3.out.2⟩
  | false =>
    have HM := Lib.hid (HMV.out _ 1 0 (by omega) (by omega) (by omega) L2.out)
    obtain ⟨ans, hans⟩ : ∃ ans, ans = hasL a e0 (s.S 1) := ⟨_, rfl⟩
    have HQ2 : Hid (redoS s false (a : Int) (j : Int) = if ans then (true, s.mv 1 0 a e0) else (false, s)) := Lib.hid (by rw [HQ.out, ← hans]; rfl)
    rw [← hans] at HM
    clear hans HQ HMV
    go_wp2_with fail
    refine HM.out.mono ?_
    rintro e w3 ⟨rfl, s3, b3⟩
    have S3 := Lib.hid (⟨s3, b3⟩ : _ ∧ _)
    clear s3 b3
    go_wp2_with fail
    go_ret
    rw [HQ2.out]
    cases ans with
    | true => exact ⟨rfl, S3.out.1, S3.out.2⟩
    | false => exact ⟨rfl, S3.out.1, S3.out.2⟩
theorem redo_at {B : Nat} {w : World} {b m : Nat} {s : SS} (h : SpA B w b m s) (t : Bool) (a j : Int) (ha1 : -9223372036854775808 ≤ a) (ha2 : a ≤ 9223372036854775807) (hj1 : -9223372036854775808 ≤ j) (hj2 : j ≤ 9223372036854775807) :
    Calls Try.prog 45 #[.pointer (some ⟨b, 0, none⟩), .agg #[.bool t, .int .i64 a, .int .i64 j]] w fun e w' => e = .returned (.bool (redoS s t a j).1) ∧ SpA B w' b m (redoS s t a j).2 ∧ Below B w w' := by
  by_cases hno : j < 1 ∨ a < 0 ∨ (s.cells : Int) - j < a
  · have e1 : redoS s t a j = (false, s) := if_pos hno
    rw [e1]
    exact (redo_no h t a j ha1 ha2 hj1 hj2 hno).mono fun e w' ⟨h1, h2⟩ => ⟨h1, h.keep h2, h2.mono h.1⟩
  · obtain ⟨x, rfl⟩ : ∃ x : Nat, a = (x : Int) := ⟨a.toNat, by omega⟩
    obtain ⟨k, rfl⟩ : ∃ k : Nat, j = (k : Int) := ⟨j.toNat, by omega⟩
    exact redo_yes h t x k (by omega) (by omega)
def RepRel (s0 : SS) (l : List (Bool × Int × Int)) (i : Nat) (s : SS) : Prop := repAll s0 l = repAll s (l.drop i)
theorem RepRel.step {s0 s : SS} {l : List (Bool × Int × Int)} {i : Nat} {o : Bool × Int × Int} (h : RepRel s0 l i s) (ho : l[i]? = some o) : repAll s0 l = if (redoS s o.1 o.2.1 o.2.2).1 then repAll (redoS s o.1 o.2.1 o.2.2).2 (l.drop (i + 1)) else none := by
  obtain ⟨hi, he⟩ := List.getElem?_eq_some_iff.1 ho
  unfold RepRel at h
  rw [h, List.drop_eq_getElem_cons hi, he]
  rfl
def LogPost (w : World) (r : Except Int SS) (er : Ending) (w' : World) : Prop :=
  match r with
  | .error e => er = .returned (.tuple #[.pointer none, .int .i64 e]) ∧ Below w.heap.size w w'
  | .ok s => ∃ b m, er = .returned (.tuple #[.pointer (some ⟨b, 0, none⟩), .int .i64 0]) ∧ SpA w.heap.size w' b m s ∧ Below w.heap.size w w'
theorem replay_arg (w : World) (C : Int) (A : Option Addr) (len c : Nat) (h : C < 1 ∨ 40000 < C) :
    Calls Try.prog 26 #[.int .i64 C, .slice A len c] w fun er w' => er = .returned (.tuple #[.pointer none, .int .i64 1]) ∧ Below w.heap.size w w' := by
  have HB := Lib.hid (blank_no w C h)
  clear h
  go_enter Try.func26, Try.ntmps26
  go_wp2_with fail
  refine HB.out.mono ?_
  rintro e w2 ⟨rfl, hw⟩
  have hw := hw.symm
  subst hw
  go_wp2_with fail
  go_ret2
  exact ⟨rfl, Below.refl _ _⟩
set_option maxHeartbeats 6400000 in
theorem replay_in (w : World) (C : Nat) (A : Option Addr) (l : List (Bool × Int × Int)) (c : Nat) (h1 : 1 ≤ C) (h2 : C ≤ 40000) (hl : l.length ≤ 4611686018427387904) (hrd : Gr.RdG 3 Gr.csB w A l) (hz : ∀ r ∈ l, Gr.Z64' r.2.1 ∧ Gr.Z64' r.2.2) :
    Calls Try.prog 26 #[.int .i64 (C : Int), .slice A l.length c] w fun er w' => LogPost w (repS (C : Int) l) er w' := by
  have hnew : repS (C : Int) l = match repAll (allFree C) l with | some s => .ok s | none => .error 2 := by
    unfold repS
    rw [if_neg (by omega)]
    rfl
  have HNEW := Lib.hid hnew
  have HB := Lib.hid (blank_yes w C h1 h2)
  obtain ⟨n, hn⟩ : ∃ n, n = l.length := ⟨_, rfl⟩
  have HN := Lib.hid hn
  have HRD := Lib.hid hrd
  have HZ := Lib.hid hz
  obtain ⟨R, hR⟩ : ∃ R, R = repS (C : Int) l := ⟨_, rfl⟩
  have HR := Lib.hid hR
  rw [← hn] at hl ⊢
  rw [← hR]
  clear hn hrd hz hnew hR
  go_enter Try.func26, Try.ntmps26
  go_wp2_with fail
  refine HB.out.mono ?_
  rintro e w2 ⟨b, m, F, V, rfl, hsp, hbl⟩
  have HSP : Hid (SpA w.heap.size w2 b m (allFree C)) := Lib.hid (SpA.of hbl.size hsp)
  have HL2 := Lib.hid hbl
  clear hsp hbl HB
  go_wp2_with fail
  go_loopw [20] (fun y wr => ∃ (i : Nat) (s : SS), i ≤ n ∧ y = .int .i64 (i : Int) ∧ Hid (SpA w.heap.size wr b m s) ∧ Hid (RepRel (allFree C) l i s) ∧ Hid (Below w.heap.size w wr)) (fun y _ => n - (intOf y).toNat)
  case atStart => exact ⟨0, _, by omega, rfl, HSP, Lib.hid rfl, HL2⟩
  case round =>
    clear HSP HL2
    obtain ⟨i, s, hi, rfl, HS, HP, L0⟩ := hrel
    by_cases hlt : i < n
    · have i1 : (i : Int) < (n : Int) := by omega
      have hil : i < l.length := by have := HN.out; omega
      obtain ⟨r, hr⟩ : ∃ r, r = l[i] := ⟨_, rfl⟩
      have hri : l[i]? = some r := by rw [hr]; exact List.getElem?_eq_getElem hil
      obtain ⟨g, o, hA, hgb, kk⟩ := (HRD.out.below L0.out) i r hri
      obtain ⟨⟨z1, z2⟩, z3, z4⟩ := HZ.out r (List.mem_of_getElem? hri)
      have hst := HP.out.step hri
      obtain ⟨t, x, y⟩ := r
      dsimp only at z1 z2 z3 z4 hst
      have k0 := kk 0 (.bool t) rfl
      have k1 := kk 1 (.int .i64 x) rfl
      have k2 := kk 2 (.int .i64 y) rfl
      rw [Nat.add_zero] at k0
      subst hA
      obtain ⟨W, hW⟩ : ∃ W, W = wr.alloc (.cells #[.bool t, .int .i64 x, .int .i64 y] 51) := ⟨_, rfl⟩
      have BW : Below wr.heap.size wr W := by rw [hW]; exact (Below.refl _ _).alloc (Nat.le_refl _) _
      have LW := L0.out.trans (BW.mono L0.out.size)
      have HRE := Lib.hid (redo_at (HS.out.keep BW) t x y z1 z2 z3 z4)
      have HST := Lib.hid hst
      have HLW := Lib.hid LW
      obtain ⟨ans, hans⟩ : ∃ ans, ans = (redoS s t x y).1 := ⟨_, rfl⟩
      obtain ⟨s', hs'⟩ : ∃ s', s' = (redoS s t x y).2 := ⟨_, rfl⟩
      rw [← hans, ← hs'] at HRE HST
      clear hri hr hil hgb kk hst BW LW hans hs' HS HP L0 z1 z2 z3 z4
      go_upto_region 7 with (fail)
      rw [← hW]
      have X := Blk.new wr 51 #[.bool t, .int .i64 x, .int .i64 y]
      rw [← hW] at X
      have q0 : W.cell? ⟨wr.heap.size, 0, none⟩ = some (.bool t) := X.cell 0
      have q1 : W.cell? ⟨wr.heap.size, 1, none⟩ = some (.int .i64 x) := X.cell 1
      have q2 : W.cell? ⟨wr.heap.size, 2, none⟩ = some (.int .i64 y) := X.cell 2
      clear hW X k0 k1 k2
      go_wp2_with fail
      refine HRE.out.mono ?_
      rintro e w4 ⟨rfl, s4, b4⟩
      have S4 := Lib.hid s4
      have L4 : Hid (Below w.heap.size w w4) := Lib.hid (HLW.out.trans b4)
      clear s4 b4 HRE q0 q1 q2
      cases ans with
      | true =>
        have HPR : Hid (RepRel (allFree C) l (i + 1) s') := Lib.hid HST.out
        clear HST
        go_wp2_with fail
        go_roundw
        case rel => exact ⟨i + 1, s', by omega, by go_num, S4, HPR, L4⟩
        case measure => simp [intOf]; omega
      | false =>
        have hq : R = .error 2 := by rw [HR.out, HNEW.out, HST.out]; rfl
        have HQ := Lib.hid hq
        clear hq HST
        go_wp2_with fail
        go_ret2
        rw [HQ.out]
        exact ⟨rfl, L4.out⟩
    · have i1 : ¬ ((i : Int) < (n : Int)) := by omega
      have hq : R = .ok s := by
        have h5 := HP.out
        unfold RepRel at h5
        rw [List.drop_eq_nil_of_le (by have := HN.out; omega)] at h5
        rw [HR.out, HNEW.out, h5]
        rfl
      have HQ := Lib.hid hq
      clear hq HP
      go_wp2_with fail
      go_ret2
      rw [HQ.out]
      exact ⟨b, m, rfl, HS.out, L0.out⟩
theorem replay_at (w : World) (C : Int) (A : Option Addr) (l : List (Bool × Int × Int)) (c : Nat) (hl : l.length ≤ 4611686018427387904) (hrd : Gr.RdG 3 Gr.csB w A l) (hz : ∀ r ∈ l, Gr.Z64' r.2.1 ∧ Gr.Z64' r.2.2) :
    Calls Try.prog 26 #[.int .i64 C, .slice A l.length c] w fun er w' => LogPost w (repS C l) er w' := by
  by_cases hC : C < 1 ∨ 40000 < C
  · have e1 : repS C l = .error 1 := if_pos hC
    rw [e1]
    exact replay_arg w C A l.length c hC
  · obtain ⟨D, hD⟩ : ∃ D : Nat, C = (D : Int) := ⟨C.toNat, by omega⟩
    subst hD
    exact replay_in w D A l c (by omega) (by omega) hl hrd hz
end Sp
end Go.Proofs.Ytffbclendkojlaa
