/-
  'hoardref02.Right' and 'hoardref02.Solve' by contracts: a system is solved by determinants. Conditions: rows and right sides read as bytes.
-/
import Derived.Test.YtoabhbmhjelplaaDet
import Derived.Test.YtoabhbmhjelplaaDetInv
namespace Go.Proofs.Ytoabhbmhjelplaa
open Go Go.RowKit
set_option maxRecDepth 100000
set_option linter.unusedVariables false

namespace det
theorem wpList_append_hd {w : World} {ops : Array Oper} {rest : List Oper} {o : Oper} {a : Act} {Q : Exit → Act → World → Prop} (hgd : o.guard = none) (s x : Operand)
    (ho : o.op = .call { callee := .builtin .append, args := #[s, x], argTypes := #[22, 22] }) {base n B m c : Nat} {v : Value} {A : Option Addr} {X Y : Nat → Hd} (hs : a.eval s = v) (hx : a.eval x = .slice A m c)
    (hown : OwnS w base v n X) (hy : RdH w B A m Y) (h0 : A = none → c = 0) (hmc : m ≤ c) (hl : n + m ≤ 100000) (hb : base ≤ w.heap.size)
    (h : ∀ v' w', OwnS w' base v' (n + m) (catS n X Y) → w.grownBy w' v.ownBlock → (v'.ownBlock = v.ownBlock ∨ v'.ownBlock = some w.heap.size) → wpList Try.prog ops Q rest (a.put o.dst v') w') : wpList Try.prog ops Q (o :: rest) a w := by
  refine wpList_plain hgd fun K hK => ?_
  obtain ⟨v', w', hrun, h1, h2, h3⟩ := run_append_hd o.type hown hy h0 hmc hl hb
  unfold Oper.wp execOp
  simp only [ho, resolve, invoke, builtin, Sem.run_bind, Sem.run_pure, Result.andThen_ok, List.map_toArray, List.map_cons, List.map_nil, hs, hx, hrun]
  exact hK _ _ (h v' w' h1 h2 h3)
set_option maxRecDepth 100000 in
set_option maxHeartbeats 400000 in
theorem right_yes (A A2 : Option Addr) (n c m c2 : Nat) (B : Nat) (ra : Nat → Option Addr) (rl rc : Nat → Nat) (x : Nat → Nat → Nat) (w : World) (hr : RdR w B A n ra rl rc x) (hq : IsSq n m rl) :
    Calls Try.prog 26 #[.slice A n c, .slice A2 m c2] w fun e w' => e = .returned (.bool true) ∧ w = w' := by
  obtain ⟨hn1, hn8, rfl, hall⟩ := hq
  have HA := Lib.hid hall
  clear hall
  obtain ⟨b, o, rfl, _⟩ := hr 0 (by omega)
  have HR : Hid (∀ i, i < m → w.cell? ⟨b, o + i, none⟩ = some (.slice (ra i) (rl i) (rc i))) := by
    intro i hi
    obtain ⟨b', o', h1, _, h3, _⟩ := hr i hi
    injection h1 with h1
    injection h1 with h1 h2
    subst h1; subst h2
    exact h3
  clear hr
  have t1 : ((m : Int) < 1) = False := by simp; omega
  have t2 : ((8 : Int) < (m : Int)) = False := by simp; omega
  go_enter Try.func26, Try.ntmps26
  go_wp2
  go_loop [6] (fun x => ∃ k : Nat, k ≤ m ∧ x = .int .i64 k) (fun x => m - (intOf x).toNat)
  case atStart => exact ⟨0, by omega, rfl⟩
  case round =>
    obtain ⟨k, hk, rfl⟩ := hrel
    by_cases hlt : k < m
    · have hc := HR.out k hlt
      rw [HA.out k hlt] at hc
      generalize ra k = r1 at *
      generalize rc k = r2 at *
      go_wp2
      go_round
      case rel => exact ⟨k + 1, by omega, by go_num⟩
      case measure => simp [intOf]; omega
    · obtain rfl : k = m := by omega
      go_wp2
      go_ret
      exact ⟨rfl, rfl⟩

set_option maxRecDepth 100000 in
set_option maxHeartbeats 400000 in
theorem right_no (A A2 : Option Addr) (n c m c2 : Nat) (B : Nat) (ra : Nat → Option Addr) (rl rc : Nat → Nat) (x : Nat → Nat → Nat) (w : World) (hr : RdR w B A n ra rl rc x) (hq : ¬ IsSq n m rl) :
    Calls Try.prog 26 #[.slice A n c, .slice A2 m c2] w fun e w' => e = .returned (.bool false) ∧ w = w' := by
  by_cases h1 : n = 0
  · subst h1
    go_enter Try.func26, Try.ntmps26
    go_wp2
    go_ret
    exact ⟨rfl, rfl⟩
  by_cases h8 : 8 < n
  · clear hr hq
    have t1 : ((n : Int) < 1) = False := by simp; omega
    have t2 : ((8 : Int) < (n : Int)) = True := by simp; omega
    go_enter Try.func26, Try.ntmps26
    go_wp2
    go_ret
    exact ⟨rfl, rfl⟩
  have t1 : ((n : Int) < 1) = False := by simp; omega
  have t2 : ((8 : Int) < (n : Int)) = False := by simp; omega
  by_cases hm : m = n
  · subst hm
    obtain ⟨i0, hi0, hbad, hall⟩ := least_bad (n := m) (rl := rl) (fun h => hq ⟨by omega, by omega, rfl, h⟩)
    have HA := Lib.hid hall
    have HN := Lib.hid hbad
    clear hall hq hbad
    obtain ⟨b, o, rfl, _⟩ := hr 0 (by omega)
    have HR : Hid (∀ i, i < m → w.cell? ⟨b, o + i, none⟩ = some (.slice (ra i) (rl i) (rc i))) := by
      intro i hi
      obtain ⟨b', o', h1, _, h3, _⟩ := hr i hi
      injection h1 with h1
      injection h1 with h1 h2
      subst h1; subst h2
      exact h3
    clear hr
    go_enter Try.func26, Try.ntmps26
    go_wp2
    go_loop [6] (fun x => ∃ k : Nat, k ≤ i0 ∧ x = .int .i64 k) (fun x => m - (intOf x).toNat)
    case atStart => exact ⟨0, by omega, rfl⟩
    case round =>
      obtain ⟨k, hk, rfl⟩ := hrel
      by_cases hlt : k < i0
      · have hc := HR.out k (by omega)
        rw [HA.out k hlt] at hc
        generalize ra k = r1 at *
        generalize rc k = r2 at *
        go_wp2
        go_round
        case rel => exact ⟨k + 1, by omega, by go_num⟩
        case measure => simp [intOf]; omega
      · obtain rfl : k = i0 := by omega
        have hc := HR.out k (by omega)
        have hne : ((rl k : Int) != (m : Int)) = true := by rw [bne_iff_ne]; have := HN.out; omega
        generalize ra k = r1 at *
        generalize rc k = r2 at *
        generalize rl k = r3 at *
        go_wp2
        go_ret
        exact ⟨rfl, rfl⟩
  · clear hr hq
    have hne : ((m : Int) != (n : Int)) = true := by rw [bne_iff_ne]; omega
    go_enter Try.func26, Try.ntmps26
    go_wp2
    go_ret
    exact ⟨rfl, rfl⟩

theorem cols_set {w : World} {B0 t n g k : Nat} {v : Value} {H : Nat → Hd} {R : Nat → Nat} {x : Nat → Nat → Nat} (h : D.Cols w B0 v t n H R x) (hR : ∀ j, j < t → R j ≠ g) (hv : v.ownBlock ≠ some g) (u : Value) : D.Cols (w.setCell ⟨g, k, none⟩ u) B0 v t n H R x :=
  ⟨h.own.keep fun g' e => Below.heap_setCell w _ u g' (fun q => hv (by rw [e]; exact congrArg some q)), h.hd, fun j hj => ⟨(h.row j hj).1, (h.row j hj).2.far (p := ⟨g, k, none⟩) (hR j hj) u⟩, h.apart⟩
/-- what the document's 'Solve' answers, by places -/
def solX (n : Nat) (x : Nat → Nat → Nat) (y : Nat → Nat) (k : Nat) : Nat := M.gmul (M.ginv (M.det n x)) (M.det n (M.setc x k y))
theorem solX_lt (n : Nat) (x : Nat → Nat → Nat) (y : Nat → Nat) (k : Nat) : solX n x y k < 256 := M.gmul_lt _ _
theorem solX_push (n : Nat) (x : Nat → Nat → Nat) (y : Nat → Nat) (k : Nat) : ∀ j, j < k + 1 → cat k (solX n x y) (fun _ => solX n x y k) j = solX n x y j := fun j hj => by
  unfold cat
  by_cases h : j < k
  · rw [if_pos h]
  · rw [if_neg h, show j = k by omega]
inductive DSolved (w w' : World) (n : Nat) (x : Nat → Nat → Nat) (y : Nat → Nat) : Ending → Prop where
  | one (v : Value) (h : M.det n x ≠ 0) (ho : Own8 w' w.heap.size v n (solX n x y)) : DSolved w w' n x y (.returned (.tuple #[v, .int .i64 0]))
  | none (h : M.det n x = 0) : DSolved w w' n x y (.returned (.tuple #[.slice none 0 0, .int .i64 7]))

set_option maxHeartbeats 400000 in
theorem solve_bad (A A2 : Option Addr) (n c m c2 : Nat) (B : Nat) (ra : Nat → Option Addr) (rl rc : Nat → Nat) (x : Nat → Nat → Nat) (w : World) (hr : RdR w B A n ra rl rc x) (hq : ¬ IsSq n m rl) :
    Calls Try.prog 17 #[.slice A n c, .slice A2 m c2] w fun e w' => e = .returned (.tuple #[.slice none 0 0, .int .i64 1]) ∧ w = w' := by
  have HR := Lib.hid hr
  have HQ := Lib.hid hq
  clear hr hq
  go_enter Try.func17, Try.ntmps17
  go_wp2_with fail
  refine (right_no A A2 n c m c2 B ra rl rc x _ HR.out HQ.out).mono ?_
  rintro e w' ⟨rfl, rfl⟩
  go_wp2_with fail
  go_ret2
  exact ⟨rfl, rfl⟩

set_option maxHeartbeats 6400000 in
theorem solve_ok (A A2 : Option Addr) (n c c2 B B2 : Nat) (ra : Nat → Option Addr) (rl rc : Nat → Nat) (x : Nat → Nat → Nat) (y : Nat → Nat) (w : World) (hr : RdR w B A n ra rl rc x) (hy : RdB w B2 A2 n y) (hq : IsSq n n rl) (hrc : ∀ i, i < n → rl i ≤ rc i ∧ rc i ≤ maxLen) (hB : B ≤ w.heap.size) (hB2 : B2 ≤ w.heap.size) :
    Calls Try.prog 17 #[.slice A n c, .slice A2 n c2] w fun e w' => DSolved w w' n x y e ∧ Below w.heap.size w w' := by
  obtain ⟨hn1, hn8, _, hall⟩ := hq
  have HQ : Hid (IsSq n n rl) := Lib.hid ⟨hn1, hn8, rfl, hall⟩
  have HL : Hid (∀ i, i < n → rl i = n ∧ n ≤ rc i ∧ rc i ≤ maxLen) := Lib.hid fun i hi => ⟨hall i hi, by have := (hrc i hi).1; rw [hall i hi] at this; exact this, (hrc i hi).2⟩
  have HR := Lib.hid hr
  have HY := Lib.hid hy
  have HBB := Lib.hid hB
  have HBC := Lib.hid hB2
  obtain ⟨b, oo, rfl, hbB, _⟩ := hr 0 (by omega)
  obtain ⟨b4, o4, rfl, hb4, _⟩ := hy 0 (by omega)
  have hbw : b < w.heap.size := by omega
  have hb4w : b4 < w.heap.size := by omega
  clear hr hy hall hrc hB hB2 hbB hb4
  have hdl := M.det_lt n x
  go_enter Try.func17, Try.ntmps17
  go_wp2_with fail
  refine (right_yes (some ⟨b, oo, none⟩) (some ⟨b4, o4, none⟩) n c n c2 B ra rl rc x _ HR.out HQ.out).mono ?_
  rintro e w1 ⟨rfl, rfl⟩
  go_wp2_with fail
  refine (det_any n (some ⟨b, oo, none⟩) c B ra rl rc x _ HR.out HL.out hn8 HBB.out).mono ?_
  rintro e w2 ⟨rfl, hl2⟩
  have L2 := Lib.hid hl2
  clear hl2
  obtain ⟨d, hd⟩ : ∃ d, d = M.det n x := ⟨_, rfl⟩
  rw [← hd] at hdl ⊢
  have HD := Lib.hid hd
  clear hd
  go_wp2_with fail
  refine (refinv_any d hdl _).mono ?_
  rintro e w3 ⟨rfl, rfl⟩
  by_cases hz : d = 0
  · have HZ : Hid (M.det n x = 0) := Lib.hid (by rw [← HD.out]; exact hz)
    rw [errV_z hz]
    clear hz
    go_wp2_with fail
    go_ret2
    exact ⟨.none HZ.out, L2.out⟩
  have HZ : Hid (M.det n x ≠ 0) := Lib.hid (by rw [← HD.out]; exact hz)
  rw [errV_n hz, invV_n hz]
  clear hz hdl
  have hil := M.ginv_lt d
  obtain ⟨iv, hiv⟩ : ∃ iv, iv = M.ginv d := ⟨_, rfl⟩
  rw [← hiv] at hil ⊢
  have HIV : Hid (iv = M.ginv (M.det n x)) := Lib.hid (by rw [hiv, HD.out])
  clear hiv HD
  go_wp2_with fail
  go_loopw [9, 10] (fun v y' wr => ∃ k : Nat, k ≤ n ∧ y' = .int .i64 (k : Int) ∧ Hid (Own8 wr w.heap.size v k (solX n x y)) ∧ Hid (Below w.heap.size w wr)) (fun _ y' _ => n - (intOf y').toNat)
  case atStart => exact ⟨0, by omega, rfl, Own8.nil _ _ _, L2⟩
  case round =>
    clear L2
    obtain ⟨k, hk, rfl, OO, L3⟩ := hrel
    rename World => wo
    by_cases hlt : k < n
    · have i1 : (k : Int) < (n : Int) := by omega
      generalize hB0 : wo.heap.size = B0 at *
      have HB0 := Lib.hid hB0
      have K0 : Hid (Below B0 wo wo) := Lib.hid (by rw [← hB0]; exact Below.refl _ _)
      have hwB : w.heap.size ≤ B0 := by have := L3.out.size; omega
      clear hB0
      go_wp2_with fail
      go_loopw [11, 12] (fun v y' wr => ∃ t : Nat, t ≤ n ∧ y' = .int .i64 (t : Int) ∧ (∃ H Rr, Hid (D.Cols wr B0 v t n H Rr (M.setc x k y))) ∧ Hid (Below B0 wo wr)) (fun _ y' _ => n - (intOf y').toNat)
      case atStart => exact ⟨0, by omega, rfl, ⟨fun _ => (none, 0, 0), fun _ => 0, D.Cols.none_ _ _ _ _ _ _⟩, K0⟩
      case round =>
        obtain ⟨t, ht, rfl, ⟨H, Rr, C1⟩, L1⟩ := hrel
        clear K0
        have hbr : B0 ≤ wr.heap.size := by have := L1.out.size; rw [HB0.out] at this; exact this
        by_cases htl : t < n
        · have i2 : (t : Int) < (n : Int) := by omega
          have LW := Lib.hid (L3.out.trans (L1.out.mono hwB))
          obtain ⟨_, hc, hxr⟩ := D.rdR_head HR.out (i := t) htl
          obtain ⟨q1, q2, q3⟩ := HL.out t htl
          rw [q1] at hc hxr
          obtain ⟨b3, o3, e3, hb3, _⟩ := hxr 0 (by omega)
          obtain ⟨bq, oq, eq, hbq, hcq, hyl⟩ := HY.out t htl
          injection eq with eq
          injection eq with eq1 eq2
          subst eq1; subst eq2
          rw [e3] at hc hxr
          obtain ⟨cr, hcr⟩ : ∃ cr, cr = rc t := ⟨_, rfl⟩
          rw [← hcr] at hc q2 q3
          have c1 := (LW.out.cell (p := ⟨b, oo + t, none⟩) hbw).trans hc
          have LA := Lib.hid (L1.out.alloc hbr (.cells #[] 5))
          have c2' : Hid (∀ W, Below B0 wo W → W.cell? ⟨b4, o4 + t, none⟩ = some (.int .u8 ((y t : Nat) : Int))) := Lib.hid fun W hW => (hW.cell (p := ⟨b4, o4 + t, none⟩) (by show b4 < _; omega)).trans ((L3.out.cell (p := ⟨b4, o4 + t, none⟩) hb4w).trans hcq)
          have OA := Lib.hid (D.own_empty (w := wr) (base := B0) hbr)
          have CA := Lib.hid (C1.out.below ((Below.refl wr.heap.size wr).alloc (Nat.le_refl _) (.cells #[] 5)) (Nat.le_refl _))
          have RA := Lib.hid ((hxr.below LW.out HBB.out).below ((Below.refl wr.heap.size wr).alloc (Nat.le_refl _) (.cells #[] 5)) (by have := HBB.out; omega))
          have hbk : Hid (∀ g, (Value.slice (some ⟨wr.heap.size, 0, none⟩) 0 0).ownBlock = some g → u11.ownBlock ≠ some g ∧ ∀ j, j < t → Rr j ≠ g) := Lib.hid fun g e => by
            injection e with e
            subst e
            exact ⟨fun q => absurd (C1.out.own.lt q).1 (Nat.lt_irrefl _), fun j hj q => absurd (C1.out.row j hj).2.lt (by rw [q]; exact Nat.lt_irrefl _)⟩
          have sA : Hid (B0 ≤ (wr.alloc (.cells #[] 5)).heap.size) := Lib.hid (by have := LA.out.size; rw [HB0.out] at this; exact this)
          have QK1 : Hid (0 + n ≤ 70368744177664) := Lib.hid (by omega)
          have QK2 : Hid (n ≤ cr) := Lib.hid q2
          have QK6 : Hid (t + 1 ≤ 100000) := Lib.hid (by omega)
          have QK5 : Hid (0 < 0 + n) := Lib.hid (by omega)
          have HSET : Hid (∀ v, v < n → upd (x t) k (y t) v = M.setc x k y t v) := Lib.hid fun v _ => rfl
          obtain ⟨yt, hyt⟩ : ∃ yt, yt = y t := ⟨_, rfl⟩
          rw [← hyt] at c2' HSET hyl
          have hbx : b < wr.heap.size := by omega
          clear hc hxr q1 q2 q3 e3 hcq hcr hyt hbr
          go_wp2_with ((with_reducible refine wpList_append_rd rfl (.tmp 39) (.tmp 43) rfl rfl rfl OA.out RA.out (fun e => by cases e) QK2.out QK1.out sA.out ?_); intro v1 w4 ho1 hg1 hat1; refine of_hid ?_)
          refine Lib.hid ?_
          have L4 : Hid (Below B0 wo w4) := Lib.hid (D.own_grown8 LA.out OA.out hg1 sA.out)
          have C4 : Hid (D.Cols w4 B0 u11 t n H Rr (M.setc x k y)) := Lib.hid (cols_grown CA.out OA.out hg1 hbk.out)
          have N1 : Hid (∀ j, j < t → v1.ownBlock ≠ some (Rr j)) := Lib.hid (cols_ne CA.out hat1 hbk.out)
          have M1 := Lib.hid (ownS_ne8 C4.out.own ho1)
          obtain ⟨g1, cg, rfl, hg1B, hr1, hcg, hcgm⟩ := ho1.row QK5.out
          rw [Nat.zero_add] at hr1 hcg ⊢
          have R4 : Hid (RowG w4 g1 n (x t)) := Lib.hid (hr1.congr fun v hv => by unfold cat; rw [if_neg (Nat.not_lt_zero _)]; rfl)
          have cy := c2'.out w4 L4.out
          have cg1 := R4.out.cell hlt
          have fg1 := R4.out.frozen hlt
          have R5 : Hid (RowG (w4.setCell ⟨g1, k, none⟩ (.int .u8 ((yt : Nat) : Int))) g1 n (M.setc x k y t)) := Lib.hid ((R4.out.set hlt).congr HSET.out)
          have C5 : Hid (D.Cols (w4.setCell ⟨g1, k, none⟩ (.int .u8 ((yt : Nat) : Int))) B0 u11 t n H Rr (M.setc x k y)) := Lib.hid (cols_set C4.out (fun j hj e => N1.out j hj (by rw [e]; rfl)) (fun e => M1.out g1 e rfl) _)
          have L5 := Lib.hid (L4.out.setCell (p := ⟨g1, k, none⟩) hg1B (.int .u8 ((yt : Nat) : Int)))
          have s5 : Hid (B0 ≤ (w4.setCell ⟨g1, k, none⟩ (.int .u8 ((yt : Nat) : Int))).heap.size) := Lib.hid (by have := L5.out.size; rw [HB0.out] at this; exact this)
          have L6 := Lib.hid (L5.out.alloc s5.out (.cells #[.slice (some ⟨g1, 0, none⟩) n cg] 31))
          have C6 := Lib.hid (C5.out.below ((Below.refl _ _).alloc (Nat.le_refl _) (.cells #[.slice (some ⟨g1, 0, none⟩) n cg] 31)) (Nat.le_refl _))
          have R6 := Lib.hid (R5.out.alloc (.cells #[.slice (some ⟨g1, 0, none⟩) n cg] 31))
          have s6 : Hid (B0 ≤ ((w4.setCell ⟨g1, k, none⟩ (.int .u8 ((yt : Nat) : Int))).alloc (.cells #[.slice (some ⟨g1, 0, none⟩) n cg] 31)).heap.size) := Lib.hid (by have := L6.out.size; rw [HB0.out] at this; exact this)
          have h6 := D.rdh_one (w4.setCell ⟨g1, k, none⟩ (.int .u8 ((yt : Nat) : Int))) (some ⟨g1, 0, none⟩) n cg
          rw [show (w4.setCell ⟨g1, k, none⟩ (.int .u8 ((yt : Nat) : Int))).heap.size = w4.heap.size by simp] at h6
          have H6 := Lib.hid h6
          clear h6 ho1 hg1 hat1 LA OA CA sA RA hbk hr1 C4 L4 R4 M1 C1 L1 LW c2' R5 C5 L5 s5 c1 QK1 QK2 QK5 HSET
          go_wp2_with ((with_reducible refine wpList_append_hd rfl (.tmp 52) (.tmp 54) rfl rfl rfl C6.out.own H6.out (fun e => by cases e) (Nat.le_refl _) QK6.out s6.out ?_); intro v7 w7 ho7 hg7 hat7; refine of_hid ?_)
          refine Lib.hid ?_
          have L7 : Hid (Below B0 wo w7) := Lib.hid (D.own_rowS L6.out C6.out.own hg7 s6.out)
          have C7 := Lib.hid (C6.out.push ho7 hg7 R6.out hg1B ⟨hcg, hcgm⟩ (fun j hj e => N1.out j hj (by rw [e]; rfl)) (fun v hv => rfl))
          clear ho7 hg7 hat7 C6 R6 H6 L6 s6 N1 cy cg1 fg1
          go_wp2_with fail
          go_roundw
          case rel => exact ⟨t + 1, by omega, by go_num, ⟨_, _, C7⟩, L7⟩
          case measure => simp [intOf]; omega
        · obtain rfl : t = n := by omega
          have hxm : ∀ j, j < t → ∀ v, v < t → M.setc x k y j v < 256 := fun j hj v hv => by
            unfold M.setc
            by_cases e : v = k
            · rw [if_pos e]
              obtain ⟨_, _, _, _, _, q⟩ := HY.out j hj
              exact q
            · rw [if_neg e]
              obtain ⟨_, _, hx⟩ := D.rdR_head HR.out (i := j) hj
              obtain ⟨_, _, _, _, _, q⟩ := hx v (by rw [(HL.out j hj).1]; exact hv)
              exact q
          obtain ⟨A3, c3, rfl, hc3, hc3m, hrd⟩ := C1.out.rdr hxm
          have RD := Lib.hid hrd
          have HLM : Hid (∀ i, i < t → (H i).2.1 = t ∧ t ≤ (H i).2.2 ∧ (H i).2.2 ≤ maxLen) := Lib.hid fun i hi => by
            obtain ⟨ci, e, h1, h2⟩ := C1.out.hd i hi
            rw [e]
            exact ⟨rfl, h1, h2⟩
          unfold maxLen at hc3m
          have hdk := M.det_lt t (M.setc x k y)
          have HSK : Hid (solX t x y k = M.gmul iv (M.det t (M.setc x k y))) := Lib.hid (by rw [HIV.out]; rfl)
          clear hrd hxm
          go_wp2_with fail
          refine (det_any t A3 c3 wr.heap.size _ _ _ (M.setc x k y) _ RD.out HLM.out hn8 (Nat.le_refl _)).mono ?_
          rintro e w8 ⟨rfl, hl8⟩
          have L8 := Lib.hid (L3.out.trans ((L1.out.trans (hl8.mono hbr)).mono hwB))
          have O8 : Hid (Own8 w8 w.heap.size u9 k (solX t x y)) := Lib.hid ((OO.out.below (B := B0) L1.out (by rw [HB0.out]; exact Nat.le_refl _)).below hl8 (Nat.le_refl _))
          clear hl8 RD HLM C1 L1 OO
          generalize M.det t (M.setc x k y) = dk at *
          go_wp2_with fail
          refine (refmul_any iv dk hil hdk _).mono ?_
          rintro e w9 ⟨rfl, rfl⟩
          have hgl := M.gmul_lt iv dk
          rw [← HSK.out] at hgl ⊢
          have HSX := Lib.hid (solX_push t x y k)
          generalize solX t x y k = sk at *
          have sw8 : Hid (w.heap.size ≤ w8.heap.size) := Lib.hid L8.out.size
          have LB := Lib.hid (L8.out.alloc sw8.out (.cells #[.int .u8 ((sk : Nat) : Int)] 5))
          have OB := Lib.hid (O8.out.below ((Below.refl w8.heap.size w8).alloc (Nat.le_refl _) (.cells #[.int .u8 ((sk : Nat) : Int)] 5)) (Nat.le_refl _))
          have RB := Lib.hid (D.rdb_one8 w8 sk hgl)
          have sB : Hid (w.heap.size ≤ (w8.alloc (.cells #[.int .u8 ((sk : Nat) : Int)] 5)).heap.size) := Lib.hid LB.out.size
          have QK1 : Hid (k + 1 ≤ 70368744177664) := Lib.hid (by omega)
          clear O8 L8 sw8 HSK hgl
          go_wp2_with ((with_reducible refine wpList_append_rd rfl (.tmp 56) (.tmp 61) rfl rfl rfl OB.out RB.out (fun e => by cases e) (Nat.le_refl _) QK1.out sB.out ?_); intro v9 w10 ho9 hg9 hat9; refine of_hid ?_)
          refine Lib.hid ?_
          have L9 : Hid (Below w.heap.size w w10) := Lib.hid (D.own_grown8 LB.out OB.out hg9 sB.out)
          have O9 := Lib.hid (ho9.congr HSX.out)
          clear ho9 hg9 hat9 LB OB RB sB HSX
          go_wp2_with fail
          go_roundw
          case rel => exact ⟨k + 1, by omega, by go_num, O9, L9⟩
          case measure => simp [intOf]; omega
    · obtain rfl : k = n := by omega
      clear hlt
      go_wp2_with fail
      go_ret2
      exact ⟨.one _ HZ.out OO.out, L3.out⟩
end det
end Go.Proofs.Ytoabhbmhjelplaa
