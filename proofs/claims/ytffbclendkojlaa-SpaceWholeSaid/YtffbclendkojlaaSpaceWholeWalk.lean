/-
  The walk of 'SpaceWhole': what was taken is given back, in any order, and settled: all is one free range again.
-/
import Derived.Test.YtffbclendkojlaaSpcStock
import Derived.Test.YtffbclendkojlaaGenArgs
namespace Go.Proofs.Ytffbclendkojlaa
open Go Go.RowKit
set_option maxRecDepth 100000
set_option linter.unusedVariables false
namespace spaceWhole
open Sp Nr
theorem rowL_cnt {n a : Nat} : ∀ {l : List Rg}, rowL n l = some a → n ≤ cnt l
  | [], h => by cases h
  | r :: l, h => by
    unfold rowL at h
    show n ≤ (r.2 - r.1) + cnt l
    by_cases hx : n ≤ r.2 - r.1
    · omega
    · rw [if_neg hx] at h
      have := rowL_cnt h
      omega
theorem int_at {w : World} {g i : Nat} {x : Nat} (h : w.cell? ⟨g, i, none⟩ = some (.int .i64 (x : Int))) : (Instr.loadAt 3 (.pointer (some ⟨g, i, none⟩))).run Try.prog w = .ok (.int .i64 (x : Int)) w :=
  load_one Try.underlying3 (by kernel_rfl) h
/-- 'append(append([]int{}, x[:k]...), x[k+1:]...)', the two appends -/
theorem run_cut {w : World} {base g c k n : Nat} {l : List Nat} (hn : n = l.length) (h : OwnN w base (.slice (some ⟨g, 0, none⟩) n c) l) (hk : k < n) (hl : n ≤ 1000) (ty : TypeId) :
    ∃ v1 w1, (Builtin.append_ #[60, 60] ty #[.slice (some ⟨w.heap.size, 0, none⟩) 0 0, .slice (some ⟨g, 0, none⟩) k c]).run Try.prog (w.alloc (.cells #[] 3)) = .ok v1 w1 ∧ OwnN w1 w.heap.size v1 (l.take k) ∧ Below w.heap.size w w1 := by
  subst hn
  have hb1 : Below w.heap.size w (w.alloc (.cells #[] 3)) := (Below.refl _ _).alloc (Nat.le_refl _) _
  have h0 : OwnN (w.alloc (.cells #[] 3)) w.heap.size (.slice (some ⟨w.heap.size, 0, none⟩) 0 0) [] :=
    ⟨rfl, .inr ⟨w.heap.size, 0, #[], rfl, Nat.le_refl _, Blk.new w _ _, Nat.le_refl _, by simp [maxLen], rfl, rfl⟩⟩
  rcases own_shape (h.below hb1 (Nat.le_refl _)) with ⟨e, _⟩ | ⟨g', c', e1, e2, e3, e4, e5, e6⟩
  · cases e
  · injection e1 with e1 e7 e8
    injection e1 with e1
    injection e1 with e1
    subst e1
    obtain ⟨v', w', hrun, r1, r2, r3⟩ := run_app (m := l.take k) (n := k) (o := 0) (c := c) ty h0 (by rw [List.length_take]; omega) (fun j x hj => by
      rw [Nat.zero_add]
      have hjk : j < k := by have := (List.getElem?_eq_some_iff.1 hj).1; rw [List.length_take] at this; omega
      rw [List.getElem?_take_of_lt hjk] at hj
      exact e6 j x hj) (by simp; omega) hb1.size
    refine ⟨v', w', hrun, by simpa using r1, ⟨r2.os.trans hb1.os, r2.tape.trans hb1.tape, r2.output.trans hb1.output, Nat.le_trans hb1.size r2.size, fun i hi => (r2.block i (Nat.lt_of_lt_of_le hi hb1.size) (fun e => by injection e with e; have e2 : i = w.heap.size := e; omega)).trans (hb1.block i hi)⟩⟩
theorem run_cut2 {w w1 : World} {base g c k n : Nat} {l : List Nat} {v1 : Value} (hn : n = l.length) (h : OwnN w base (.slice (some ⟨g, 0, none⟩) n c) l) (hk : k < n) (hl : n ≤ 1000) (h1 : OwnN w1 w.heap.size v1 (l.take k)) (hb : Below w.heap.size w w1) (ty : TypeId) :
    ∃ v2 w2, (Builtin.append_ #[60, 60] ty #[v1, .slice (some ⟨g, offL c (k + 1), none⟩) (n - (k + 1)) (c - (k + 1))]).run Try.prog w1 = .ok v2 w2 ∧ OwnN w2 w.heap.size v2 (l.take k ++ l.drop (k + 1)) ∧ Below w.heap.size w w2 := by
  subst hn
  rcases own_shape (h.below hb (Nat.le_refl _)) with ⟨e, _⟩ | ⟨g', c', e1, e2, e3, e4, e5, e6⟩
  · cases e
  · injection e1 with e1 e7 e8
    injection e1 with e1
    injection e1 with e1
    subst e1
    subst e8
    obtain ⟨v', w', hrun, r1, r2, r3⟩ := run_app (m := l.drop (k + 1)) (n := l.length - (k + 1)) (o := offL c (k + 1)) (c := c - (k + 1)) ty h1 (by rw [List.length_drop]) (fun j x hj => by
      rw [List.getElem?_drop] at hj
      have hlt := (List.getElem?_eq_some_iff.1 hj).1
      have := e6 _ x hj
      unfold offL
      rw [if_neg (by omega)]
      exact this) (by simp; omega) hb.size
    refine ⟨v', w', hrun, r1, ⟨r2.os.trans hb.os, r2.tape.trans hb.tape, r2.output.trans hb.output, Nat.le_trans hb.size r2.size, fun i hi => (r2.block i (Nat.lt_of_lt_of_le hi hb.size) (fun e => by have := (h1.lt e.symm).2; omega)).trans (hb.block i hi)⟩⟩
theorem map_cut (P : List (Nat × Nat)) (k : Nat) (f : Nat × Nat → Nat) : (P.map f).take k ++ (P.map f).drop (k + 1) = (P.take k ++ P.drop (k + 1)).map f := by
  rw [List.map_append, List.map_take, List.map_drop]
theorem exec_bld0 {P : Program} {w w' : World} {o : Oper} {a : Act} {ty : TypeId} {v : Value} (ho : o.op = .buildSlice ty 0 #[]) (hl : (Instr.buildSlice ty 0 #[]).run P w = .ok v w') : (execOp a.eval o).run P w = .ok (.value v) w' := by
  unfold execOp
  simp only [ho, List.map_toArray, List.map_nil, hl, Sem.run_bind, Sem.run_pure, Result.andThen_ok]
theorem below_drew (w : World) : Below w.heap.size w w.drew := (Below.refl _ _).drew
theorem add_one (k : Nat) (h : k ≤ 1000) (w : World) : (binOp .add 3 (.int .i64 (k : Int)) (.int .i64 1)).run Try.prog w = .ok (.int .i64 ((k + 1 : Nat) : Int)) w := by
  rw [show binOp .add 3 (.int .i64 (k : Int)) (.int .i64 1) = pure (.int .i64 (IntKind.i64.wrap ((k : Int) + 1))) from rfl, IntWalk.i64_in _ (by omega)]
  rfl
theorem wp_app {w : World} {o : Oper} {a : Act} {K : Act → World → Prop} {Q : Exit → Act → World → Prop} (s x : Operand) (ho : o.op = .call { callee := .builtin .append, args := #[s, x], argTypes := #[60, 60] })
    {v y : Value} {R : Value → World → Prop} (hs : a.eval s = v) (hx : a.eval x = y) (hrun : ∀ ty, ∃ v' w', (Builtin.append_ #[60, 60] ty #[v, y]).run Try.prog w = .ok v' w' ∧ R v' w') (h : ∀ v' w', R v' w' → K (a.put o.dst v') w') : o.wp Try.prog a w K Q := by
  obtain ⟨v', w', h1, h2⟩ := hrun o.type
  exact Gr.wp_append 60 s x ho hs hx h1 (h v' w' h2)
theorem list_o {O : Nat → Prop} {w : World} {b m : Nat} {s : SS} (h : SpO O w b m s) {k : Nat} (hk : k < 3) : Calls Try.prog 47 #[.pointer (some ⟨b, 0, none⟩), .int .i64 (k : Int)] w fun e w' => ∃ v', e = .returned v' ∧ Own w' w.heap.size v' (s.S k) ∧ SpO O w' b m s ∧ Below w.heap.size w w' := by
  have hO := h
  obtain ⟨h0, h1', h2', F, V, hs, hv⟩ := h
  exact (list_rg hs (Nat.zero_le _) hk).mono fun e w' ⟨v', h1, h2, h3⟩ => ⟨v', h1, h2, hO.keep h3.size fun g hg => h3.block g (h0 g hg), h3⟩
theorem ranges_o {O : Nat → Prop} {w : World} {b m : Nat} {s : SS} (h : SpO O w b m s) : Calls Try.prog 30 #[.pointer (some ⟨b, 0, none⟩)] w fun e w' => ∃ v', e = .returned v' ∧ Own w' w.heap.size v' (s.S 0) ∧ SpO O w' b m s ∧ Below w.heap.size w w' := by
  have hO := h
  obtain ⟨h0, h1', h2', F, V, hs, hv⟩ := h
  exact (ranges_rg hs (Nat.zero_le _)).mono fun e w' ⟨v', h1, h2, h3⟩ => ⟨v', h1, h2, hO.keep h3.size fun g hg => h3.block g (h0 g hg), h3⟩
theorem used_o {O : Nat → Prop} {w : World} {b m : Nat} {s : SS} (h : SpO O w b m s) : Calls Try.prog 31 #[.pointer (some ⟨b, 0, none⟩)] w fun e w' => ∃ v', e = .returned v' ∧ Own w' w.heap.size v' (s.S 1) ∧ SpO O w' b m s ∧ Below w.heap.size w w' := by
  have hO := h
  obtain ⟨h0, h1', h2', F, V, hs, hv⟩ := h
  exact (used_rg hs (Nat.zero_le _)).mono fun e w' ⟨v', h1, h2, h3⟩ => ⟨v', h1, h2, hO.keep h3.size fun g hg => h3.block g (h0 g hg), h3⟩
set_option maxHeartbeats 25600000 in
theorem walk (a0 : Int) (A1 : Option Addr) (y1 : List Int) (cap1 : Nat) (A2 : Option Addr) (y2 : List Int) (cap2 : Nat) (w : World) (h0 : (Lit.int .i64 a0).wf = true) (h1 : Gr.RdG 1 Gr.csI w A1 y1) (z1 : ∀ y ∈ y1, Gr.Z64' y) (l1 : y1.length ≤ cap1) (m1 : cap1 ≤ maxLen) (n1 : A1 = none → cap1 = 0) (h2 : Gr.RdG 1 Gr.csI w A2 y2) (z2 : ∀ y ∈ y2, Gr.Z64' y) (l2 : y2.length ≤ cap2) (m2 : cap2 ≤ maxLen) (n2 : A2 = none → cap2 = 0) :
    Calls Try.prog 8 #[.int .i64 a0, .slice A1 y1.length cap1, .slice A2 y2.length cap2] w fun e w' => e = .returned (.bool true) ∧ Below w.heap.size w w' := by
  unfold maxLen at m1 m2
  have H1 := Lib.hid h1
  have H2 := Lib.hid h2
  obtain ⟨len1, hlen1⟩ : ∃ len1, len1 = y1.length := ⟨_, rfl⟩
  obtain ⟨len2, hlen2⟩ : ∃ len2, len2 = y2.length := ⟨_, rfl⟩
  have HLN := Lib.hid (⟨hlen1, hlen2⟩ : _ ∧ _)
  rw [← hlen1] at l1 ⊢
  rw [← hlen2] at l2 ⊢
  clear h0 h1 h2 z1 z2 n1 n2 hlen1 hlen2
  go_enter Try.func8, Try.ntmps8
  go_wp2_with fail
  refine (known_any _).mono ?_
  rintro e w1 ⟨rfl, b1⟩
  have L1 := Lib.hid b1
  clear b1
  obtain ⟨n0, hn0, hn0b⟩ := umodN a0 200 (by omega) (by omega)
  obtain ⟨C, hC⟩ : ∃ C, C = 1 + n0 := ⟨_, rfl⟩
  have hC1 : 1 ≤ C := by omega
  have hC2 : C ≤ 200 := by omega
  have hq0 : wrap64 (1 + wrap64 ((IntKind.u64.wrap a0).tmod 200)) = (C : Int) := by
    rw [show (200 : Int) = ((200 : Nat) : Int) from rfl, hn0]
    unfold wrap64
    omega
  clear hn0 hC hn0b
  go_upto_region 4 with (fail)
  rw [hq0]
  clear hq0
  go_wp2_with fail
  refine (newnil_at w1 C hC1 (by omega)).mono ?_
  rintro e w2 ⟨b, m, rfl, s2, b2⟩
  obtain ⟨B, hB⟩ : ∃ B, B = w1.heap.size := ⟨_, rfl⟩
  rw [← hB] at s2 b2
  have HB : Hid (w.heap.size ≤ B) := Lib.hid (by rw [hB]; exact L1.out.size)
  have ST0 : Hid (Two2 (fun g => B ≤ g ∧ g < w2.heap.size) w2 B b m (.slice none 0 0) (.slice none 0 0) (([] : List (Nat × Nat)).map Prod.fst) (([] : List (Nat × Nat)).map Prod.snd) (allFree C)) :=
    Lib.hid ⟨s2.o, Gr.OwnG.nil _ _, Gr.OwnG.nil _ _, ⟨(fun g hg => by cases hg), (fun g hg => by cases hg)⟩, fun g hg => hg.1, s2.1⟩
  have HP0 : Hid (Stock (allFree C) []) := Lib.hid (Stock.start C)
  have HCK0 : Hid ((allFree C).cells = C ∧ (allFree C).kept = 0) := Lib.hid ⟨rfl, rfl⟩
  have L2 : Hid (Below w.heap.size w w2) := Lib.hid (L1.out.trans (b2.mono HB.out))
  clear s2 b2 hB
  go_wp2_with fail
  go_loopw [9, 10, 11] (fun vf vc y wr => ∃ (i : Nat) (P : List (Nat × Nat)) (s : SS) (O : Nat → Prop), i ≤ len1 ∧ i ≤ 40 ∧ P.length ≤ i ∧ y = .int .i64 (i : Int) ∧ Hid (Two2 O wr B b m vf vc (P.map Prod.fst) (P.map Prod.snd) s) ∧ Hid (Stock s P) ∧ Hid (s.cells = C ∧ s.kept = 0) ∧ Hid (Below w.heap.size w wr)) (fun _ _ y _ => 40 - (intOf y).toNat)
  case atStart => exact ⟨0, [], _, _, by omega, by omega, Nat.le_refl _, rfl, ST0, HP0, HCK0, L2⟩
  case round =>
    clear ST0 HP0 HCK0 L2
    obtain ⟨i, P, s, O, hi, hi2, hPi, rfl, ST, HP, HCK, LW⟩ := hrel
    have HGD : Hid (Sp.Good s) := Lib.hid (by obtain ⟨_, _, _, F, V, h1, _⟩ := ST.out.sp; exact h1.good)
    by_cases hlt : i < len1 ∧ i < 40
    · obtain ⟨hlt1, hlt2⟩ := hlt
      have i1 : (i : Int) < (len1 : Int) := by omega
      have i2 : (i : Int) < 40 := by omega
      obtain ⟨nn, hnn⟩ : ∃ nn, y1[i]? = some nn := ⟨_, List.getElem?_eq_getElem (by have := HLN.out.1; omega)⟩
      obtain ⟨g1, o1, hA, hgb, kk⟩ := (H1.out.below LW.out) i nn hnn
      have k1 := kk 0 (.int .i64 nn) rfl
      rw [Nat.mul_one, Nat.add_zero] at k1
      subst hA
      clear hnn kk
      obtain ⟨m0, hm0, hm0b⟩ := umodN nn 9 (by omega) (by omega)
      obtain ⟨n, hn⟩ : ∃ n, n = 1 + m0 := ⟨_, rfl⟩
      have hn1 : 1 ≤ n := by omega
      have hn2 : n ≤ 9 := by omega
      have hq9 : wrap64 (1 + wrap64 ((IntKind.u64.wrap nn).tmod 9)) = (n : Int) := by
        rw [show (9 : Int) = ((9 : Nat) : Int) from rfl, hm0]
        unfold wrap64
        omega
      clear hm0 hn hm0b hgb
      go_upto_region 12 with (fail)
      rw [hq9]
      clear hq9 k1
      have HT := Lib.hid (take_o ST.out.sp (n : Int) (by omega))
      cases hrow : rowL n (s.S 0) with
      | none =>
        have ht : takeS s (n : Int) = ((0, 5), s) := by rw [takeS_nat s n hn1, hrow]
        rw [ht] at HT
        clear ht hrow
        go_wp2_with fail
        refine HT.out.mono ?_
        rintro e w4 ⟨rfl, s4, f4⟩
        have b4 := f4.below (B := w.heap.size) (fun g hg => by have := ST.out.ob.1 g hg; have := HB.out; omega) LW.out.size
        have ST2 := Lib.hid (ST.out.space s4 f4)
        have LW2 := Lib.hid (LW.out.trans b4)
        clear s4 f4 b4 HT ST LW
        go_wp2_with fail
        go_roundw
        case rel => exact ⟨i + 1, P, s, _, by omega, by omega, by omega, by go_num, ST2, HP, HCK, LW2⟩
        case measure => simp [intOf]; omega
      | some x =>
        have ht : takeS s (n : Int) = (((x : Int), 0), s.mv 0 1 x (x + n)) := by
          rw [takeS_nat s n hn1, hrow]
          dsimp only
          have := rowL_cnt hrow
          rw [if_pos (by rw [HCK.out.2]; omega)]
        rw [ht] at HT
        have hxc := (row_has HGD.out hn1 hrow).2
        rw [HCK.out.1] at hxc
        have HP2 := Lib.hid (HP.out.take HGD.out hn1 hn2 hrow)
        have HCK2 : Hid ((s.mv 0 1 x (x + n)).cells = C ∧ (s.mv 0 1 x (x + n)).kept = 0) := HCK
        obtain ⟨s', hs'⟩ : ∃ s', s' = s.mv 0 1 x (x + n) := ⟨_, rfl⟩
        rw [← hs'] at HT HP2 HCK2
        clear ht hrow hs' HP HCK HGD
        go_wp2_with fail
        refine HT.out.mono ?_
        rintro e w4 ⟨rfl, s4, f4⟩
        have b4 := f4.below (B := w.heap.size) (fun g hg => by have := ST.out.ob.1 g hg; have := HB.out; omega) LW.out.size
        have ST2 := Lib.hid (ST.out.space s4 f4)
        have LW2 := Lib.hid (LW.out.trans b4)
        obtain ⟨O2, hO2⟩ : ∃ O2, O2 = More O wr w4 := ⟨_, rfl⟩
        rw [← hO2] at ST2
        clear s4 f4 b4 HT ST LW hO2
        go_wp2_with (at_builtin; refine wpList_app1 (x := x) rfl (.tmp 57) (.tmp 59) rfl rfl rfl ST2.out.f (by simp; omega) ST2.out.ob.2 ?_; intro vf2 w5 ho5 hg5 hv5; refine unhid ?_)
        refine Lib.hid ?_
        have hba : Below w4.heap.size w4 (w4.alloc (.cells #[.int .i64 (x : Int)] 3)) := (Below.refl _ _).alloc (Nat.le_refl _) _
        have ST3 := Lib.hid ((ST2.out.below hba).setF ho5 hg5 hv5)
        have LW3 : Hid (Below w.heap.size w w5) := Lib.hid (by
          have h3 := LW2.out.trans (hba.mono LW2.out.size)
          exact ⟨hg5.os.trans h3.os, hg5.tape.trans h3.tape, hg5.output.trans h3.output, Nat.le_trans h3.size hg5.size, fun g hg => (hg5.block g (Nat.lt_of_lt_of_le hg h3.size) (fun e => by have := (ST2.out.f.lt e.symm).2; have := HB.out; omega)).trans (h3.block g hg)⟩)
        clear ho5 hg5 hv5 hba ST2 LW2
        go_wp2_with (at_builtin; refine wpList_app1 (x := n) rfl (.tmp 61) (.tmp 63) rfl rfl rfl ST3.out.c (by simp; omega) ST3.out.ob.2 ?_; intro vc2 w6 ho6 hg6 hv6; refine unhid ?_)
        refine Lib.hid ?_
        have hba : Below w5.heap.size w5 (w5.alloc (.cells #[.int .i64 (n : Int)] 3)) := (Below.refl _ _).alloc (Nat.le_refl _) _
        have ST4 : Hid (Two2 O2 w6 B b m vf2 vc2 ((P ++ [(x, n)]).map Prod.fst) ((P ++ [(x, n)]).map Prod.snd) s') := Lib.hid (by
          have h4 := (ST3.out.below hba).setC ho6 hg6 hv6
          rw [List.map_append, List.map_append]
          exact h4)
        have LW4 : Hid (Below w.heap.size w w6) := Lib.hid (by
          have h3 := LW3.out.trans (hba.mono LW3.out.size)
          exact ⟨hg6.os.trans h3.os, hg6.tape.trans h3.tape, hg6.output.trans h3.output, Nat.le_trans h3.size hg6.size, fun g hg => (hg6.block g (Nat.lt_of_lt_of_le hg h3.size) (fun e => by have := (ST3.out.c.lt e.symm).2; have := HB.out; omega)).trans (h3.block g hg)⟩)
        clear ho6 hg6 hv6 hba ST3 LW3
        go_wp2_with fail
        go_roundw
        case rel => exact ⟨i + 1, P ++ [(x, n)], s', O2, by omega, by omega, by simp; omega, by go_num, ST4, HP2, HCK2, LW4⟩
        case measure => simp [intOf]; omega
    · have hsplit2 : (¬ (i : Int) < (len1 : Int)) ∨ ((i : Int) < (len1 : Int) ∧ ¬ (i : Int) < 40) := by omega
      have hP40 : P.length ≤ 40 := by omega
      clear hlt H1 HGD hPi
      rcases hsplit2 with hs | ⟨hs, hs2⟩
      all_goals
        go_wp2_with fail
        go_loopw [9, 10] (fun vf vc wq => ∃ (P : List (Nat × Nat)) (s : SS) (O : Nat → Prop), P.length ≤ 40 ∧ Hid (Two2 O wq B b m vf vc (P.map Prod.fst) (P.map Prod.snd) s) ∧ Hid (Stock s P) ∧ Hid (s.cells = C ∧ s.kept = 0) ∧ Hid (Below w.heap.size w wq)) (fun vf _ _ => match vf with | .slice _ n _ => n | _ => 0)
        case atStart => exact ⟨P, s, O, hP40, ST, HP, HCK, LW⟩
        case round =>
          clear ST HP HCK LW
          obtain ⟨P, s, O, hP, ST, HP, HCK, LW⟩ := hrel
          have HGD : Hid (Sp.Good s) := Lib.hid (by obtain ⟨_, _, _, F, V, h1, _⟩ := ST.out.sp; exact h1.good)
          by_cases hP0 : P = []
          · subst hP0
            obtain ⟨A9, c9, hv9, _, _, _, _, _⟩ := ST.out.f.shape (fun _ => rfl)
            rw [show (([] : List (Nat × Nat)).map Prod.fst).length = 0 from rfl] at hv9
            subst hv9
            have HSE := Lib.hid (settle_o ST.out.sp)
            obtain ⟨d1, d2, d3⟩ := HP.out.done HGD.out
            rw [HCK.out.1] at d1 d3
            have HD := Lib.hid (⟨d1, d2, d3⟩ : _ ∧ _ ∧ _)
            clear d1 d2 d3
            go_wp2_with fail
            refine HSE.out.mono ?_
            rintro e w4 ⟨rfl, s4, f4⟩
            have b4 := f4.below (B := w.heap.size) (fun g hg => by have := ST.out.ob.1 g hg; have := HB.out; omega) LW.out.size
            have LW2 := Lib.hid (LW.out.trans b4)
            have S4 := Lib.hid s4
            clear s4 f4 b4 HSE ST LW
            go_wp2_with fail
            refine (ranges_o S4.out).mono ?_
            rintro e w5 ⟨v5, rfl, o5, s5, b5⟩
            rw [HD.out.1] at o5
            obtain ⟨A5, c5, rfl, hR5, _, _, _⟩ := o5.shape
            obtain ⟨r5, g5, o5', e5, hA5, q0, q1⟩ := hR5.at_ (i := 0) (by simp)
            simp at e5
            subst e5
            subst hA5
            rw [show o5' + 0 * 2 = o5' by omega] at q0 q1
            rw [show ([(0, C)] : List Rg).length = 1 from rfl]
            have LW3 := Lib.hid (LW2.out.trans (b5.mono LW2.out.size))
            have S5 := Lib.hid s5
            clear s5 b5 o5 hR5 S4 LW2
            go_wp2_with fail
            refine (used_o S5.out).mono ?_
            rintro e w6 ⟨v6, rfl, o6, s6, b6⟩
            rw [HD.out.2.1] at o6
            obtain ⟨A6, c6, rfl, _, _, _, _⟩ := o6.shape
            rw [show ([] : List Rg).length = 0 from rfl]
            have LW4 := Lib.hid (LW3.out.trans (b6.mono LW3.out.size))
            have HFR := Lib.hid (free_o s6)
            rw [HD.out.2.2, show s.settled.kept = 0 from HCK.out.2] at HFR
            rw [show (C : Int) - ((0 : Nat) : Int) = (C : Int) by omega] at HFR
            clear s6 b6 o6 S5 LW3
            go_wp2_with fail
            refine HFR.out.mono ?_
            rintro e w7 ⟨rfl, _, b7⟩
            have LW5 := Lib.hid (LW4.out.trans (b7.mono LW4.out.size))
            clear b7 HFR LW4
            go_wp2_with fail
            go_ret
            exact ⟨rfl, LW5.out⟩
          · obtain ⟨q, hq⟩ : ∃ q, P.length = q + 1 := ⟨P.length - 1, by have : 0 < P.length := List.length_pos_iff.2 hP0; omega⟩
            rcases own_shape ST.out.f with ⟨_, e2⟩ | ⟨gf, cf, hvf, f1, f2, f3, f4, f5⟩
            · exact absurd (List.map_eq_nil_iff.1 e2) hP0
            rcases own_shape ST.out.c with ⟨_, e2⟩ | ⟨gc, cc, hvc, c1, c2, c3, c4, c5⟩
            · exact absurd (List.map_eq_nil_iff.1 e2) hP0
            rw [List.length_map, hq] at hvf hvc
            subst hvf
            subst hvc
            have HPQ := Lib.hid hq
            have hqb : q ≤ 39 := by omega
            have hfc : q + 1 ≤ cf := by rw [List.length_map, hq] at f3; exact f3
            have hcc : q + 1 ≤ cc := by rw [List.length_map, hq] at c3; exact c3
            clear f1 f2 f3 f4 f5 c1 c2 c3 c4 c5 hq hP0
            have HK : Hid (∀ (k : Nat), k ≤ q → ∃ p1 p2 : Nat, P[k]? = some (p1, p2)) := Lib.hid fun k hk => ⟨_, _, List.getElem?_eq_getElem (by have := HPQ.out; omega)⟩
            obtain ⟨wo, hwo⟩ : ∃ wo : World, wo = wr := ⟨_, rfl⟩
            subst hwo
            by_cases hle : q + 1 ≤ len2
            rotate_left
            · have t1 : ¬ (((q : Int) + 1) ≤ (len2 : Int)) := by omega
              have hkq : 0 ≤ q := by omega
              go_upto_region 22 with (fail)
              obtain ⟨p1, p2, hpk⟩ := HK.out 0 hkq
              obtain ⟨g1, g2, g3, g4, g5, g6⟩ := HP.out.give HGD.out hpk
              dsimp only at g1 g2 g3 g4 g5 g6
              have hHS' : (s.mv 1 2 p1 (p1 + p2)).cells = C ∧ (s.mv 1 2 p1 (p1 + p2)).kept = 0 := HCK.out
              rw [HCK.out.1] at g6
              have hgv1 : giveS s (p1 : Int) (p2 : Int) = (0, s.mv 1 2 p1 (p1 + p2)) := by
                unfold giveS
                rw [if_neg (by rw [HCK.out.1]; omega), Int.toNat_natCast, Int.toNat_natCast, if_pos g1]
              have hgv2 : giveS (s.mv 1 2 p1 (p1 + p2)) (p1 : Int) (p2 : Int) = (7, s.mv 1 2 p1 (p1 + p2)) := by
                unfold giveS
                rw [if_neg (by rw [hHS'.1]; omega), Int.toNat_natCast, Int.toNat_natCast, if_neg (by simp [g3])]
              obtain ⟨s', hs'⟩ : ∃ s', s' = s.mv 1 2 p1 (p1 + p2) := ⟨_, rfl⟩
              rw [← hs'] at g2 hHS' hgv1 hgv2
              have HPN := Lib.hid g2
              have HCK' := Lib.hid hHS'
              have HGV1 := Lib.hid hgv1
              have HGV2 := Lib.hid hgv2
              have HCF : Hid (∀ O' w' s1, Two2 O' w' B b m (.slice (some ⟨gf, 0, none⟩) (q + 1) cf) (.slice (some ⟨gc, 0, none⟩) (q + 1) cc) (P.map Prod.fst) (P.map Prod.snd) s1 → w'.cell? ⟨gf, 0, none⟩ = some (.int .i64 (p1 : Int)) ∧ w'.cell? ⟨gc, 0, none⟩ = some (.int .i64 (p2 : Int))) := Lib.hid fun O' w' s1 h => by
                rcases own_shape h.f with ⟨e, _⟩ | ⟨gf', cf', e1, _, _, _, _, f5⟩
                · cases e
                · rcases own_shape h.c with ⟨e, _⟩ | ⟨gc', cc', e2, _, _, _, _, c5⟩
                  · cases e
                  · injection e1 with e1
                    injection e1 with e1
                    injection e1 with e1
                    injection e2 with e2
                    injection e2 with e2
                    injection e2 with e2
                    subst e1 e2
                    exact ⟨f5 0 p1 (by rw [List.getElem?_map, hpk]; rfl), c5 0 p2 (by rw [List.getElem?_map, hpk]; rfl)⟩
              have hlF : q + 1 = (P.map Prod.fst).length := by rw [List.length_map]; exact HPQ.out.symm
              have hlN : q + 1 = (P.map Prod.snd).length := by rw [List.length_map]; exact HPQ.out.symm
              have HLF := Lib.hid hlF
              have HLN2 := Lib.hid hlN
              have hPl : (P.take 0 ++ P.drop (0 + 1)).length = q := by rw [List.length_append, List.length_take, List.length_drop, HPQ.out]; omega
              have HPL := Lib.hid hPl
              have STD := Lib.hid (ST.out.below (below_drew wo))
              have HS := Lib.hid (HCF.out _ _ _ STD.out)
              have hp1b : p1 ≤ 200 := by omega
              have hp2b : p2 ≤ 9 := g5
              have hkl : 0 < q + 1 := by omega
              clear hpk g1 g2 g3 g4 g5 g6 hHS' hgv1 hgv2 hs' hlF hlN hPl HK HGD
              refine region_anyZ (fun w' => w'.cell? ⟨gf, 0, none⟩ = some (.int .i64 (p1 : Int)) ∧ w'.cell? ⟨gc, 0, none⟩ = some (.int .i64 (p2 : Int))) 24 (by kernel_rfl) ?_
              refine takeG 0 (.move (.tmp 7)) (some 87) none (.pointer (some ⟨b, 0, none⟩)) (by kernel_rfl) (by kernel_rfl) (by kernel_rfl) (fun _ _ _ h => h) (fun o wq e hS => exec_move wq e (by kernel_rfl)) HS.out ?_
              refine takeG 1 (.move (.tmp 9)) (some 88) none (.slice (some ⟨gf, 0, none⟩) (q + 1) cf) (by kernel_rfl) (by kernel_rfl) (by kernel_rfl) (fun _ _ _ h => h) (fun o wq e hS => exec_move wq e (by kernel_rfl)) HS.out ?_
              refine takeG 2 (.move (.tmp 15)) (some 89) none (.int .i64 (0 : Int)) (by kernel_rfl) (by kernel_rfl) (by kernel_rfl) (fun _ _ _ h => h) (fun o wq e hS => exec_move wq e (by kernel_rfl)) HS.out ?_
              refine takeG 3 (.indexAddr 60 (.tmp 88) (.tmp 89)) (some 90) none (.pointer (some ⟨gf, 0, none⟩)) (by kernel_rfl) (by kernel_rfl) (by kernel_rfl) (fun _ _ _ h => h) (fun o wq e hS => exec_index (u1 := .slice (some ⟨gf, 0, none⟩) (q + 1) cf) (u2 := .int .i64 (0 : Int)) wq e (by kernel_rfl) (by kernel_rfl) (index_int gf (q + 1) cf 0 hkl _)) HS.out ?_
              refine takeG 4 (.load 3 (.tmp 90)) (some 91) none (.int .i64 (p1 : Int)) (by kernel_rfl) (by kernel_rfl) (by kernel_rfl) (fun _ _ _ h => h) (fun o wq e hS => exec_load (x := (.tmp 90)) e (by kernel_rfl) (int_at hS.1)) HS.out ?_
              refine takeG 5 (.move (.tmp 10)) (some 92) none (.slice (some ⟨gc, 0, none⟩) (q + 1) cc) (by kernel_rfl) (by kernel_rfl) (by kernel_rfl) (fun _ _ _ h => h) (fun o wq e hS => exec_move wq e (by kernel_rfl)) HS.out ?_
              refine takeG 6 (.move (.tmp 15)) (some 93) none (.int .i64 (0 : Int)) (by kernel_rfl) (by kernel_rfl) (by kernel_rfl) (fun _ _ _ h => h) (fun o wq e hS => exec_move wq e (by kernel_rfl)) HS.out ?_
              refine takeG 7 (.indexAddr 60 (.tmp 92) (.tmp 93)) (some 94) none (.pointer (some ⟨gc, 0, none⟩)) (by kernel_rfl) (by kernel_rfl) (by kernel_rfl) (fun _ _ _ h => h) (fun o wq e hS => exec_index (u1 := .slice (some ⟨gc, 0, none⟩) (q + 1) cc) (u2 := .int .i64 (0 : Int)) wq e (by kernel_rfl) (by kernel_rfl) (index_int gc (q + 1) cc 0 hkl _)) HS.out ?_
              refine takeG 8 (.load 3 (.tmp 94)) (some 95) none (.int .i64 (p2 : Int)) (by kernel_rfl) (by kernel_rfl) (by kernel_rfl) (fun _ _ _ h => h) (fun o wq e hS => exec_load (x := (.tmp 94)) e (by kernel_rfl) (int_at hS.2)) HS.out ?_
              refine loneG 9 (.call ⟨.value (.func 13), #[(.tmp 87), (.tmp 91), (.tmp 95)], #[25, 3, 3]⟩) (some 96) none (by kernel_rfl) (by kernel_rfl) (by kernel_rfl) ?_
              intro o ho hod
              have HCW4 := Lib.hid (give_o STD.out.sp (p1 : Int) (p2 : Int) (by omega) (by omega) (by omega) (by omega))
              rw [HGV1.out] at HCW4
              refine wp_callC (f := 13) (args := #[.pointer (some ⟨b, 0, none⟩), .int .i64 (p1 : Int), .int .i64 (p2 : Int)]) (by cases o; cases ho; kernel_rfl) HCW4.out ?_
              rintro ee W4 ⟨rfl, s4, f4⟩
              refine ⟨.int .i64 0, rfl, ?_⟩
              rw [hod]
              clear hod ho
              have b4 := f4.below (B := w.heap.size) (fun g hg => by have := STD.out.ob.1 g hg; have := HB.out; omega) LW.out.drew.size
              have ST4 := Lib.hid (STD.out.space s4 f4)
              have LW4 := Lib.hid (LW.out.drew.trans b4)
              have HSW4 := Lib.hid (HCF.out _ _ _ ST4.out)
              clear s4 f4 b4 HCW4 STD
              refine ⟨fun _ => HSW4.out, ?_⟩
              refine takeG 10 (.binOp .neq 28 (.tmp 96) (.const (.int .i64 0)) 28) (some 97) none (.bool false) (by kernel_rfl) (by kernel_rfl) (by kernel_rfl) (fun _ _ _ h => h) (fun o wq e hS => exec_bin (u1 := .int .i64 0) (u2 := (.int .i64 0)) wq e (by kernel_rfl) (by kernel_rfl) (eqG_int ..) (by kernel_rfl)) HSW4.out ?_
              refine takeG 11 (.move (.tmp 97)) (some 98) none (.bool false) (by kernel_rfl) (by kernel_rfl) (by kernel_rfl) (fun _ _ _ h => h) (fun o wq e hS => exec_move wq e (by kernel_rfl)) HSW4.out ?_
              refine takeG 12 (.move (.tmp 7)) (some 99) (some (11, false)) (.pointer (some ⟨b, 0, none⟩)) (by kernel_rfl) (by kernel_rfl) (by kernel_rfl) (fun _ _ _ h => h) (fun o wq e hS => exec_move wq e (by kernel_rfl)) HSW4.out ?_
              refine takeG 13 (.move (.tmp 9)) (some 100) (some (11, false)) (.slice (some ⟨gf, 0, none⟩) (q + 1) cf) (by kernel_rfl) (by kernel_rfl) (by kernel_rfl) (fun _ _ _ h => h) (fun o wq e hS => exec_move wq e (by kernel_rfl)) HSW4.out ?_
              refine takeG 14 (.move (.tmp 15)) (some 101) (some (11, false)) (.int .i64 (0 : Int)) (by kernel_rfl) (by kernel_rfl) (by kernel_rfl) (fun _ _ _ h => h) (fun o wq e hS => exec_move wq e (by kernel_rfl)) HSW4.out ?_
              refine takeG 15 (.indexAddr 60 (.tmp 100) (.tmp 101)) (some 102) (some (11, false)) (.pointer (some ⟨gf, 0, none⟩)) (by kernel_rfl) (by kernel_rfl) (by kernel_rfl) (fun _ _ _ h => h) (fun o wq e hS => exec_index (u1 := .slice (some ⟨gf, 0, none⟩) (q + 1) cf) (u2 := .int .i64 (0 : Int)) wq e (by kernel_rfl) (by kernel_rfl) (index_int gf (q + 1) cf 0 hkl _)) HSW4.out ?_
              refine takeG 16 (.load 3 (.tmp 102)) (some 103) (some (11, false)) (.int .i64 (p1 : Int)) (by kernel_rfl) (by kernel_rfl) (by kernel_rfl) (fun _ _ _ h => h) (fun o wq e hS => exec_load (x := (.tmp 102)) e (by kernel_rfl) (int_at hS.1)) HSW4.out ?_
              refine takeG 17 (.move (.tmp 10)) (some 104) (some (11, false)) (.slice (some ⟨gc, 0, none⟩) (q + 1) cc) (by kernel_rfl) (by kernel_rfl) (by kernel_rfl) (fun _ _ _ h => h) (fun o wq e hS => exec_move wq e (by kernel_rfl)) HSW4.out ?_
              refine takeG 18 (.move (.tmp 15)) (some 105) (some (11, false)) (.int .i64 (0 : Int)) (by kernel_rfl) (by kernel_rfl) (by kernel_rfl) (fun _ _ _ h => h) (fun o wq e hS => exec_move wq e (by kernel_rfl)) HSW4.out ?_
              refine takeG 19 (.indexAddr 60 (.tmp 104) (.tmp 105)) (some 106) (some (11, false)) (.pointer (some ⟨gc, 0, none⟩)) (by kernel_rfl) (by kernel_rfl) (by kernel_rfl) (fun _ _ _ h => h) (fun o wq e hS => exec_index (u1 := .slice (some ⟨gc, 0, none⟩) (q + 1) cc) (u2 := .int .i64 (0 : Int)) wq e (by kernel_rfl) (by kernel_rfl) (index_int gc (q + 1) cc 0 hkl _)) HSW4.out ?_
              refine takeG 20 (.load 3 (.tmp 106)) (some 107) (some (11, false)) (.int .i64 (p2 : Int)) (by kernel_rfl) (by kernel_rfl) (by kernel_rfl) (fun _ _ _ h => h) (fun o wq e hS => exec_load (x := (.tmp 106)) e (by kernel_rfl) (int_at hS.2)) HSW4.out ?_
              refine loneG 21 (.call ⟨.value (.func 13), #[(.tmp 99), (.tmp 103), (.tmp 107)], #[25, 3, 3]⟩) (some 108) (some (11, false)) (by kernel_rfl) (by kernel_rfl) (by kernel_rfl) ?_
              intro o ho hod
              have HCW5 := Lib.hid (give_o ST4.out.sp (p1 : Int) (p2 : Int) (by omega) (by omega) (by omega) (by omega))
              rw [HGV2.out] at HCW5
              refine wp_callC (f := 13) (args := #[.pointer (some ⟨b, 0, none⟩), .int .i64 (p1 : Int), .int .i64 (p2 : Int)]) (by cases o; cases ho; kernel_rfl) HCW5.out ?_
              rintro ee W5 ⟨rfl, s4, f4⟩
              refine ⟨.int .i64 7, rfl, ?_⟩
              rw [hod]
              clear hod ho
              have b4 := f4.below (B := w.heap.size) (fun g hg => by have := ST4.out.ob.1 g hg; have := HB.out; omega) LW4.out.size
              have ST5 := Lib.hid (ST4.out.space s4 f4)
              have LW5 := Lib.hid (LW4.out.trans b4)
              have HSW5 := Lib.hid (HCF.out _ _ _ ST5.out)
              clear s4 f4 b4 HCW5 ST4
              refine ⟨fun _ => HSW5.out, ?_⟩
              refine takeG 22 (.binOp .neq 28 (.tmp 108) (.const (.int .i64 7)) 28) (some 109) (some (11, false)) (.bool false) (by kernel_rfl) (by kernel_rfl) (by kernel_rfl) (fun _ _ _ h => h) (fun o wq e hS => exec_bin (u1 := .int .i64 7) (u2 := (.int .i64 7)) wq e (by kernel_rfl) (by kernel_rfl) (eqG_int ..) (by kernel_rfl)) HSW5.out ?_
              refine lastS 23 (.pick (.tmp 98) (.const (Value.bool true)) (.tmp 109)) (some 110) (.bool false) (by kernel_rfl) (by kernel_rfl) (by kernel_rfl) HSW5.out (fun o e => exec_pick (b := false) _ e (by kernel_rfl) (by kernel_rfl)) ?_
              simp only [put_some, put_none, List.setIfInBounds_toArray, List.set_cons_succ, List.set_cons_zero]
              go_upto_region 24 with (fail)
              have HT0 : Hid True := Lib.hid trivial
              have hkb2 : 0 ≤ 1000 := by omega
              refine region_anyZ (fun _ => True) 11 (by kernel_rfl) ?_
              refine takeG 1 (.move (.tmp 9)) (some 112) none (.slice (some ⟨gf, 0, none⟩) (q + 1) cf) (by kernel_rfl) (by kernel_rfl) (by kernel_rfl) (fun _ _ _ h => h) (fun o wq e hS => exec_move wq e (by kernel_rfl)) HT0.out ?_
              refine takeG 2 (.move (.tmp 15)) (some 113) none (.int .i64 (0 : Int)) (by kernel_rfl) (by kernel_rfl) (by kernel_rfl) (fun _ _ _ h => h) (fun o wq e hS => exec_move wq e (by kernel_rfl)) HT0.out ?_
              refine takeG 3 (.slice 60 (.tmp 112) .none (.some (.tmp 113)) .none) (some 114) none (.slice (some ⟨gf, 0, none⟩) 0 cf) (by kernel_rfl) (by kernel_rfl) (by kernel_rfl) (fun _ _ _ h => h) (fun o wq e hS => exec_slice (u := .slice (some ⟨gf, 0, none⟩) (q + 1) cf) wq e (by kernel_rfl) (by kernel_rfl) (by kernel_rfl) (by kernel_rfl) (slice_to gf (q + 1) cf 0 (by omega) _)) HT0.out ?_
              refine takeG 5 (.move (.tmp 9)) (some 116) none (.slice (some ⟨gf, 0, none⟩) (q + 1) cf) (by kernel_rfl) (by kernel_rfl) (by kernel_rfl) (fun _ _ _ h => h) (fun o wq e hS => exec_move wq e (by kernel_rfl)) HT0.out ?_
              refine takeG 6 (.move (.tmp 15)) (some 117) none (.int .i64 (0 : Int)) (by kernel_rfl) (by kernel_rfl) (by kernel_rfl) (fun _ _ _ h => h) (fun o wq e hS => exec_move wq e (by kernel_rfl)) HT0.out ?_
              refine takeG 7 (.binOp .add 3 (.tmp 117) (.const (.int .i64 1)) 3) (some 118) none (.int .i64 ((0 + 1 : Nat) : Int)) (by kernel_rfl) (by kernel_rfl) (by kernel_rfl) (fun _ _ _ h => h) (fun o wq e hS => exec_bin (u1 := .int .i64 (0 : Int)) (u2 := (.int .i64 1)) wq e (by kernel_rfl) (by kernel_rfl) (eqG_int ..) (add_one 0 hkb2 _)) HT0.out ?_
              refine takeG 8 (.slice 60 (.tmp 116) (.some (.tmp 118)) .none .none) (some 119) none (.slice (some ⟨gf, offL cf (0 + 1), none⟩) (q + 1 - (0 + 1)) (cf - (0 + 1))) (by kernel_rfl) (by kernel_rfl) (by kernel_rfl) (fun _ _ _ h => h) (fun o wq e hS => exec_slice (u := .slice (some ⟨gf, 0, none⟩) (q + 1) cf) wq e (by kernel_rfl) (by kernel_rfl) (by kernel_rfl) (by kernel_rfl) (slice_from gf (q + 1) cf (0 + 1) (by omega) _)) HT0.out ?_
              refine loneG 0 (.buildSlice 60 0 #[]) (some 111) none (by kernel_rfl) (by kernel_rfl) (by kernel_rfl) ?_
              intro o ho hod
              refine wp_val (exec_bld0 ho (bs_none _)) ?_
              rw [hod]
              clear hod ho
              refine ⟨fun _ => trivial, ?_⟩
              refine loneG 4 (.call ⟨.builtin .append, #[(.tmp 111), (.tmp 114)], #[60, 60]⟩) (some 115) none (by kernel_rfl) (by kernel_rfl) (by kernel_rfl) ?_
              intro o ho hod
              refine wp_app (.tmp 111) (.tmp 114) ho (by kernel_rfl) (by kernel_rfl) (fun ty => run_cut HLF.out (ST5.out.below (below_drew _)).f hkl (by omega) ty) ?_
              rintro v6 w6 ⟨ho6, hb6⟩
              rw [hod]
              clear hod ho
              refine ⟨fun _ => trivial, ?_⟩
              refine loneG 9 (.call ⟨.builtin .append, #[(.tmp 115), (.tmp 119)], #[60, 60]⟩) (some 120) none (by kernel_rfl) (by kernel_rfl) (by kernel_rfl) ?_
              intro o ho hod
              refine wp_app (.tmp 115) (.tmp 119) ho (by kernel_rfl) (by kernel_rfl) (fun ty => run_cut2 HLF.out (ST5.out.below (below_drew _)).f hkl (by omega) ho6 hb6 ty) ?_
              rintro v7 w7 ⟨ho7, hb7⟩
              rw [hod]
              clear hod ho
              refine ⟨fun _ => trivial, ?_⟩
              refine lastS 10 (.assign (.tmp 120)) (some 9) (v7) (by kernel_rfl) (by kernel_rfl) (by kernel_rfl) HT0.out (fun o e => exec_assign _ e (by kernel_rfl)) ?_
              simp only [put_some, put_none, List.setIfInBounds_toArray, List.set_cons_succ, List.set_cons_zero]
              have ST6 := Lib.hid ((ST5.out.below (below_drew _)).newF hb7 ho7)
              have LW6 := Lib.hid (LW5.out.drew.trans (hb7.mono LW5.out.drew.size))
              clear ho7 hb7 ho6 hb6 ST5 LW5
              go_upto_region 25 with (fail)
              have HT0 : Hid True := Lib.hid trivial
              refine region_anyZ (fun _ => True) 11 (by kernel_rfl) ?_
              refine takeG 1 (.move (.tmp 10)) (some 122) none (.slice (some ⟨gc, 0, none⟩) (q + 1) cc) (by kernel_rfl) (by kernel_rfl) (by kernel_rfl) (fun _ _ _ h => h) (fun o wq e hS => exec_move wq e (by kernel_rfl)) HT0.out ?_
              refine takeG 2 (.move (.tmp 15)) (some 123) none (.int .i64 (0 : Int)) (by kernel_rfl) (by kernel_rfl) (by kernel_rfl) (fun _ _ _ h => h) (fun o wq e hS => exec_move wq e (by kernel_rfl)) HT0.out ?_
              refine takeG 3 (.slice 60 (.tmp 122) .none (.some (.tmp 123)) .none) (some 124) none (.slice (some ⟨gc, 0, none⟩) 0 cc) (by kernel_rfl) (by kernel_rfl) (by kernel_rfl) (fun _ _ _ h => h) (fun o wq e hS => exec_slice (u := .slice (some ⟨gc, 0, none⟩) (q + 1) cc) wq e (by kernel_rfl) (by kernel_rfl) (by kernel_rfl) (by kernel_rfl) (slice_to gc (q + 1) cc 0 (by omega) _)) HT0.out ?_
              refine takeG 5 (.move (.tmp 10)) (some 126) none (.slice (some ⟨gc, 0, none⟩) (q + 1) cc) (by kernel_rfl) (by kernel_rfl) (by kernel_rfl) (fun _ _ _ h => h) (fun o wq e hS => exec_move wq e (by kernel_rfl)) HT0.out ?_
              refine takeG 6 (.move (.tmp 15)) (some 127) none (.int .i64 (0 : Int)) (by kernel_rfl) (by kernel_rfl) (by kernel_rfl) (fun _ _ _ h => h) (fun o wq e hS => exec_move wq e (by kernel_rfl)) HT0.out ?_
              refine takeG 7 (.binOp .add 3 (.tmp 127) (.const (.int .i64 1)) 3) (some 128) none (.int .i64 ((0 + 1 : Nat) : Int)) (by kernel_rfl) (by kernel_rfl) (by kernel_rfl) (fun _ _ _ h => h) (fun o wq e hS => exec_bin (u1 := .int .i64 (0 : Int)) (u2 := (.int .i64 1)) wq e (by kernel_rfl) (by kernel_rfl) (eqG_int ..) (add_one 0 hkb2 _)) HT0.out ?_
              refine takeG 8 (.slice 60 (.tmp 126) (.some (.tmp 128)) .none .none) (some 129) none (.slice (some ⟨gc, offL cc (0 + 1), none⟩) (q + 1 - (0 + 1)) (cc - (0 + 1))) (by kernel_rfl) (by kernel_rfl) (by kernel_rfl) (fun _ _ _ h => h) (fun o wq e hS => exec_slice (u := .slice (some ⟨gc, 0, none⟩) (q + 1) cc) wq e (by kernel_rfl) (by kernel_rfl) (by kernel_rfl) (by kernel_rfl) (slice_from gc (q + 1) cc (0 + 1) (by omega) _)) HT0.out ?_
              refine loneG 0 (.buildSlice 60 0 #[]) (some 121) none (by kernel_rfl) (by kernel_rfl) (by kernel_rfl) ?_
              intro o ho hod
              refine wp_val (exec_bld0 ho (bs_none _)) ?_
              rw [hod]
              clear hod ho
              refine ⟨fun _ => trivial, ?_⟩
              refine loneG 4 (.call ⟨.builtin .append, #[(.tmp 121), (.tmp 124)], #[60, 60]⟩) (some 125) none (by kernel_rfl) (by kernel_rfl) (by kernel_rfl) ?_
              intro o ho hod
              refine wp_app (.tmp 121) (.tmp 124) ho (by kernel_rfl) (by kernel_rfl) (fun ty => run_cut HLN2.out (ST6.out.below (below_drew _)).c hkl (by omega) ty) ?_
              rintro v8 w8 ⟨ho8, hb8⟩
              rw [hod]
              clear hod ho
              refine ⟨fun _ => trivial, ?_⟩
              refine loneG 9 (.call ⟨.builtin .append, #[(.tmp 125), (.tmp 129)], #[60, 60]⟩) (some 130) none (by kernel_rfl) (by kernel_rfl) (by kernel_rfl) ?_
              intro o ho hod
              refine wp_app (.tmp 125) (.tmp 129) ho (by kernel_rfl) (by kernel_rfl) (fun ty => run_cut2 HLN2.out (ST6.out.below (below_drew _)).c hkl (by omega) ho8 hb8 ty) ?_
              rintro v9 w9 ⟨ho9, hb9⟩
              rw [hod]
              clear hod ho
              refine ⟨fun _ => trivial, ?_⟩
              refine lastS 10 (.assign (.tmp 130)) (some 10) (v9) (by kernel_rfl) (by kernel_rfl) (by kernel_rfl) HT0.out (fun o e => exec_assign _ e (by kernel_rfl)) ?_
              simp only [put_some, put_none, List.setIfInBounds_toArray, List.set_cons_succ, List.set_cons_zero]
              have ST7 := Lib.hid ((ST6.out.below (below_drew _)).newC hb9 ho9)
              have LW7 := Lib.hid (LW6.out.drew.trans (hb9.mono LW6.out.drew.size))
              obtain ⟨A7, c7, hv7, _, _, _, _, _⟩ := ST7.out.f.shape (fun _ => rfl)
              have ST8 := ST7
              rw [map_cut, map_cut] at ST8
              rw [map_cut, List.length_map, HPL.out] at hv7
              subst hv7
              clear ho9 hb9 ho8 hb8 ST6 LW6 ST7
              go_wp2_with fail
              go_roundw
              case rel => exact ⟨P.take 0 ++ P.drop (0 + 1), s', _, by rw [HPL.out]; omega, ST8, HPN, HCK', LW7⟩
              case measure => simp
            · have t1 : ((q : Int) + 1) ≤ (len2 : Int) := by omega
              obtain ⟨nn, hnn⟩ : ∃ nn, y2[q]? = some nn := ⟨_, List.getElem?_eq_getElem (by have := HLN.out.2; omega)⟩
              obtain ⟨g1, o1, hA, hgb, kk⟩ := (H2.out.below LW.out) q nn hnn
              have k1 := kk 0 (.int .i64 nn) rfl
              rw [Nat.mul_one, Nat.add_zero] at k1
              subst hA
              clear hnn kk hgb
              obtain ⟨k, hk, hkb⟩ := umodN nn (q + 1) (by omega) (by omega)
              have hkq : k ≤ q := by omega
              have hz1 : ((q : Int) + 1 == 0) = false := by simp; omega
              have hz3 : ¬ ((q : Int) + 1 = 0) := by omega
              have hk' : wrap64 ((IntKind.u64.wrap nn).tmod ((q : Int) + 1)) = (k : Int) := hk
              clear hk hkb
              go_upto_region 22 with (fail)
              rw [hk']
              clear hk' k1 hz1 hz3
              obtain ⟨p1, p2, hpk⟩ := HK.out k hkq
              obtain ⟨g1, g2, g3, g4, g5, g6⟩ := HP.out.give HGD.out hpk
              dsimp only at g1 g2 g3 g4 g5 g6
              have hHS' : (s.mv 1 2 p1 (p1 + p2)).cells = C ∧ (s.mv 1 2 p1 (p1 + p2)).kept = 0 := HCK.out
              rw [HCK.out.1] at g6
              have hgv1 : giveS s (p1 : Int) (p2 : Int) = (0, s.mv 1 2 p1 (p1 + p2)) := by
                unfold giveS
                rw [if_neg (by rw [HCK.out.1]; omega), Int.toNat_natCast, Int.toNat_natCast, if_pos g1]
              have hgv2 : giveS (s.mv 1 2 p1 (p1 + p2)) (p1 : Int) (p2 : Int) = (7, s.mv 1 2 p1 (p1 + p2)) := by
                unfold giveS
                rw [if_neg (by rw [hHS'.1]; omega), Int.toNat_natCast, Int.toNat_natCast, if_neg (by simp [g3])]
              obtain ⟨s', hs'⟩ : ∃ s', s' = s.mv 1 2 p1 (p1 + p2) := ⟨_, rfl⟩
              rw [← hs'] at g2 hHS' hgv1 hgv2
              have HPN := Lib.hid g2
              have HCK' := Lib.hid hHS'
              have HGV1 := Lib.hid hgv1
              have HGV2 := Lib.hid hgv2
              have HCF : Hid (∀ O' w' s1, Two2 O' w' B b m (.slice (some ⟨gf, 0, none⟩) (q + 1) cf) (.slice (some ⟨gc, 0, none⟩) (q + 1) cc) (P.map Prod.fst) (P.map Prod.snd) s1 → w'.cell? ⟨gf, k, none⟩ = some (.int .i64 (p1 : Int)) ∧ w'.cell? ⟨gc, k, none⟩ = some (.int .i64 (p2 : Int))) := Lib.hid fun O' w' s1 h => by
                rcases own_shape h.f with ⟨e, _⟩ | ⟨gf', cf', e1, _, _, _, _, f5⟩
                · cases e
                · rcases own_shape h.c with ⟨e, _⟩ | ⟨gc', cc', e2, _, _, _, _, c5⟩
                  · cases e
                  · injection e1 with e1
                    injection e1 with e1
                    injection e1 with e1
                    injection e2 with e2
                    injection e2 with e2
                    injection e2 with e2
                    subst e1 e2
                    exact ⟨f5 k p1 (by rw [List.getElem?_map, hpk]; rfl), c5 k p2 (by rw [List.getElem?_map, hpk]; rfl)⟩
              have hlF : q + 1 = (P.map Prod.fst).length := by rw [List.length_map]; exact HPQ.out.symm
              have hlN : q + 1 = (P.map Prod.snd).length := by rw [List.length_map]; exact HPQ.out.symm
              have HLF := Lib.hid hlF
              have HLN2 := Lib.hid hlN
              have hPl : (P.take k ++ P.drop (k + 1)).length = q := by rw [List.length_append, List.length_take, List.length_drop, HPQ.out]; omega
              have HPL := Lib.hid hPl
              have STD := Lib.hid (ST.out.below (below_drew wo))
              have HS := Lib.hid (HCF.out _ _ _ STD.out)
              have hp1b : p1 ≤ 200 := by omega
              have hp2b : p2 ≤ 9 := g5
              have hkl : k < q + 1 := by omega
              clear hpk g1 g2 g3 g4 g5 g6 hHS' hgv1 hgv2 hs' hlF hlN hPl HK HGD
              refine region_anyZ (fun w' => w'.cell? ⟨gf, k, none⟩ = some (.int .i64 (p1 : Int)) ∧ w'.cell? ⟨gc, k, none⟩ = some (.int .i64 (p2 : Int))) 24 (by kernel_rfl) ?_
              refine takeG 0 (.move (.tmp 7)) (some 87) none (.pointer (some ⟨b, 0, none⟩)) (by kernel_rfl) (by kernel_rfl) (by kernel_rfl) (fun _ _ _ h => h) (fun o wq e hS => exec_move wq e (by kernel_rfl)) HS.out ?_
              refine takeG 1 (.move (.tmp 9)) (some 88) none (.slice (some ⟨gf, 0, none⟩) (q + 1) cf) (by kernel_rfl) (by kernel_rfl) (by kernel_rfl) (fun _ _ _ h => h) (fun o wq e hS => exec_move wq e (by kernel_rfl)) HS.out ?_
              refine takeG 2 (.move (.tmp 15)) (some 89) none (.int .i64 (k : Int)) (by kernel_rfl) (by kernel_rfl) (by kernel_rfl) (fun _ _ _ h => h) (fun o wq e hS => exec_move wq e (by kernel_rfl)) HS.out ?_
              refine takeG 3 (.indexAddr 60 (.tmp 88) (.tmp 89)) (some 90) none (.pointer (some ⟨gf, k, none⟩)) (by kernel_rfl) (by kernel_rfl) (by kernel_rfl) (fun _ _ _ h => h) (fun o wq e hS => exec_index (u1 := .slice (some ⟨gf, 0, none⟩) (q + 1) cf) (u2 := .int .i64 (k : Int)) wq e (by kernel_rfl) (by kernel_rfl) (index_int gf (q + 1) cf k hkl _)) HS.out ?_
              refine takeG 4 (.load 3 (.tmp 90)) (some 91) none (.int .i64 (p1 : Int)) (by kernel_rfl) (by kernel_rfl) (by kernel_rfl) (fun _ _ _ h => h) (fun o wq e hS => exec_load (x := (.tmp 90)) e (by kernel_rfl) (int_at hS.1)) HS.out ?_
              refine takeG 5 (.move (.tmp 10)) (some 92) none (.slice (some ⟨gc, 0, none⟩) (q + 1) cc) (by kernel_rfl) (by kernel_rfl) (by kernel_rfl) (fun _ _ _ h => h) (fun o wq e hS => exec_move wq e (by kernel_rfl)) HS.out ?_
              refine takeG 6 (.move (.tmp 15)) (some 93) none (.int .i64 (k : Int)) (by kernel_rfl) (by kernel_rfl) (by kernel_rfl) (fun _ _ _ h => h) (fun o wq e hS => exec_move wq e (by kernel_rfl)) HS.out ?_
              refine takeG 7 (.indexAddr 60 (.tmp 92) (.tmp 93)) (some 94) none (.pointer (some ⟨gc, k, none⟩)) (by kernel_rfl) (by kernel_rfl) (by kernel_rfl) (fun _ _ _ h => h) (fun o wq e hS => exec_index (u1 := .slice (some ⟨gc, 0, none⟩) (q + 1) cc) (u2 := .int .i64 (k : Int)) wq e (by kernel_rfl) (by kernel_rfl) (index_int gc (q + 1) cc k hkl _)) HS.out ?_
              refine takeG 8 (.load 3 (.tmp 94)) (some 95) none (.int .i64 (p2 : Int)) (by kernel_rfl) (by kernel_rfl) (by kernel_rfl) (fun _ _ _ h => h) (fun o wq e hS => exec_load (x := (.tmp 94)) e (by kernel_rfl) (int_at hS.2)) HS.out ?_
              refine loneG 9 (.call ⟨.value (.func 13), #[(.tmp 87), (.tmp 91), (.tmp 95)], #[25, 3, 3]⟩) (some 96) none (by kernel_rfl) (by kernel_rfl) (by kernel_rfl) ?_
              intro o ho hod
              have HCW4 := Lib.hid (give_o STD.out.sp (p1 : Int) (p2 : Int) (by omega) (by omega) (by omega) (by omega))
              rw [HGV1.out] at HCW4
              refine wp_callC (f := 13) (args := #[.pointer (some ⟨b, 0, none⟩), .int .i64 (p1 : Int), .int .i64 (p2 : Int)]) (by cases o; cases ho; kernel_rfl) HCW4.out ?_
              rintro ee W4 ⟨rfl, s4, f4⟩
              refine ⟨.int .i64 0, rfl, ?_⟩
              rw [hod]
              clear hod ho
              have b4 := f4.below (B := w.heap.size) (fun g hg => by have := STD.out.ob.1 g hg; have := HB.out; omega) LW.out.drew.size
              have ST4 := Lib.hid (STD.out.space s4 f4)
              have LW4 := Lib.hid (LW.out.drew.trans b4)
              have HSW4 := Lib.hid (HCF.out _ _ _ ST4.out)
              clear s4 f4 b4 HCW4 STD
              refine ⟨fun _ => HSW4.out, ?_⟩
              refine takeG 10 (.binOp .neq 28 (.tmp 96) (.const (.int .i64 0)) 28) (some 97) none (.bool false) (by kernel_rfl) (by kernel_rfl) (by kernel_rfl) (fun _ _ _ h => h) (fun o wq e hS => exec_bin (u1 := .int .i64 0) (u2 := (.int .i64 0)) wq e (by kernel_rfl) (by kernel_rfl) (eqG_int ..) (by kernel_rfl)) HSW4.out ?_
              refine takeG 11 (.move (.tmp 97)) (some 98) none (.bool false) (by kernel_rfl) (by kernel_rfl) (by kernel_rfl) (fun _ _ _ h => h) (fun o wq e hS => exec_move wq e (by kernel_rfl)) HSW4.out ?_
              refine takeG 12 (.move (.tmp 7)) (some 99) (some (11, false)) (.pointer (some ⟨b, 0, none⟩)) (by kernel_rfl) (by kernel_rfl) (by kernel_rfl) (fun _ _ _ h => h) (fun o wq e hS => exec_move wq e (by kernel_rfl)) HSW4.out ?_
              refine takeG 13 (.move (.tmp 9)) (some 100) (some (11, false)) (.slice (some ⟨gf, 0, none⟩) (q + 1) cf) (by kernel_rfl) (by kernel_rfl) (by kernel_rfl) (fun _ _ _ h => h) (fun o wq e hS => exec_move wq e (by kernel_rfl)) HSW4.out ?_
              refine takeG 14 (.move (.tmp 15)) (some 101) (some (11, false)) (.int .i64 (k : Int)) (by kernel_rfl) (by kernel_rfl) (by kernel_rfl) (fun _ _ _ h => h) (fun o wq e hS => exec_move wq e (by kernel_rfl)) HSW4.out ?_
              refine takeG 15 (.indexAddr 60 (.tmp 100) (.tmp 101)) (some 102) (some (11, false)) (.pointer (some ⟨gf, k, none⟩)) (by kernel_rfl) (by kernel_rfl) (by kernel_rfl) (fun _ _ _ h => h) (fun o wq e hS => exec_index (u1 := .slice (some ⟨gf, 0, none⟩) (q + 1) cf) (u2 := .int .i64 (k : Int)) wq e (by kernel_rfl) (by kernel_rfl) (index_int gf (q + 1) cf k hkl _)) HSW4.out ?_
              refine takeG 16 (.load 3 (.tmp 102)) (some 103) (some (11, false)) (.int .i64 (p1 : Int)) (by kernel_rfl) (by kernel_rfl) (by kernel_rfl) (fun _ _ _ h => h) (fun o wq e hS => exec_load (x := (.tmp 102)) e (by kernel_rfl) (int_at hS.1)) HSW4.out ?_
              refine takeG 17 (.move (.tmp 10)) (some 104) (some (11, false)) (.slice (some ⟨gc, 0, none⟩) (q + 1) cc) (by kernel_rfl) (by kernel_rfl) (by kernel_rfl) (fun _ _ _ h => h) (fun o wq e hS => exec_move wq e (by kernel_rfl)) HSW4.out ?_
              refine takeG 18 (.move (.tmp 15)) (some 105) (some (11, false)) (.int .i64 (k : Int)) (by kernel_rfl) (by kernel_rfl) (by kernel_rfl) (fun _ _ _ h => h) (fun o wq e hS => exec_move wq e (by kernel_rfl)) HSW4.out ?_
              refine takeG 19 (.indexAddr 60 (.tmp 104) (.tmp 105)) (some 106) (some (11, false)) (.pointer (some ⟨gc, k, none⟩)) (by kernel_rfl) (by kernel_rfl) (by kernel_rfl) (fun _ _ _ h => h) (fun o wq e hS => exec_index (u1 := .slice (some ⟨gc, 0, none⟩) (q + 1) cc) (u2 := .int .i64 (k : Int)) wq e (by kernel_rfl) (by kernel_rfl) (index_int gc (q + 1) cc k hkl _)) HSW4.out ?_
              refine takeG 20 (.load 3 (.tmp 106)) (some 107) (some (11, false)) (.int .i64 (p2 : Int)) (by kernel_rfl) (by kernel_rfl) (by kernel_rfl) (fun _ _ _ h => h) (fun o wq e hS => exec_load (x := (.tmp 106)) e (by kernel_rfl) (int_at hS.2)) HSW4.out ?_
              refine loneG 21 (.call ⟨.value (.func 13), #[(.tmp 99), (.tmp 103), (.tmp 107)], #[25, 3, 3]⟩) (some 108) (some (11, false)) (by kernel_rfl) (by kernel_rfl) (by kernel_rfl) ?_
              intro o ho hod
              have HCW5 := Lib.hid (give_o ST4.out.sp (p1 : Int) (p2 : Int) (by omega) (by omega) (by omega) (by omega))
              rw [HGV2.out] at HCW5
              refine wp_callC (f := 13) (args := #[.pointer (some ⟨b, 0, none⟩), .int .i64 (p1 : Int), .int .i64 (p2 : Int)]) (by cases o; cases ho; kernel_rfl) HCW5.out ?_
              rintro ee W5 ⟨rfl, s4, f4⟩
              refine ⟨.int .i64 7, rfl, ?_⟩
              rw [hod]
              clear hod ho
              have b4 := f4.below (B := w.heap.size) (fun g hg => by have := ST4.out.ob.1 g hg; have := HB.out; omega) LW4.out.size
              have ST5 := Lib.hid (ST4.out.space s4 f4)
              have LW5 := Lib.hid (LW4.out.trans b4)
              have HSW5 := Lib.hid (HCF.out _ _ _ ST5.out)
              clear s4 f4 b4 HCW5 ST4
              refine ⟨fun _ => HSW5.out, ?_⟩
              refine takeG 22 (.binOp .neq 28 (.tmp 108) (.const (.int .i64 7)) 28) (some 109) (some (11, false)) (.bool false) (by kernel_rfl) (by kernel_rfl) (by kernel_rfl) (fun _ _ _ h => h) (fun o wq e hS => exec_bin (u1 := .int .i64 7) (u2 := (.int .i64 7)) wq e (by kernel_rfl) (by kernel_rfl) (eqG_int ..) (by kernel_rfl)) HSW5.out ?_
              refine lastS 23 (.pick (.tmp 98) (.const (Value.bool true)) (.tmp 109)) (some 110) (.bool false) (by kernel_rfl) (by kernel_rfl) (by kernel_rfl) HSW5.out (fun o e => exec_pick (b := false) _ e (by kernel_rfl) (by kernel_rfl)) ?_
              simp only [put_some, put_none, List.setIfInBounds_toArray, List.set_cons_succ, List.set_cons_zero]
              go_upto_region 24 with (fail)
              have HT0 : Hid True := Lib.hid trivial
              have hkb2 : k ≤ 1000 := by omega
              refine region_anyZ (fun _ => True) 11 (by kernel_rfl) ?_
              refine takeG 1 (.move (.tmp 9)) (some 112) none (.slice (some ⟨gf, 0, none⟩) (q + 1) cf) (by kernel_rfl) (by kernel_rfl) (by kernel_rfl) (fun _ _ _ h => h) (fun o wq e hS => exec_move wq e (by kernel_rfl)) HT0.out ?_
              refine takeG 2 (.move (.tmp 15)) (some 113) none (.int .i64 (k : Int)) (by kernel_rfl) (by kernel_rfl) (by kernel_rfl) (fun _ _ _ h => h) (fun o wq e hS => exec_move wq e (by kernel_rfl)) HT0.out ?_
              refine takeG 3 (.slice 60 (.tmp 112) .none (.some (.tmp 113)) .none) (some 114) none (.slice (some ⟨gf, 0, none⟩) k cf) (by kernel_rfl) (by kernel_rfl) (by kernel_rfl) (fun _ _ _ h => h) (fun o wq e hS => exec_slice (u := .slice (some ⟨gf, 0, none⟩) (q + 1) cf) wq e (by kernel_rfl) (by kernel_rfl) (by kernel_rfl) (by kernel_rfl) (slice_to gf (q + 1) cf k (by omega) _)) HT0.out ?_
              refine takeG 5 (.move (.tmp 9)) (some 116) none (.slice (some ⟨gf, 0, none⟩) (q + 1) cf) (by kernel_rfl) (by kernel_rfl) (by kernel_rfl) (fun _ _ _ h => h) (fun o wq e hS => exec_move wq e (by kernel_rfl)) HT0.out ?_
              refine takeG 6 (.move (.tmp 15)) (some 117) none (.int .i64 (k : Int)) (by kernel_rfl) (by kernel_rfl) (by kernel_rfl) (fun _ _ _ h => h) (fun o wq e hS => exec_move wq e (by kernel_rfl)) HT0.out ?_
              refine takeG 7 (.binOp .add 3 (.tmp 117) (.const (.int .i64 1)) 3) (some 118) none (.int .i64 ((k + 1 : Nat) : Int)) (by kernel_rfl) (by kernel_rfl) (by kernel_rfl) (fun _ _ _ h => h) (fun o wq e hS => exec_bin (u1 := .int .i64 (k : Int)) (u2 := (.int .i64 1)) wq e (by kernel_rfl) (by kernel_rfl) (eqG_int ..) (add_one k hkb2 _)) HT0.out ?_
              refine takeG 8 (.slice 60 (.tmp 116) (.some (.tmp 118)) .none .none) (some 119) none (.slice (some ⟨gf, offL cf (k + 1), none⟩) (q + 1 - (k + 1)) (cf - (k + 1))) (by kernel_rfl) (by kernel_rfl) (by kernel_rfl) (fun _ _ _ h => h) (fun o wq e hS => exec_slice (u := .slice (some ⟨gf, 0, none⟩) (q + 1) cf) wq e (by kernel_rfl) (by kernel_rfl) (by kernel_rfl) (by kernel_rfl) (slice_from gf (q + 1) cf (k + 1) (by omega) _)) HT0.out ?_
              refine loneG 0 (.buildSlice 60 0 #[]) (some 111) none (by kernel_rfl) (by kernel_rfl) (by kernel_rfl) ?_
              intro o ho hod
              refine wp_val (exec_bld0 ho (bs_none _)) ?_
              rw [hod]
              clear hod ho
              refine ⟨fun _ => trivial, ?_⟩
              refine loneG 4 (.call ⟨.builtin .append, #[(.tmp 111), (.tmp 114)], #[60, 60]⟩) (some 115) none (by kernel_rfl) (by kernel_rfl) (by kernel_rfl) ?_
              intro o ho hod
              refine wp_app (.tmp 111) (.tmp 114) ho (by kernel_rfl) (by kernel_rfl) (fun ty => run_cut HLF.out (ST5.out.below (below_drew _)).f hkl (by omega) ty) ?_
              rintro v6 w6 ⟨ho6, hb6⟩
              rw [hod]
              clear hod ho
              refine ⟨fun _ => trivial, ?_⟩
              refine loneG 9 (.call ⟨.builtin .append, #[(.tmp 115), (.tmp 119)], #[60, 60]⟩) (some 120) none (by kernel_rfl) (by kernel_rfl) (by kernel_rfl) ?_
              intro o ho hod
              refine wp_app (.tmp 115) (.tmp 119) ho (by kernel_rfl) (by kernel_rfl) (fun ty => run_cut2 HLF.out (ST5.out.below (below_drew _)).f hkl (by omega) ho6 hb6 ty) ?_
              rintro v7 w7 ⟨ho7, hb7⟩
              rw [hod]
              clear hod ho
              refine ⟨fun _ => trivial, ?_⟩
              refine lastS 10 (.assign (.tmp 120)) (some 9) (v7) (by kernel_rfl) (by kernel_rfl) (by kernel_rfl) HT0.out (fun o e => exec_assign _ e (by kernel_rfl)) ?_
              simp only [put_some, put_none, List.setIfInBounds_toArray, List.set_cons_succ, List.set_cons_zero]
              have ST6 := Lib.hid ((ST5.out.below (below_drew _)).newF hb7 ho7)
              have LW6 := Lib.hid (LW5.out.drew.trans (hb7.mono LW5.out.drew.size))
              clear ho7 hb7 ho6 hb6 ST5 LW5
              go_upto_region 25 with (fail)
              have HT0 : Hid True := Lib.hid trivial
              refine region_anyZ (fun _ => True) 11 (by kernel_rfl) ?_
              refine takeG 1 (.move (.tmp 10)) (some 122) none (.slice (some ⟨gc, 0, none⟩) (q + 1) cc) (by kernel_rfl) (by kernel_rfl) (by kernel_rfl) (fun _ _ _ h => h) (fun o wq e hS => exec_move wq e (by kernel_rfl)) HT0.out ?_
              refine takeG 2 (.move (.tmp 15)) (some 123) none (.int .i64 (k : Int)) (by kernel_rfl) (by kernel_rfl) (by kernel_rfl) (fun _ _ _ h => h) (fun o wq e hS => exec_move wq e (by kernel_rfl)) HT0.out ?_
              refine takeG 3 (.slice 60 (.tmp 122) .none (.some (.tmp 123)) .none) (some 124) none (.slice (some ⟨gc, 0, none⟩) k cc) (by kernel_rfl) (by kernel_rfl) (by kernel_rfl) (fun _ _ _ h => h) (fun o wq e hS => exec_slice (u := .slice (some ⟨gc, 0, none⟩) (q + 1) cc) wq e (by kernel_rfl) (by kernel_rfl) (by kernel_rfl) (by kernel_rfl) (slice_to gc (q + 1) cc k (by omega) _)) HT0.out ?_
              refine takeG 5 (.move (.tmp 10)) (some 126) none (.slice (some ⟨gc, 0, none⟩) (q + 1) cc) (by kernel_rfl) (by kernel_rfl) (by kernel_rfl) (fun _ _ _ h => h) (fun o wq e hS => exec_move wq e (by kernel_rfl)) HT0.out ?_
              refine takeG 6 (.move (.tmp 15)) (some 127) none (.int .i64 (k : Int)) (by kernel_rfl) (by kernel_rfl) (by kernel_rfl) (fun _ _ _ h => h) (fun o wq e hS => exec_move wq e (by kernel_rfl)) HT0.out ?_
              refine takeG 7 (.binOp .add 3 (.tmp 127) (.const (.int .i64 1)) 3) (some 128) none (.int .i64 ((k + 1 : Nat) : Int)) (by kernel_rfl) (by kernel_rfl) (by kernel_rfl) (fun _ _ _ h => h) (fun o wq e hS => exec_bin (u1 := .int .i64 (k : Int)) (u2 := (.int .i64 1)) wq e (by kernel_rfl) (by kernel_rfl) (eqG_int ..) (add_one k hkb2 _)) HT0.out ?_
              refine takeG 8 (.slice 60 (.tmp 126) (.some (.tmp 128)) .none .none) (some 129) none (.slice (some ⟨gc, offL cc (k + 1), none⟩) (q + 1 - (k + 1)) (cc - (k + 1))) (by kernel_rfl) (by kernel_rfl) (by kernel_rfl) (fun _ _ _ h => h) (fun o wq e hS => exec_slice (u := .slice (some ⟨gc, 0, none⟩) (q + 1) cc) wq e (by kernel_rfl) (by kernel_rfl) (by kernel_rfl) (by kernel_rfl) (slice_from gc (q + 1) cc (k + 1) (by omega) _)) HT0.out ?_
              refine loneG 0 (.buildSlice 60 0 #[]) (some 121) none (by kernel_rfl) (by kernel_rfl) (by kernel_rfl) ?_
              intro o ho hod
              refine wp_val (exec_bld0 ho (bs_none _)) ?_
              rw [hod]
              clear hod ho
              refine ⟨fun _ => trivial, ?_⟩
              refine loneG 4 (.call ⟨.builtin .append, #[(.tmp 121), (.tmp 124)], #[60, 60]⟩) (some 125) none (by kernel_rfl) (by kernel_rfl) (by kernel_rfl) ?_
              intro o ho hod
              refine wp_app (.tmp 121) (.tmp 124) ho (by kernel_rfl) (by kernel_rfl) (fun ty => run_cut HLN2.out (ST6.out.below (below_drew _)).c hkl (by omega) ty) ?_
              rintro v8 w8 ⟨ho8, hb8⟩
              rw [hod]
              clear hod ho
              refine ⟨fun _ => trivial, ?_⟩
              refine loneG 9 (.call ⟨.builtin .append, #[(.tmp 125), (.tmp 129)], #[60, 60]⟩) (some 130) none (by kernel_rfl) (by kernel_rfl) (by kernel_rfl) ?_
              intro o ho hod
              refine wp_app (.tmp 125) (.tmp 129) ho (by kernel_rfl) (by kernel_rfl) (fun ty => run_cut2 HLN2.out (ST6.out.below (below_drew _)).c hkl (by omega) ho8 hb8 ty) ?_
              rintro v9 w9 ⟨ho9, hb9⟩
              rw [hod]
              clear hod ho
              refine ⟨fun _ => trivial, ?_⟩
              refine lastS 10 (.assign (.tmp 130)) (some 10) (v9) (by kernel_rfl) (by kernel_rfl) (by kernel_rfl) HT0.out (fun o e => exec_assign _ e (by kernel_rfl)) ?_
              simp only [put_some, put_none, List.setIfInBounds_toArray, List.set_cons_succ, List.set_cons_zero]
              have ST7 := Lib.hid ((ST6.out.below (below_drew _)).newC hb9 ho9)
              have LW7 := Lib.hid (LW6.out.drew.trans (hb9.mono LW6.out.drew.size))
              obtain ⟨A7, c7, hv7, _, _, _, _, _⟩ := ST7.out.f.shape (fun _ => rfl)
              have ST8 := ST7
              rw [map_cut, map_cut] at ST8
              rw [map_cut, List.length_map, HPL.out] at hv7
              subst hv7
              clear ho9 hb9 ho8 hb8 ST6 LW6 ST7
              go_wp2_with fail
              go_roundw
              case rel => exact ⟨P.take k ++ P.drop (k + 1), s', _, by rw [HPL.out]; omega, ST8, HPN, HCK', LW7⟩
              case measure => simp
end spaceWhole
end Go.Proofs.Ytffbclendkojlaa
