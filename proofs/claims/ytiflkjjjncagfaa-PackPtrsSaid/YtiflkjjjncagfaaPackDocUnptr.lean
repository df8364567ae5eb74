/-
  'hoardref05.DocUnptr' by contract. Conditions: a text.
-/
import Derived.Test.YtiflkjjjncagfaaPackUnptr2
namespace Go.Proofs.Ytiflkjjjncagfaa
open Go Go.RowKit
set_option linter.unusedVariables false

theorem beq_no (a b : ByteArray) (h : a ≠ b) : (a.toList == b.toList) = false := by
  have : a.toList ≠ b.toList := fun e => h (bytes_eq e)
  simp [this]
set_option maxRecDepth 100000 in
set_option maxHeartbeats 3200000 in
theorem docUnptr_any (s : ByteArray) (w : World) (hs : s.size ≤ maxLen) :
    Calls Try.prog 16 #[.string s] w fun e w' => UnOut (K.sb s) e ∧ Below w.heap.size w w' := by
  have HZ := Lib.hid hs
  unfold maxLen at hs
  have X0 : Hid (Blk (w.alloc (.cells #[.int .i64 0, .int .i64 0, .int .i64 0, .string ⟨#[]⟩] 37)) w.heap.size 37 #[.int .i64 0, .int .i64 0, .int .i64 0, .string ⟨#[]⟩]) := Lib.hid (Blk.new _ _ _)
  have L0 : Hid (Below w.heap.size w (w.alloc (.cells #[.int .i64 0, .int .i64 0, .int .i64 0, .string ⟨#[]⟩] 37))) := Lib.hid ((Below.refl _ _).alloc (Nat.le_refl _) _)
  go_enter Try.func16, Try.ntmps16
  have HDD := Lib.hid fun W => docDecode_any (K.sb s) W (K.sb_lt s) (by rw [K.sb_length]; exact HZ.out)
  rw [K.txt_sb] at HDD
  go_wp2_with fail
  refine (HDD.out _).mono ?_
  rintro e w2 ⟨hd, hl2⟩
  have L2 := Lib.hid (L0.out.trans (hl2.mono (by simp)))
  have X2 := Lib.hid (X0.out.below hl2 (by simp))
  have s2 := L2.out.size
  have hp1 : w.heap.size < (w.alloc (.cells #[.int .i64 0, .int .i64 0, .int .i64 0, .string ⟨#[]⟩] 37)).heap.size := by simp
  clear hl2 X0 L0 HDD
  unfold DecOut at hd
  obtain ⟨⟨d0, d1, d2, d3⟩, e0, e1, e2, e3⟩ := ptr_facts X2.out
  rcases hd with ⟨hq, rfl⟩ | ⟨l, v, hq, rfl, ho⟩
  · have E1 : Hid (K.unP (K.sb s) = none) := Lib.hid (by unfold K.unP; rw [hq]; rfl)
    clear hq
    go_wp2_with fail
    refine bodyPost_ret (results_cell2 rfl rfl (set4_load X2.out _ _ _ _) rfl) rfl ?_
    exact ⟨.inl ⟨E1.out, rfl⟩, set4_below L2.out (Nat.le_refl _) _ _ _ _⟩
  · have hlt := decs_right (K.sb_lt s) hq
    have HGD := Lib.hid hlt.2.2
    have HRT := Lib.hid (K.fault_ok hlt.1).2
    have HFL := Lib.hid hlt.1
    have HEN := Lib.hid hlt.2.1
    obtain ⟨A4, c4, rfl, lc4, cm4, r4, _, hown⟩ := ho.shape
    have hbnd := (K.fault_ok hlt.1).1
    have HQ : Hid (K.unP (K.sb s) = K.ofIts l) := Lib.hid (by unfold K.unP; rw [hq]; rfl)
    clear hq hlt ho
    by_cases h4 : l.length = 4
    · match l, h4 with
      | [x0, x1, x2, x3], _ =>
        obtain ⟨b, o, hA, hb, a0, a1, a2⟩ := r4 0 x0 rfl
        obtain ⟨b', o', hA', _, b0, b1, b2⟩ := r4 1 x1 rfl
        rw [hA] at hA'; injection hA' with hA'; injection hA' with q1 q2; subst q1; subst q2
        obtain ⟨b', o', hA', _, g0, g1, g2⟩ := r4 2 x2 rfl
        rw [hA] at hA'; injection hA' with hA'; injection hA' with q1 q2; subst q1; subst q2
        obtain ⟨b', o', hA', _, i0, i1, i2⟩ := r4 3 x3 rfl
        rw [hA] at hA'; injection hA' with hA'; injection hA' with q1 q2; subst q1; subst q2
        subst hA
        have hbg : w.heap.size < b := by have := hown b o none rfl; simp at this; omega
        rw [show o + 0 * 3 = o by omega] at a0 a1 a2
        rw [show o + 1 * 3 = o + 3 by omega] at b0 b1 b2
        rw [show o + 2 * 3 = o + 6 by omega] at g0 g1 g2
        rw [show o + 3 * 3 = o + 9 by omega] at i0 i1 i2
        rw [show o + 3 + 1 = o + 4 by omega] at b1
        rw [show o + 6 + 1 = o + 7 by omega] at g1
        rw [show o + 9 + 2 = o + 11 by omega] at i2
        clear hown r4 h4 b0 b2 g2 i0 i1 a2 hbnd
        have hln : ([x0, x1, x2, x3] : List K.It).length = 4 := rfl
        rw [hln]
        rw [hln] at lc4
        clear hln
        unfold maxLen at cm4
        go_wp2_with fail
        go_region
        have L5 : Hid (Below w.heap.size w (w2.alloc (.cells #[.int .i64 x0.n, .int .i64 x1.n, .int .i64 x2.n, .string x3.s] 37)).drew) := Lib.hid ((L2.out.alloc s2 _).drew)
        have X5 : Hid (Blk (w2.alloc (.cells #[.int .i64 x0.n, .int .i64 x1.n, .int .i64 x2.n, .string x3.s] 37)).drew w.heap.size 37 #[.int .i64 0, .int .i64 0, .int .i64 0, .string ⟨#[]⟩]) := Lib.hid ((X2.out.alloc _).drew)
        have X6 : Hid (Blk (w2.alloc (.cells #[.int .i64 x0.n, .int .i64 x1.n, .int .i64 x2.n, .string x3.s] 37)).drew w2.heap.size 37 #[.int .i64 x0.n, .int .i64 x1.n, .int .i64 x2.n, .string x3.s]) := Lib.hid ((Blk.new _ _ _).drew)
        clear a0 a1 b1 g0 g1 i2 d0 d1 d2 d3 e0 e1 e2 e3
        have hgx3 := (HGD.out x3 (by simp)).2
        have HFP : Hid (K.FitP ⟨x0.n, x1.n, x2.n, x3.s⟩) := Lib.hid ⟨(HGD.out x0 (by simp)).1, (HGD.out x1 (by simp)).1, (HGD.out x2 (by simp)).1, hgx3⟩
        have HPT := Lib.hid fun W => docPtr_any ⟨x0.n, x1.n, x2.n, x3.s⟩ W HFP.out
        unfold ptA at HPT
        dsimp only at HPT
        have HEQ : Hid (K.okP ⟨x0.n, x1.n, x2.n, x3.s⟩ = true → (K.ptrS ⟨x0.n, x1.n, x2.n, x3.s⟩ = s ↔ (x0.k = 1 ∧ x2.k = 1))) := Lib.hid fun hok => by
          have h1 := K.its_eq (HRT.out x0 (by simp)) (HRT.out x1 (by simp)) (HRT.out x2 (by simp)) (HRT.out x3 (by simp)) hok
          rw [← h1]
          unfold K.ptrS
          rw [if_pos hok]
          constructor
          · intro e
            refine K.encs_inj (K.itsP_right hok) HFL.out (fun x hx => (itsP_good HFP.out x hx).1) (fun x hx => (HGD.out x hx).1) ?_
            rw [← HEN.out, ← e, K.sb_txt (K.encs_lt _)]
          · intro e
            rw [e, ← HEN.out, K.txt_sb]
        obtain ⟨n0, hn0⟩ : ∃ n0, n0 = x0.n := ⟨_, rfl⟩
        obtain ⟨n1, hn1⟩ : ∃ n1, n1 = x1.n := ⟨_, rfl⟩
        obtain ⟨n2, hn2⟩ : ∃ n2, n2 = x2.n := ⟨_, rfl⟩
        obtain ⟨t3, ht3⟩ : ∃ t3, t3 = x3.s := ⟨_, rfl⟩
        have HQ2 : Hid (K.unP (K.sb s) = if x0.k = 1 ∧ x2.k = 1 ∧ K.okP ⟨n0, n1, n2, t3⟩ = true then some ⟨n0, n1, n2, t3⟩ else none) := Lib.hid (by rw [HQ.out, hn0, hn1, hn2, ht3]; rfl)
        rw [← hn0, ← hn1, ← hn2, ← ht3] at L5 X5 X6 HFP HPT HEQ ⊢
        clear HQ HGD HRT HFL HEN hgx3 hn0 hn1 hn2 ht3
        obtain ⟨g6, hg6⟩ : ∃ g6, g6 = w2.heap.size := ⟨_, rfl⟩
        rw [← hg6] at X6 ⊢
        generalize (w2.alloc (.cells #[.int .i64 n0, .int .i64 n1, .int .i64 n2, .string t3] 37)).drew = w5 at L5 X5 X6 ⊢
        clear hg6
        have hs5 := X6.out.lt
        have s5 := L5.out.size
        obtain ⟨⟨f0, f1, f2, f3⟩, _, _, _, _⟩ := ptr_facts X6.out
        by_cases hok : K.okP ⟨n0, n1, n2, t3⟩ = true
        · have hpe : K.ptrE ⟨n0, n1, n2, t3⟩ = 0 := by unfold K.ptrE; rw [if_pos hok]
          rw [hpe] at HPT
          have HOK := Lib.hid hok
          have HEQ2 := Lib.hid (HEQ.out hok)
          clear hok HEQ hpe
          obtain ⟨ts, hts⟩ : ∃ ts, ts = K.ptrS ⟨n0, n1, n2, t3⟩ := ⟨_, rfl⟩
          rw [← hts] at HPT HEQ2
          clear hts
          go_wp2_with fail
          refine (HPT.out _).mono ?_
          rintro e w6 ⟨rfl, hl6⟩
          have L6 := Lib.hid (L5.out.trans (hl6.mono s5))
          have X7 := Lib.hid (X5.out.below hl6 X5.out.lt)
          have X8 := Lib.hid (X6.out.below hl6 hs5)
          clear f0 f1 f2 f3 hl6 X5 X6
          obtain ⟨⟨d0, d1, d2, d3⟩, e0, e1, e2, e3⟩ := ptr_facts X7.out
          obtain ⟨⟨f0, f1, f2, f3⟩, _, _, _, _⟩ := ptr_facts X8.out
          by_cases hss : ts = s
          · have hkk := HEQ2.out.1 hss
            have E1 : Hid (K.unP (K.sb s) = some ⟨n0, n1, n2, t3⟩) := Lib.hid (by rw [HQ2.out, if_pos ⟨hkk.1, hkk.2, HOK.out⟩])
            subst hss
            clear hkk HQ2 HEQ2
            go_wp2_with fail
            refine bodyPost_ret (results_cell2 rfl rfl (set4_load X7.out _ _ _ _) rfl) rfl ?_
            exact ⟨.inr ⟨_, E1.out, HFP.out, HOK.out, rfl⟩, set4_below L6.out (Nat.le_refl _) _ _ _ _⟩
          · have E1 : Hid (K.unP (K.sb s) = none) := Lib.hid (by rw [HQ2.out, if_neg (fun h => hss (HEQ2.out.2 ⟨h.1, h.2.1⟩))])
            have b1 := beq_no ts s hss
            have b2 : (!(ts.toList == s.toList)) = true := by rw [b1]; rfl
            have b3 : (ts.toList != s.toList) = true := by simp only [bne, b1]; rfl
            clear hss HQ2 HEQ2
            go_wp2_with fail
            refine bodyPost_ret (results_cell2 rfl rfl (set4_load X7.out _ _ _ _) rfl) rfl ?_
            exact ⟨.inl ⟨E1.out, rfl⟩, set4_below L6.out (Nat.le_refl _) _ _ _ _⟩
        · have E1 : Hid (K.unP (K.sb s) = none) := Lib.hid (by rw [HQ2.out, if_neg (fun h => hok h.2.2)])
          have hpe : K.ptrE ⟨n0, n1, n2, t3⟩ = 2 := by unfold K.ptrE; rw [if_neg hok]
          rw [hpe] at HPT
          clear hok HEQ hpe HQ2
          generalize K.ptrS ⟨n0, n1, n2, t3⟩ = ts at HPT
          go_wp2_with fail
          refine (HPT.out _).mono ?_
          rintro e w6 ⟨rfl, hl6⟩
          have L6 := Lib.hid (L5.out.trans (hl6.mono s5))
          have X7 := Lib.hid (X5.out.below hl6 X5.out.lt)
          clear f0 f1 f2 f3 hl6 X5 X6
          obtain ⟨⟨d0, d1, d2, d3⟩, e0, e1, e2, e3⟩ := ptr_facts X7.out
          go_wp2_with fail
          refine bodyPost_ret (results_cell2 rfl rfl (set4_load X7.out _ _ _ _) rfl) rfl ?_
          exact ⟨.inl ⟨E1.out, rfl⟩, set4_below L6.out (Nat.le_refl _) _ _ _ _⟩
    · have E1 : Hid (K.unP (K.sb s) = none) := Lib.hid (by rw [HQ.out, K.ofIts_short h4])
      have t1 : ((l.length : Int) != 4) = true := by simp; omega
      clear HQ hown r4 h4
      go_wp2_with fail
      refine bodyPost_ret (results_cell2 rfl rfl (set4_load X2.out _ _ _ _) rfl) rfl ?_
      exact ⟨.inl ⟨E1.out, rfl⟩, set4_below L2.out (Nat.le_refl _) _ _ _ _⟩
end Go.Proofs.Ytiflkjjjncagfaa
