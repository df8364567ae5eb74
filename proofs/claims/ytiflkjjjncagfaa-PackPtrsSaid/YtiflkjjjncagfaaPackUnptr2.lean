/-
  'pack.Unptr' and the document's by contracts: the walks. Conditions: a text.
-/
import Derived.Test.YtiflkjjjncagfaaPackUnptr
namespace Go.Proofs.Ytiflkjjjncagfaa
open Go Go.RowKit
set_option linter.unusedVariables false

theorem ptr_facts {w : World} {g : Nat} {a b c d : Value} (h : Blk w g 37 #[a, b, c, d]) : (w.cell? ⟨g, 0, none⟩ = some a ∧ w.cell? ⟨g, 1, none⟩ = some b ∧ w.cell? ⟨g, 2, none⟩ = some c ∧ w.cell? ⟨g, 3, none⟩ = some d) ∧ (w.frozen? ⟨g, 0, none⟩ = false ∧ w.frozen? ⟨g, 1, none⟩ = false ∧ w.frozen? ⟨g, 2, none⟩ = false ∧ w.frozen? ⟨g, 3, none⟩ = false) :=
  ⟨⟨h.cell 0, h.cell 1, h.cell 2, h.cell 3⟩, h.frozen 0, h.frozen 1, h.frozen 2, h.frozen 3⟩
theorem decs_right {L : List Nat} {l : List K.It} (hL : ∀ b ∈ L, b < 256) (h : K.decs 2000 L = some l) : K.fault l = 0 ∧ L = K.encs l ∧ ∀ x ∈ l, Good x := by
  obtain ⟨h1, h2, h3, h4⟩ := K.decs_back 2000 L l hL h
  refine ⟨K.fault_right h2 h3, h1, fun x hx => ⟨h4 x hx, ?_⟩⟩
  rcases (h3 x hx).cases with ⟨_, e⟩ | ⟨_, _, e⟩
  · rw [e]; show (0 : Nat) ≤ maxLen; omega
  · unfold maxLen; omega
def set4 (w : World) (g : Nat) (a b c d : Value) : World := (((w.setCell ⟨g, 0, none⟩ a).setCell ⟨g, 1, none⟩ b).setCell ⟨g, 2, none⟩ c).setCell ⟨g, 3, none⟩ d
theorem set4_blk {w : World} {g : Nat} {x0 x1 x2 x3 : Value} (h : Blk w g 37 #[x0, x1, x2, x3]) (a b c d : Value) : Blk (set4 w g a b c d) g 37 #[a, b, c, d] := (((h.set_ 0 a).set_ 1 b).set_ 2 c).set_ 3 d
theorem set4_below {w0 w : World} {base g : Nat} (h : Below base w0 w) (hg : base ≤ g) (a b c d : Value) : Below base w0 (set4 w g a b c d) :=
  (((h.setCell (p := ⟨g, 0, none⟩) hg a).setCell (p := ⟨g, 1, none⟩) hg b).setCell (p := ⟨g, 2, none⟩) hg c).setCell (p := ⟨g, 3, none⟩) hg d
theorem set4_load {w : World} {g : Nat} {x0 x1 x2 x3 : Value} (h : Blk w g 37 #[x0, x1, x2, x3]) (a b c d : Value) : (loadVar 37 ⟨g, 0, none⟩).run Try.prog (set4 w g a b c d) = .ok (.agg #[a, b, c, d]) (set4 w g a b c d) := loadVar_blk (set4_blk h a b c d) Try.underlying37 rfl isize_ptr
set_option maxRecDepth 100000 in
set_option maxHeartbeats 3200000 in
theorem unptr_any (s : ByteArray) (w : World) (hs : s.size ≤ maxLen) :
    Calls Try.prog 17 #[.string s] w fun e w' => UnOut (K.sb s) e ∧ Below w.heap.size w w' := by
  have HZ := Lib.hid hs
  unfold maxLen at hs
  have X0 : Hid (Blk (w.alloc (.cells #[.int .i64 0, .int .i64 0, .int .i64 0, .string ⟨#[]⟩] 37)) w.heap.size 37 #[.int .i64 0, .int .i64 0, .int .i64 0, .string ⟨#[]⟩]) := Lib.hid (Blk.new _ _ _)
  have L0 : Hid (Below w.heap.size w (w.alloc (.cells #[.int .i64 0, .int .i64 0, .int .i64 0, .string ⟨#[]⟩] 37))) := Lib.hid ((Below.refl _ _).alloc (Nat.le_refl _) _)
  go_enter Try.func17, Try.ntmps17
  go_wp2_with ((refine wpList_conv_s rfl (.tmp 8) rfl rfl HZ.out ?_); intro A1 c1 w1 hr1 hlc1 hcm1 hl1; refine of_hid ?_)
  refine Lib.hid ?_
  have L1 := Lib.hid (L0.out.trans (hl1.mono (by simp)))
  have X1 := Lib.hid (X0.out.below hl1 (by simp))
  have R1 := Lib.hid hr1
  have C1 := Lib.hid hcm1
  have s1 := L1.out.size
  clear hl1 hr1 X0 L0
  unfold maxLen at hcm1
  go_wp2_with fail
  refine (decode_any A1 (K.sb s) c1 w1.heap.size w1 R1.out (Nat.le_refl _) (K.sb_lt s) hlc1 C1.out).mono ?_
  rintro e w2 ⟨hd, hl2⟩
  have L2 := Lib.hid (L1.out.trans (hl2.mono s1))
  have X2 := Lib.hid (X1.out.below hl2 X1.out.lt)
  have s2 := L2.out.size
  have hp1 := X1.out.lt
  clear hl2 X1 L1
  unfold DecOut at hd
  obtain ⟨⟨d0, d1, d2, d3⟩, e0, e1, e2, e3⟩ := ptr_facts X2.out
  rcases hd with ⟨hq, rfl⟩ | ⟨l, v, hq, rfl, ho⟩
  · have E1 : Hid (K.unP (K.sb s) = none) := Lib.hid (by unfold K.unP; rw [hq]; rfl)
    clear hq
    go_wp2_with fail
    refine bodyPost_ret (results_cell2 rfl rfl (set4_load X2.out _ _ _ _) rfl) rfl ?_
    exact ⟨.inl ⟨E1.out, rfl⟩, set4_below L2.out (Nat.le_refl _) _ _ _ _⟩
  · have hlt := decs_right (K.sb_lt s) hq
    have HGD := Lib.hid hlt.2.2
    have HRT := Lib.hid (K.fault_ok hlt.1).2
    obtain ⟨A4, c4, rfl, lc4, cm4, r4, _, hown⟩ := ho.shape
    have hbnd := (K.fault_ok hlt.1).1
    have HQ : Hid (K.unP (K.sb s) = K.ofIts l) := Lib.hid (by unfold K.unP; rw [hq]; rfl)
    clear hq hlt ho
    by_cases h4 : l.length = 4
    · match l, h4 with
      | [x0, x1, x2, x3], _ =>
        obtain ⟨b, o, hA, hb, a0, a1, a2⟩ := r4 0 x0 rfl
        obtain ⟨b', o', hA', _, b0, b1, b2⟩ := r4 1 x1 rfl
        rw [hA] at hA'; injection hA' with hA'; injection hA' with q1 q2; subst q1; subst q2
        obtain ⟨b', o', hA', _, g0, g1, g2⟩ := r4 2 x2 rfl
        rw [hA] at hA'; injection hA' with hA'; injection hA' with q1 q2; subst q1; subst q2
        obtain ⟨b', o', hA', _, i0, i1, i2⟩ := r4 3 x3 rfl
        rw [hA] at hA'; injection hA' with hA'; injection hA' with q1 q2; subst q1; subst q2
        subst hA
        have hbg : w.heap.size < b := by have := hown b o none rfl; omega
        rw [show o + 0 * 3 = o by omega] at a0 a1 a2
        rw [show o + 1 * 3 = o + 3 by omega] at b0 b1 b2
        rw [show o + 2 * 3 = o + 6 by omega] at g0 g1 g2
        rw [show o + 3 * 3 = o + 9 by omega] at i0 i1 i2
        rw [show o + 3 + 1 = o + 4 by omega] at b1
        rw [show o + 6 + 1 = o + 7 by omega] at g1
        rw [show o + 9 + 2 = o + 11 by omega] at i2
        clear hown r4 h4 b0 b2 g2 i0 i1 a2 hbnd
        have hln : ([x0, x1, x2, x3] : List K.It).length = 4 := rfl
        rw [hln]
        rw [hln] at lc4
        clear hln
        unfold maxLen at cm4
        go_wp2_with fail
        go_region
        have L5 : Hid (Below w.heap.size w (w2.alloc (.cells #[.int .i64 x0.n, .int .i64 x1.n, .int .i64 x2.n, .string x3.s] 37)).drew) := Lib.hid ((L2.out.alloc s2 _).drew)
        have X5 : Hid (Blk (w2.alloc (.cells #[.int .i64 x0.n, .int .i64 x1.n, .int .i64 x2.n, .string x3.s] 37)).drew w.heap.size 37 #[.int .i64 0, .int .i64 0, .int .i64 0, .string ⟨#[]⟩]) := Lib.hid ((X2.out.alloc _).drew)
        have X6 : Hid (Blk (w2.alloc (.cells #[.int .i64 x0.n, .int .i64 x1.n, .int .i64 x2.n, .string x3.s] 37)).drew w2.heap.size 37 #[.int .i64 x0.n, .int .i64 x1.n, .int .i64 x2.n, .string x3.s]) := Lib.hid ((Blk.new _ _ _).drew)
        have k0 := (World.cell?_of_block (a := ⟨b, o, none⟩) (Below.heap_alloc w2 (.cells #[.int .i64 x0.n, .int .i64 x1.n, .int .i64 x2.n, .string x3.s] 37) b hb)).trans a0
        have k2 := (World.cell?_of_block (a := ⟨b, o + 6, none⟩) (Below.heap_alloc w2 (.cells #[.int .i64 x0.n, .int .i64 x1.n, .int .i64 x2.n, .string x3.s] 37) b hb)).trans g0
        have k0' : (w2.alloc (.cells #[.int .i64 x0.n, .int .i64 x1.n, .int .i64 x2.n, .string x3.s] 37)).drew.cell? ⟨b, o, none⟩ = some (.int .i64 x0.k) := k0
        have k2' : (w2.alloc (.cells #[.int .i64 x0.n, .int .i64 x1.n, .int .i64 x2.n, .string x3.s] 37)).drew.cell? ⟨b, o + 6, none⟩ = some (.int .i64 x2.k) := k2
        clear k0 k2 a0 a1 b1 g0 g1 i2 d0 d1 d2 d3 e0 e1 e2 e3
        have hgx3 := (HGD.out x3 (by simp)).2
        have HFP : Hid (K.FitP ⟨x0.n, x1.n, x2.n, x3.s⟩) := Lib.hid ⟨(HGD.out x0 (by simp)).1, (HGD.out x1 (by simp)).1, (HGD.out x2 (by simp)).1, hgx3⟩
        have HPT := Lib.hid fun W => pointed_any ⟨x0.n, x1.n, x2.n, x3.s⟩ W hgx3
        unfold ptA at HPT
        dsimp only at HPT
        obtain ⟨n0, hn0⟩ : ∃ n0, n0 = x0.n := ⟨_, rfl⟩
        obtain ⟨n1, hn1⟩ : ∃ n1, n1 = x1.n := ⟨_, rfl⟩
        obtain ⟨n2, hn2⟩ : ∃ n2, n2 = x2.n := ⟨_, rfl⟩
        obtain ⟨t3, ht3⟩ : ∃ t3, t3 = x3.s := ⟨_, rfl⟩
        have HQ2 : Hid (K.unP (K.sb s) = if x0.k = 1 ∧ x2.k = 1 ∧ K.okP ⟨n0, n1, n2, t3⟩ = true then some ⟨n0, n1, n2, t3⟩ else none) := Lib.hid (by rw [HQ.out, hn0, hn1, hn2, ht3]; rfl)
        rw [← hn0, ← hn1, ← hn2, ← ht3] at L5 X5 X6 k0' k2' HFP HPT ⊢
        clear HQ HGD HRT hgx3 hn0 hn1 hn2 ht3
        obtain ⟨g6, hg6⟩ : ∃ g6, g6 = w2.heap.size := ⟨_, rfl⟩
        rw [← hg6] at X6 ⊢
        generalize (w2.alloc (.cells #[.int .i64 n0, .int .i64 n1, .int .i64 n2, .string t3] 37)).drew = w5 at L5 X5 X6 k0' k2' ⊢
        obtain ⟨y0, hy0⟩ : ∃ y0, y0 = x0.k := ⟨_, rfl⟩
        obtain ⟨y2, hy2⟩ : ∃ y2, y2 = x2.k := ⟨_, rfl⟩
        rw [← hy0] at k0' HQ2
        rw [← hy2] at k2' HQ2
        clear hy0 hy2 hg6
        have hs5 := X6.out.lt
        have s5 := L5.out.size
        obtain ⟨⟨d0, d1, d2, d3⟩, e0, e1, e2, e3⟩ := ptr_facts X5.out
        obtain ⟨⟨f0, f1, f2, f3⟩, _, _, _, _⟩ := ptr_facts X6.out
        by_cases hk0 : y0 = 1
        · have u0 : (y0 != 1) = false := by simpa using hk0
          by_cases hk2 : y2 = 1
          · have u2 : (y2 != 1) = false := by simpa using hk2
            by_cases hok : K.okP ⟨n0, n1, n2, t3⟩ = true
            · have E1 : Hid (K.unP (K.sb s) = some ⟨n0, n1, n2, t3⟩) := Lib.hid (by rw [HQ2.out, if_pos ⟨hk0, hk2, hok⟩])
              have HOK := Lib.hid hok
              rw [hok] at HPT
              clear hk0 hk2 hok HQ2
              go_wp2_with fail
              refine (HPT.out _).mono ?_
              rintro e w6 ⟨rfl, hl6⟩
              have L6 := Lib.hid (L5.out.trans (hl6.mono s5))
              have X7 := Lib.hid (X5.out.below hl6 X5.out.lt)
              have X8 := Lib.hid (X6.out.below hl6 hs5)
              clear d0 d1 d2 d3 e0 e1 e2 e3 f0 f1 f2 f3 k0' k2' hl6 X5 X6
              obtain ⟨⟨d0, d1, d2, d3⟩, e0, e1, e2, e3⟩ := ptr_facts X7.out
              obtain ⟨⟨f0, f1, f2, f3⟩, _, _, _, _⟩ := ptr_facts X8.out
              go_wp2_with fail
              refine bodyPost_ret (results_cell2 rfl rfl (set4_load X7.out _ _ _ _) rfl) rfl ?_
              exact ⟨.inr ⟨_, E1.out, HFP.out, HOK.out, rfl⟩, set4_below L6.out (Nat.le_refl _) _ _ _ _⟩
            · have E1 : Hid (K.unP (K.sb s) = none) := Lib.hid (by rw [HQ2.out, if_neg (fun h => hok h.2.2)])
              have hok : K.okP ⟨n0, n1, n2, t3⟩ = false := by simpa using hok
              rw [hok] at HPT
              clear hk0 hk2 hok HQ2
              go_wp2_with fail
              refine (HPT.out _).mono ?_
              rintro e w6 ⟨rfl, hl6⟩
              have L6 := Lib.hid (L5.out.trans (hl6.mono s5))
              have X7 := Lib.hid (X5.out.below hl6 X5.out.lt)
              clear d0 d1 d2 d3 e0 e1 e2 e3 f0 f1 f2 f3 k0' k2' hl6 X5 X6
              obtain ⟨⟨d0, d1, d2, d3⟩, e0, e1, e2, e3⟩ := ptr_facts X7.out
              go_wp2_with fail
              refine bodyPost_ret (results_cell2 rfl rfl (set4_load X7.out _ _ _ _) rfl) rfl ?_
              exact ⟨.inl ⟨E1.out, rfl⟩, set4_below L6.out (Nat.le_refl _) _ _ _ _⟩
          · have u2 : (y2 != 1) = true := by simpa using hk2
            have E1 : Hid (K.unP (K.sb s) = none) := Lib.hid (by rw [HQ2.out, if_neg (fun h => hk2 h.2.1)])
            clear hk0 hk2 HQ2
            go_wp2_with fail
            refine bodyPost_ret (results_cell2 rfl rfl (set4_load X5.out _ _ _ _) rfl) rfl ?_
            exact ⟨.inl ⟨E1.out, rfl⟩, set4_below L5.out (Nat.le_refl _) _ _ _ _⟩
        · have u0 : (y0 != 1) = true := by simpa using hk0
          have E1 : Hid (K.unP (K.sb s) = none) := Lib.hid (by rw [HQ2.out, if_neg (fun h => hk0 h.1)])
          clear hk0 HQ2
          go_wp2_with fail
          refine bodyPost_ret (results_cell2 rfl rfl (set4_load X5.out _ _ _ _) rfl) rfl ?_
          exact ⟨.inl ⟨E1.out, rfl⟩, set4_below L5.out (Nat.le_refl _) _ _ _ _⟩
    · have E1 : Hid (K.unP (K.sb s) = none) := Lib.hid (by rw [HQ.out, K.ofIts_short h4])
      have t1 : ((l.length : Int) != 4) = true := by simp; omega
      clear HQ hown r4 h4
      go_wp2_with fail
      refine bodyPost_ret (results_cell2 rfl rfl (set4_load X2.out _ _ _ _) rfl) rfl ?_
      exact ⟨.inl ⟨E1.out, rfl⟩, set4_below L2.out (Nat.le_refl _) _ _ _ _⟩
end Go.Proofs.Ytiflkjjjncagfaa
