/-
  'hoardref05.DocUnptr' by contract. Conditions: a text.
-/
import Derived.Test.YthioanenljpclaaGreatDoorPackSecM
import Derived.Test.YthioanenljpclaaGreatDoorLabEncM
import Derived.Test.YthioanenljpclaaGreatDoorPackDocUnsM
import Derived.Test.YthioanenljpclaaGreatDoorShaSpreadM
namespace Go.Proofs.YthioanenljpclaaGreatDoor
set_option maxRecDepth 100000
open Go Go.RowKit
set_option linter.unusedVariables false

theorem beq_no (a b : ByteArray) (h : a ≠ b) : (a.toList == b.toList) = false := by
  have : a.toList ≠ b.toList := fun e => h (bytes_eq e)
  simp [this]
set_option maxRecDepth 100000 in
set_option maxHeartbeats 3200000 in
theorem docUnptr_any (s : ByteArray) (w : World) (hs : s.size ≤ maxLen) :
    Calls Tryz.prog 82 #[.string s] w fun e w' => UnOut (K.sb s) e ∧ Below w.heap.size w w' := by
  have HZ := Lib.hid hs
  unfold maxLen at hs
  have X0 : Hid (Blk (w.alloc (.cells #[.int .i64 0, .int .i64 0, .int .i64 0, .string ⟨#[]⟩] 38)) w.heap.size 38 #[.int .i64 0, .int .i64 0, .int .i64 0, .string ⟨#[]⟩]) := Lib.hid (Blk.new _ _ _)
  have L0 : Hid (Below w.heap.size w (w.alloc (.cells #[.int .i64 0, .int .i64 0, .int .i64 0, .string ⟨#[]⟩] 38))) := Lib.hid ((Below.refl _ _).alloc (Nat.le_refl _) _)
  go_enter Tryz.func82, Tryz.ntmps82
  have HDD := Lib.hid fun W => docDecode_any (K.sb s) W (K.sb_lt s) (by rw [K.sb_length]; exact HZ.out)
  rw [K.txt_sb] at HDD
  go_wp2_with fail
  refine (HDD.out _).mono ?_
  rintro e w2 ⟨hd, hl2⟩
  have L2 := Lib.hid (L0.out.trans (hl2.mono (by simp)))
  have X2 := Lib.hid (X0.out.below hl2 (by simp))
  have s2 := L2.out.size
  have hp1 : w.heap.size < (w.alloc (.cells #[.int .i64 0, .int .i64 0, .int .i64 0, .string ⟨#[]⟩] 38)).heap.size := by simp
  clear hl2 X0 L0 HDD
  unfold DecOut at hd
  obtain ⟨⟨d0, d1, d2, d3⟩, e0, e1, e2, e3⟩ := ptr_facts X2.out
  rcases hd with ⟨hq, rfl⟩ | ⟨l, v, hq, rfl, ho⟩
  · have E1 : Hid (K.unP (K.sb s) = none) := Lib.hid (by unfold K.unP; rw [hq]; rfl)
    clear hq
    go_wp2_with fail
    refine bodyPost_ret (results_cell2 rfl rfl (set4_load X2.out _ _ _ _) rfl) rfl ?_
    exact ⟨.inl ⟨E1.out, rfl⟩, set4_below L2.out (Nat.le_refl _) _ _ _ _⟩
  · have hlt := decs_right (K.sb_lt s) hq
    have HGD := Lib.hid hlt.2.2
    have HRT := Lib.hid (K.fault_ok hlt.1).2
    have HFL := Lib.hid hlt.1
    have HEN := Lib.hid hlt.2.1
    obtain ⟨A4, c4, rfl, lc4, cm4, r4, _, hown⟩ := ho.shape
    have hbnd := (K.fault_ok hlt.1).1
    have HQ : Hid (K.unP (K.sb s) = K.ofIts l) := Lib.hid (by unfold K.unP; rw [hq]; rfl)
    clear hq hlt ho
    by_cases h4 : l.length = 4
    · match l, h4 with
      | [x0, x1, x2, x3], _ =>
        obtain ⟨b, o, hA, hb, a0, a1, a2⟩ := r4 0 x0 rfl
        obtain ⟨b', o', hA', _, b0, b1, b2⟩ := r4 1 x1 rfl
        rw [hA] at hA'; injection hA' with hA'; injection hA' with q1 q2; subst q1; subst q2
        obtain ⟨b', o', hA', _, g0, g1, g2⟩ := r4 2 x2 rfl
        rw [hA] at hA'; injection hA' with hA'; injection hA' with q1 q2; subst q1; subst q2
        obtain ⟨b', o', hA', _, i0, i1, i2⟩ := r4 3 x3 rfl
        rw [hA] at hA'; injection hA' with hA'; injection hA' with q1 q2; subst q1; subst q2
        subst hA
        have hbg : w.heap.size < b := by have := hown b o none rfl; simp at this; omega
        rw [show o + 0 * 3 = o by omega] at a0 a1 a2
        rw [show o + 1 * 3 = o + 3 by omega] at b0 b1 b2
        rw [show o + 2 * 3 = o + 6 by omega] at g0 g1 g2
        rw [show o + 3 * 3 = o + 9 by omega] at i0 i1 i2
        rw [show o + 3 + 1 = o + 4 by omega] at b1
        rw [show o + 6 + 1 = o + 7 by omega] at g1
        rw [show o + 9 + 2 = o + 11 by omega] at i2
        clear hown r4 h4 b0 b2 g2 i0 i1 a2 hbnd
        have hln : ([x0, x1, x2, x3] : List K.It).length = 4 := rfl
        rw [hln]
        rw [hln] at lc4
        clear hln
        unfold maxLen at cm4
        go_wp2_with fail
        go_region
        have L5 : Hid (Below w.heap.size w (w2.alloc (.cells #[.int .i64 x0.n, .int .i64 x1.n, .int .i64 x2.n, .string x3.s] 38)).drew) := Lib.hid ((L2.out.alloc s2 _).drew)
        have X5 : Hid (Blk (w2.alloc (.cells #[.int .i64 x0.n, .int .i64 x1.n, .int .i64 x2.n, .string x3.s] 38)).drew w.heap.size 38 #[.int .i64 0, .int .i64 0, .int .i64 0, .string ⟨#[]⟩]) := Lib.hid ((X2.out.alloc _).drew)
        have X6 : Hid (Blk (w2.alloc (.cells #[.int .i64 x0.n, .int .i64 x1.n, .int .i64 x2.n, .string x3.s] 38)).drew w2.heap.size 38 #[.int .i64 x0.n, .int .i64 x1.n, .int .i64 x2.n, .string x3.s]) := Lib.hid ((Blk.new _ _ _).drew)
        clear a0 a1 b1 g0 g1 i2 d0 d1 d2 d3 e0 e1 e2 e3
        have hgx3 := (HGD.out x3 (by simp)).2
        have HFP : Hid (K.FitP ⟨x0.n, x1.n, x2.n, x3.s⟩) := Lib.hid ⟨(HGD.out x0 (by simp)).1, (HGD.out x1 (by simp)).1, (HGD.out x2 (by simp)).1, hgx3⟩
        have HPT := Lib.hid fun W => docPtr_any ⟨x0.n, x1.n, x2.n, x3.s⟩ W HFP.out
        unfold ptA at HPT
        dsimp only at HPT
        have HEQ : Hid (K.okP ⟨x0.n, x1.n, x2.n, x3.s⟩ = true → (K.ptrS ⟨x0.n, x1.n, x2.n, x3.s⟩ = s ↔ (x0.k = 1 ∧ x2.k = 1))) := Lib.hid fun hok => by
          have h1 := K.its_eq (HRT.out x0 (by simp)) (HRT.out x1 (by simp)) (HRT.out x2 (by simp)) (HRT.out x3 (by simp)) hok
          rw [← h1]
          unfold K.ptrS
          rw [if_pos hok]
          constructor
          · intro e
            refine K.encs_inj (K.itsP_right hok) HFL.out (fun x hx => (itsP_good HFP.out x hx).1) (fun x hx => (HGD.out x hx).1) ?_
            rw [← HEN.out, ← e, K.sb_txt (K.encs_lt _)]
          · intro e
            rw [e, ← HEN.out, K.txt_sb]
        obtain ⟨n0, hn0⟩ : ∃ n0, n0 = x0.n := ⟨_, rfl⟩
        obtain ⟨n1, hn1⟩ : ∃ n1, n1 = x1.n := ⟨_, rfl⟩
        obtain ⟨n2, hn2⟩ : ∃ n2, n2 = x2.n := ⟨_, rfl⟩
        obtain ⟨t3, ht3⟩ : ∃ t3, t3 = x3.s := ⟨_, rfl⟩
        have HQ2 : Hid (K.unP (K.sb s) = if x0.k = 1 ∧ x2.k = 1 ∧ K.okP ⟨n0, n1, n2, t3⟩ = true then some ⟨n0, n1, n2, t3⟩ else none) := Lib.hid (by rw [HQ.out, hn0, hn1, hn2, ht3]; rfl)
        rw [← hn0, ← hn1, ← hn2, ← ht3] at L5 X5 X6 HFP HPT HEQ ⊢
        clear HQ HGD HRT HFL HEN hgx3 hn0 hn1 hn2 ht3
        obtain ⟨g6, hg6⟩ : ∃ g6, g6 = w2.heap.size := ⟨_, rfl⟩
        rw [← hg6] at X6 ⊢
        generalize (w2.alloc (.cells #[.int .i64 n0, .int .i64 n1, .int .i64 n2, .string t3] 38)).drew = w5 at L5 X5 X6 ⊢
        clear hg6
        have hs5 := X6.out.lt
        have s5 := L5.out.size
        obtain ⟨⟨f0, f1, f2, f3⟩, _, _, _, _⟩ := ptr_facts X6.out
        by_cases hok : K.okP ⟨n0, n1, n2, t3⟩ = true
        · have hpe : K.ptrE ⟨n0, n1, n2, t3⟩ = 0 := by unfold K.ptrE; rw [if_pos hok]
          rw [hpe] at HPT
          have HOK := Lib.hid hok
          have HEQ2 := Lib.hid (HEQ.out hok)
          clear hok HEQ hpe
          obtain ⟨ts, hts⟩ : ∃ ts, ts = K.ptrS ⟨n0, n1, n2, t3⟩ := ⟨_, rfl⟩
          rw [← hts] at HPT HEQ2
          clear hts
          go_wp2_with fail
          refine (HPT.out _).mono ?_
          rintro e w6 ⟨rfl, hl6⟩
          have L6 := Lib.hid (L5.out.trans (hl6.mono s5))
          have X7 := Lib.hid (X5.out.below hl6 X5.out.lt)
          have X8 := Lib.hid (X6.out.below hl6 hs5)
          clear f0 f1 f2 f3 hl6 X5 X6
          obtain ⟨⟨d0, d1, d2, d3⟩, e0, e1, e2, e3⟩ := ptr_facts X7.out
          obtain ⟨⟨f0, f1, f2, f3⟩, _, _, _, _⟩ := ptr_facts X8.out
          by_cases hss : ts = s
          · have hkk := HEQ2.out.1 hss
            have E1 : Hid (K.unP (K.sb s) = some ⟨n0, n1, n2, t3⟩) := Lib.hid (by rw [HQ2.out, if_pos ⟨hkk.1, hkk.2, HOK.out⟩])
            subst hss
            clear hkk HQ2 HEQ2
            go_wp2_with fail
            refine bodyPost_ret (results_cell2 rfl rfl (set4_load X7.out _ _ _ _) rfl) rfl ?_
            exact ⟨.inr ⟨_, E1.out, HFP.out, HOK.out, rfl⟩, set4_below L6.out (Nat.le_refl _) _ _ _ _⟩
          · have E1 : Hid (K.unP (K.sb s) = none) := Lib.hid (by rw [HQ2.out, if_neg (fun h => hss (HEQ2.out.2 ⟨h.1, h.2.1⟩))])
            have b1 := beq_no ts s hss
            have b2 : (!(ts.toList == s.toList)) = true := by rw [b1]; rfl
            have b3 : (ts.toList != s.toList) = true := by simp only [bne, b1]; rfl
            clear hss HQ2 HEQ2
            go_wp2_with fail
            refine bodyPost_ret (results_cell2 rfl rfl (set4_load X7.out _ _ _ _) rfl) rfl ?_
            exact ⟨.inl ⟨E1.out, rfl⟩, set4_below L6.out (Nat.le_refl _) _ _ _ _⟩
        · have E1 : Hid (K.unP (K.sb s) = none) := Lib.hid (by rw [HQ2.out, if_neg (fun h => hok h.2.2)])
          have hpe : K.ptrE ⟨n0, n1, n2, t3⟩ = 2 := by unfold K.ptrE; rw [if_neg hok]
          rw [hpe] at HPT
          clear hok HEQ hpe HQ2
          generalize K.ptrS ⟨n0, n1, n2, t3⟩ = ts at HPT
          go_wp2_with fail
          refine (HPT.out _).mono ?_
          rintro e w6 ⟨rfl, hl6⟩
          have L6 := Lib.hid (L5.out.trans (hl6.mono s5))
          have X7 := Lib.hid (X5.out.below hl6 X5.out.lt)
          clear f0 f1 f2 f3 hl6 X5 X6
          obtain ⟨⟨d0, d1, d2, d3⟩, e0, e1, e2, e3⟩ := ptr_facts X7.out
          go_wp2_with fail
          refine bodyPost_ret (results_cell2 rfl rfl (set4_load X7.out _ _ _ _) rfl) rfl ?_
          exact ⟨.inl ⟨E1.out, rfl⟩, set4_below L6.out (Nat.le_refl _) _ _ _ _⟩
    · have E1 : Hid (K.unP (K.sb s) = none) := Lib.hid (by rw [HQ.out, K.ofIts_short h4])
      have t1 : ((l.length : Int) != 4) = true := by simp; omega
      clear HQ hown r4 h4
      go_wp2_with fail
      refine bodyPost_ret (results_cell2 rfl rfl (set4_load X2.out _ _ _ _) rfl) rfl ?_
      exact ⟨.inl ⟨E1.out, rfl⟩, set4_below L2.out (Nat.le_refl _) _ _ _ _⟩
end Go.Proofs.YthioanenljpclaaGreatDoor
namespace Go.Proofs.YthioanenljpclaaGreatDoor
open Go Go.RowKit
set_option maxRecDepth 100000
set_option linter.unusedVariables false
namespace Lab
/-- what a reader of a record answers -/
def DecU (L : List Nat) (e : Ending) : Prop :=
  (∃ u, Is L u ∧ e = .returned (.tuple #[.agg (uA u), .int .i64 0])) ∨ ((∀ u, ¬ Is L u) ∧ e = .returned (.tuple #[.agg #[.int .i64 0, .int .i64 0, .int .i64 0, .int .i64 0, .string ⟨#[]⟩], .int .i64 2]))
theorem isize_uber : (Tryz.prog.info? 41).map (·.size) = some 5 := by kernel_rfl
def set5 (w : World) (g : Nat) (a b c d e : Value) : World := ((((w.setCell ⟨g, 0, none⟩ a).setCell ⟨g, 1, none⟩ b).setCell ⟨g, 2, none⟩ c).setCell ⟨g, 3, none⟩ d).setCell ⟨g, 4, none⟩ e
theorem set5_blk {w : World} {g : Nat} {t : TypeId} {x0 x1 x2 x3 x4 : Value} (h : Blk w g t #[x0, x1, x2, x3, x4]) (a b c d e : Value) : Blk (set5 w g a b c d e) g t #[a, b, c, d, e] := ((((h.set_ 0 a).set_ 1 b).set_ 2 c).set_ 3 d).set_ 4 e
theorem set5_below {w0 w : World} {base g : Nat} (h : Below base w0 w) (hg : base ≤ g) (a b c d e : Value) : Below base w0 (set5 w g a b c d e) :=
  ((((h.setCell (p := ⟨g, 0, none⟩) hg a).setCell (p := ⟨g, 1, none⟩) hg b).setCell (p := ⟨g, 2, none⟩) hg c).setCell (p := ⟨g, 3, none⟩) hg d).setCell (p := ⟨g, 4, none⟩) hg e
theorem set5_load {w : World} {g : Nat} {x0 x1 x2 x3 x4 : Value} (h : Blk w g 41 #[x0, x1, x2, x3, x4]) (a b c d e : Value) : (loadVar 41 ⟨g, 0, none⟩).run Tryz.prog (set5 w g a b c d e) = .ok (.agg #[a, b, c, d, e]) (set5 w g a b c d e) :=
  loadVar_blk (set5_blk h a b c d e) Tryz.underlying41 rfl isize_uber
theorem uber_facts {w : World} {g : Nat} {t : TypeId} {a b c d e : Value} (h : Blk w g t #[a, b, c, d, e]) : (w.cell? ⟨g, 0, none⟩ = some a ∧ w.cell? ⟨g, 1, none⟩ = some b ∧ w.cell? ⟨g, 2, none⟩ = some c ∧ w.cell? ⟨g, 3, none⟩ = some d ∧ w.cell? ⟨g, 4, none⟩ = some e) ∧
    (w.frozen? ⟨g, 0, none⟩ = false ∧ w.frozen? ⟨g, 1, none⟩ = false ∧ w.frozen? ⟨g, 2, none⟩ = false ∧ w.frozen? ⟨g, 3, none⟩ = false ∧ w.frozen? ⟨g, 4, none⟩ = false) :=
  ⟨⟨h.cell 0, h.cell 1, h.cell 2, h.cell 3, h.cell 4⟩, h.frozen 0, h.frozen 1, h.frozen 2, h.frozen 3, h.frozen 4⟩
theorem not_is {L : List Nat} (h : unsE L ≠ 0) : ∀ u, ¬ Is L u := fun u hu => h hu.back.2
theorem not_is3 {L : List Nat} (h : (unsL L).length ≠ 3) : ∀ u, ¬ Is L u := fun u hu => h (by rw [hu.back.1]; rfl)
theorem good_of {L : List Nat} (hL : ∀ b ∈ L, b < 256) (h : unsE L = 0) : ∀ x ∈ unsL L, K.Fits x := by
  cases hu : unsB L with
  | none => have := (uns_none hu).2; omega
  | some N =>
    obtain ⟨e1, e2⟩ := uns_some hu
    obtain ⟨h1, h2⟩ := unsB_back hu
    have hN : ∀ b ∈ N, b < 256 := fun b hb => hL b (by rw [h2]; unfold secB; simp [hb])
    rw [e2] at h
    unfold outE at h
    cases hd : K.decs 2000 N with
    | none => rw [hd] at h; simp at h
    | some l =>
      have e3 : unsL L = l := by rw [e1]; unfold outL; rw [hd]; rfl
      obtain ⟨_, _, _, g4⟩ := K.decs_back 2000 N l hN hd
      rw [e3]
      exact g4
theorem is_items {L : List Nat} {u : U} {x0 x1 x2 : K.It} (h : Is L u) (hl : unsL L = [x0, x1, x2]) : x0 = ⟨1, 77, ⟨#[]⟩⟩ ∧ x1 = ⟨1, u.t, ⟨#[]⟩⟩ ∧ x2 = ⟨2, 0, K.ptrS u.p⟩ := by
  have e := hl.symm.trans h.back.1
  unfold itsU at e
  injection e with e0 e
  injection e with e1 e
  injection e with e2 _
  exact ⟨e0, e1, e2⟩
set_option maxHeartbeats 3200000 in
theorem decode_lab (A : Option Addr) (L : List Nat) (c B : Nat) (w : World) (hx : RdB w B A L.length (lst L)) (hB : B ≤ w.heap.size) (hL : ∀ x ∈ L, x < 256) (hlc : L.length ≤ c) (hcm : c ≤ maxLen) (hl : Laid w) :
    Calls Tryz.prog 65 #[.slice A L.length c] w fun e w' => DecU L e ∧ Below w.heap.size w w' := by
  have hpos := hl.pos
  have X0 : Hid (Blk (w.alloc (.cells #[.int .i64 0, .int .i64 0, .int .i64 0, .int .i64 0, .string ⟨#[]⟩] 41)) w.heap.size 41 #[.int .i64 0, .int .i64 0, .int .i64 0, .int .i64 0, .string ⟨#[]⟩]) := Lib.hid (Blk.new _ _ _)
  have L0 : Hid (Below w.heap.size w (w.alloc (.cells #[.int .i64 0, .int .i64 0, .int .i64 0, .int .i64 0, .string ⟨#[]⟩] 41))) := Lib.hid ((Below.refl _ _).alloc (Nat.le_refl _) _)
  have HU := Lib.hid (unsector_any A L c B (w.alloc (.cells #[.int .i64 0, .int .i64 0, .int .i64 0, .int .i64 0, .string ⟨#[]⟩] 41)) (hx.below ((Below.refl w.heap.size w).alloc (Nat.le_refl _) _) hB) (by simp; omega) hL hlc hcm (hl.below ((Below.refl w.heap.size w).alloc (Nat.le_refl _) _) hpos))
  have HL := Lib.hid hL
  clear hx hl hcm hL
  go_enter Tryz.func65, Tryz.ntmps65
  go_wp2_with fail
  refine HU.out.mono ?_
  rintro e w1 ⟨hu, hl1⟩
  obtain ⟨A1, c1, rfl, r1, lc1, cm1⟩ := hu
  have L1 := Lib.hid (L0.out.trans (hl1.mono (by simp)))
  have X1 := Lib.hid (X0.out.below hl1 (by simp))
  have s1 := L1.out.size
  clear hl1 X0 L0 HU
  obtain ⟨⟨d0, d1, d2, d3, d4⟩, e0, e1, e2, e3, e4⟩ := uber_facts X1.out
  by_cases hE : unsE L = 0
  rotate_left
  · have HN := Lib.hid (not_is hE)
    obtain ⟨ue, hue⟩ : ∃ ue, ue = unsE L := ⟨_, rfl⟩
    rw [← hue] at hE ⊢
    have t1 : (ue != 0) = true := by simpa using hE
    clear hE hue r1 lc1 cm1
    go_wp2_with fail
    refine bodyPost_ret (results_cell2 rfl rfl (set5_load X1.out _ _ _ _ _) rfl) rfl ?_
    exact ⟨.inr ⟨HN.out, rfl⟩, set5_below L1.out (Nat.le_refl _) _ _ _ _ _⟩
  have HE := Lib.hid hE
  rw [hE]
  clear hE
  by_cases h3 : (unsL L).length = 3
  rotate_left
  · have HN := Lib.hid (not_is3 h3)
    obtain ⟨n1, hn1⟩ : ∃ n1, n1 = (unsL L).length := ⟨_, rfl⟩
    rw [← hn1] at h3 lc1 ⊢
    have t1 : ((n1 : Int) != 3) = true := by simp; omega
    clear h3 hn1 r1
    go_wp2_with fail
    refine bodyPost_ret (results_cell2 rfl rfl (set5_load X1.out _ _ _ _ _) rfl) rfl ?_
    exact ⟨.inr ⟨HN.out, rfl⟩, set5_below L1.out (Nat.le_refl _) _ _ _ _ _⟩
  obtain ⟨l, hl⟩ : ∃ l, l = unsL L := ⟨_, rfl⟩
  rw [← hl] at h3 r1 lc1 ⊢
  match l, h3 with
  | [x0, x1, x2], _ =>
  have HLL := Lib.hid hl.symm
  clear hl
  obtain ⟨b, o, hA, hb, a0, a1, a2⟩ := r1 0 x0 rfl
  obtain ⟨b', o', hA', _, b0, b1, b2⟩ := r1 1 x1 rfl
  rw [hA] at hA'; injection hA' with hA'; injection hA' with q1 q2; subst q1; subst q2
  obtain ⟨b', o', hA', _, g0, g1, g2⟩ := r1 2 x2 rfl
  rw [hA] at hA'; injection hA' with hA'; injection hA' with q1 q2; subst q1; subst q2
  subst hA
  rw [show o + 0 * 3 = o by omega] at a0 a1 a2
  rw [show o + 1 * 3 = o + 3 by omega] at b0 b1 b2
  rw [show o + 2 * 3 = o + 6 by omega] at g0 g1 g2
  rw [show o + 3 + 1 = o + 4 by omega] at b1
  rw [show o + 6 + 2 = o + 8 by omega] at g2
  have hx2 : Hid (x2.s.size ≤ maxLen) := Lib.hid (by
    have hr := ((uns_zero HL.out HE.out).2 x2 (by rw [HLL.out]; simp)).cases
    unfold maxLen
    rcases hr with h | h
    · rw [h.2]; show 0 ≤ _; exact Nat.zero_le _
    · omega)
  have hln : ([x0, x1, x2] : List K.It).length = 3 := rfl
  rw [hln] at lc1 ⊢
  clear hln r1 b0 b2 g0 g1
  obtain ⟨y0, n0, z0⟩ := x0
  obtain ⟨y1, n1, z1⟩ := x1
  obtain ⟨y2, n2, z2⟩ := x2
  dsimp only at a0 a1 a2 b1 g2 hx2
  have HUP := Lib.hid fun W => unptr_any z2 W hx2.out
  unfold maxLen at cm1
  go_wp2_with fail
  refine (HUP.out _).mono ?_
  rintro e w3 ⟨hup, hl3⟩
  have L3 := Lib.hid (L1.out.trans (hl3.mono s1))
  have X3 := Lib.hid (X1.out.below hl3 X1.out.lt)
  have k0 := (hl3.cell (p := ⟨b, o, none⟩) hb).trans a0
  have k1 := (hl3.cell (p := ⟨b, o + 1, none⟩) hb).trans a1
  have k2 := (hl3.cell (p := ⟨b, o + 2, none⟩) hb).trans a2
  have k4 := (hl3.cell (p := ⟨b, o + 4, none⟩) hb).trans b1
  have s3 := L3.out.size
  have hb3 : b < w3.heap.size := Nat.lt_of_lt_of_le hb hl3.size
  have hg3 := X1.out.lt
  clear hl3 a0 a1 a2 b1 g2 d0 d1 d2 d3 d4 e0 e1 e2 e3 e4 HUP L1 X1
  rcases hup with ⟨hq, rfl⟩ | ⟨p, hq, hfp, hok, rfl⟩
  · have HN : Hid (∀ u, ¬ Is L u) := Lib.hid fun u hu => by
      obtain ⟨_, _, h2⟩ := is_items hu HLL.out
      injection h2 with _ _ h2
      rw [h2, unP_ptrS (ok_p hu.1) hu.1.2.2] at hq
      cases hq
    have X4 := Lib.hid (X3.out.alloc (.cells #[.int .i64 0, .int .i64 0, .int .i64 0, .string ⟨#[]⟩] 38))
    have L4 := Lib.hid (L3.out.alloc s3 (.cells #[.int .i64 0, .int .i64 0, .int .i64 0, .string ⟨#[]⟩] 38))
    obtain ⟨⟨d0, d1, d2, d3, d4⟩, e0, e1, e2, e3, e4⟩ := uber_facts X4.out
    simp only [ptA, K.zeroP]
    clear hq k0 k1 k2 k4 hx2 HE HLL
    go_wp2_with fail
    refine bodyPost_ret (results_cell2 rfl rfl (set5_load X4.out _ _ _ _ _) rfl) rfl ?_
    exact ⟨.inr ⟨HN.out, rfl⟩, set5_below L4.out (Nat.le_refl _) _ _ _ _ _⟩
  · have HQ := Lib.hid hq
    have HFP := Lib.hid hfp
    have HOK := Lib.hid hok
    obtain ⟨pa, pz, pb, ps⟩ := p
    simp only [ptA]
    have bW : Below w3.heap.size w3 (w3.alloc (.cells #[.int .i64 pa, .int .i64 pz, .int .i64 pb, .string ps] 38)) := (Below.refl _ _).alloc (Nat.le_refl _) _
    have X4 := Lib.hid (X3.out.alloc (.cells #[.int .i64 pa, .int .i64 pz, .int .i64 pb, .string ps] 38))
    have L4 := Lib.hid (L3.out.alloc s3 (.cells #[.int .i64 pa, .int .i64 pz, .int .i64 pb, .string ps] 38))
    have Y4 := Lib.hid (Blk.new w3 38 #[.int .i64 pa, .int .i64 pz, .int .i64 pb, .string ps])
    have j0 := (bW.cell (p := ⟨b, o, none⟩) hb3).trans k0
    have j1 := (bW.cell (p := ⟨b, o + 1, none⟩) hb3).trans k1
    have j2 := (bW.cell (p := ⟨b, o + 2, none⟩) hb3).trans k2
    have j4 := (bW.cell (p := ⟨b, o + 4, none⟩) hb3).trans k4
    obtain ⟨⟨d0, d1, d2, d3, d4⟩, e0, e1, e2, e3, e4⟩ := uber_facts X4.out
    have c31 : 3 ≤ c1 := lc1
    clear hq hfp hok k0 k1 k2 k4 hx2 bW X3 L3
    by_cases h0 : (⟨y0, n0, z0⟩ : K.It) = ⟨1, 77, ⟨#[]⟩⟩
    rotate_left
    · have HN : Hid (∀ u, ¬ Is L u) := Lib.hid fun u hu => h0 (is_items hu HLL.out).1
      have N1 := neq_diff _ _ h0
      unfold itA at N1
      dsimp only at N1
      clear h0 HE HLL HQ HFP HOK
      go_wp2_with fail
      refine bodyPost_ret (results_cell2 rfl rfl (set5_load X4.out _ _ _ _ _) rfl) rfl ?_
      exact ⟨.inr ⟨HN.out, rfl⟩, set5_below L4.out (Nat.le_refl _) _ _ _ _ _⟩
    · injection h0 with q1 q2 q3
      subst q1; subst q2; subst q3
      have N1 := neq_same ⟨1, 77, ⟨#[]⟩⟩
      unfold itA at N1
      dsimp only at N1
      by_cases h1 : n1 < 1
      · have HN : Hid (∀ u, ¬ Is L u) := Lib.hid fun u hu => by
          obtain ⟨_, h2, _⟩ := is_items hu HLL.out
          injection h2 with _ h2 _
          have := ok_t hu.1
          omega
        have t1 : decide (n1 < 1) = true := by simpa using h1
        clear h1 HE HLL HQ HFP HOK
        go_wp2_with fail
        refine bodyPost_ret (results_cell2 rfl rfl (set5_load X4.out _ _ _ _ _) rfl) rfl ?_
        exact ⟨.inr ⟨HN.out, rfl⟩, set5_below L4.out (Nat.le_refl _) _ _ _ _ _⟩
      · have t1 : decide (n1 < 1) = false := by simpa using h1
        have hfit : Hid (n1 ≤ 9223372036854775807) := Lib.hid (by
          have hz := uns_zero HL.out HE.out
          have hg := good_of HL.out HE.out ⟨y1, n1, z1⟩ (by rw [HLL.out]; simp)
          exact hg.2)
        have HI : Hid (Is L ⟨n1, ⟨pa, pz, pb, ps⟩⟩) := Lib.hid (is_of HL.out HE.out HLL.out HQ.out HFP.out rfl (by show 1 ≤ n1; omega) hfit.out)
        clear h1 HE HLL HQ HFP HOK
        obtain ⟨⟨f0, f1, f2, f3⟩, _, _, _, _⟩ := ptr_facts Y4.out
        go_wp2_with fail
        go_region
        go_wp2_with fail
        refine bodyPost_ret (results_cell2 rfl rfl (set5_load X4.out.drew _ _ _ _ _) rfl) rfl ?_
        exact ⟨.inl ⟨_, HI.out, rfl⟩, set5_below L4.out.drew (Nat.le_refl _) _ _ _ _ _⟩
end Lab
end Go.Proofs.YthioanenljpclaaGreatDoor
