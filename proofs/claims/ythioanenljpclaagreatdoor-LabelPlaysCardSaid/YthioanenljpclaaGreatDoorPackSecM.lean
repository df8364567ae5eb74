/-
  'pack.Unptr' and the document's by contracts. Conditions: a text.
-/
import Derived.Test.YthioanenljpclaaGreatDoorPackPtrM
import Derived.Test.YthioanenljpclaaGreatDoorRows
import Derived.Test.YthioanenljpclaaGreatDoorChecked
import Derived.Test.YthioanenljpclaaGreatDoorShaOpenM
import Derived.ProofKit
import Derived.LaidMore
import Derived.OpenShut
import Derived.Stop.Joined
namespace Go.Proofs.YthioanenljpclaaGreatDoor
set_option maxRecDepth 100000
open Go Go.RowKit
set_option linter.unusedVariables false

namespace K
def zeroP : Pt := ⟨0, 0, 0, ⟨#[]⟩⟩
def ofIts : List It → Option Pt
  | [x0, x1, x2, x3] => if x0.k = 1 ∧ x2.k = 1 ∧ okP ⟨x0.n, x1.n, x2.n, x3.s⟩ = true then some ⟨x0.n, x1.n, x2.n, x3.s⟩ else none
  | _ => none
/-- the pointer of bytes -/
def unP (L : List Nat) : Option Pt := (decs 2000 L).bind ofIts
theorem ofIts_short {l : List It} (h : l.length ≠ 4) : ofIts l = none := by
  match l, h with
  | [], _ => rfl
  | [_], _ => rfl
  | [_, _], _ => rfl
  | [_, _, _], _ => rfl
  | [_, _, _, _], h => exact absurd rfl h
  | _ :: _ :: _ :: _ :: _ :: _, _ => rfl
theorem its_eq {x0 x1 x2 x3 : It} (r0 : Right x0) (r1 : Right x1) (r2 : Right x2) (r3 : Right x3) (h : okP ⟨x0.n, x1.n, x2.n, x3.s⟩ = true) : itsP ⟨x0.n, x1.n, x2.n, x3.s⟩ = [x0, x1, x2, x3] ↔ x0.k = 1 ∧ x2.k = 1 := by
  unfold okP at h
  have h := of_decide_eq_true h
  dsimp only at h
  constructor
  · intro e
    unfold itsP at e
    injection e with e0 e
    injection e with e1 e
    injection e with e2 e
    exact ⟨by rw [← e0], by rw [← e2]⟩
  · rintro ⟨h0, h2⟩
    obtain ⟨k0, n0, s0⟩ := x0
    obtain ⟨k1, n1, s1⟩ := x1
    obtain ⟨k2, n2, s2⟩ := x2
    obtain ⟨k3, n3, s3⟩ := x3
    dsimp only at h0 h2 h
    have c0 := r0.cases
    have c1 := r1.cases
    have c2 := r2.cases
    have c3 := r3.cases
    dsimp only at c0 c1 c2 c3
    have q0 : s0 = ⟨#[]⟩ := by rcases c0 with c | c; exact c.2; omega
    have q1 : k1 = 1 ∧ s1 = ⟨#[]⟩ := by rcases c1 with c | c; exact c; omega
    have q2 : s2 = ⟨#[]⟩ := by rcases c2 with c | c; exact c.2; omega
    have q3 : k3 = 2 ∧ n3 = 0 := by
      rcases c3 with c | c
      · rw [c.2] at h
        have : (⟨#[]⟩ : ByteArray).size = 0 := rfl
        omega
      · exact ⟨c.1, c.2.1⟩
    obtain ⟨q1, q1'⟩ := q1
    obtain ⟨q3, q3'⟩ := q3
    subst h0 h2 q0 q1 q1' q2 q3 q3'
    rfl
end K
/-- what the texts' readers answer -/
def UnOut (L : List Nat) (e : Ending) : Prop :=
  (K.unP L = none ∧ e = .returned (.tuple #[.agg (ptA K.zeroP), .int .i64 2])) ∨ ∃ p, K.unP L = some p ∧ K.FitP p ∧ K.okP p = true ∧ e = .returned (.tuple #[.agg (ptA p), .int .i64 0])
theorem results_cell2 {fn : Func} {t s : Tmp} {ty : TypeId} (h : fn.results = #[.cell t ty, .tmp s]) {tmps : Array Value} {g : Nat} {v v1 : Value} {w : World} (hp : tmps.getD t undef = .pointer (some ⟨g, 0, none⟩)) (hl : (loadVar ty ⟨g, 0, none⟩).run Tryz.prog w = .ok v w) (h1 : tmps.getD s undef = v1) :
    (results fn tmps).run Tryz.prog w = .ok (.tuple #[v, v1]) w := by
  have hp2 : tmps[t]?.getD undef = .pointer (some ⟨g, 0, none⟩) := by rw [← hp]; simp
  have h12 : tmps[s]?.getD undef = v1 := by rw [← h1]; simp
  simp [results, h]
  rw [hp2]
  simp [asAddr, hl, h12]
theorem wpList_conv_s {w : World} {ops : Array Oper} {rest : List Oper} {o : Oper} {a : Act} {Q : Exit → Act → World → Prop} (hgd : o.guard = none) (x : Operand) (ho : o.op = .convert 9 51 x) {s : ByteArray} (hx : a.eval x = .string s) (hn : s.size ≤ maxLen)
    (h : ∀ A c w', RdB w' w'.heap.size A (K.sb s).length (lst (K.sb s)) → (K.sb s).length ≤ c → c ≤ maxLen → Below w.heap.size w w' → wpList Tryz.prog ops Q rest (a.put o.dst (.slice A (K.sb s).length c)) w') : wpList Tryz.prog ops Q (o :: rest) a w := by
  have hx2 : a.eval x = .string (strB s.size (lst (K.sb s))) := by rw [str_is]; exact hx
  refine wpList_conv_str hgd x ho hx2 (fun j _ => lst_lt (K.sb_lt s) j) hn fun c w' h1 h2 => ?_
  have hl := K.sb_length s
  obtain ⟨A, c', e, hr, hlc, hcm, _, _⟩ := h1.shape (fun j _ => lst_lt (K.sb_lt s) j)
  injection e with e1 e2 e3
  subst e3
  rw [e1]
  rw [← hl] at hr hlc ⊢
  exact h A c w' hr hlc hcm h2
end Go.Proofs.YthioanenljpclaaGreatDoor
namespace Go.Proofs.YthioanenljpclaaGreatDoor
set_option maxRecDepth 100000
open Go Go.RowKit
set_option linter.unusedVariables false

theorem ptr_facts {w : World} {g : Nat} {a b c d : Value} (h : Blk w g 38 #[a, b, c, d]) : (w.cell? ⟨g, 0, none⟩ = some a ∧ w.cell? ⟨g, 1, none⟩ = some b ∧ w.cell? ⟨g, 2, none⟩ = some c ∧ w.cell? ⟨g, 3, none⟩ = some d) ∧ (w.frozen? ⟨g, 0, none⟩ = false ∧ w.frozen? ⟨g, 1, none⟩ = false ∧ w.frozen? ⟨g, 2, none⟩ = false ∧ w.frozen? ⟨g, 3, none⟩ = false) :=
  ⟨⟨h.cell 0, h.cell 1, h.cell 2, h.cell 3⟩, h.frozen 0, h.frozen 1, h.frozen 2, h.frozen 3⟩
theorem decs_right {L : List Nat} {l : List K.It} (hL : ∀ b ∈ L, b < 256) (h : K.decs 2000 L = some l) : K.fault l = 0 ∧ L = K.encs l ∧ ∀ x ∈ l, Good x := by
  obtain ⟨h1, h2, h3, h4⟩ := K.decs_back 2000 L l hL h
  refine ⟨K.fault_right h2 h3, h1, fun x hx => ⟨h4 x hx, ?_⟩⟩
  rcases (h3 x hx).cases with ⟨_, e⟩ | ⟨_, _, e⟩
  · rw [e]; show (0 : Nat) ≤ maxLen; omega
  · unfold maxLen; omega
def set4 (w : World) (g : Nat) (a b c d : Value) : World := (((w.setCell ⟨g, 0, none⟩ a).setCell ⟨g, 1, none⟩ b).setCell ⟨g, 2, none⟩ c).setCell ⟨g, 3, none⟩ d
theorem set4_blk {w : World} {g : Nat} {x0 x1 x2 x3 : Value} (h : Blk w g 38 #[x0, x1, x2, x3]) (a b c d : Value) : Blk (set4 w g a b c d) g 38 #[a, b, c, d] := (((h.set_ 0 a).set_ 1 b).set_ 2 c).set_ 3 d
theorem set4_below {w0 w : World} {base g : Nat} (h : Below base w0 w) (hg : base ≤ g) (a b c d : Value) : Below base w0 (set4 w g a b c d) :=
  (((h.setCell (p := ⟨g, 0, none⟩) hg a).setCell (p := ⟨g, 1, none⟩) hg b).setCell (p := ⟨g, 2, none⟩) hg c).setCell (p := ⟨g, 3, none⟩) hg d
theorem set4_load {w : World} {g : Nat} {x0 x1 x2 x3 : Value} (h : Blk w g 38 #[x0, x1, x2, x3]) (a b c d : Value) : (loadVar 38 ⟨g, 0, none⟩).run Tryz.prog (set4 w g a b c d) = .ok (.agg #[a, b, c, d]) (set4 w g a b c d) := loadVar_blk (set4_blk h a b c d) Tryz.underlying38 rfl isize_ptr
set_option maxRecDepth 100000 in
set_option maxHeartbeats 3200000 in
theorem unptr_any (s : ByteArray) (w : World) (hs : s.size ≤ maxLen) :
    Calls Tryz.prog 80 #[.string s] w fun e w' => UnOut (K.sb s) e ∧ Below w.heap.size w w' := by
  have HZ := Lib.hid hs
  unfold maxLen at hs
  have X0 : Hid (Blk (w.alloc (.cells #[.int .i64 0, .int .i64 0, .int .i64 0, .string ⟨#[]⟩] 38)) w.heap.size 38 #[.int .i64 0, .int .i64 0, .int .i64 0, .string ⟨#[]⟩]) := Lib.hid (Blk.new _ _ _)
  have L0 : Hid (Below w.heap.size w (w.alloc (.cells #[.int .i64 0, .int .i64 0, .int .i64 0, .string ⟨#[]⟩] 38))) := Lib.hid ((Below.refl _ _).alloc (Nat.le_refl _) _)
  go_enter Tryz.func80, Tryz.ntmps80
  go_wp2_with ((refine wpList_conv_s rfl (.tmp 8) rfl rfl HZ.out ?_); intro A1 c1 w1 hr1 hlc1 hcm1 hl1; refine of_hid ?_)
  refine Lib.hid ?_
  have L1 := Lib.hid (L0.out.trans (hl1.mono (by simp)))
  have X1 := Lib.hid (X0.out.below hl1 (by simp))
  have R1 := Lib.hid hr1
  have C1 := Lib.hid hcm1
  have s1 := L1.out.size
  clear hl1 hr1 X0 L0
  unfold maxLen at hcm1
  go_wp2_with fail
  refine (decode_any A1 (K.sb s) c1 w1.heap.size w1 R1.out (Nat.le_refl _) (K.sb_lt s) hlc1 C1.out).mono ?_
  rintro e w2 ⟨hd, hl2⟩
  have L2 := Lib.hid (L1.out.trans (hl2.mono s1))
  have X2 := Lib.hid (X1.out.below hl2 X1.out.lt)
  have s2 := L2.out.size
  have hp1 := X1.out.lt
  clear hl2 X1 L1
  unfold DecOut at hd
  obtain ⟨⟨d0, d1, d2, d3⟩, e0, e1, e2, e3⟩ := ptr_facts X2.out
  rcases hd with ⟨hq, rfl⟩ | ⟨l, v, hq, rfl, ho⟩
  · have E1 : Hid (K.unP (K.sb s) = none) := Lib.hid (by unfold K.unP; rw [hq]; rfl)
    clear hq
    go_wp2_with fail
    refine bodyPost_ret (results_cell2 rfl rfl (set4_load X2.out _ _ _ _) rfl) rfl ?_
    exact ⟨.inl ⟨E1.out, rfl⟩, set4_below L2.out (Nat.le_refl _) _ _ _ _⟩
  · have hlt := decs_right (K.sb_lt s) hq
    have HGD := Lib.hid hlt.2.2
    have HRT := Lib.hid (K.fault_ok hlt.1).2
    obtain ⟨A4, c4, rfl, lc4, cm4, r4, _, hown⟩ := ho.shape
    have hbnd := (K.fault_ok hlt.1).1
    have HQ : Hid (K.unP (K.sb s) = K.ofIts l) := Lib.hid (by unfold K.unP; rw [hq]; rfl)
    clear hq hlt ho
    by_cases h4 : l.length = 4
    · match l, h4 with
      | [x0, x1, x2, x3], _ =>
        obtain ⟨b, o, hA, hb, a0, a1, a2⟩ := r4 0 x0 rfl
        obtain ⟨b', o', hA', _, b0, b1, b2⟩ := r4 1 x1 rfl
        rw [hA] at hA'; injection hA' with hA'; injection hA' with q1 q2; subst q1; subst q2
        obtain ⟨b', o', hA', _, g0, g1, g2⟩ := r4 2 x2 rfl
        rw [hA] at hA'; injection hA' with hA'; injection hA' with q1 q2; subst q1; subst q2
        obtain ⟨b', o', hA', _, i0, i1, i2⟩ := r4 3 x3 rfl
        rw [hA] at hA'; injection hA' with hA'; injection hA' with q1 q2; subst q1; subst q2
        subst hA
        have hbg : w.heap.size < b := by have := hown b o none rfl; omega
        rw [show o + 0 * 3 = o by omega] at a0 a1 a2
        rw [show o + 1 * 3 = o + 3 by omega] at b0 b1 b2
        rw [show o + 2 * 3 = o + 6 by omega] at g0 g1 g2
        rw [show o + 3 * 3 = o + 9 by omega] at i0 i1 i2
        rw [show o + 3 + 1 = o + 4 by omega] at b1
        rw [show o + 6 + 1 = o + 7 by omega] at g1
        rw [show o + 9 + 2 = o + 11 by omega] at i2
        clear hown r4 h4 b0 b2 g2 i0 i1 a2 hbnd
        have hln : ([x0, x1, x2, x3] : List K.It).length = 4 := rfl
        rw [hln]
        rw [hln] at lc4
        clear hln
        unfold maxLen at cm4
        go_wp2_with fail
        go_region
        have L5 : Hid (Below w.heap.size w (w2.alloc (.cells #[.int .i64 x0.n, .int .i64 x1.n, .int .i64 x2.n, .string x3.s] 38)).drew) := Lib.hid ((L2.out.alloc s2 _).drew)
        have X5 : Hid (Blk (w2.alloc (.cells #[.int .i64 x0.n, .int .i64 x1.n, .int .i64 x2.n, .string x3.s] 38)).drew w.heap.size 38 #[.int .i64 0, .int .i64 0, .int .i64 0, .string ⟨#[]⟩]) := Lib.hid ((X2.out.alloc _).drew)
        have X6 : Hid (Blk (w2.alloc (.cells #[.int .i64 x0.n, .int .i64 x1.n, .int .i64 x2.n, .string x3.s] 38)).drew w2.heap.size 38 #[.int .i64 x0.n, .int .i64 x1.n, .int .i64 x2.n, .string x3.s]) := Lib.hid ((Blk.new _ _ _).drew)
        have k0 := (World.cell?_of_block (a := ⟨b, o, none⟩) (Below.heap_alloc w2 (.cells #[.int .i64 x0.n, .int .i64 x1.n, .int .i64 x2.n, .string x3.s] 38) b hb)).trans a0
        have k2 := (World.cell?_of_block (a := ⟨b, o + 6, none⟩) (Below.heap_alloc w2 (.cells #[.int .i64 x0.n, .int .i64 x1.n, .int .i64 x2.n, .string x3.s] 38) b hb)).trans g0
        have k0' : (w2.alloc (.cells #[.int .i64 x0.n, .int .i64 x1.n, .int .i64 x2.n, .string x3.s] 38)).drew.cell? ⟨b, o, none⟩ = some (.int .i64 x0.k) := k0
        have k2' : (w2.alloc (.cells #[.int .i64 x0.n, .int .i64 x1.n, .int .i64 x2.n, .string x3.s] 38)).drew.cell? ⟨b, o + 6, none⟩ = some (.int .i64 x2.k) := k2
        clear k0 k2 a0 a1 b1 g0 g1 i2 d0 d1 d2 d3 e0 e1 e2 e3
        have hgx3 := (HGD.out x3 (by simp)).2
        have HFP : Hid (K.FitP ⟨x0.n, x1.n, x2.n, x3.s⟩) := Lib.hid ⟨(HGD.out x0 (by simp)).1, (HGD.out x1 (by simp)).1, (HGD.out x2 (by simp)).1, hgx3⟩
        have HPT := Lib.hid fun W => pointed_any ⟨x0.n, x1.n, x2.n, x3.s⟩ W hgx3
        unfold ptA at HPT
        dsimp only at HPT
        obtain ⟨n0, hn0⟩ : ∃ n0, n0 = x0.n := ⟨_, rfl⟩
        obtain ⟨n1, hn1⟩ : ∃ n1, n1 = x1.n := ⟨_, rfl⟩
        obtain ⟨n2, hn2⟩ : ∃ n2, n2 = x2.n := ⟨_, rfl⟩
        obtain ⟨t3, ht3⟩ : ∃ t3, t3 = x3.s := ⟨_, rfl⟩
        have HQ2 : Hid (K.unP (K.sb s) = if x0.k = 1 ∧ x2.k = 1 ∧ K.okP ⟨n0, n1, n2, t3⟩ = true then some ⟨n0, n1, n2, t3⟩ else none) := Lib.hid (by rw [HQ.out, hn0, hn1, hn2, ht3]; rfl)
        rw [← hn0, ← hn1, ← hn2, ← ht3] at L5 X5 X6 k0' k2' HFP HPT ⊢
        clear HQ HGD HRT hgx3 hn0 hn1 hn2 ht3
        obtain ⟨g6, hg6⟩ : ∃ g6, g6 = w2.heap.size := ⟨_, rfl⟩
        rw [← hg6] at X6 ⊢
        generalize (w2.alloc (.cells #[.int .i64 n0, .int .i64 n1, .int .i64 n2, .string t3] 38)).drew = w5 at L5 X5 X6 k0' k2' ⊢
        obtain ⟨y0, hy0⟩ : ∃ y0, y0 = x0.k := ⟨_, rfl⟩
        obtain ⟨y2, hy2⟩ : ∃ y2, y2 = x2.k := ⟨_, rfl⟩
        rw [← hy0] at k0' HQ2
        rw [← hy2] at k2' HQ2
        clear hy0 hy2 hg6
        have hs5 := X6.out.lt
        have s5 := L5.out.size
        obtain ⟨⟨d0, d1, d2, d3⟩, e0, e1, e2, e3⟩ := ptr_facts X5.out
        obtain ⟨⟨f0, f1, f2, f3⟩, _, _, _, _⟩ := ptr_facts X6.out
        by_cases hk0 : y0 = 1
        · have u0 : (y0 != 1) = false := by simpa using hk0
          by_cases hk2 : y2 = 1
          · have u2 : (y2 != 1) = false := by simpa using hk2
            by_cases hok : K.okP ⟨n0, n1, n2, t3⟩ = true
            · have E1 : Hid (K.unP (K.sb s) = some ⟨n0, n1, n2, t3⟩) := Lib.hid (by rw [HQ2.out, if_pos ⟨hk0, hk2, hok⟩])
              have HOK := Lib.hid hok
              rw [hok] at HPT
              clear hk0 hk2 hok HQ2
              go_wp2_with fail
              refine (HPT.out _).mono ?_
              rintro e w6 ⟨rfl, hl6⟩
              have L6 := Lib.hid (L5.out.trans (hl6.mono s5))
              have X7 := Lib.hid (X5.out.below hl6 X5.out.lt)
              have X8 := Lib.hid (X6.out.below hl6 hs5)
              clear d0 d1 d2 d3 e0 e1 e2 e3 f0 f1 f2 f3 k0' k2' hl6 X5 X6
              obtain ⟨⟨d0, d1, d2, d3⟩, e0, e1, e2, e3⟩ := ptr_facts X7.out
              obtain ⟨⟨f0, f1, f2, f3⟩, _, _, _, _⟩ := ptr_facts X8.out
              go_wp2_with fail
              refine bodyPost_ret (results_cell2 rfl rfl (set4_load X7.out _ _ _ _) rfl) rfl ?_
              exact ⟨.inr ⟨_, E1.out, HFP.out, HOK.out, rfl⟩, set4_below L6.out (Nat.le_refl _) _ _ _ _⟩
            · have E1 : Hid (K.unP (K.sb s) = none) := Lib.hid (by rw [HQ2.out, if_neg (fun h => hok h.2.2)])
              have hok : K.okP ⟨n0, n1, n2, t3⟩ = false := by simpa using hok
              rw [hok] at HPT
              clear hk0 hk2 hok HQ2
              go_wp2_with fail
              refine (HPT.out _).mono ?_
              rintro e w6 ⟨rfl, hl6⟩
              have L6 := Lib.hid (L5.out.trans (hl6.mono s5))
              have X7 := Lib.hid (X5.out.below hl6 X5.out.lt)
              clear d0 d1 d2 d3 e0 e1 e2 e3 f0 f1 f2 f3 k0' k2' hl6 X5 X6
              obtain ⟨⟨d0, d1, d2, d3⟩, e0, e1, e2, e3⟩ := ptr_facts X7.out
              go_wp2_with fail
              refine bodyPost_ret (results_cell2 rfl rfl (set4_load X7.out _ _ _ _) rfl) rfl ?_
              exact ⟨.inl ⟨E1.out, rfl⟩, set4_below L6.out (Nat.le_refl _) _ _ _ _⟩
          · have u2 : (y2 != 1) = true := by simpa using hk2
            have E1 : Hid (K.unP (K.sb s) = none) := Lib.hid (by rw [HQ2.out, if_neg (fun h => hk2 h.2.1)])
            clear hk0 hk2 HQ2
            go_wp2_with fail
            refine bodyPost_ret (results_cell2 rfl rfl (set4_load X5.out _ _ _ _) rfl) rfl ?_
            exact ⟨.inl ⟨E1.out, rfl⟩, set4_below L5.out (Nat.le_refl _) _ _ _ _⟩
        · have u0 : (y0 != 1) = true := by simpa using hk0
          have E1 : Hid (K.unP (K.sb s) = none) := Lib.hid (by rw [HQ2.out, if_neg (fun h => hk0 h.1)])
          clear hk0 HQ2
          go_wp2_with fail
          refine bodyPost_ret (results_cell2 rfl rfl (set4_load X5.out _ _ _ _) rfl) rfl ?_
          exact ⟨.inl ⟨E1.out, rfl⟩, set4_below L5.out (Nat.le_refl _) _ _ _ _⟩
    · have E1 : Hid (K.unP (K.sb s) = none) := Lib.hid (by rw [HQ.out, K.ofIts_short h4])
      have t1 : ((l.length : Int) != 4) = true := by simp; omega
      clear HQ hown r4 h4
      go_wp2_with fail
      refine bodyPost_ret (results_cell2 rfl rfl (set4_load X2.out _ _ _ _) rfl) rfl ?_
      exact ⟨.inl ⟨E1.out, rfl⟩, set4_below L2.out (Nat.le_refl _) _ _ _ _⟩
end Go.Proofs.YthioanenljpclaaGreatDoor
namespace Go.Proofs.YthioanenljpclaaGreatDoor
set_option maxRecDepth 100000
open Go Go.ChangeShapes Go.WideShapes Go.ChangeAt Go.RowKit
set_option linter.unusedVariables false

def laidL : List (String × DataW Unit) := [("hoard/sha.roots", Rows.laid_hoard_sha_roots)]
theorem gRoots : Tryz.prog.globalNamed "hoard/sha.roots" = some 0 := by kernel_rfl
theorem tRoots : (Tryz.prog.globals[0]?).map (·.type) = some 156 := by kernel_rfl
theorem door_met (os : Os) (args : Array Value) : laidMetH Tryz.prog laidL ((World.doorLaid Tryz.prog 400 os).forCall (fun _ _ => 0) ⟨#[], args, []⟩).memory :=
  laidMetH_of_parts3 (fuel := 8) (laidMet_of_run' 8 (by kernel_rfl) (by kernel_rfl)) (by kernel_rfl) (by kernel_rfl)
theorem roots_lits : (Rows.laid_hoard_sha_roots : DataW Unit) = .agg ((List.range 64).map fun t => .lit (.int .u32 ((M.rt t : Nat) : Int))) := by kernel_rfl
theorem laid_of {W : World} (h : laidMetH Tryz.prog laidL W) : Laid W := by
  rw [MakeChecks.laidMetH_plain _ _ _ (by kernel_rfl)] at h
  obtain ⟨ps, ⟨g0, t0, cs0, f0, p0, q0, hg0, ht0, hv0, hd0, _, _⟩, _, _⟩ := h
  obtain rfl := Option.some.inj (gRoots.symm.trans hg0)
  obtain rfl := Option.some.inj (tRoots.symm.trans ht0)
  obtain ⟨xs, m1, rfl, hx1, hlen, hn3, hel⟩ := DataW.trod_array Tryz.underlying156 hd0
  have c1 : Tryz.prog.cellsOf 142 = 1 := by kernel_rfl
  rw [roots_lits] at hx1
  simp only [Prod.mk.injEq, DataW.agg.injEq] at hx1
  intro t ht
  have h0 := hel t ht
  have hlx : t < xs.length := by omega
  rw [List.getElem?_eq_getElem hlx] at h0
  obtain ⟨k, e1, e2, _⟩ := DataW.trod_int Tryz.underlying142 h0
  have hk : k = ((M.rt t : Nat) : Int) := by
    have h1 := congrArg (fun l => l[t]?) hx1.1
    simp [hlx, ht, e2] at h1
    first | exact h1 | exact h1.symm
  have h2 := World.var?_cell hg0 hv0 t
  rw [h2]
  rw [c1, Nat.mul_one] at e1
  have h3 := congrArg (fun l => l[0]?) e1
  simp at h3
  rw [h3, hk]
end Go.Proofs.YthioanenljpclaaGreatDoor
namespace Go.Proofs.YthioanenljpclaaGreatDoor
open Go Go.RowKit
set_option maxRecDepth 100000
set_option linter.unusedVariables false

theorem slice_one (g : Nat) (W : World) : (Instr.sliceAt 51 (.slice (some ⟨g, 0, none⟩) 128 128) (some (.int .i64 1)) none none).run Tryz.prog W = .ok (.slice (some ⟨g, 1, none⟩) 127 127) W := by
  have h := slice_from (some ⟨g, 0, none⟩) 128 128 1 1 rfl (by omega) W
  rw [h]
  unfold subA
  rw [if_neg (by omega)]
  simp [add_plain]
theorem run_copy_sec (ty : TypeId) {w : World} {g m N off b o c dl dc : Nat} {F X : Nat → Nat} (hg : Blk w g 5 (rowArr N F)) (hx : ∀ j, j < m → w.cell? ⟨b, o + j, none⟩ = some (.int .u8 ((X j : Nat) : Int))) (hm : off + m ≤ N) (hd : m ≤ dl) :
    (Builtin.copy_ #[51, 51] ty #[.slice (some ⟨g, off, none⟩) dl dc, .slice (some ⟨b, o, none⟩) m c]).run Tryz.prog w = .ok (goInt m) (w.setRow g (rowArr N (put8 F X off m))) := by
  have hcp := run_copy_row (P := Tryz.prog) w 51 51 ty 5 g off dl dc ⟨b, o, none⟩ m c (rowArr N F) 5 (bytesL m X) Tryz.underlying51 size_u8 hg (by rw [bytesL_length]; exact (Nat.min_eq_left hd).symm)
    (fun j u hj => by
      have hjn : j < m := by have := (List.getElem?_eq_some_iff.1 hj).1; rw [bytesL_length] at this; exact this
      rw [bytesL_get X hjn] at hj
      injection hj with hj
      subst hj
      rw [add_plain]
      exact hx j hjn) (by rw [bytesL_length, rowArr_size]; exact hm) (fun u hu => bytesL_mem u hu)
  rw [bytesL_length] at hcp
  rw [hcp]
  congr 2
  apply Array.ext_getElem?
  intro j
  rw [List.getElem?_toArray]
  have hsz := rowArr_size N F
  by_cases h1 : j < off
  · rw [List.append_assoc, List.getElem?_append_left (by rw [List.length_take, Array.length_toList, hsz]; omega), List.getElem?_take_of_lt h1, Array.getElem?_toList, rowArr_get (by omega), rowArr_get (by omega)]
    unfold put8
    rw [if_neg (by omega)]
  · by_cases h2 : j < off + m
    · rw [List.append_assoc, List.getElem?_append_right (by rw [List.length_take, Array.length_toList, hsz]; omega), List.length_take, Array.length_toList, hsz, Nat.min_eq_left (by omega), List.getElem?_append_left (by rw [bytesL_length]; omega), bytesL_get X (by omega), rowArr_get (by omega)]
      unfold put8
      rw [if_pos ⟨by omega, h2⟩]
    · rw [List.getElem?_append_right (by rw [List.length_append, List.length_take, Array.length_toList, hsz, bytesL_length]; omega), List.length_append, List.length_take, Array.length_toList, hsz, bytesL_length, Nat.min_eq_left (by omega), List.getElem?_drop, Array.getElem?_toList, show off + m + (j - (off + m)) = j by omega]
      by_cases h3 : j < N
      · rw [rowArr_get h3, rowArr_get h3]
        unfold put8
        rw [if_neg (by omega)]
      · rw [Array.getElem?_eq_none (by rw [hsz]; omega), Array.getElem?_eq_none (by rw [rowArr_size]; omega)]
theorem wp_copy_ho {w w' : World} {o : Oper} {a : Act} {K : Act → World → Prop} {Q : Exit → Act → World → Prop} {d s : Operand} {u v r : Value} (ho : o.op = .call { callee := .builtin .copy, args := #[d, s], argTypes := #[51, 51] }) (hd : a.eval d = u) (hs : a.eval s = v)
    (hrun : (Builtin.copy_ #[51, 51] o.type #[u, v]).run Tryz.prog w = .ok r w') (h : K (a.put o.dst r) w') : o.wp Tryz.prog a w K Q := by
  unfold Oper.wp execOp
  simp only [ho, resolve, invoke, builtin, Sem.run_bind, Sem.run_pure, Result.andThen_ok, List.map_toArray, List.map_cons, List.map_nil, hd, hs, hrun]
  exact h
theorem RdB.drew_ {w : World} {B n : Nat} {A : Option Addr} {x : Nat → Nat} (h : RdB w B A n x) : RdB w.drew B A n x := h
theorem setRow_blk {w : World} {g : Nat} {t : TypeId} {cs cs' : Array Value} (h : Blk w g t cs) : Blk (w.setRow g cs') g t cs' := setRow_heap w g cs cs' t (0, 0) h
theorem setRow_below {B : Nat} {a w : World} (h : Below B a w) {g : Nat} (hg : B ≤ g) (cs : Array Value) : Below B a (w.setRow g cs) :=
  ⟨h.os, h.tape, h.output, by simpa [World.setRow] using h.size, fun k hk => (setRow_other w g k cs (by omega)).trans (h.block k hk)⟩
theorem lst_sec (L : List Nat) (h : L.length ≤ 95) (j : Nat) (hj : j < 128) : put8 (fun j => if j = 0 then L.length + 32 else 0) (cat L.length (lst L) (M.sum L.length (lst L))) 1 (L.length + 32) j = lst (secB L) j := by
  unfold secB
  rw [List.cons_append]
  unfold put8
  rcases j with _ | j
  · rw [if_neg (by omega)]; rfl
  · rw [show lst ((L.length + 32) :: (L ++ sumL L ++ List.replicate (95 - L.length) 0)) (j + 1) = lst (L ++ sumL L ++ List.replicate (95 - L.length) 0) j from rfl, lst_app]
    have hl : (L ++ sumL L).length = L.length + 32 := by simp [sumL_length]
    rw [hl]
    by_cases h1 : j < L.length + 32
    · rw [if_pos ⟨by omega, by omega⟩, if_pos h1, show j + 1 - 1 = j by omega, cat_sum L j h1]
    · rw [if_neg (by omega), if_neg h1]
      show (if j + 1 = 0 then _ else 0) = _
      rw [if_neg (by omega)]
      unfold lst
      rw [List.getD_eq_getElem?_getD, List.getElem?_replicate]
      split <;> rfl

/-- a sector that a call has made: none, or a block of its own that is known whole -/
def SecV (w : World) (base : Nat) (v : Value) (L : List Nat) : Prop :=
  (L = [] ∧ v = .slice none 0 0) ∨ (L.length = 128 ∧ ∃ g, v = .slice (some ⟨g, 0, none⟩) 128 128 ∧ base ≤ g ∧ Blk w g 5 (rowArr 128 (lst L)))
theorem SecV.own {w : World} {base : Nat} {v : Value} {L : List Nat} (h : SecV w base v L) : OwnL w base v L := by
  rcases h with ⟨rfl, rfl⟩ | ⟨h1, g, rfl, h2, h3⟩
  · exact Own8.nil _ _ _
  · show Own8 _ _ _ L.length (lst L)
    rw [h1]
    exact Own8.of_blk h3 h2 (Nat.le_refl 128) (by unfold maxLen; omega)
set_option maxHeartbeats 3200000 in
theorem sector_blk (A : Option Addr) (l : List K.It) (c B : Nat) (w : World) (hx : RdT w B A l) (hB : B ≤ w.heap.size) (hg : ∀ x ∈ l, Good x) (hlc : l.length ≤ c) (hcm : c ≤ maxLen) (hl : Laid w) :
    Calls Tryz.prog 56 #[.slice A l.length c] w fun e w' => (∃ v, e = .returned (.tuple #[v, .int .i64 (secE l)]) ∧ SecV w' w.heap.size v (secL l)) ∧ Below w.heap.size w w' := by
  have HL := Lib.hid hl
  have hpos := hl.pos
  have HX := Lib.hid hx
  have HG := Lib.hid hg
  have HBB := Lib.hid hB
  have HCM := Lib.hid hcm
  have hcm' := hcm
  unfold maxLen at hcm'
  clear hl hx hg hB hcm
  by_cases hf : K.fault l = 0
  · obtain ⟨E, hE⟩ : ∃ E, E = K.encs l := ⟨_, rfl⟩
    have hlen := (K.encs_length_le (l := l) (K.fault_ok hf).2 (fun x hx => (HG.out x hx).1))
    have hl2 := (K.fault_ok hf).1
    rw [← hE] at hlen
    have HEL : Hid (∀ b ∈ E, b < 256) := Lib.hid (by rw [hE]; exact K.encs_lt l)
    have hSE : secE l = if 95 < E.length then 14 else 0 := by unfold secE; rw [if_neg (fun q => q hf), hE]
    have hSL : secL l = if 95 < E.length then [] else secB E := by
      unfold secL
      rw [hSE]
      by_cases h : 95 < E.length
      · rw [if_pos h, if_pos h, if_neg (by omega)]
      · rw [if_neg h, if_neg h, if_pos rfl, hE]
    rw [hSE, hSL]
    have hE8 : E.length ≤ 8022000 := by omega
    have HE := Lib.hid hE
    have HF := Lib.hid hf
    clear hSE hSL hlen hl2 hE hf
    by_cases hb : 95 < E.length
    · have t1 : (128 : Int) < 1 + ((E.length : Int) + 32) := by omega
      rw [if_pos hb, if_pos hb]
      clear hb
      go_enter Tryz.func56, Tryz.ntmps56
      go_wp2_with fail
      refine (encode_ok A l c B w HX.out HBB.out HG.out hlc HCM.out HF.out).mono ?_
      rintro e w1 ⟨v1, rfl, ho1, hl1⟩
      rw [← HE.out] at ho1
      obtain ⟨A5, c5, rfl, hr5, lc5, cm5, _, h05⟩ := ho1.shape HEL.out
      have L1 := Lib.hid hl1
      have R1 := Lib.hid hr5
      have C5 := Lib.hid cm5
      clear ho1 hl1 hr5 cm5
      go_wp2_with fail
      go_ret2
      exact ⟨⟨_, rfl, .inl ⟨rfl, rfl⟩⟩, L1.out⟩
    rw [if_neg hb, if_neg hb]
    go_enter Tryz.func56, Tryz.ntmps56
    go_wp2_with fail
    refine (encode_ok A l c B w HX.out HBB.out HG.out hlc HCM.out HF.out).mono ?_
    rintro e w1 ⟨v1, rfl, ho1, hl1⟩
    rw [← HE.out] at ho1
    obtain ⟨A5, c5, rfl, hr5, lc5, cm5, _, h05⟩ := ho1.shape HEL.out
    have L1 := Lib.hid hl1
    have R1 := Lib.hid hr5
    have C5 := Lib.hid cm5
    clear ho1 hl1 hr5 cm5
    have t1 : 1 + ((E.length : Int) + 32) ≤ 128 := by omega
    have hb' : E.length ≤ 95 := by omega
    have hmk := make_long 128 (by omega) w1 128 rfl
    have xw : IntKind.u8.wrap ((E.length : Int) + 32) = (E.length : Int) + 32 := by rw [IntKind.wrap_u8]; omega
    have hs1 := L1.out.size
    have B2 := Lib.hid (Blk.new w1 5 ((rowArr 128 fun _ => 0).setIfInBounds 0 (.int .u8 ((E.length : Int) + 32))))
    have c0 : (w1.alloc (.cells (rowArr 128 fun _ => 0) 5)).cell? ⟨w1.heap.size, 0, none⟩ = some (.int .u8 0) := by rw [(Blk.new w1 5 (rowArr 128 fun _ => 0)).cell]; rfl
    have L2 := Lib.hid ((Below.refl w1.heap.size w1).alloc (Nat.le_refl _) (.cells ((rowArr 128 fun _ => 0).setIfInBounds 0 (.int .u8 ((E.length : Int) + 32))) 5))
    clear hb
    go_wp2_with fail
    clear c0 hmk xw
    generalize hgs : w1.heap.size = gs at *
    have R4' := Lib.hid (R1.out.below L2.out (Nat.le_refl gs))
    have L3 := Lib.hid (L1.out.trans (L2.out.mono hs1))
    clear L1 L2 R1
    have B4 : Hid (Blk (w1.alloc (.cells ((rowArr 128 fun _ => 0).setIfInBounds 0 (.int .u8 ((E.length : Int) + 32))) 5)) gs 5 (rowArr 128 fun j => if j = 0 then E.length + 32 else 0)) := Lib.hid (by
      have h := B2.out
      rw [show ((E.length : Int) + 32) = ((E.length + 32 : Nat) : Int) by omega, rowArr_set (by omega)] at h
      rw [show ((E.length : Int) + 32) = ((E.length + 32 : Nat) : Int) by omega]
      rw [rowArr_set (by omega)]
      exact h)
    clear B2
    generalize w1.alloc (.cells ((rowArr 128 fun _ => 0).setIfInBounds 0 (.int .u8 ((E.length : Int) + 32))) 5) = w4 at *
    have R4 := R4'
    have L4 : Hid (Below w.heap.size w w4.drew) := Lib.hid L3.out.drew
    have s4 : gs ≤ w4.drew.heap.size := Nat.le_of_lt B4.out.lt
    have QK9 : Hid (E.length ≤ 1099511627776) := Lib.hid (by omega)
    have HT : Hid True := Lib.hid trivial
    clear hgs R4' L3
    refine region_anyZ (fun _ : World => True) 5 (by kernel_rfl) ?_
    refine takeG 0 (.move (.tmp 7)) (some 27) none (.slice (some ⟨gs, 0, none⟩) 128 128) (by kernel_rfl) (by kernel_rfl) (by kernel_rfl) (fun _ _ _ h => h) (fun o w e hS => exec_move w e (by kernel_rfl)) HT.out ?_
    refine takeG 1 (.slice 51 (.tmp 27) (.some (.const (.int .i64 1))) .none .none) (some 28) none (.slice (some ⟨gs, 1, none⟩) 127 127) (by kernel_rfl) (by kernel_rfl) (by kernel_rfl) (fun _ _ _ h => h) (fun o w e hS => exec_slice (u := .slice (some ⟨gs, 0, none⟩) 128 128) w e (by kernel_rfl) (by kernel_rfl) (by kernel_rfl) (by kernel_rfl) (slice_one gs _)) HT.out ?_
    refine takeG 2 (.move (.tmp 4)) (some 29) none (.slice A5 E.length c5) (by kernel_rfl) (by kernel_rfl) (by kernel_rfl) (fun _ _ _ h => h) (fun o w e hS => exec_move w e (by kernel_rfl)) HT.out ?_
    refine loneG 3 (.call ⟨.value (.func 70), #[(.tmp 29)], #[51]⟩) (some 30) none (by kernel_rfl) (by kernel_rfl) (by kernel_rfl) ?_
    intro o ho hod
    refine wp_callC (f := 70) (args := #[.slice A5 E.length c5]) (by cases o; cases ho; kernel_rfl) (seal_any A5 E.length c5 gs (lst E) _ R4.out.drew_ (lst_lt HEL.out) s4 lc5 C5.out h05 QK9.out (HL.out.below L4.out hpos)) ?_
    rintro e w6 ⟨v6, rfl, ho6, hl6⟩
    obtain ⟨g6, c6, rfl, hg6, hr6, hc6, hc6m⟩ := ho6.row (by omega)
    refine ⟨.slice (some ⟨g6, 0, none⟩) (E.length + 32) c6, rfl, ?_⟩
    rw [hod]
    clear hod ho
    have L6 := Lib.hid (L4.out.trans (hl6.mono L4.out.size))
    have B6 : Hid (Blk w6 gs 5 (rowArr 128 fun j => if j = 0 then E.length + 32 else 0)) := Lib.hid ((show Blk w4.drew gs 5 _ from B4.out).below hl6 B4.out.lt)
    have R6 := Lib.hid hr6
    clear ho6 hl6 hr6
    refine ⟨fun _ => trivial, ?_⟩
    refine loneG 4 (.call ⟨.builtin .copy, #[(.tmp 28), (.tmp 30)], #[51, 51]⟩) (some 31) none (by kernel_rfl) (by kernel_rfl) (by kernel_rfl) ?_
    intro o ho hod
    refine wp_copy_ho (u := .slice (some ⟨gs, 1, none⟩) 127 127) (v := .slice (some ⟨g6, 0, none⟩) (E.length + 32) c6) (r := goInt (E.length + 32)) ho (by kernel_rfl) (by kernel_rfl) (run_copy_sec _ (m := E.length + 32) (N := 128) (off := 1) (o := 0) B6.out (fun j hj => by rw [Nat.zero_add]; exact R6.out.cell hj) (by omega) (by omega)) ?_
    rw [hod]
    clear hod ho
    refine ⟨fun _ => trivial, ?_⟩
    refine AnyZ.done (by kernel_rfl) ?_
    simp only [put_some, put_none, List.setIfInBounds_toArray, List.set_cons_succ, List.set_cons_zero]
    have LZ := Lib.hid (setRow_below L6.out (g := gs) hs1 (rowArr 128 (put8 (fun j => if j = 0 then E.length + 32 else 0) (cat E.length (lst E) (M.sum E.length (lst E))) 1 (E.length + 32))))
    have BZ : Hid (Blk (w6.setRow gs (rowArr 128 (put8 (fun j => if j = 0 then E.length + 32 else 0) (cat E.length (lst E) (M.sum E.length (lst E))) 1 (E.length + 32)))) gs 5 (rowArr 128 (put8 (fun j => if j = 0 then E.length + 32 else 0) (cat E.length (lst E) (M.sum E.length (lst E))) 1 (E.length + 32)))) := Lib.hid (setRow_blk B6.out)
    clear B6 L6 R6
    generalize w6.setRow gs (rowArr 128 (put8 (fun j => if j = 0 then E.length + 32 else 0) (cat E.length (lst E) (M.sum E.length (lst E))) 1 (E.length + 32))) = w7 at *
    go_wp2_with fail
    go_ret2
    refine ⟨⟨_, rfl, .inr ⟨secB_length hb', _, rfl, hs1, ?_⟩⟩, LZ.out⟩
    rw [← rowArr_congr (lst_sec E hb')]
    exact BZ.out
  · have hSE : secE l = K.fault l := by unfold secE; rw [if_pos hf]
    have hSL : secL l = [] := by unfold secL; rw [hSE, if_neg hf]
    obtain ⟨fe, hfe⟩ : ∃ fe, fe = K.fault l := ⟨_, rfl⟩
    have HF := Lib.hid hf
    have HFE := Lib.hid hfe
    rw [← hfe] at hSE hf
    have hne : (fe != 0) = true := by simpa using hf
    rw [hSE, hSL]
    clear hSE hSL hf hfe
    go_enter Tryz.func56, Tryz.ntmps56
    go_wp2_with fail
    refine (encode_bad A l c B w HX.out HBB.out HG.out hlc HCM.out HF.out).mono ?_
    rintro e w1 ⟨rfl, hl1⟩
    have L1 := Lib.hid hl1
    rw [← HFE.out]
    clear hl1
    go_wp2_with fail
    go_ret2
    exact ⟨⟨_, rfl, .inl ⟨rfl, rfl⟩⟩, L1.out⟩
end Go.Proofs.YthioanenljpclaaGreatDoor
