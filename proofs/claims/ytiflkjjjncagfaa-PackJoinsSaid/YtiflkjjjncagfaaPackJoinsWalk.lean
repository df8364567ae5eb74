/-
  The walk of 'PackJoins': the bytes of two lists, one behind the other, are the bytes of one list.
-/
import Derived.Test.YtiflkjjjncagfaaPackSame
import Derived.Laws.AppendOwnNone
namespace Go.Proofs.Ytiflkjjjncagfaa
open Go Go.RowKit
set_option linter.unusedVariables false
namespace packJoins

theorem icells_of_rdi {w : World} {B : Nat} {A : Option Addr} {l : List K.It} (h : RdI w B A l) : ∀ ad, A = some ad → ∀ j u, (icells l)[j]? = some u → w.cell? (ad.add j) = some u := by
  intro ad hA j u hj
  have hlt := (List.getElem?_eq_some_iff.1 hj).1
  rw [icells_length] at hlt
  have hk : j / 3 < l.length := by omega
  obtain ⟨x, hx⟩ : ∃ x, l[j / 3]? = some x := ⟨_, List.getElem?_eq_getElem hk⟩
  obtain ⟨c0, c1, c2⟩ := icells_get l (j / 3) x hx
  obtain ⟨b, o, e, _, d0, d1, d2⟩ := h (j / 3) x hx
  rw [hA] at e
  injection e with e
  subst e
  rw [add_plain]
  have hr : j % 3 = 0 ∨ j % 3 = 1 ∨ j % 3 = 2 := by omega
  rcases hr with h | h | h
  · rw [show j = j / 3 * 3 by omega] at hj ⊢
    rw [c0] at hj
    rw [← hj]
    exact d0
  · rw [show j = j / 3 * 3 + 1 by omega] at hj ⊢
    rw [c1] at hj
    rw [← hj]
    exact d1
  · rw [show j = j / 3 * 3 + 2 by omega] at hj ⊢
    rw [c2] at hj
    rw [← hj]
    exact d2
theorem wpList_append_items {w : World} {ops : Array Oper} {rest : List Oper} {o : Oper} {a : Act} {Q : Exit → Act → World → Prop} (hgd : o.guard = none) (s x : Operand)
    (ho : o.op = .call { callee := .builtin .append, args := #[s, x], argTypes := #[22, 22] }) {base B c : Nat} {v : Value} {l m : List K.It} {A : Option Addr} (hs : a.eval s = v) (hx : a.eval x = .slice A m.length c)
    (hown : OwnI w base v l) (hr : RdI w B A m) (hc : m.length ≤ c) (hn : A = none → c = 0) (hl : l.length + m.length ≤ 1099511627776) (hb : base ≤ w.heap.size)
    (h : ∀ v' w', OwnI w' base v' (l ++ m) → w.grownBy w' v.ownBlock → (v'.ownBlock = v.ownBlock ∨ v'.ownBlock = some w.heap.size) → wpList Try.prog ops Q rest (a.put o.dst v') w') : wpList Try.prog ops Q (o :: rest) a w := by
  cases A with
  | some ad => exact wpList_append_item hgd s x ho hs hx rfl hown (icells_of_rdi hr ad rfl) hl hb h
  | none =>
    have h0 := hn rfl
    have hm : m = [] := List.eq_nil_of_length_eq_zero (by omega)
    subst hm
    subst h0
    obtain ⟨i0, hi, hz0, hz1, hz2⟩ := info_parts3 info_item
    refine wpList_append_own_none (P := Try.prog) hgd s x 22 ho base 43 i0 3 Try.underlying22 hi v l.length (icells l) hs hown hx ?_
    exact h v w (by rw [List.append_nil]; exact hown) (World.grownBy.refl w _) (.inl rfl)
theorem encode_any (A : Option Addr) (l : List K.It) (c B : Nat) (w : World) (hx : RdI w B A l) (hB : B ≤ w.heap.size) (hg : ∀ x ∈ l, Good x) (hlc : l.length ≤ c) (hcm : c ≤ maxLen) :
    Calls Try.prog 10 #[.slice A l.length c] w fun e w' => ∃ v, e = .returned (.tuple #[v, .int .i64 (K.fault l)]) ∧ (K.fault l = 0 → OwnL w' w.heap.size v (K.encs l)) ∧ Below w.heap.size w w' := by
  by_cases hf : K.fault l = 0
  · refine (encode_ok A l c B w hx hB hg hlc hcm hf).mono ?_
    rintro e w' ⟨v, rfl, ho, hl⟩
    rw [hf]
    exact ⟨v, rfl, fun _ => ho, hl⟩
  · refine (encode_bad A l c B w hx hB hg hlc hcm hf).mono ?_
    rintro e w' ⟨rfl, hl⟩
    exact ⟨_, rfl, fun h => absurd h hf, hl⟩
theorem txt_app (L M : List Nat) : K.txt (L ++ M) = K.txt L ++ K.txt M := by
  unfold K.txt
  apply ByteArray.ext
  simp

set_option maxRecDepth 100000 in
set_option maxHeartbeats 1600000 in
theorem walk (A1 : Option Addr) (l : List K.It) (c1 : Nat) (A2 : Option Addr) (m : List K.It) (c2 : Nat) (w : World)
    (h1 : RdI w w.heap.size A1 l) (g1 : ∀ x ∈ l, Good x) (lc1 : l.length ≤ c1) (cm1 : c1 ≤ maxLen) (n1 : A1 = none → c1 = 0) (h2 : RdI w w.heap.size A2 m) (g2 : ∀ x ∈ m, Good x) (lc2 : m.length ≤ c2) (cm2 : c2 ≤ maxLen) (n2 : A2 = none → c2 = 0) :
    Calls Try.prog 6 #[.slice A1 l.length c1, .slice A2 m.length c2] w fun e w' => e = .returned (.bool true) ∧ Below w.heap.size w w' := by
  have H1 := Lib.hid h1
  have H2 := Lib.hid h2
  have G1 := Lib.hid g1
  have G2 := Lib.hid g2
  have C1 := Lib.hid cm1
  have C2 := Lib.hid cm2
  have N1 := Lib.hid n1
  have N2 := Lib.hid n2
  unfold maxLen at cm1 cm2
  clear h1 h2 g1 g2 n1 n2
  go_enter Try.func6, Try.ntmps6
  go_wp2_with fail
  refine (known_any _).mono ?_
  rintro e wk ⟨rfl, hlk⟩
  have LK := Lib.hid hlk
  have sk := LK.out.size
  clear hlk
  go_wp2_with fail
  refine (encode_any A1 l c1 w.heap.size wk (H1.out.below LK.out (Nat.le_refl _)) sk G1.out lc1 C1.out).mono ?_
  rintro e w1 ⟨v1, rfl, ho1, hl1⟩
  have L1 := Lib.hid (LK.out.trans (hl1.mono sk))
  have s1 := L1.out.size
  have O1 := Lib.hid ho1
  have HF := Lib.hid (show K.fault l = K.fault l from rfl)
  obtain ⟨f1, hf1⟩ : ∃ f1, f1 = K.fault l := ⟨_, rfl⟩
  rw [← hf1] at O1 ⊢
  have F1 := Lib.hid hf1
  clear ho1 hl1 HF hf1
  go_wp2_with fail
  refine (encode_any A2 m c2 w.heap.size w1 (H2.out.below L1.out (Nat.le_refl _)) s1 G2.out lc2 C2.out).mono ?_
  rintro e w2 ⟨v2, rfl, ho2, hl2⟩
  have L2 := Lib.hid (L1.out.trans (hl2.mono s1))
  have s2 := L2.out.size
  have K2 := Lib.hid hl2
  have O2 := Lib.hid ho2
  obtain ⟨f2, hf2⟩ : ∃ f2, f2 = K.fault m := ⟨_, rfl⟩
  rw [← hf2] at O2 ⊢
  have F2 := Lib.hid hf2
  clear ho2 hl2 hf2
  by_cases e1 : f1 = 0
  · subst e1
    by_cases e2 : f2 = 0
    · subst e2
      have b1 := (K.fault_ok F1.out.symm).1
      have b2 := (K.fault_ok F2.out.symm).1
      by_cases hbig : 2000 < l.length + m.length
      · have i1 : (2000 : Int) < (l.length : Int) + (m.length : Int) := by omega
        go_wp2_with fail
        go_ret
        exact ⟨rfl, L2.out⟩
      · have i1 : (l.length : Int) + (m.length : Int) ≤ 2000 := by omega
        obtain ⟨A3, c3, rfl, r3, lc3, cm3, _, _⟩ := (O1.out rfl).shape (K.encs_lt _)
        obtain ⟨A4, c4, rfl, r4, lc4, cm4, _, _⟩ := (O2.out rfl).shape (K.encs_lt _)
        have R3 := Lib.hid (r3.below K2.out (Nat.le_refl _))
        have R4 := Lib.hid r4
        clear r3 r4 O1 O2
        have hE : Hid (OwnI (w2.alloc (.cells #[] 43)) w.heap.size (.slice (some ⟨w2.heap.size, 0, none⟩) 0 0) []) := Lib.hid (World.ownsRow_made w2 #[] 0 s2 (by unfold maxLen; omega) rfl)
        have hE2 : Hid (OwnI (w2.alloc (.cells #[] 43)) w2.heap.size (.slice (some ⟨w2.heap.size, 0, none⟩) 0 0) []) := Lib.hid (World.ownsRow_made w2 #[] 0 (Nat.le_refl _) (by unfold maxLen; omega) rfl)
        have L3 : Hid (Below w.heap.size w (w2.alloc (.cells #[] 43))) := Lib.hid (L2.out.alloc s2 _)
        have R1a := Lib.hid (H1.out.below L3.out (Nat.le_refl _))
        have s3 := L3.out.size
        have M3 : Hid (Below w2.heap.size w2 (w2.alloc (.cells #[] 43))) := Lib.hid ((Below.refl _ _).alloc (Nat.le_refl _) _)
        go_wp2_with ((refine wpList_append_items rfl (.tmp 38) (.tmp 39) rfl rfl rfl hE.out R1a.out lc1 N1.out (by simp; omega) s3 ?_); intro v5 w5 ho5 hg5 he5; refine of_hid ?_)
        refine Lib.hid ?_
        have z3 : (w2.alloc (.cells #[] 43)).heap.size = w2.heap.size + 1 := by simp
        have O5 : Hid (OwnI w5 w.heap.size v5 l) := Lib.hid ho5
        have L5 : Hid (Below w.heap.size w w5) := Lib.hid (L3.out.trans ⟨hg5.os, hg5.tape, hg5.output, hg5.size, fun k hk => hg5.block k (by omega) fun e => by have := (hE.out.lt _ e.symm).1; omega⟩)
        have M5 : Hid (Below w2.heap.size w2 w5) := Lib.hid (M3.out.trans ⟨hg5.os, hg5.tape, hg5.output, hg5.size, fun k hk => hg5.block k (by omega) fun e => by have := (hE2.out.lt _ e.symm).1; omega⟩)
        have s5 := L5.out.size
        have R2a := Lib.hid (H2.out.below L5.out (Nat.le_refl _))
        have hn2 : ∀ g, v5.ownBlock = some g → w2.heap.size ≤ g := fun g hg => by
          rcases he5 with e | e
          · exact (hE2.out.lt _ (e.symm.trans hg)).1
          · rw [e] at hg; injection hg with hg; omega
        have HN2 := Lib.hid hn2
        clear ho5 hg5 he5 hE hE2 R1a L3 M3 hn2 z3
        go_wp2_with ((refine wpList_append_items rfl (.tmp 40) (.tmp 41) rfl rfl rfl O5.out R2a.out lc2 N2.out (by omega) s5 ?_); intro v6 w6 ho6 hg6 _; refine of_hid ?_)
        refine Lib.hid ?_
        have L6 : Hid (Below w.heap.size w w6) := Lib.hid (L5.out.trans ⟨hg6.os, hg6.tape, hg6.output, hg6.size, fun k hk => hg6.block k (by omega) fun e => by have := (O5.out.lt _ e.symm).1; omega⟩)
        have M6 : Hid (Below w2.heap.size w2 w6) := Lib.hid (M5.out.trans ⟨hg6.os, hg6.tape, hg6.output, hg6.size, fun k hk => hg6.block k (by have := M5.out.size; omega) fun e => by have := HN2.out _ e.symm; omega⟩)
        have s6 := L6.out.size
        obtain ⟨A7, c7, rfl, lc7, cm7, r7, _, _⟩ := ho6.shape
        have R7 := Lib.hid r7
        have C7 := Lib.hid cm7
        have hgood : ∀ x ∈ l ++ m, Good x := fun x hx => (List.mem_append.1 hx).elim (G1.out x) (G2.out x)
        have hfa : K.fault (l ++ m) = 0 := K.fault_right (by rw [List.length_append]; omega) (fun x hx => (List.mem_append.1 hx).elim ((K.fault_ok F1.out.symm).2 x) ((K.fault_ok F2.out.symm).2 x))
        have hen := K.encs_append l m
        obtain ⟨lm, hlm⟩ : ∃ lm, lm = l ++ m := ⟨_, rfl⟩
        rw [← hlm] at R7 lc7 hgood hfa hen ⊢
        have HG := Lib.hid hgood
        have HFA := Lib.hid hfa
        have HEN := Lib.hid hen
        unfold maxLen at cm3 cm4 cm7
        clear ho6 hg6 r7 O5 R2a hgood hfa hen hlm
        go_wp2_with fail
        refine (encode_ok A7 lm c7 w6.heap.size w6 R7.out (Nat.le_refl _) HG.out lc7 C7.out HFA.out).mono ?_
        rintro e w8 ⟨v8, rfl, ho8, hl8⟩
        have L8 := Lib.hid (L6.out.trans (hl8.mono s6))
        have M8 := Lib.hid (M6.out.trans (hl8.mono M6.out.size))
        obtain ⟨A8, c8, rfl, r8, lc8, cm8, _, _⟩ := ho8.shape (K.encs_lt _)
        have SC1 := conv_lst (c := c8) r8
        have SC2 := conv_lst (c := c3) (R3.out.below M8.out K2.out.size)
        have SC3 := conv_lst (c := c4) (R4.out.below M8.out (Nat.le_refl _))
        rw [HEN.out, txt_app] at SC1
        obtain ⟨p, hp⟩ : ∃ p, p = K.txt (K.encs l) := ⟨_, rfl⟩
        obtain ⟨q, hq⟩ : ∃ q, q = K.txt (K.encs m) := ⟨_, rfl⟩
        have zp : p.size ≤ 8022000 := by rw [hp, K.txt_size]; have := K.encs_length_le (K.fault_ok F1.out.symm).2 (fun x hx => (G1.out x hx).1); omega
        have zq : q.size ≤ 8022000 := by rw [hq, K.txt_size]; have := K.encs_length_le (K.fault_ok F2.out.symm).2 (fun x hx => (G2.out x hx).1); omega
        rw [← hp, ← hq] at SC1
        rw [← hp] at SC2
        rw [← hq] at SC3
        rw [← HEN.out] at SC1
        unfold maxLen at cm8
        clear ho8 r8 hl8 hp hq
        go_wp2_with fail
        go_outline
        go_ret
        exact ⟨rfl, L8.out⟩
    · have t1 : (f2 == 0) = false := by simpa using e2
      have t2 : (f2 != 0) = true := by simpa using e2
      go_wp2_with fail
      go_ret
      exact ⟨rfl, L2.out⟩
  · have t1 : (f1 == 0) = false := by simpa using e1
    have t2 : (f1 != 0) = true := by simpa using e1
    go_wp2_with fail
    go_ret
    exact ⟨rfl, L2.out⟩
end packJoins
end Go.Proofs.Ytiflkjjjncagfaa
