/-
  The document's rack by contracts: Lose, blank. Conditions: the rack is one; fewer than a million writes wait.
-/
import Derived.Test.YthioanenljpclaaGreatDoorRefWroteM
import Derived.Test.YthioanenljpclaaGreatDoorLawIntsM
namespace Go.Proofs.YthioanenljpclaaGreatDoor
open Go Go.RowKit
set_option maxRecDepth 100000
set_option linter.unusedVariables false
namespace refRack
theorem boolL_set {n d : Nat} (G : Nat → Bool) (b : Bool) (h : d < n) : (boolL n G).set d (.bool b) = boolL n (fun i => if i = d then b else G i) := by
  apply List.ext_getElem?
  intro j
  rw [List.getElem?_set]
  by_cases hj : j < n
  · rw [boolL_get _ hj, boolL_get _ hj]
    by_cases e : d = j
    · subst e
      rw [if_pos rfl, if_pos (by simp [boolL]; exact h), if_pos rfl]
    · rw [if_neg e, if_neg (fun q => e q.symm)]
  · rw [List.getElem?_eq_none (l := boolL n G) (by simp [boolL]; omega), List.getElem?_eq_none (l := boolL n _) (by simp [boolL]; omega)]
    have : (boolL n G).length = n := by simp [boolL]
    by_cases e : d = j
    · omega
    · rw [if_neg e]
section
variable {B : Nat} {w w' : World} {g : Nat} {s : RS} {vL vG vW : Value} {H C : Nat → Nat}
theorem TK.setLost {l c : Nat} (h : TK B w g s vL (.slice (some ⟨l, 0, none⟩) s.nd c) vW H C) {d : Nat} (hd : d < s.nd) (b : Bool) :
    TK B (w.setCell ⟨l, d, none⟩ (.bool b)) g (s.setGone d b) vL (.slice (some ⟨l, 0, none⟩) s.nd c) vW H C ∧ KeepR B w (w.setCell ⟨l, d, none⟩ (.bool b)) := by
  have hob : (Value.slice (some ⟨l, 0, none⟩) s.nd c).ownBlock = some l := rfl
  have ok : ∀ {n c' : Nat} {t : TypeId} {v : Value} {xs : List Value}, (4 == t) = false → w.ownsRow B t c' v n xs → (w.setCell ⟨l, d, none⟩ (.bool b)).ownsRow B t c' v n xs := fun he h1 => own_keep h1 fun g1 hg1 => Below.heap_setCell w ⟨l, d, none⟩ (.bool b) g1 (fun e => own_type h.lost h1 he hob (by rw [hg1, e]))
  refine ⟨⟨h.blk.far (p := ⟨l, d, none⟩) (fun e => own_not_blk h.lost h.blk rfl (by rw [hob]; exact congrArg some e.symm)) _, h.hg, ok rfl h.heads, fun d' hd' => ok rfl (h.rows d' hd'), h.apart, ?_, ok rfl h.waits⟩, (KeepR.refl B w).of_grown (grown_set w _ d _) (own_lt h.lost hob).2 h.le (own_obj h.lost rfl hob)⟩
  have h2 := (h.lost.stored d (.bool b)).1
  rw [boolL_set _ _ hd] at h2
  exact h2
theorem lose_no_k (w : World) (g : Nat) (s : RS) (D : Int) (hd : s.isD D = false) (h : TK B w g s vL vG vW H C) :
    Calls Tryz.prog 15 #[.pointer (some ⟨g, 0, none⟩), .int .i64 D] w fun e w' => e = .returned (.int .i64 1) ∧ w' = w := by
  have HI := Lib.hid (is_k w g s D h)
  rw [hd] at HI
  clear h hd
  go_enter Tryz.func15, Tryz.ntmps15
  go_wp2_with fail
  refine HI.out.mono ?_
  rintro e w' ⟨rfl, rfl⟩
  go_wp2_with fail
  go_ret
  exact ⟨rfl, rfl⟩
theorem lose_k (w : World) (g : Nat) (s : RS) (d : Nat) (hn : s.nw ≤ 1000000) (hd : d < s.nd) (h : TK B w g s vL vG vW H C) :
    Calls Tryz.prog 15 #[.pointer (some ⟨g, 0, none⟩), .int .i64 (d : Int)] w fun e w' => e = .returned (.int .i64 0) ∧ TAt B w' g ((forgot s d).setGone d true) ∧ KeepR B w w' := by
  have HI := Lib.hid (is_k w g s (d : Int) h)
  rw [isD_nat, show decide (d < s.nd) = true by simp [hd]] at HI
  have HF := Lib.hid (forget_k w g s d hn h)
  obtain ⟨l, c, rfl⟩ := h.shapeG (by omega)
  have i0 : (0 : Int) ≤ (d : Int) := by omega
  have i1 : (d : Int) < (s.nd : Int) := by omega
  clear h hn
  go_enter Tryz.func15, Tryz.ntmps15
  go_wp2_with fail
  refine HI.out.mono ?_
  rintro e w1 ⟨rfl, rfl⟩
  go_wp2_with fail
  refine HF.out.mono ?_
  rintro e w2 ⟨rfl, ⟨vW', h2⟩, k2⟩
  obtain ⟨l', c', e, k1, f1⟩ := h2.gone (d := d) hd
  injection e with e _ e2
  injection e with e
  injection e with e
  subst e
  have c1 := h2.c1
  obtain ⟨h3, k3⟩ := TK.setLost h2 hd true
  have H3 := Lib.hid h3
  have K3 := Lib.hid (k2.trans k3)
  change w2.cell? ⟨g, 1, none⟩ = some (.slice (some ⟨l, 0, none⟩) s.nd c) at c1
  clear h2 h3 k2 k3 e2 HI HF
  go_wp2_with fail
  go_ret
  exact ⟨rfl, ⟨_, _, _, _, _, H3.out⟩, K3.out⟩
end
theorem info_strR : (Tryz.prog.info? 9).map (fun i => (i.zero, i.size, i.bytes)) = some (some (.string ⟨#[]⟩), 1, 16) := by kernel_rfl
theorem wpList_append_strR {w : World} {ops : Array Oper} {rest : List Oper} {o : Oper} {a : Act} {Q : Exit → Act → World → Prop} (hgd : o.guard = none) (s x : Operand)
    (ho : o.op = .call { callee := .builtin .append, args := #[s, x], argTypes := #[75, 75] }) {base n c : Nat} {v : Value} {xs : List Value} {ad : Addr} {Z : ByteArray} (hs : a.eval s = v) (hx : a.eval x = .slice (some ad) 1 c)
    (hown : w.ownsRow base 9 1 v n xs) (hnews : ∀ j u, [Value.string Z][j]? = some u → w.cell? (ad.add j) = some u) (hn : n + 1 ≤ 2000000) (hb : base ≤ w.heap.size)
    (h : ∀ v' w', w'.ownsRow base 9 1 v' (n + 1) (xs ++ [Value.string Z]) → w.grownBy w' v.ownBlock → wpList Tryz.prog ops Q rest (a.put o.dst v') w') : wpList Tryz.prog ops Q (o :: rest) a w := by
  obtain ⟨i0, hi, hz0, hz1, hz2⟩ := info_parts info_strR
  exact wpList_append_own_at (P := Tryz.prog) w hgd s x 75 ho base 9 i0 _ 1 16 Tryz.underlying75 hi hz0 hz1 hz2 rfl (by omega) v n xs hs hown ad 1 c [Value.string Z] hx rfl hnews (fun u hu => by simp at hu; subst hu; rfl) (by unfold maxLen; omega) (by omega) hb fun v' w' h1 h2 _ _ => h v' w' h1 h2
theorem textL_push (n : Nat) (X : Nat → Nat → Nat) : textL n X ++ [textV (X n)] = textL (n + 1) X := by simp [textL, List.range_succ]
set_option maxHeartbeats 800000 in
theorem blank_k (w : World) (n : Nat) (hn : n ≤ 2000) :
    Calls Tryz.prog 31 #[.int .i64 (n : Int)] w fun e w' => ∃ v, e = .returned v ∧ w'.ownsRow w.heap.size 9 1 v n (textL n fun _ => zeros) ∧ Below w.heap.size w w' := by
  have mk := fun W => make_bytes 128 (by omega) W (128 : Int) rfl
  have cz : ∀ W : World, (convert 51 9 (.slice (some ⟨W.heap.size, 0, none⟩) 128 128)).run Tryz.prog (W.alloc (.cells (rowArr 128 fun _ => 0) 5)) = .ok (textV zeros) (W.alloc (.cells (rowArr 128 fun _ => 0) 5)) := fun W => (Row8.of_blk (Blk.new W 5 (rowArr 128 zeros)) : Row8 (W.alloc (.cells (rowArr 128 fun _ => 0) 5)) (.slice (some ⟨W.heap.size, 0, none⟩) 128 128) 128 zeros).conv
  have czw := cz w
  have L0 := Lib.hid ((Below.refl w.heap.size w).alloc (Nat.le_refl _) (.cells (rowArr 128 fun _ => 0) 5))
  clear cz
  obtain ⟨Z, hZ⟩ : ∃ Z, Z = strB 128 zeros := ⟨_, rfl⟩
  unfold textV at czw
  rw [← hZ] at czw
  have HZ := Lib.hid hZ
  clear hZ
  go_enter Tryz.func31, Tryz.ntmps31
  go_wp2_with fail
  clear mk czw
  generalize w.alloc (.cells (rowArr 128 fun _ => 0) 5) = w0 at *
  have N0 : Hid (w0.ownsRow w.heap.size 9 1 (.slice none 0 0) 0 (textL 0 fun _ => zeros)) := Lib.hid ⟨rfl, .inl ⟨rfl, rfl⟩⟩
  go_loopw [4, 5] (fun o x wr => ∃ i : Nat, i ≤ n ∧ x = .int .i64 i ∧ Hid (wr.ownsRow w.heap.size 9 1 o i (textL i fun _ => zeros)) ∧ Hid (Below w.heap.size w wr)) (fun _ x _ => n - (intOf x).toNat)
  case atStart => exact ⟨0, by omega, rfl, N0, L0⟩
  case round =>
    obtain ⟨i, hi, rfl, N1, L1⟩ := hrel
    clear N0 L0
    by_cases hlt : i < n
    · have i1 : (i : Int) < (n : Int) := by omega
      have bA : Below wr.heap.size wr (wr.alloc (.cells #[.string Z] 9)) := (Below.refl _ _).alloc (Nat.le_refl _) _
      have NA := Lib.hid (own_keep N1.out (w' := wr.alloc (.cells #[.string Z] 9)) fun g1 hg1 => bA.block g1 (own_lt N1.out hg1).1)
      have LA := Lib.hid (L1.out.trans (bA.mono L1.out.size))
      have HW : Hid (∀ j u, [Value.string Z][j]? = some u → (wr.alloc (.cells #[.string Z] 9)).cell? ((⟨wr.heap.size, 0, none⟩ : Addr).add j) = some u) := Lib.hid (cell_one_new wr (.string Z) 9)
      have HB : Hid (w.heap.size ≤ (wr.alloc (.cells #[.string Z] 9)).heap.size) := Lib.hid LA.out.size
      have HN : Hid (i + 1 ≤ 2000000) := Lib.hid (by omega)
      clear N1 L1 bA
      go_wp2_with ((with_reducible refine wpList_append_strR (Z := Z) rfl (.tmp 13) (.tmp 15) rfl rfl rfl NA.out HW.out HN.out HB.out ?_); intro v' w3 hw3 hg3; refine of_hid ?_)
      refine Lib.hid ?_
      have N2 : Hid (w3.ownsRow w.heap.size 9 1 v' (i + 1) (textL (i + 1) fun _ => zeros)) := Lib.hid (by
        rw [← textL_push]
        show w3.ownsRow w.heap.size 9 1 v' (i + 1) (textL i (fun _ => zeros) ++ [.string (strB 128 zeros)])
        rw [← HZ.out]
        exact hw3)
      have L2 : Hid (Below w.heap.size w w3) := Lib.hid (LA.out.trans ⟨hg3.os, hg3.tape, hg3.output, hg3.size, fun k hk => hg3.block k (by have := HB.out; omega) (fun e => by have := (own_lt NA.out e.symm).2; omega)⟩)
      obtain ⟨A3, c3, rfl⟩ := own_shape hw3
      clear hw3 hg3 NA LA HW HB HN
      go_wp2_with fail
      go_roundw
      case rel => exact ⟨i + 1, by omega, by go_num, N2, L2⟩
      case measure => simp [intOf]; omega
    · obtain rfl : n = i := by omega
      clear hlt hi
      go_wp2_with fail
      go_ret
      exact ⟨_, rfl, N1.out, L1.out⟩
end refRack
end Go.Proofs.YthioanenljpclaaGreatDoor
namespace Go.Proofs.YthioanenljpclaaGreatDoor
open Go Go.RowKit
set_option maxRecDepth 100000
set_option linter.unusedVariables false
namespace refRack
theorem len_strs (ty : TypeId) (A : Option Addr) (n c : Nat) (w : World) : (Builtin.len_ #[75] ty #[.slice A n c]).run Tryz.prog w = .ok (.int .i64 (n : Int)) w := by
  simp [Builtin.len_, Builtin.lenOf, goInt, run_underlying Tryz.underlying75]
theorem exec_lenR {P : Program} {a : Act} {o : Oper} {x : Operand} {t : TypeId} {u v : Value} (w : World) (e : o.op = .call { callee := .builtin .len, args := #[x], argTypes := #[t] }) (hx : a.eval x = u) (hf : (Builtin.len_ #[t] o.type #[u]).run P w = .ok v w) : (execOp a.eval o).run P w = .ok (.value v) w := by
  unfold execOp; simp [e, hx, hf, resolve, invoke, builtin, Sem.run_bind, Sem.run_pure, Result.andThen_ok]
theorem own_some {w : World} {B n c : Nat} {e : TypeId} {v : Value} {xs : List Value} (h : w.ownsRow B e c v n xs) (hn : 0 < n) : ∃ l c', v = .slice (some ⟨l, 0, none⟩) n c' := by
  rcases h.2 with ⟨e1, e2⟩ | ⟨l, cap, cur, e, _⟩
  · omega
  · exact ⟨l, cap, e⟩
theorem headL_set {n d m : Nat} (H C : Nat → Nat) (h2 c2 : Nat) (h : d < n) : (headL n H C m).set d (.slice (some ⟨h2, 0, none⟩) m c2) = headL n (fun i => if i = d then h2 else H i) (fun i => if i = d then c2 else C i) m := by
  apply List.ext_getElem?
  intro j
  rw [List.getElem?_set]
  by_cases hj : j < n
  · rw [headL_get _ _ hj, headL_get _ _ hj]
    by_cases e : d = j
    · subst e
      rw [if_pos rfl, if_pos (by simp [headL]; exact h), if_pos rfl, if_pos rfl]
    · rw [if_neg e, if_neg (fun q => e q.symm), if_neg (fun q => e q.symm)]
  · rw [List.getElem?_eq_none (l := headL n H C m) (by simp [headL]; omega), List.getElem?_eq_none (l := headL n _ _ m) (by simp [headL]; omega)]
    have : (headL n H C m).length = n := by simp [headL]
    by_cases e : d = j
    · omega
    · rw [if_neg e]
section
variable {B : Nat} {w w' : World} {g : Nat} {s : RS} {vL vG vW : Value} {H C : Nat → Nat}
theorem TK.sethead {l c h2 c2 B' : Nat} {X : Nat → Nat → Nat} (h : TK B w g s (.slice (some ⟨l, 0, none⟩) s.nd c) vG vW H C) {d : Nat} (hd : d < s.nd) (hrow : w.ownsRow B' 9 1 (.slice (some ⟨h2, 0, none⟩) s.ns c2) s.ns (textL s.ns X)) (hB : B ≤ B') (hne : ∀ d', d' < s.nd → H d' ≠ h2) :
    TK B (w.setCell ⟨l, d, none⟩ (.slice (some ⟨h2, 0, none⟩) s.ns c2)) g { s with last := fun d' a' => if d' = d then X a' else s.last d' a' } (.slice (some ⟨l, 0, none⟩) s.nd c) vG vW (fun i => if i = d then h2 else H i) (fun i => if i = d then c2 else C i) ∧ KeepR B w (w.setCell ⟨l, d, none⟩ (.slice (some ⟨h2, 0, none⟩) s.ns c2)) := by
  have hob : (Value.slice (some ⟨l, 0, none⟩) s.nd c).ownBlock = some l := rfl
  have ok : ∀ {B0 n c' : Nat} {t : TypeId} {v : Value} {xs : List Value}, (75 == t) = false → w.ownsRow B0 t c' v n xs → (w.setCell ⟨l, d, none⟩ (.slice (some ⟨h2, 0, none⟩) s.ns c2)).ownsRow B0 t c' v n xs := fun he h1 => own_keep h1 fun g1 hg1 => Below.heap_setCell w ⟨l, d, none⟩ _ g1 (fun e => own_type h.heads h1 he hob (by rw [hg1, e]))
  refine ⟨⟨h.blk.far (p := ⟨l, d, none⟩) (fun e => own_not_blk h.heads h.blk rfl (by rw [hob]; exact congrArg some e.symm)) _, h.hg, ?_, fun d' hd' => ?_, fun d1 d2 e1 e2 hne2 => ?_, ok rfl h.lost, ok rfl h.waits⟩, (KeepR.refl B w).of_grown (grown_set w _ d _) (own_lt h.heads hob).2 h.le (own_obj h.heads rfl hob)⟩
  · have q := (h.heads.stored d (.slice (some ⟨h2, 0, none⟩) s.ns c2)).1
    rw [headL_set _ _ _ _ hd] at q
    exact q
  · show (w.setCell ⟨l, d, none⟩ (.slice (some ⟨h2, 0, none⟩) s.ns c2)).ownsRow B 9 1 (.slice (some ⟨if d' = d then h2 else H d', 0, none⟩) s.ns (if d' = d then c2 else C d')) s.ns (textL s.ns (fun a' => if d' = d then X a' else s.last d' a'))
    by_cases e : d' = d
    · simp only [if_pos e]
      exact ok rfl (own_base hrow hB)
    · simp only [if_neg e]
      exact ok rfl (h.rows d' hd')
  · show (if d1 = d then h2 else H d1) ≠ (if d2 = d then h2 else H d2)
    by_cases q1 : d1 = d
    · by_cases q2 : d2 = d
      · omega
      · rw [if_pos q1, if_neg q2]
        exact (hne d2 e2).symm
    · by_cases q2 : d2 = d
      · rw [if_neg q1, if_pos q2]
        exact hne d1 e1
      · rw [if_neg q1, if_neg q2]
        exact h.apart d1 d2 e1 e2 hne2
theorem replace_no_k (w : World) (g : Nat) (s : RS) (D : Int) (hd : s.isD D = false) (h : TK B w g s vL vG vW H C) :
    Calls Tryz.prog 17 #[.pointer (some ⟨g, 0, none⟩), .int .i64 D] w fun e w' => e = .returned (.int .i64 1) ∧ w' = w := by
  have HI := Lib.hid (is_k w g s D h)
  rw [hd] at HI
  clear h hd
  go_enter Tryz.func17, Tryz.ntmps17
  go_wp2_with fail
  refine HI.out.mono ?_
  rintro e w' ⟨rfl, rfl⟩
  go_wp2_with fail
  go_ret
  exact ⟨rfl, rfl⟩
set_option maxHeartbeats 1600000 in
theorem replace_k (w : World) (g : Nat) (s : RS) (d : Nat) (hn : s.nw ≤ 1000000) (hd : d < s.nd) (hns0 : 0 < s.ns) (hns : s.ns ≤ 2000) (h : TK B w g s vL vG vW H C) :
    Calls Tryz.prog 17 #[.pointer (some ⟨g, 0, none⟩), .int .i64 (d : Int)] w fun e w' => e = .returned (.int .i64 0) ∧ TAt B w' g { (forgot s d).setGone d false with last := fun d' a' => if d' = d then zeros else s.last d' a' } ∧ KeepR B w w' := by
  have HI := Lib.hid (is_k w g s (d : Int) h)
  rw [isD_nat, show decide (d < s.nd) = true by simp [hd]] at HI
  have HF := Lib.hid (forget_k w g s d hn h)
  obtain ⟨lg, cg, rfl⟩ := h.shapeG (by omega)
  obtain ⟨l, c, rfl⟩ := h.shapeL (by omega)
  have i0 : (0 : Int) ≤ (d : Int) := by omega
  have i1 : (d : Int) < (s.nd : Int) := by omega
  clear h hn
  go_enter Tryz.func17, Tryz.ntmps17
  go_wp2_with fail
  refine HI.out.mono ?_
  rintro e w1 ⟨rfl, rfl⟩
  go_wp2_with fail
  refine HF.out.mono ?_
  rintro e w2 ⟨rfl, ⟨vW', t2⟩, k2⟩
  obtain ⟨l', c', e, k1, f1⟩ := t2.gone (d := d) hd
  injection e with e _ e2
  injection e with e
  injection e with e
  subst e
  have c1 := t2.c1
  obtain ⟨t3, k3⟩ := TK.setLost t2 hd false
  have HT := Lib.hid (t3.keep (w' := (w2.setCell ⟨lg, d, none⟩ (.bool false)).drew) fun k _ _ => rfl)
  have K3 := Lib.hid (k2.trans (k3.trans ⟨(Below.refl B _).drew, fun _ _ h _ => h⟩) : KeepR B w1 (w2.setCell ⟨lg, d, none⟩ (.bool false)).drew)
  change w2.cell? ⟨g, 1, none⟩ = some (.slice (some ⟨lg, 0, none⟩) s.nd cg) at c1
  obtain ⟨l3, c3, e3, kh, _⟩ := HT.out.head (d := d) hd
  injection e3 with e3 _ e4
  injection e3 with e3
  injection e3 with e3
  subst e3
  obtain ⟨hb, hhb⟩ : ∃ hb, hb = H d := ⟨_, rfl⟩
  obtain ⟨cd, hcd⟩ : ∃ cd, cd = C d := ⟨_, rfl⟩
  rw [← hhb, ← hcd] at kh
  have c0 := HT.out.c0
  obtain ⟨nd, hnd⟩ : ∃ nd, nd = s.nd := ⟨_, rfl⟩
  obtain ⟨ns, hnse⟩ : ∃ ns, ns = s.ns := ⟨_, rfl⟩
  have HND : Hid (((forgot s d).setGone d false).nd = nd) := Lib.hid hnd.symm
  have HNS : Hid (((forgot s d).setGone d false).ns = ns) := Lib.hid hnse.symm
  have HS : Hid ((w2.setCell ⟨lg, d, none⟩ (.bool false)).drew.cell? ⟨g, 0, none⟩ = some (.slice (some ⟨l, 0, none⟩) nd c) ∧ (w2.setCell ⟨lg, d, none⟩ (.bool false)).drew.cell? ⟨l, 0 + d, none⟩ = some (.slice (some ⟨hb, 0, none⟩) ns cd)) := Lib.hid (by
    rw [Nat.zero_add, hnd, hnse]
    exact ⟨c0, kh⟩)
  rw [← hnd] at hd c1 i1
  rw [← hnse] at hns hns0
  clear t2 t3 k2 k3 e2 e4 HI HF hhb hcd c0 kh
  go_wp2_with fail
  refine region_anyZ (fun w' => w'.cell? ⟨g, 0, none⟩ = some (.slice (some ⟨l, 0, none⟩) nd c) ∧ w'.cell? ⟨l, 0 + d, none⟩ = some (.slice (some ⟨hb, 0, none⟩) ns cd)) 15 (by kernel_rfl) ?_
  refine takeG 0 (.move (.tmp 0)) (some 18) none (.pointer (some ⟨g, 0, none⟩)) (by kernel_rfl) (by kernel_rfl) (by kernel_rfl) (fun _ _ _ h => h) (fun o wq e hS => exec_move wq e (by kernel_rfl)) HS.out ?_
  refine takeG 1 (.nilCheck (.tmp 18)) (some 19) none (.pointer (some ⟨g, 0, none⟩)) (by kernel_rfl) (by kernel_rfl) (by kernel_rfl) (fun _ _ _ h => h) (fun o wq e hS => exec_nil wq e (by kernel_rfl)) HS.out ?_
  refine takeG 2 (.fieldAddr 74 (.tmp 19) 0) (some 20) none (.pointer (some ⟨g, 0, none⟩)) (by kernel_rfl) (by kernel_rfl) (by kernel_rfl) (fun _ _ _ h => h) (fun o wq e hS => exec_field (u := .pointer (some ⟨g, 0, none⟩)) wq e (by kernel_rfl) (by kernel_rfl)) HS.out ?_
  refine takeG 3 (.load 71 (.tmp 20)) (some 21) none (.slice (some ⟨l, 0, none⟩) nd c) (by kernel_rfl) (by kernel_rfl) (by kernel_rfl) (fun _ _ _ h => h) (fun o wq e hS => exec_load (x := (.tmp 20)) e (by kernel_rfl) (load_one Tryz.underlying71 (by kernel_rfl) hS.1)) HS.out ?_
  refine takeG 4 (.move (.tmp 1)) (some 22) none (.int .i64 (d : Int)) (by kernel_rfl) (by kernel_rfl) (by kernel_rfl) (fun _ _ _ h => h) (fun o wq e hS => exec_move wq e (by kernel_rfl)) HS.out ?_
  refine takeG 5 (.move (.tmp 0)) (some 23) none (.pointer (some ⟨g, 0, none⟩)) (by kernel_rfl) (by kernel_rfl) (by kernel_rfl) (fun _ _ _ h => h) (fun o wq e hS => exec_move wq e (by kernel_rfl)) HS.out ?_
  refine takeG 6 (.nilCheck (.tmp 23)) (some 24) none (.pointer (some ⟨g, 0, none⟩)) (by kernel_rfl) (by kernel_rfl) (by kernel_rfl) (fun _ _ _ h => h) (fun o wq e hS => exec_nil wq e (by kernel_rfl)) HS.out ?_
  refine takeG 7 (.fieldAddr 74 (.tmp 24) 0) (some 25) none (.pointer (some ⟨g, 0, none⟩)) (by kernel_rfl) (by kernel_rfl) (by kernel_rfl) (fun _ _ _ h => h) (fun o wq e hS => exec_field (u := .pointer (some ⟨g, 0, none⟩)) wq e (by kernel_rfl) (by kernel_rfl)) HS.out ?_
  refine takeG 8 (.load 71 (.tmp 25)) (some 26) none (.slice (some ⟨l, 0, none⟩) nd c) (by kernel_rfl) (by kernel_rfl) (by kernel_rfl) (fun _ _ _ h => h) (fun o wq e hS => exec_load (x := (.tmp 25)) e (by kernel_rfl) (load_one Tryz.underlying71 (by kernel_rfl) hS.1)) HS.out ?_
  refine takeG 9 (.move (.tmp 1)) (some 27) none (.int .i64 (d : Int)) (by kernel_rfl) (by kernel_rfl) (by kernel_rfl) (fun _ _ _ h => h) (fun o wq e hS => exec_move wq e (by kernel_rfl)) HS.out ?_
  refine takeG 10 (.indexAddr 71 (.tmp 26) (.tmp 27)) (some 28) none (.pointer (some ⟨l, 0 + d, none⟩)) (by kernel_rfl) (by kernel_rfl) (by kernel_rfl) (fun _ _ _ h => h) (fun o wq e hS => exec_index (u1 := .slice (some ⟨l, 0, none⟩) nd c) (u2 := .int .i64 (d : Int)) wq e (by kernel_rfl) (by kernel_rfl) (index_slice Tryz.underlying71 (by kernel_rfl) l 0 nd c d hd _)) HS.out ?_
  refine takeG 11 (.load 75 (.tmp 28)) (some 29) none (.slice (some ⟨hb, 0, none⟩) ns cd) (by kernel_rfl) (by kernel_rfl) (by kernel_rfl) (fun _ _ _ h => h) (fun o wq e hS => exec_load (x := (.tmp 28)) e (by kernel_rfl) (load_one Tryz.underlying75 (by kernel_rfl) hS.2)) HS.out ?_
  refine takeG 12 (.call ⟨.builtin .len, #[(.tmp 29)], #[75]⟩) (some 30) none (.int .i64 (ns : Int)) (by kernel_rfl) (by kernel_rfl) (by kernel_rfl) (fun _ _ _ h => h) (fun o wq e hS => exec_lenR (u := .slice (some ⟨hb, 0, none⟩) ns cd) wq e (by kernel_rfl) (len_strs _ (some ⟨hb, 0, none⟩) ns cd _)) HS.out ?_
  refine loneG 13 (.call ⟨.value (.func 31), #[(.tmp 30)], #[3]⟩) (some 31) none (by kernel_rfl) (by kernel_rfl) (by kernel_rfl) ?_
  intro o ho hod
  refine wp_callC (f := 31) (args := #[.int .i64 (ns : Int)]) (by cases o; cases ho; kernel_rfl) (blank_k _ ns hns) ?_
  rintro e w4 ⟨v4, rfl, n4, b4⟩
  obtain ⟨h2, c2, rfl⟩ := own_some n4 hns0
  refine ⟨.slice (some ⟨h2, 0, none⟩) ns c2, rfl, ?_⟩
  rw [hod]
  clear hod ho
  have HS2 : Hid (w4.cell? ⟨g, 0, none⟩ = some (.slice (some ⟨l, 0, none⟩) nd c) ∧ w4.cell? ⟨l, 0 + d, none⟩ = some (.slice (some ⟨hb, 0, none⟩) ns cd)) := Lib.hid ⟨(b4.cell (p := ⟨g, 0, none⟩) (block_lt_of_cell HS.out.1)).trans HS.out.1, (b4.cell (p := ⟨l, 0 + d, none⟩) (block_lt_of_cell HS.out.2)).trans HS.out.2⟩
  have T4 := Lib.hid ((HT.out).below b4)
  have N4 := Lib.hid n4
  have K4 := Lib.hid (K3.out.new b4 HT.out.le)
  have HB4 := Lib.hid HT.out.le
  have HNE : Hid (∀ d', d' < nd → H d' ≠ h2) := Lib.hid fun d' hd' e => by
    have q1 := (own_lt (HT.out.rows d' (by rw [HND.out]; exact hd')) (g := H d') rfl).1
    have q2 := (own_lt n4 (g := h2) rfl).2
    omega
  have FZ := Lib.hid (T4.out.heads.frozenAt (0 + d))
  clear n4 b4
  refine ⟨fun _ => HS2.out, ?_⟩
  refine loneG 14 (.indexAddr 71 (.tmp 21) (.tmp 22)) (some 32) none (by kernel_rfl) (by kernel_rfl) (by kernel_rfl) ?_
  intro o ho hod
  refine wp_val (v := .pointer (some ⟨l, 0 + d, none⟩)) (exec_index (u1 := .slice (some ⟨l, 0, none⟩) nd c) (u2 := .int .i64 (d : Int)) _ ho (by kernel_rfl) (by kernel_rfl) (index_slice Tryz.underlying71 (by kernel_rfl) l 0 nd c d hd _)) ?_
  rw [hod]
  clear hod ho
  refine ⟨fun _ => HS2.out, ?_⟩
  refine lastStore 15 75 (.tmp 32) (.tmp 31) (.pointer (some ⟨l, 0 + d, none⟩)) (.slice (some ⟨h2, 0, none⟩) ns c2) _ (by kernel_rfl) (by kernel_rfl) (by kernel_rfl) rfl (by kernel_rfl) (by kernel_rfl) (store_one (by kernel_rfl) rfl rfl (by rw [HS2.out.2]; rfl) FZ.out (by rw [add_plain]; rfl)) ?_
  simp only [put_some, put_none, List.setIfInBounds_toArray, List.set_cons_succ, List.set_cons_zero]
  rw [Nat.zero_add d]
  obtain rfl := HNS.out
  have hq := TK.sethead (X := fun _ => zeros) (d := d) (h2 := h2) (c2 := c2) (T4.out) (by rw [HND.out]; exact hd) (N4.out) HB4.out (fun d' hd' => HNE.out d' (by rw [← HND.out]; exact hd'))
  have H9 := Lib.hid hq.1
  have K9 := Lib.hid (K4.out.trans hq.2)
  clear hq HS HS2 HT T4 N4 K4 K3 HB4 HNE FZ c1 k1 f1
  go_wp2_with fail
  go_ret
  exact ⟨rfl, ⟨_, _, _, _, _, H9.out⟩, K9.out⟩
end
end refRack
end Go.Proofs.YthioanenljpclaaGreatDoor
