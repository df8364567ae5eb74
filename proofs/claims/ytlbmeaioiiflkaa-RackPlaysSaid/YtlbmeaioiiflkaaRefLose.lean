/-
  The document's rack by contracts: Lose, blank. Conditions: the rack is one; fewer than a million writes wait.
-/
import Derived.Test.YtlbmeaioiiflkaaRefWrote
import Derived.Test.YtlbmeaioiiflkaaLawArgsM
namespace Go.Proofs.Ytlbmeaioiiflkaa
open Go Go.RowKit
set_option maxRecDepth 100000
set_option linter.unusedVariables false
namespace refRack
theorem boolL_set {n d : Nat} (G : Nat → Bool) (b : Bool) (h : d < n) : (boolL n G).set d (.bool b) = boolL n (fun i => if i = d then b else G i) := by
  apply List.ext_getElem?
  intro j
  rw [List.getElem?_set]
  by_cases hj : j < n
  · rw [boolL_get _ hj, boolL_get _ hj]
    by_cases e : d = j
    · subst e
      rw [if_pos rfl, if_pos (by simp [boolL]; exact h), if_pos rfl]
    · rw [if_neg e, if_neg (fun q => e q.symm)]
  · rw [List.getElem?_eq_none (l := boolL n G) (by simp [boolL]; omega), List.getElem?_eq_none (l := boolL n _) (by simp [boolL]; omega)]
    have : (boolL n G).length = n := by simp [boolL]
    by_cases e : d = j
    · omega
    · rw [if_neg e]
section
variable {B : Nat} {w w' : World} {g : Nat} {s : RS} {vL vG vW : Value} {H C : Nat → Nat}
theorem TK.setLost {l c : Nat} (h : TK B w g s vL (.slice (some ⟨l, 0, none⟩) s.nd c) vW H C) {d : Nat} (hd : d < s.nd) (b : Bool) :
    TK B (w.setCell ⟨l, d, none⟩ (.bool b)) g (s.setGone d b) vL (.slice (some ⟨l, 0, none⟩) s.nd c) vW H C ∧ KeepR B w (w.setCell ⟨l, d, none⟩ (.bool b)) := by
  have hob : (Value.slice (some ⟨l, 0, none⟩) s.nd c).ownBlock = some l := rfl
  have ok : ∀ {n c' : Nat} {t : TypeId} {v : Value} {xs : List Value}, (4 == t) = false → w.ownsRow B t c' v n xs → (w.setCell ⟨l, d, none⟩ (.bool b)).ownsRow B t c' v n xs := fun he h1 => own_keep h1 fun g1 hg1 => Below.heap_setCell w ⟨l, d, none⟩ (.bool b) g1 (fun e => own_type h.lost h1 he hob (by rw [hg1, e]))
  refine ⟨⟨h.blk.far (p := ⟨l, d, none⟩) (fun e => own_not_blk h.lost h.blk rfl (by rw [hob]; exact congrArg some e.symm)) _, h.hg, ok rfl h.heads, fun d' hd' => ok rfl (h.rows d' hd'), h.apart, ?_, ok rfl h.waits⟩, (KeepR.refl B w).of_grown (grown_set w _ d _) (own_lt h.lost hob).2 h.le (own_obj h.lost rfl hob)⟩
  have h2 := (h.lost.stored d (.bool b)).1
  rw [boolL_set _ _ hd] at h2
  exact h2
theorem lose_no_k (w : World) (g : Nat) (s : RS) (D : Int) (hd : s.isD D = false) (h : TK B w g s vL vG vW H C) :
    Calls Try.prog 30 #[.pointer (some ⟨g, 0, none⟩), .int .i64 D] w fun e w' => e = .returned (.int .i64 1) ∧ w' = w := by
  have HI := Lib.hid (is_k w g s D h)
  rw [hd] at HI
  clear h hd
  go_enter Try.func30, Try.ntmps30
  go_wp2_with fail
  refine HI.out.mono ?_
  rintro e w' ⟨rfl, rfl⟩
  go_wp2_with fail
  go_ret
  exact ⟨rfl, rfl⟩
theorem lose_k (w : World) (g : Nat) (s : RS) (d : Nat) (hn : s.nw ≤ 1000000) (hd : d < s.nd) (h : TK B w g s vL vG vW H C) :
    Calls Try.prog 30 #[.pointer (some ⟨g, 0, none⟩), .int .i64 (d : Int)] w fun e w' => e = .returned (.int .i64 0) ∧ TAt B w' g ((forgot s d).setGone d true) ∧ KeepR B w w' := by
  have HI := Lib.hid (is_k w g s (d : Int) h)
  rw [isD_nat, show decide (d < s.nd) = true by simp [hd]] at HI
  have HF := Lib.hid (forget_k w g s d hn h)
  obtain ⟨l, c, rfl⟩ := h.shapeG (by omega)
  have i0 : (0 : Int) ≤ (d : Int) := by omega
  have i1 : (d : Int) < (s.nd : Int) := by omega
  clear h hn
  go_enter Try.func30, Try.ntmps30
  go_wp2_with fail
  refine HI.out.mono ?_
  rintro e w1 ⟨rfl, rfl⟩
  go_wp2_with fail
  refine HF.out.mono ?_
  rintro e w2 ⟨rfl, ⟨vW', h2⟩, k2⟩
  obtain ⟨l', c', e, k1, f1⟩ := h2.gone (d := d) hd
  injection e with e _ e2
  injection e with e
  injection e with e
  subst e
  have c1 := h2.c1
  obtain ⟨h3, k3⟩ := TK.setLost h2 hd true
  have H3 := Lib.hid h3
  have K3 := Lib.hid (k2.trans k3)
  change w2.cell? ⟨g, 1, none⟩ = some (.slice (some ⟨l, 0, none⟩) s.nd c) at c1
  clear h2 h3 k2 k3 e2 HI HF
  go_wp2_with fail
  go_ret
  exact ⟨rfl, ⟨_, _, _, _, _, H3.out⟩, K3.out⟩
end
theorem info_strR : (Try.prog.info? 9).map (fun i => (i.zero, i.size, i.bytes)) = some (some (.string ⟨#[]⟩), 1, 16) := by kernel_rfl
theorem wpList_append_strR {w : World} {ops : Array Oper} {rest : List Oper} {o : Oper} {a : Act} {Q : Exit → Act → World → Prop} (hgd : o.guard = none) (s x : Operand)
    (ho : o.op = .call { callee := .builtin .append, args := #[s, x], argTypes := #[67, 67] }) {base n c : Nat} {v : Value} {xs : List Value} {ad : Addr} {Z : ByteArray} (hs : a.eval s = v) (hx : a.eval x = .slice (some ad) 1 c)
    (hown : w.ownsRow base 9 1 v n xs) (hnews : ∀ j u, [Value.string Z][j]? = some u → w.cell? (ad.add j) = some u) (hn : n + 1 ≤ 2000000) (hb : base ≤ w.heap.size)
    (h : ∀ v' w', w'.ownsRow base 9 1 v' (n + 1) (xs ++ [Value.string Z]) → w.grownBy w' v.ownBlock → wpList Try.prog ops Q rest (a.put o.dst v') w') : wpList Try.prog ops Q (o :: rest) a w := by
  obtain ⟨i0, hi, hz0, hz1, hz2⟩ := info_parts info_strR
  exact wpList_append_own_at (P := Try.prog) w hgd s x 67 ho base 9 i0 _ 1 16 Try.underlying67 hi hz0 hz1 hz2 rfl (by omega) v n xs hs hown ad 1 c [Value.string Z] hx rfl hnews (fun u hu => by simp at hu; subst hu; rfl) (by unfold maxLen; omega) (by omega) hb fun v' w' h1 h2 _ _ => h v' w' h1 h2
theorem textL_push (n : Nat) (X : Nat → Nat → Nat) : textL n X ++ [textV (X n)] = textL (n + 1) X := by simp [textL, List.range_succ]
set_option maxHeartbeats 800000 in
theorem blank_k (w : World) (n : Nat) (hn : n ≤ 2000) :
    Calls Try.prog 24 #[.int .i64 (n : Int)] w fun e w' => ∃ v, e = .returned v ∧ w'.ownsRow w.heap.size 9 1 v n (textL n fun _ => zeros) ∧ Below w.heap.size w w' := by
  have mk := fun W => make_bytes 128 (by omega) W (128 : Int) rfl
  have cz : ∀ W : World, (convert 43 9 (.slice (some ⟨W.heap.size, 0, none⟩) 128 128)).run Try.prog (W.alloc (.cells (rowArr 128 fun _ => 0) 5)) = .ok (textV zeros) (W.alloc (.cells (rowArr 128 fun _ => 0) 5)) := fun W => (Row8.of_blk (Blk.new W 5 (rowArr 128 zeros)) : Row8 (W.alloc (.cells (rowArr 128 fun _ => 0) 5)) (.slice (some ⟨W.heap.size, 0, none⟩) 128 128) 128 zeros).conv
  have czw := cz w
  have L0 := Lib.hid ((Below.refl w.heap.size w).alloc (Nat.le_refl _) (.cells (rowArr 128 fun _ => 0) 5))
  clear cz
  obtain ⟨Z, hZ⟩ : ∃ Z, Z = strB 128 zeros := ⟨_, rfl⟩
  unfold textV at czw
  rw [← hZ] at czw
  have HZ := Lib.hid hZ
  clear hZ
  go_enter Try.func24, Try.ntmps24
  go_wp2_with fail
  clear mk czw
  generalize w.alloc (.cells (rowArr 128 fun _ => 0) 5) = w0 at *
  have N0 : Hid (w0.ownsRow w.heap.size 9 1 (.slice none 0 0) 0 (textL 0 fun _ => zeros)) := Lib.hid ⟨rfl, .inl ⟨rfl, rfl⟩⟩
  go_loopw [4, 5] (fun o x wr => ∃ i : Nat, i ≤ n ∧ x = .int .i64 i ∧ Hid (wr.ownsRow w.heap.size 9 1 o i (textL i fun _ => zeros)) ∧ Hid (Below w.heap.size w wr)) (fun _ x _ => n - (intOf x).toNat)
  case atStart => exact ⟨0, by omega, rfl, N0, L0⟩
  case round =>
    obtain ⟨i, hi, rfl, N1, L1⟩ := hrel
    clear N0 L0
    by_cases hlt : i < n
    · have i1 : (i : Int) < (n : Int) := by omega
      have bA : Below wr.heap.size wr (wr.alloc (.cells #[.string Z] 9)) := (Below.refl _ _).alloc (Nat.le_refl _) _
      have NA := Lib.hid (own_keep N1.out (w' := wr.alloc (.cells #[.string Z] 9)) fun g1 hg1 => bA.block g1 (own_lt N1.out hg1).1)
      have LA := Lib.hid (L1.out.trans (bA.mono L1.out.size))
      have HW : Hid (∀ j u, [Value.string Z][j]? = some u → (wr.alloc (.cells #[.string Z] 9)).cell? ((⟨wr.heap.size, 0, none⟩ : Addr).add j) = some u) := Lib.hid (cell_one_new wr (.string Z) 9)
      have HB : Hid (w.heap.size ≤ (wr.alloc (.cells #[.string Z] 9)).heap.size) := Lib.hid LA.out.size
      have HN : Hid (i + 1 ≤ 2000000) := Lib.hid (by omega)
      clear N1 L1 bA
      go_wp2_with ((with_reducible refine wpList_append_strR (Z := Z) rfl (.tmp 13) (.tmp 15) rfl rfl rfl NA.out HW.out HN.out HB.out ?_); intro v' w3 hw3 hg3; refine of_hid ?_)
      refine Lib.hid ?_
      have N2 : Hid (w3.ownsRow w.heap.size 9 1 v' (i + 1) (textL (i + 1) fun _ => zeros)) := Lib.hid (by
        rw [← textL_push]
        show w3.ownsRow w.heap.size 9 1 v' (i + 1) (textL i (fun _ => zeros) ++ [.string (strB 128 zeros)])
        rw [← HZ.out]
        exact hw3)
      have L2 : Hid (Below w.heap.size w w3) := Lib.hid (LA.out.trans ⟨hg3.os, hg3.tape, hg3.output, hg3.size, fun k hk => hg3.block k (by have := HB.out; omega) (fun e => by have := (own_lt NA.out e.symm).2; omega)⟩)
      obtain ⟨A3, c3, rfl⟩ := own_shape hw3
      clear hw3 hg3 NA LA HW HB HN
      go_wp2_with fail
      go_roundw
      case rel => exact ⟨i + 1, by omega, by go_num, N2, L2⟩
      case measure => simp [intOf]; omega
    · obtain rfl : n = i := by omega
      clear hlt hi
      go_wp2_with fail
      go_ret
      exact ⟨_, rfl, N1.out, L1.out⟩
end refRack
end Go.Proofs.Ytlbmeaioiiflkaa
