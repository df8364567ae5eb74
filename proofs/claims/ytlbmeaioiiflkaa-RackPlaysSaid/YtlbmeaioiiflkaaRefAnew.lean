/-
  The document's rack by contracts: Replace. Conditions: the rack is one; fewer than a million writes wait.
-/
import Derived.Test.YtlbmeaioiiflkaaRefLose
namespace Go.Proofs.Ytlbmeaioiiflkaa
open Go Go.RowKit
set_option maxRecDepth 100000
set_option linter.unusedVariables false
namespace refRack
theorem len_strs (ty : TypeId) (A : Option Addr) (n c : Nat) (w : World) : (Builtin.len_ #[67] ty #[.slice A n c]).run Try.prog w = .ok (.int .i64 (n : Int)) w := by
  simp [Builtin.len_, Builtin.lenOf, goInt, run_underlying Try.underlying67]
theorem exec_lenR {P : Program} {a : Act} {o : Oper} {x : Operand} {t : TypeId} {u v : Value} (w : World) (e : o.op = .call { callee := .builtin .len, args := #[x], argTypes := #[t] }) (hx : a.eval x = u) (hf : (Builtin.len_ #[t] o.type #[u]).run P w = .ok v w) : (execOp a.eval o).run P w = .ok (.value v) w := by
  unfold execOp; simp [e, hx, hf, resolve, invoke, builtin, Sem.run_bind, Sem.run_pure, Result.andThen_ok]
theorem own_some {w : World} {B n c : Nat} {e : TypeId} {v : Value} {xs : List Value} (h : w.ownsRow B e c v n xs) (hn : 0 < n) : ∃ l c', v = .slice (some ⟨l, 0, none⟩) n c' := by
  rcases h.2 with ⟨e1, e2⟩ | ⟨l, cap, cur, e, _⟩
  · omega
  · exact ⟨l, cap, e⟩
theorem headL_set {n d m : Nat} (H C : Nat → Nat) (h2 c2 : Nat) (h : d < n) : (headL n H C m).set d (.slice (some ⟨h2, 0, none⟩) m c2) = headL n (fun i => if i = d then h2 else H i) (fun i => if i = d then c2 else C i) m := by
  apply List.ext_getElem?
  intro j
  rw [List.getElem?_set]
  by_cases hj : j < n
  · rw [headL_get _ _ hj, headL_get _ _ hj]
    by_cases e : d = j
    · subst e
      rw [if_pos rfl, if_pos (by simp [headL]; exact h), if_pos rfl, if_pos rfl]
    · rw [if_neg e, if_neg (fun q => e q.symm), if_neg (fun q => e q.symm)]
  · rw [List.getElem?_eq_none (l := headL n H C m) (by simp [headL]; omega), List.getElem?_eq_none (l := headL n _ _ m) (by simp [headL]; omega)]
    have : (headL n H C m).length = n := by simp [headL]
    by_cases e : d = j
    · omega
    · rw [if_neg e]
section
variable {B : Nat} {w w' : World} {g : Nat} {s : RS} {vL vG vW : Value} {H C : Nat → Nat}
theorem TK.sethead {l c h2 c2 B' : Nat} {X : Nat → Nat → Nat} (h : TK B w g s (.slice (some ⟨l, 0, none⟩) s.nd c) vG vW H C) {d : Nat} (hd : d < s.nd) (hrow : w.ownsRow B' 9 1 (.slice (some ⟨h2, 0, none⟩) s.ns c2) s.ns (textL s.ns X)) (hB : B ≤ B') (hne : ∀ d', d' < s.nd → H d' ≠ h2) :
    TK B (w.setCell ⟨l, d, none⟩ (.slice (some ⟨h2, 0, none⟩) s.ns c2)) g { s with last := fun d' a' => if d' = d then X a' else s.last d' a' } (.slice (some ⟨l, 0, none⟩) s.nd c) vG vW (fun i => if i = d then h2 else H i) (fun i => if i = d then c2 else C i) ∧ KeepR B w (w.setCell ⟨l, d, none⟩ (.slice (some ⟨h2, 0, none⟩) s.ns c2)) := by
  have hob : (Value.slice (some ⟨l, 0, none⟩) s.nd c).ownBlock = some l := rfl
  have ok : ∀ {B0 n c' : Nat} {t : TypeId} {v : Value} {xs : List Value}, (67 == t) = false → w.ownsRow B0 t c' v n xs → (w.setCell ⟨l, d, none⟩ (.slice (some ⟨h2, 0, none⟩) s.ns c2)).ownsRow B0 t c' v n xs := fun he h1 => own_keep h1 fun g1 hg1 => Below.heap_setCell w ⟨l, d, none⟩ _ g1 (fun e => own_type h.heads h1 he hob (by rw [hg1, e]))
  refine ⟨⟨h.blk.far (p := ⟨l, d, none⟩) (fun e => own_not_blk h.heads h.blk rfl (by rw [hob]; exact congrArg some e.symm)) _, h.hg, ?_, fun d' hd' => ?_, fun d1 d2 e1 e2 hne2 => ?_, ok rfl h.lost, ok rfl h.waits⟩, (KeepR.refl B w).of_grown (grown_set w _ d _) (own_lt h.heads hob).2 h.le (own_obj h.heads rfl hob)⟩
  · have q := (h.heads.stored d (.slice (some ⟨h2, 0, none⟩) s.ns c2)).1
    rw [headL_set _ _ _ _ hd] at q
    exact q
  · show (w.setCell ⟨l, d, none⟩ (.slice (some ⟨h2, 0, none⟩) s.ns c2)).ownsRow B 9 1 (.slice (some ⟨if d' = d then h2 else H d', 0, none⟩) s.ns (if d' = d then c2 else C d')) s.ns (textL s.ns (fun a' => if d' = d then X a' else s.last d' a'))
    by_cases e : d' = d
    · simp only [if_pos e]
      exact ok rfl (own_base hrow hB)
    · simp only [if_neg e]
      exact ok rfl (h.rows d' hd')
  · show (if d1 = d then h2 else H d1) ≠ (if d2 = d then h2 else H d2)
    by_cases q1 : d1 = d
    · by_cases q2 : d2 = d
      · omega
      · rw [if_pos q1, if_neg q2]
        exact (hne d2 e2).symm
    · by_cases q2 : d2 = d
      · rw [if_neg q1, if_pos q2]
        exact hne d1 e1
      · rw [if_neg q1, if_neg q2]
        exact h.apart d1 d2 e1 e2 hne2
theorem replace_no_k (w : World) (g : Nat) (s : RS) (D : Int) (hd : s.isD D = false) (h : TK B w g s vL vG vW H C) :
    Calls Try.prog 32 #[.pointer (some ⟨g, 0, none⟩), .int .i64 D] w fun e w' => e = .returned (.int .i64 1) ∧ w' = w := by
  have HI := Lib.hid (is_k w g s D h)
  rw [hd] at HI
  clear h hd
  go_enter Try.func32, Try.ntmps32
  go_wp2_with fail
  refine HI.out.mono ?_
  rintro e w' ⟨rfl, rfl⟩
  go_wp2_with fail
  go_ret
  exact ⟨rfl, rfl⟩
set_option maxHeartbeats 1600000 in
theorem replace_k (w : World) (g : Nat) (s : RS) (d : Nat) (hn : s.nw ≤ 1000000) (hd : d < s.nd) (hns0 : 0 < s.ns) (hns : s.ns ≤ 2000) (h : TK B w g s vL vG vW H C) :
    Calls Try.prog 32 #[.pointer (some ⟨g, 0, none⟩), .int .i64 (d : Int)] w fun e w' => e = .returned (.int .i64 0) ∧ TAt B w' g { (forgot s d).setGone d false with last := fun d' a' => if d' = d then zeros else s.last d' a' } ∧ KeepR B w w' := by
  have HI := Lib.hid (is_k w g s (d : Int) h)
  rw [isD_nat, show decide (d < s.nd) = true by simp [hd]] at HI
  have HF := Lib.hid (forget_k w g s d hn h)
  obtain ⟨lg, cg, rfl⟩ := h.shapeG (by omega)
  obtain ⟨l, c, rfl⟩ := h.shapeL (by omega)
  have i0 : (0 : Int) ≤ (d : Int) := by omega
  have i1 : (d : Int) < (s.nd : Int) := by omega
  clear h hn
  go_enter Try.func32, Try.ntmps32
  go_wp2_with fail
  refine HI.out.mono ?_
  rintro e w1 ⟨rfl, rfl⟩
  go_wp2_with fail
  refine HF.out.mono ?_
  rintro e w2 ⟨rfl, ⟨vW', t2⟩, k2⟩
  obtain ⟨l', c', e, k1, f1⟩ := t2.gone (d := d) hd
  injection e with e _ e2
  injection e with e
  injection e with e
  subst e
  have c1 := t2.c1
  obtain ⟨t3, k3⟩ := TK.setLost t2 hd false
  have HT := Lib.hid (t3.keep (w' := (w2.setCell ⟨lg, d, none⟩ (.bool false)).drew) fun k _ _ => rfl)
  have K3 := Lib.hid (k2.trans (k3.trans ⟨(Below.refl B _).drew, fun _ _ h _ => h⟩) : KeepR B w1 (w2.setCell ⟨lg, d, none⟩ (.bool false)).drew)
  change w2.cell? ⟨g, 1, none⟩ = some (.slice (some ⟨lg, 0, none⟩) s.nd cg) at c1
  obtain ⟨l3, c3, e3, kh, _⟩ := HT.out.head (d := d) hd
  injection e3 with e3 _ e4
  injection e3 with e3
  injection e3 with e3
  subst e3
  obtain ⟨hb, hhb⟩ : ∃ hb, hb = H d := ⟨_, rfl⟩
  obtain ⟨cd, hcd⟩ : ∃ cd, cd = C d := ⟨_, rfl⟩
  rw [← hhb, ← hcd] at kh
  have c0 := HT.out.c0
  obtain ⟨nd, hnd⟩ : ∃ nd, nd = s.nd := ⟨_, rfl⟩
  obtain ⟨ns, hnse⟩ : ∃ ns, ns = s.ns := ⟨_, rfl⟩
  have HND : Hid (((forgot s d).setGone d false).nd = nd) := Lib.hid hnd.symm
  have HNS : Hid (((forgot s d).setGone d false).ns = ns) := Lib.hid hnse.symm
  have HS : Hid ((w2.setCell ⟨lg, d, none⟩ (.bool false)).drew.cell? ⟨g, 0, none⟩ = some (.slice (some ⟨l, 0, none⟩) nd c) ∧ (w2.setCell ⟨lg, d, none⟩ (.bool false)).drew.cell? ⟨l, 0 + d, none⟩ = some (.slice (some ⟨hb, 0, none⟩) ns cd)) := Lib.hid (by
    rw [Nat.zero_add, hnd, hnse]
    exact ⟨c0, kh⟩)
  rw [← hnd] at hd c1 i1
  rw [← hnse] at hns hns0
  clear t2 t3 k2 k3 e2 e4 HI HF hhb hcd c0 kh
  go_wp2_with fail
  refine region_anyZ (fun w' => w'.cell? ⟨g, 0, none⟩ = some (.slice (some ⟨l, 0, none⟩) nd c) ∧ w'.cell? ⟨l, 0 + d, none⟩ = some (.slice (some ⟨hb, 0, none⟩) ns cd)) 15 (by kernel_rfl) ?_
  refine takeG 0 (.move (.tmp 0)) (some 18) none (.pointer (some ⟨g, 0, none⟩)) (by kernel_rfl) (by kernel_rfl) (by kernel_rfl) (fun _ _ _ h => h) (fun o wq e hS => exec_move wq e (by kernel_rfl)) HS.out ?_
  refine takeG 1 (.nilCheck (.tmp 18)) (some 19) none (.pointer (some ⟨g, 0, none⟩)) (by kernel_rfl) (by kernel_rfl) (by kernel_rfl) (fun _ _ _ h => h) (fun o wq e hS => exec_nil wq e (by kernel_rfl)) HS.out ?_
  refine takeG 2 (.fieldAddr 66 (.tmp 19) 0) (some 20) none (.pointer (some ⟨g, 0, none⟩)) (by kernel_rfl) (by kernel_rfl) (by kernel_rfl) (fun _ _ _ h => h) (fun o wq e hS => exec_field (u := .pointer (some ⟨g, 0, none⟩)) wq e (by kernel_rfl) (by kernel_rfl)) HS.out ?_
  refine takeG 3 (.load 63 (.tmp 20)) (some 21) none (.slice (some ⟨l, 0, none⟩) nd c) (by kernel_rfl) (by kernel_rfl) (by kernel_rfl) (fun _ _ _ h => h) (fun o wq e hS => exec_load (x := (.tmp 20)) e (by kernel_rfl) (load_one Try.underlying63 (by kernel_rfl) hS.1)) HS.out ?_
  refine takeG 4 (.move (.tmp 1)) (some 22) none (.int .i64 (d : Int)) (by kernel_rfl) (by kernel_rfl) (by kernel_rfl) (fun _ _ _ h => h) (fun o wq e hS => exec_move wq e (by kernel_rfl)) HS.out ?_
  refine takeG 5 (.move (.tmp 0)) (some 23) none (.pointer (some ⟨g, 0, none⟩)) (by kernel_rfl) (by kernel_rfl) (by kernel_rfl) (fun _ _ _ h => h) (fun o wq e hS => exec_move wq e (by kernel_rfl)) HS.out ?_
  refine takeG 6 (.nilCheck (.tmp 23)) (some 24) none (.pointer (some ⟨g, 0, none⟩)) (by kernel_rfl) (by kernel_rfl) (by kernel_rfl) (fun _ _ _ h => h) (fun o wq e hS => exec_nil wq e (by kernel_rfl)) HS.out ?_
  refine takeG 7 (.fieldAddr 66 (.tmp 24) 0) (some 25) none (.pointer (some ⟨g, 0, none⟩)) (by kernel_rfl) (by kernel_rfl) (by kernel_rfl) (fun _ _ _ h => h) (fun o wq e hS => exec_field (u := .pointer (some ⟨g, 0, none⟩)) wq e (by kernel_rfl) (by kernel_rfl)) HS.out ?_
  refine takeG 8 (.load 63 (.tmp 25)) (some 26) none (.slice (some ⟨l, 0, none⟩) nd c) (by kernel_rfl) (by kernel_rfl) (by kernel_rfl) (fun _ _ _ h => h) (fun o wq e hS => exec_load (x := (.tmp 25)) e (by kernel_rfl) (load_one Try.underlying63 (by kernel_rfl) hS.1)) HS.out ?_
  refine takeG 9 (.move (.tmp 1)) (some 27) none (.int .i64 (d : Int)) (by kernel_rfl) (by kernel_rfl) (by kernel_rfl) (fun _ _ _ h => h) (fun o wq e hS => exec_move wq e (by kernel_rfl)) HS.out ?_
  refine takeG 10 (.indexAddr 63 (.tmp 26) (.tmp 27)) (some 28) none (.pointer (some ⟨l, 0 + d, none⟩)) (by kernel_rfl) (by kernel_rfl) (by kernel_rfl) (fun _ _ _ h => h) (fun o wq e hS => exec_index (u1 := .slice (some ⟨l, 0, none⟩) nd c) (u2 := .int .i64 (d : Int)) wq e (by kernel_rfl) (by kernel_rfl) (index_slice Try.underlying63 (by kernel_rfl) l 0 nd c d hd _)) HS.out ?_
  refine takeG 11 (.load 67 (.tmp 28)) (some 29) none (.slice (some ⟨hb, 0, none⟩) ns cd) (by kernel_rfl) (by kernel_rfl) (by kernel_rfl) (fun _ _ _ h => h) (fun o wq e hS => exec_load (x := (.tmp 28)) e (by kernel_rfl) (load_one Try.underlying67 (by kernel_rfl) hS.2)) HS.out ?_
  refine takeG 12 (.call ⟨.builtin .len, #[(.tmp 29)], #[67]⟩) (some 30) none (.int .i64 (ns : Int)) (by kernel_rfl) (by kernel_rfl) (by kernel_rfl) (fun _ _ _ h => h) (fun o wq e hS => exec_lenR (u := .slice (some ⟨hb, 0, none⟩) ns cd) wq e (by kernel_rfl) (len_strs _ (some ⟨hb, 0, none⟩) ns cd _)) HS.out ?_
  refine loneG 13 (.call ⟨.value (.func 24), #[(.tmp 30)], #[3]⟩) (some 31) none (by kernel_rfl) (by kernel_rfl) (by kernel_rfl) ?_
  intro o ho hod
  refine wp_callC (f := 24) (args := #[.int .i64 (ns : Int)]) (by cases o; cases ho; kernel_rfl) (blank_k _ ns hns) ?_
  rintro e w4 ⟨v4, rfl, n4, b4⟩
  obtain ⟨h2, c2, rfl⟩ := own_some n4 hns0
  refine ⟨.slice (some ⟨h2, 0, none⟩) ns c2, rfl, ?_⟩
  rw [hod]
  clear hod ho
  have HS2 : Hid (w4.cell? ⟨g, 0, none⟩ = some (.slice (some ⟨l, 0, none⟩) nd c) ∧ w4.cell? ⟨l, 0 + d, none⟩ = some (.slice (some ⟨hb, 0, none⟩) ns cd)) := Lib.hid ⟨(b4.cell (p := ⟨g, 0, none⟩) (block_lt_of_cell HS.out.1)).trans HS.out.1, (b4.cell (p := ⟨l, 0 + d, none⟩) (block_lt_of_cell HS.out.2)).trans HS.out.2⟩
  have T4 := Lib.hid ((HT.out).below b4)
  have N4 := Lib.hid n4
  have K4 := Lib.hid (K3.out.new b4 HT.out.le)
  have HB4 := Lib.hid HT.out.le
  have HNE : Hid (∀ d', d' < nd → H d' ≠ h2) := Lib.hid fun d' hd' e => by
    have q1 := (own_lt (HT.out.rows d' (by rw [HND.out]; exact hd')) (g := H d') rfl).1
    have q2 := (own_lt n4 (g := h2) rfl).2
    omega
  have FZ := Lib.hid (T4.out.heads.frozenAt (0 + d))
  clear n4 b4
  refine ⟨fun _ => HS2.out, ?_⟩
  refine loneG 14 (.indexAddr 63 (.tmp 21) (.tmp 22)) (some 32) none (by kernel_rfl) (by kernel_rfl) (by kernel_rfl) ?_
  intro o ho hod
  refine wp_val (v := .pointer (some ⟨l, 0 + d, none⟩)) (exec_index (u1 := .slice (some ⟨l, 0, none⟩) nd c) (u2 := .int .i64 (d : Int)) _ ho (by kernel_rfl) (by kernel_rfl) (index_slice Try.underlying63 (by kernel_rfl) l 0 nd c d hd _)) ?_
  rw [hod]
  clear hod ho
  refine ⟨fun _ => HS2.out, ?_⟩
  refine lastStore 15 67 (.tmp 32) (.tmp 31) (.pointer (some ⟨l, 0 + d, none⟩)) (.slice (some ⟨h2, 0, none⟩) ns c2) _ (by kernel_rfl) (by kernel_rfl) (by kernel_rfl) rfl (by kernel_rfl) (by kernel_rfl) (store_one (by kernel_rfl) rfl rfl (by rw [HS2.out.2]; rfl) FZ.out (by rw [add_plain]; rfl)) ?_
  simp only [put_some, put_none, List.setIfInBounds_toArray, List.set_cons_succ, List.set_cons_zero]
  rw [Nat.zero_add d]
  obtain rfl := HNS.out
  have hq := TK.sethead (X := fun _ => zeros) (d := d) (h2 := h2) (c2 := c2) (T4.out) (by rw [HND.out]; exact hd) (N4.out) HB4.out (fun d' hd' => HNE.out d' (by rw [← HND.out]; exact hd'))
  have H9 := Lib.hid hq.1
  have K9 := Lib.hid (K4.out.trans hq.2)
  clear hq HS HS2 HT T4 N4 K4 K3 HB4 HNE FZ c1 k1 f1
  go_wp2_with fail
  go_ret
  exact ⟨rfl, ⟨_, _, _, _, _, H9.out⟩, K9.out⟩
end
end refRack
end Go.Proofs.Ytlbmeaioiiflkaa
