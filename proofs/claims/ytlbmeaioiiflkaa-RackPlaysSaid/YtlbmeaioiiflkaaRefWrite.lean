/-
  The document's rack by contracts: Write, forget, Lose. Conditions: the rack is one; fewer than two million writes wait.
-/
import Derived.Test.YtlbmeaioiiflkaaRefCrash
import Derived.Maps.AppendAt
namespace Go.Proofs.Ytlbmeaioiiflkaa
open Go Go.RowKit
set_option maxRecDepth 100000
set_option linter.unusedVariables false
namespace refRack
theorem info_waitR : (Try.prog.info? 75).map (fun i => (i.zero, i.size, i.bytes)) = some (some (.agg #[.int .i64 0, .int .i64 0, .string ⟨#[]⟩]), 3, 32) := by kernel_rfl
theorem info_parts3 {i? : Option TypeInfo} {z : Value} {s b : Nat} (h : i?.map (fun i => (i.zero, i.size, i.bytes)) = some (some z, s, b)) : ∃ i, i? = some i ∧ i.zero = some z ∧ i.size = s ∧ i.bytes = b := by
  cases i? with
  | none => simp at h
  | some i => simp at h; exact ⟨i, rfl, h.1, h.2.1, h.2.2⟩
theorem waitV_one (y : Wt) : ∀ u ∈ waitV y, u.oneCell' = true := fun u hu => by
  simp only [waitV, List.mem_cons, List.not_mem_nil, or_false] at hu
  rcases hu with rfl | rfl | rfl <;> rfl
theorem wpList_append_waitR {w : World} {ops : Array Oper} {rest : List Oper} {o : Oper} {a : Act} {Q : Exit → Act → World → Prop} (hgd : o.guard = none) (s x : Operand)
    (ho : o.op = .call { callee := .builtin .append, args := #[s, x], argTypes := #[64, 64] }) {base n c : Nat} {v : Value} {xs : List Value} {ad : Addr} {y : Wt} (hs : a.eval s = v) (hx : a.eval x = .slice (some ad) 1 c)
    (hown : w.ownsRow base 75 3 v n xs) (hnews : ∀ j u, (waitV y)[j]? = some u → w.cell? (ad.add j) = some u) (hn : n + 1 ≤ 2000000) (hb : base ≤ w.heap.size)
    (h : ∀ v' w', w'.ownsRow base 75 3 v' (n + 1) (xs ++ waitV y) → w.grownBy w' v.ownBlock → wpList Try.prog ops Q rest (a.put o.dst v') w') : wpList Try.prog ops Q (o :: rest) a w := by
  obtain ⟨i0, hi, hz0, hz1, hz2⟩ := info_parts3 info_waitR
  exact wpList_append_own_at (P := Try.prog) w hgd s x 64 ho base 75 i0 _ 3 32 Try.underlying64 hi hz0 hz1 hz2 rfl (by omega) v n xs hs hown ad 1 c (waitV y) hx rfl hnews (waitV_one y) (by unfold maxLen; omega) (by omega) hb fun v' w' h1 h2 _ _ => h v' w' h1 h2
theorem wait_new (w : World) (y : Wt) : ∀ j u, (waitV y)[j]? = some u → (w.alloc (.cells #[.int .i64 (y.d : Int), .int .i64 (y.a : Int), textV y.x] 75)).cell? ((⟨w.heap.size, 0, none⟩ : Addr).add j) = some u := by
  intro j u hj
  rw [add_plain, Nat.zero_add, cell_of_row _ _ _ _ _ _ (Blk.new w 75 #[.int .i64 (y.d : Int), .int .i64 (y.a : Int), textV y.x])]
  simpa [waitV] using hj
section
variable {B : Nat} {w w' : World} {g : Nat} {s : RS} {vL vG vW : Value} {H C : Nat → Nat}
/-- another row of what waits, made of the old one -/
theorem TK.pushW (h : TK B w g s vL vG vW H C) (hg : w.grownBy w' vW.ownBlock) {vW' : Value} {n' : Nat} {W' : Nat → Wt} (hw : w'.ownsRow B 75 3 vW' n' (waitL W' n')) :
    TK B (w'.setCell ⟨g, 2, none⟩ vW') g { s with nw := n', W := W' } vL vG vW' H C ∧ KeepR B w (w'.setCell ⟨g, 2, none⟩ vW') ∧ w'.cell? ⟨g, 2, none⟩ = some vW ∧ w'.frozen? ⟨g, 2, none⟩ = false := by
  have hlt : ∀ {k : Nat} {o : Obj}, w.heap[k]? = some o → k < w.heap.size := fun e => (Array.getElem?_eq_some_iff.1 e).1
  have hbg : Blk w' g 66 (cells s vL vG vW) := (hg.block g h.blk.lt (fun e => own_not_blk h.waits h.blk rfl e.symm)).trans h.blk
  have ok : ∀ {n c : Nat} {t : TypeId} {v : Value} {xs : List Value}, (t == 66) = false → (t == 75) = false → w.ownsRow B t c v n xs → (w'.setCell ⟨g, 2, none⟩ vW').ownsRow B t c v n xs := fun he he2 h1 => own_keep (own_keep (w' := w') h1 fun g1 hg1 => hg.block g1 (own_lt h1 hg1).1 (fun e => own_type h1 h.waits he2 hg1 e.symm)) fun g1 hg1 => Below.heap_setCell w' ⟨g, 2, none⟩ vW' g1 (fun e => own_not_blk h1 h.blk he (by rw [hg1]; exact congrArg some e))
  have hw2 : (w'.setCell ⟨g, 2, none⟩ vW').ownsRow B 75 3 vW' n' (waitL W' n') := own_keep hw fun g1 hg1 => Below.heap_setCell w' ⟨g, 2, none⟩ vW' g1 (fun e => own_not_blk hw hbg rfl (by rw [hg1]; exact congrArg some e))
  have k1 : KeepR B w w' := (KeepR.refl B w).row h.waits rfl h.le hg
  refine ⟨⟨hbg.set_ 2 vW', h.hg, ok rfl rfl h.heads, fun d hd => ok rfl rfl (h.rows d hd), h.apart, ok rfl rfl h.lost, hw2⟩, ?_, hbg.cell 2, hbg.frozen 2⟩
  exact k1.of_grown (grown_set w' g 2 vW') h.hg (Nat.le_trans h.le hg.size) fun o ho => by
    unfold Blk at hbg
    rw [hbg] at ho
    injection ho with ho
    subst ho
    rfl
theorem waitL_push (W : Nat → Wt) (n : Nat) (y : Wt) : waitL W n ++ waitV y = waitL (fun i => if i = n then y else W i) (n + 1) := by
  show _ = waitL (fun i => if i = n then y else W i) n ++ waitV (if n = n then y else W n)
  rw [if_pos rfl, waitL_congr (W := W) (V := fun i => if i = n then y else W i) fun i hi => (if_neg (by omega)).symm]
theorem write_size_k (w : World) (g : Nat) (s : RS) (D E : Int) (S : ByteArray) (hn : S.size ≠ 128) (h : TK B w g s vL vG vW H C) :
    Calls Try.prog 26 #[.pointer (some ⟨g, 0, none⟩), .int .i64 D, .int .i64 E, .string S] w fun e w' => e = .returned (.int .i64 1) ∧ w' = w := by
  have HI := Lib.hid (in_k w g s D E h)
  have t2 : ((S.size : Int) != 128) = true := by simp; omega
  clear h
  cases hp : s.isP D E with
  | true =>
    rw [hp] at HI
    clear hp
    go_enter Try.func26, Try.ntmps26
    go_wp2_with fail
    refine HI.out.mono ?_
    rintro e w' ⟨rfl, rfl⟩
    go_wp2_with fail
    go_ret
    exact ⟨rfl, rfl⟩
  | false =>
    rw [hp] at HI
    clear hp
    go_enter Try.func26, Try.ntmps26
    go_wp2_with fail
    refine HI.out.mono ?_
    rintro e w' ⟨rfl, rfl⟩
    go_wp2_with fail
    go_ret
    exact ⟨rfl, rfl⟩
theorem write_why_k (w : World) (g : Nat) (s : RS) (D E : Int) (S : ByteArray) (hn : S.size = 128) (hw : s.why D E ≠ 0) (h : TK B w g s vL vG vW H C) :
    Calls Try.prog 26 #[.pointer (some ⟨g, 0, none⟩), .int .i64 D, .int .i64 E, .string S] w fun e w' => e = .returned (.int .i64 (s.why D E)) ∧ w' = w := by
  have HI := Lib.hid (in_k w g s D E h)
  have t2 : ((S.size : Int) != 128) = false := by simp; omega
  cases hp : s.isP D E with
  | true =>
    rw [hp] at HI
    obtain ⟨d, rfl, hd⟩ : ∃ d : Nat, D = (d : Int) ∧ d < s.nd := by
      simp [RS.isP, RS.isD] at hp
      exact ⟨D.toNat, by omega, by omega⟩
    have hg : s.gone d = true := by
      unfold RS.why at hw
      rw [hp, if_pos rfl, Int.toNat_natCast] at hw
      cases e : s.gone d with
      | true => rfl
      | false => rw [e] at hw; simp at hw
    have hy : s.why (d : Int) E = 3 := by
      unfold RS.why
      rw [hp, if_pos rfl, Int.toNat_natCast, hg]
      rfl
    rw [hy]
    have c1 := h.c1
    obtain ⟨l, c, rfl, k1, _⟩ := h.gone hd
    rw [hg] at k1
    have i0 : (0 : Int) ≤ (d : Int) := by omega
    have i1 : (d : Int) < (s.nd : Int) := by omega
    clear h hw hp hg hy hd
    go_enter Try.func26, Try.ntmps26
    go_wp2_with fail
    refine HI.out.mono ?_
    rintro e w' ⟨rfl, rfl⟩
    go_wp2_with fail
    go_ret
    exact ⟨rfl, rfl⟩
  | false =>
    rw [hp] at HI
    have hy : s.why D E = 1 := by
      unfold RS.why
      rw [hp]
      rfl
    rw [hy]
    clear hp h hw hy
    go_enter Try.func26, Try.ntmps26
    go_wp2_with fail
    refine HI.out.mono ?_
    rintro e w' ⟨rfl, rfl⟩
    go_wp2_with fail
    go_ret
    exact ⟨rfl, rfl⟩
end
end refRack
end Go.Proofs.Ytlbmeaioiiflkaa
