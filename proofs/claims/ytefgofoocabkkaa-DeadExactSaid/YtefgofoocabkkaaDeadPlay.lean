/-
  The law's history: its line in a cell, the calls on it, and the row of what is freed. No conditions beyond those that each theorem types.
-/
import Derived.Test.YtefgofoocabkkaaDeadHist
namespace Go.Proofs.Ytefgofoocabkkaa
open Go Go.RowKit
set_option maxRecDepth 100000
set_option linter.unusedVariables false
namespace Dd
def LS (w : World) (g : Nat) (L : Ln) (A : Option Addr) (c : Nat) (A' : Option Addr) (c' : Nat) : Prop :=
  Blk w g 28 #[.int .i64 L.base, .slice A L.snaps.length c, .slice A' L.dead.length c'] ∧ ∃ vs, LnO 51 w 0 A c A' c' vs L
section
variable {w w1 w' : World} {g : Nat} {L M : Ln} {A A' A2 A3 : Option Addr} {c c' c2 c3 a : Nat} {vs : List SV} {x0 x1 x2 : Value}
theorem LS.below (h : LS w g L A c A' c') (hb : Below w.heap.size w w') : LS w' g L A c A' c' :=
  ⟨h.1.below hb h.1.lt, by obtain ⟨vs, h2⟩ := h.2; exact ⟨vs, h2.below hb (Nat.le_refl _)⟩⟩
theorem put_far {x y z : Value} {g' : Nat} (hg : g' ≠ g) : (((w.setCell ⟨g, 0, none⟩ x).setCell ⟨g, 1, none⟩ y).setCell ⟨g, 2, none⟩ z).heap[g']? = w.heap[g']? :=
  ((Below.heap_setCell _ ⟨g, 2, none⟩ _ g' hg).trans (Below.heap_setCell _ ⟨g, 1, none⟩ _ g' hg)).trans (Below.heap_setCell _ ⟨g, 0, none⟩ _ g' hg)
theorem put_below {x y z : Value} {B : Nat} {w0 : World} (h : Below B w0 w) (hg : B ≤ g) : Below B w0 (((w.setCell ⟨g, 0, none⟩ x).setCell ⟨g, 1, none⟩ y).setCell ⟨g, 2, none⟩ z) :=
  ((h.setCell (p := ⟨g, 0, none⟩) hg _).setCell (p := ⟨g, 1, none⟩) hg _).setCell (p := ⟨g, 2, none⟩) hg _
theorem ls_put (hg : Blk w1 g 28 #[x0, x1, x2]) (h : LnO 51 w1 0 A2 c2 A3 c3 vs M) :
    LS (((w1.setCell ⟨g, 0, none⟩ (.int .i64 M.base)).setCell ⟨g, 1, none⟩ (.slice A2 M.snaps.length c2)).setCell ⟨g, 2, none⟩ (.slice A3 M.dead.length c3)) g M A2 c2 A3 c3 :=
  ⟨((hg.set_ 0 _).set_ 1 _).set_ 2 _, vs, h.notline hg (by decide) (by decide) fun g' hg' => put_far hg'⟩
theorem snap_ls {t : Int} (h : LS w g L A c A' c') (ho : Ho L a) (hl : aheadL L L.snaps.length ≤ t) (h0 : 0 ≤ t) (ht : t + 2 ≤ 60) (hs : L.snaps.length < 30) :
    ∃ M, Ho M a ∧ (allB M).length = (allB L).length ∧ aheadL M M.snaps.length = t + 2 ∧ M.snaps.length = L.snaps.length + 1 ∧ ∀ x, x = t + 2 → Calls Try.prog 7 #[.agg #[.int .i64 L.base, .slice A L.snaps.length c, .slice A' L.dead.length c'], .int .i64 x] w fun e w' => ∃ v, e = .returned (.tuple #[v, .int .i64 0]) ∧ LnV 51 w' 0 v M ∧ Below w.heap.size w w' := by
  obtain ⟨s1, s2, s3, s4⟩ := ho.snap hl h0 ht hs
  obtain ⟨hb, vs, hv⟩ := h
  refine ⟨⟨L.base, L.snaps ++ [⟨t + 2, L.dead⟩], []⟩, s2, by rw [s3], ?_, ?_, fun x hx => ?_⟩
  · show aheadL _ (L.snaps ++ [_]).length = _
    rw [List.length_append, List.length_singleton]
    exact s4
  · show (L.snaps ++ [_]).length = _
    simp
  · subst hx
    refine (snapshot_at w L (t + 2) A A' c c' ho.fit.1 hv.rs.1 hv.rs.2 hv.rd.1 hv.rd.2).mono ?_
    rintro e w' ⟨v, he, hv', hb'⟩
    rw [s1] at he hv'
    exact ⟨v, he, hv'.base_ (Nat.zero_le _), hb'⟩
theorem free_ls {t : Int} (h : LS w g L A c A' c') (ho : Ho L a) (hl : aheadL L L.snaps.length ≤ t) (x : Int) (hx : x = t + 1) :
    Calls Try.prog 5 #[.agg #[.int .i64 L.base, .slice A L.snaps.length c, .slice A' L.dead.length c'], .agg #[.int .i64 (a : Int), .int .i64 0, .int .i64 x, .string ⟨#[]⟩]] w fun e w' => ∃ v, e = .returned (.tuple #[v, .bool true, .int .i64 0]) ∧ LnV 51 w' 0 v L ∧ Below w.heap.size w w' := by
  have s1 := ho.free hl
  obtain ⟨hb, vs, hv⟩ := h
  subst hx
  refine (kill_at w L ⟨a, 0, t + 1, ⟨#[]⟩⟩ A A' c c' ho.fit.1 hv.rs.1 hv.rs.2 hv.rd.1 hv.rd.2).mono ?_
  rintro e w' ⟨v, he, hv', hb'⟩
  rw [s1] at he hv'
  exact ⟨v, he, hv'.base_ (Nat.zero_le _), hb'⟩
theorem kill_ls {t : Int} (h : LS w g L A c A' c') (ho : Ho L a) (hl : aheadL L L.snaps.length = t + 2) (h0 : 0 ≤ t) (ht : t + 1 ≤ 60) (hln : (allB L).length < 30) :
    ∃ M, Ho M (a + 1) ∧ (allB M).length = (allB L).length + 1 ∧ aheadL M M.snaps.length = t + 2 ∧ M.snaps.length = L.snaps.length ∧ ∀ x, x = t + 1 → Calls Try.prog 5 #[.agg #[.int .i64 L.base, .slice A L.snaps.length c, .slice A' L.dead.length c'], .agg #[.int .i64 (a : Int), .int .i64 0, .int .i64 x, .string ⟨#[]⟩]] w fun e w' => ∃ v, e = .returned (.tuple #[v, .bool false, .int .i64 0]) ∧ LnV 51 w' 0 v M ∧ Below w.heap.size w w' := by
  obtain ⟨s1, s2, s3⟩ := ho.kill hl h0 ht hln
  obtain ⟨hb, vs, hv⟩ := h
  refine ⟨⟨L.base, L.snaps, L.dead ++ [⟨a, 0, t + 1, ⟨#[]⟩⟩]⟩, s2, by rw [s3]; simp, ?_, rfl, fun x hx => ?_⟩
  · rw [← hl]
    exact ahead_dead _
  · subst hx
    refine (kill_at w L ⟨a, 0, t + 1, ⟨#[]⟩⟩ A A' c c' ho.fit.1 hv.rs.1 hv.rs.2 hv.rd.1 hv.rd.2).mono ?_
    rintro e w' ⟨v, he, hv', hb'⟩
    rw [s1] at he hv'
    exact ⟨v, he, hv'.base_ (Nat.zero_le _), hb'⟩
theorem des_ls (h : LS w g L A c A' c') (ho : Ho L a) (k : Nat) (hk : k < L.snaps.length) :
    ∃ (M : Ln) (F : List Pt), Ho M a ∧ (allB M ++ F).Perm (allB L) ∧ M.snaps.length + 1 = L.snaps.length ∧ ∀ x, x = (k : Int) → Calls Try.prog 8 #[.agg #[.int .i64 L.base, .slice A L.snaps.length c, .slice A' L.dead.length c'], .int .i64 x] w fun e w' => ∃ v f, e = .returned (.tuple #[v, f, .int .i64 0]) ∧ LnV 51 w' 0 v M ∧ OwnP w' 0 f F ∧ Below w.heap.size w w' := by
  obtain ⟨M, F, s1, s2, s3, s4⟩ := ho.des (k := (k : Int)) (by omega) (by omega)
  obtain ⟨hb, vs, hv⟩ := h
  refine ⟨M, F, s2, s3, s4, fun x hx => ?_⟩
  subst hx
  refine (destroy_at w L k A A' c c' ho.fit.1 ho.fit.2.1 hv.rs.1 hv.rs.2 hv.rd.1 hv.rd.2).mono ?_
  rintro e w' ⟨v, f, he, hv', hf, hb'⟩
  rw [s1] at he hv' hf
  exact ⟨v, f, he, hv'.base_ (Nat.zero_le _), own_base hf (Nat.zero_le _), hb'⟩
end
/-- which blocks are freed -/
def Fre (w : World) (gF a : Nat) (X : List Int) : Prop := ∃ cur : Array Value, Blk w gF 4 cur ∧ cur.size = a ∧ ∀ n, n < a → cur[n]? = some (.bool (decide ((n : Int) ∈ X)))
theorem Fre.keep {w w' : World} {gF a : Nat} {X : List Int} (h : Fre w gF a X) (hk : w'.heap[gF]? = w.heap[gF]?) : Fre w' gF a X := by
  obtain ⟨cur, h1, h2, h3⟩ := h
  exact ⟨cur, hk.trans h1, h2, h3⟩
theorem Fre.lt {w : World} {gF a : Nat} {X : List Int} (h : Fre w gF a X) : gF < w.heap.size := by
  obtain ⟨cur, h1, h2, h3⟩ := h
  exact h1.lt
theorem Fre.below {w w' : World} {gF a : Nat} {X : List Int} (h : Fre w gF a X) (hb : Below w.heap.size w w') : Fre w' gF a X := h.keep (hb.block gF h.lt)
theorem Fre.at_ {w : World} {gF a n : Nat} {X : List Int} (h : Fre w gF a X) (hn : n < a) (hx : (n : Int) ∉ X) : w.cell? ⟨gF, n, none⟩ = some (.bool false) ∧ w.frozen? ⟨gF, n, none⟩ = false := by
  obtain ⟨cur, h1, h2, h3⟩ := h
  refine ⟨?_, h1.frozen _⟩
  rw [h1.cell, h3 n hn, decide_eq_false hx]
theorem Fre.step {w : World} {gF a n : Nat} {X : List Int} (h : Fre w gF a X) (hn : n < a) : Fre (w.setCell ⟨gF, n, none⟩ (.bool true)) gF a (X ++ [(n : Int)]) := by
  obtain ⟨cur, h1, h2, h3⟩ := h
  refine ⟨_, h1.set_ n (.bool true), by simp [h2], fun m hm => ?_⟩
  rw [Array.getElem?_setIfInBounds]
  by_cases e : n = m
  · subst e
    simp [h2, hn]
  · rw [if_neg e, h3 m hm]
    have e' : ¬ ((m : Int) = (n : Int)) := fun h => e (by omega)
    simp [e']
theorem info_bool : (Try.prog.info? 4).map (fun i => (i.zero, i.size, i.bytes)) = some (some (.bool false), 1, 1) := by kernel_rfl
theorem make_bools (n : Nat) (hn : n ≤ 70000) (w : World) :
    (Instr.makeSlice 31 (.int .i64 (n : Int)) (.int .i64 (n : Int))).run Try.prog w = .ok (.slice (some ⟨w.heap.size, 0, none⟩) n n) (w.alloc (.cells (Array.replicate n (.bool false)) 4)) := by
  obtain ⟨i0, hi, hz0, hz1, hz2⟩ := info_parts info_bool
  have h := run_make (P := Try.prog) (w := w) 31 4 i0 (.bool false) Try.underlying31 hi hz0 .i64 .i64 (n : Int) (n : Int) (by omega) (by omega) (by rw [hz2]; omega) (by omega)
  rw [h, hz1, Int.toNat_natCast, Nat.mul_one]
  show _ = _
  rw [show (Value.bool false).cells = #[.bool false] from rfl, madeCells_one]
theorem Fre.zero (w : World) (n : Nat) : Fre (w.alloc (.cells (Array.replicate n (.bool false)) 4)) w.heap.size n [] :=
  ⟨_, Blk.new _ _ _, by simp, fun m hm => by simp [hm]⟩
theorem nd_fresh {P F X : List Int} (h : (P ++ (F ++ X)).Nodup) {j : Nat} {x : Int} (hx : F[j]? = some x) : x ∉ X ++ F.take j := by
  obtain ⟨_, h1, _⟩ := List.nodup_append.1 h
  obtain ⟨h2, _, h3⟩ := List.nodup_append.1 h1
  intro hm
  rcases List.mem_append.1 hm with hm | hm
  · exact h3 x (List.mem_of_getElem? hx) x hm rfl
  · rw [← List.take_append_drop j F] at h2
    obtain ⟨_, _, h4⟩ := List.nodup_append.1 h2
    refine h4 x hm x ?_ rfl
    refine List.mem_of_getElem? (i := 0) ?_
    rw [List.getElem?_drop]
    exact hx
theorem nd_next {L M F : List Pt} {X : List Int} (hp : (M ++ F).Perm L) (h : ((L.map fun p => p.addr) ++ X).Nodup) : ((M.map fun p => p.addr) ++ ((F.map fun p => p.addr) ++ X)).Nodup := by
  have h1 := ((hp.map fun p : Pt => p.addr).append_right X).nodup_iff.2 h
  rw [List.map_append, List.append_assoc] at h1
  exact h1
theorem nd_end {P F X : List Int} (h : (P ++ (F ++ X)).Nodup) : (P ++ (X ++ F)).Nodup := ((List.perm_append_comm (l₁ := F) (l₂ := X)).append_left P).nodup_iff.1 h
theorem rdi_at {w : World} {A : Option Addr} {l : List Int} (h : Gr.RdG 1 Gr.csI w A l) {i : Nat} {x : Int} (hx : l[i]? = some x) : ∃ g o, A = some ⟨g, o, none⟩ ∧ ∀ w', Below w.heap.size w w' → w'.cell? ⟨g, o + i, none⟩ = some (.int .i64 x) := by
  obtain ⟨b, o, e, hb, hc⟩ := h i x hx
  refine ⟨b, o, e, fun w' hw => ?_⟩
  have h0 := hc 0 (.int .i64 x) rfl
  rw [Nat.mul_one, Nat.add_zero] at h0
  exact (hw.cell (p := ⟨b, o + i, none⟩) hb).trans h0
theorem own_addr {w : World} {n c : Nat} {A : Option Addr} {F : List Pt} (h : OwnP w 0 (.slice A n c) F) {j : Nat} {x : Pt} (hx : F[j]? = some x) : ∃ g, A = some ⟨g, 0, none⟩ ∧ g < w.heap.size ∧ (∃ cur, Blk w g 36 cur) ∧ w.cell? ⟨g, j * 4, none⟩ = some (.int .i64 x.addr) := by
  obtain ⟨g, c', e1, _, ⟨cur, h3⟩, h4⟩ := own_at h (fun _ => rfl) (fun e => by rw [e] at hx; simp at hx)
  injection e1 with e1 _ _
  exact ⟨g, e1, h3.lt, ⟨cur, h3⟩, h4 j x hx 0 _ rfl⟩
theorem umod32 (a : Int) (k : Nat) (hk : 0 < k) (hk2 : k ≤ 1000000) : ∃ n : Nat, wrap64 ((IntKind.u64.wrap a).tmod (k : Int)) = (n : Int) ∧ n < k := by
  have h0 : 0 ≤ IntKind.u64.wrap a := by rw [IntKind.wrap_u64]; omega
  have h1 := Int.tmod_nonneg (k : Int) h0
  have h2 := Int.tmod_lt_of_pos (IntKind.u64.wrap a) (show (0 : Int) < (k : Int) by omega)
  refine ⟨((IntKind.u64.wrap a).tmod (k : Int)).toNat, ?_, by omega⟩
  generalize (IntKind.u64.wrap a).tmod (k : Int) = y at *
  unfold wrap64
  omega
theorem conv_u64 (a : Int) (w : World) : (convert 3 24 (.int .i64 a)).run Try.prog w = .ok (.int .u64 (IntKind.u64.wrap a)) w := by kernel_rfl
theorem conv_u64n (n : Nat) (h : n ≤ 9223372036854775807) (w : World) : (convert 3 24 (.int .i64 (n : Int))).run Try.prog w = .ok (.int .u64 (n : Int)) w := by
  rw [conv_u64, show IntKind.u64.wrap (n : Int) = (n : Int) by rw [IntKind.wrap_u64]; omega]
theorem conv_i64 (a : Int) (w : World) : (convert 24 3 (.int .u64 a)).run Try.prog w = .ok (.int .i64 (IntKind.i64.wrap a)) w := by kernel_rfl
theorem conv_i64n (n : Nat) (h : n ≤ 9223372036854775807) (w : World) : (convert 24 3 (.int .u64 (n : Int))).run Try.prog w = .ok (.int .i64 (n : Int)) w := by
  rw [conv_i64, show IntKind.i64.wrap (n : Int) = (n : Int) by rw [IntKind.wrap_i64]; omega]
theorem rem_at {a b r : Nat} (h : a % b = r) (hb : 0 < b) (w : World) : (binOp .rem 24 (.int .u64 (a : Int)) (.int .u64 (b : Int))).run Try.prog w = .ok (.int .u64 (r : Int)) w := by
  subst h
  have h1 : (a : Int).tmod (b : Int) = ((a % b : Nat) : Int) := by rw [Int.tmod_eq_emod_of_nonneg (by omega), Int.natCast_emod]
  have hne : ¬ (b : Int) = 0 := by omega
  have h2 : (binOp .rem 24 (.int .u64 (a : Int)) (.int .u64 (b : Int))).run Try.prog w = (if (b : Int) = 0 then (runtimePanic (.error "integer divide by zero") : Sem Value) else pure (.int .u64 ((a : Int).tmod (b : Int)))).run Try.prog w := by kernel_rfl
  rw [h2, if_neg hne, h1]
  rfl
theorem u64nat (a : Int) : ∃ q : Nat, IntKind.u64.wrap a = (q : Int) := by
  have h0 : 0 ≤ IntKind.u64.wrap a := by rw [IntKind.wrap_u64]; omega
  exact ⟨(IntKind.u64.wrap a).toNat, by omega⟩
end Dd
end Go.Proofs.Ytefgofoocabkkaa
