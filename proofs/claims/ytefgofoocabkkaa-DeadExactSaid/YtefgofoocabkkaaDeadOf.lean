/-
  The law's own 'of': a line in memory of its own, with spare room. The conditions: the line can be read, its rows have room.
-/
import Derived.Test.YtefgofoocabkkaaDeadCopyM
namespace Go.Proofs.Ytefgofoocabkkaa
open Go Go.RowKit
set_option maxRecDepth 100000
set_option linter.unusedVariables false
namespace Dd
/-- zero blocks -/
def zcs (k : Nat) : Array Value := madeCells #[.int .i64 0, .int .i64 0, .int .i64 0, .string ⟨#[]⟩] (k * 4)
theorem make_pts (m : Nat) (hm : m * 40 ≤ 140737488351432) (w : World) : (Instr.makeSlice 26 (.int .i64 0) (.int .i64 ((m : Int) + 2))).run Try.prog w = .ok (.slice (some ⟨w.heap.size, 0, none⟩) 0 (m + 2)) (w.alloc (.cells (zcs (m + 2)) 36)) := by
  obtain ⟨i0, hi, hz0, hz1, hz2⟩ := info_parts infoP
  have h := run_make (P := Try.prog) (w := w) 26 36 i0 _ Try.underlying26 hi hz0 .i64 .i64 0 ((m : Int) + 2) (by omega) (by omega) (by rw [hz2]; omega) (by omega)
  rw [h, hz1, show ((m : Int) + 2).toNat = m + 2 by omega]
  rfl
theorem zcs_size (k : Nat) : (zcs k).size = k * 4 := by simp [zcs, madeCells]
theorem own_zeros (w : World) (m : Nat) (hm : m * 40 ≤ 140737488351432) : OwnP (w.alloc (.cells (zcs (m + 2)) 36)) w.heap.size (.slice (some ⟨w.heap.size, 0, none⟩) 0 (m + 2)) [] :=
  ⟨rfl, .inr ⟨w.heap.size, m + 2, zcs (m + 2), rfl, Nat.le_refl _, heap_alloc_new w _, Nat.zero_le _, by unfold maxLen; omega, by rw [zcs_size], by simp⟩⟩
theorem add_two (m : Nat) (hm : m * 40 ≤ 140737488351432) (w : World) : (binOp .add 3 (.int .i64 (m : Int)) (.int .i64 2)).run Try.prog w = .ok (.int .i64 ((m : Int) + 2)) w := by
  have e : IntKind.i64.wrap ((m : Int) + 2) = (m : Int) + 2 := by rw [IntWalk.i64_in _ (by omega)]
  have h : (binOp .add 3 (.int .i64 (m : Int)) (.int .i64 2)).run Try.prog w = .ok (.int .i64 (IntKind.i64.wrap ((m : Int) + 2))) w := rfl
  rw [h, e]
/-- a row with room for two more, all of it noughts -/
def SpR (w : World) (v : Value) (D : List Pt) : Prop := ∃ g, v = .slice (some ⟨g, 0, none⟩) D.length (D.length + 2) ∧ Blk w g 36 (D.flatMap csP ++ (zcs 2).toList).toArray
theorem SpR.keep {w w' : World} {v : Value} {D : List Pt} (h : SpR w v D) (hk : ∀ g, v.ownBlock = some g → w'.heap[g]? = w.heap[g]?) : SpR w' v D := by
  obtain ⟨g, rfl, h2⟩ := h
  exact ⟨g, rfl, (hk g rfl).trans h2⟩
theorem SpR.ptr {w w' : World} {v : Value} {D : List Pt} (h : SpR w v D) (hk : ∀ g cur, Blk w g 36 cur → w'.heap[g]? = w.heap[g]?) : SpR w' v D := by
  obtain ⟨g, rfl, h2⟩ := h
  exact ⟨g, rfl, (hk g _ h2).trans h2⟩
def Spared (w : World) (vs : List SV) (S : List Sn) : Prop := vs.length = S.length ∧ ∀ (i : Nat) (s : Sn), S[i]? = some s → ∃ x, vs[i]? = some x ∧ SpR w x.row s.dead
theorem Spared.ptr {w w' : World} {vs : List SV} {S : List Sn} (h : Spared w vs S) (hk : ∀ g cur, Blk w g 36 cur → w'.heap[g]? = w.heap[g]?) : Spared w' vs S :=
  ⟨h.1, fun i s hs => by obtain ⟨x, h1, h2⟩ := h.2 i s hs; exact ⟨x, h1, h2.ptr hk⟩⟩
theorem Spared.snoc {w : World} {vs : List SV} {S : List Sn} {t : Int} {A : Option Addr} {n c : Nat} {D : List Pt} (h : Spared w vs S) (hr : SpR w (.slice A n c) D) (hn : n = D.length) : Spared w (vs ++ [⟨t, A, n, c⟩]) (S ++ [⟨t, D⟩]) := by
  refine ⟨by rw [List.length_append, List.length_append, h.1]; rfl, fun i s hs => ?_⟩
  by_cases hi : i < S.length
  · rw [List.getElem?_append_left hi] at hs
    obtain ⟨x, h1, h2⟩ := h.2 i s hs
    exact ⟨x, by rw [List.getElem?_append_left (by rw [h.1]; exact hi)]; exact h1, h2⟩
  · rw [List.getElem?_append_right (by omega)] at hs
    have e : i - S.length = 0 := by
      have := (List.getElem?_eq_some_iff.1 hs).1
      simp at this
      omega
    rw [e] at hs
    injection hs with hs
    subst hs
    exact ⟨⟨t, A, n, c⟩, by rw [List.getElem?_append_right (by rw [h.1]; omega), h.1, e]; rfl, hr⟩
theorem zcs_split (k : Nat) : (zcs (k + 2)).toList.drop (k * 4) = (zcs 2).toList := by
  apply List.ext_getElem?
  intro j
  rw [List.getElem?_drop, Array.getElem?_toList, Array.getElem?_toList]
  unfold zcs madeCells
  simp only [Array.getElem?_map, Array.getElem?_range]
  by_cases h : j < 2 * 4
  · rw [if_pos (by omega), if_pos h]
    simp only [Option.map_some]
    congr 2
    show (k * 4 + j) % 4 = j % 4
    omega
  · rw [if_neg (by omega), if_neg h]
theorem app_of {w : World} {base b : Nat} {A : Option Addr} {n c : Nat} (h : OwnP w base (.slice (some ⟨b, 0, none⟩) 0 (n + 2)) [] ∧ Blk w b 36 (zcs (n + 2))) (D : List Pt) (hn : n = D.length) (hm : RdP w A D) (hA : A = none → c = 0) (hby : D.length * 40 ≤ 140737488355328) (hb : base ≤ w.heap.size) (ty : TypeId) :
    ∃ v' w', (Builtin.append_ #[26, 26] ty #[.slice (some ⟨b, 0, none⟩) 0 (n + 2), .slice A n c]).run Try.prog w = .ok v' w' ∧ OwnP w' base v' D ∧ Below base w w' ∧ (∀ g, g < w.heap.size → (Value.slice (some ⟨b, 0, none⟩) 0 (n + 2)).ownBlock ≠ some g → w'.heap[g]? = w.heap[g]?) ∧ SpR w' v' D := by
  obtain ⟨i0, hi0, hz0, hz1, hz2⟩ := info_parts infoP
  cases A with
  | none =>
    have e1 : D = [] := by
      cases D with
      | nil => rfl
      | cons x m => obtain ⟨b, o, e, _⟩ := hm 0 x rfl; cases e
    subst e1
    rw [hA rfl]
    subst hn
    exact ⟨_, w, run_append_owned_none w base 26 ty 36 i0 4 Try.underlying26 hi0 _ _ _ h.1, h.1, Below.refl _ _, fun _ _ _ => rfl, b, rfl, h.2⟩
  | some ad =>
    have hr : ∀ j u, (D.flatMap csP)[j]? = some u → w.cell? (ad.add j) = some u := by
      cases D with
      | nil => intro j u hj; simp at hj
      | cons x m' =>
        obtain ⟨b, o, e, _⟩ := hm 0 x rfl
        injection e with e
        subst e
        exact Gr.rd_flat (k := 4) (cs := csP) (fun _ => rfl) (by decide) hm
    have hl : (D.flatMap csP).length = n * 4 := by rw [Gr.flat_length (k := 4) (fun _ => rfl), hn]
    have hB : base ≤ b := by
      rcases h.1.2 with ⟨h1, _⟩ | ⟨g', cap, cur, h1, h2, _⟩
      · cases h1
      · injection h1 with h1
        injection h1 with h1
        injection h1 with h1
        omega
    have hrun := run_append_room (P := Try.prog) w 26 ty 36 i0 Try.underlying26 hi0 b 0 (n + 2) (zcs (n + 2)) h.2 ad n c (D.flatMap csP) (by rw [hz1]; exact hl) hr (fun u hu => by obtain ⟨x, _, hx⟩ := List.mem_flatMap.1 hu; exact csP_one x u hx) (by omega) (by rw [hl, zcs_size]; omega)
    rw [Nat.zero_add, Nat.zero_mul, List.take_zero, List.nil_append, Nat.zero_add, hl, zcs_split] at hrun
    have hblk : Blk (w.setRow b (D.flatMap csP ++ (zcs 2).toList).toArray) b 36 (D.flatMap csP ++ (zcs 2).toList).toArray := setRow_heap w b _ _ 36 _ h.2
    have hoth : ∀ g, g ≠ b → (w.setRow b (D.flatMap csP ++ (zcs 2).toList).toArray).heap[g]? = w.heap[g]? := fun g hg => setRow_other w b g _ hg
    refine ⟨_, _, hrun, ?_, ⟨rfl, rfl, rfl, by simp, fun g hg => hoth g (by omega)⟩, fun g _ hne => hoth g (fun e => hne (by rw [e]; rfl)), b, by rw [hn], hblk⟩
    refine ⟨by rw [hl, hn], .inr ⟨b, n + 2, _, by rw [hn], hB, hblk, by omega, ?_, ?_, ?_⟩⟩
    · unfold maxLen; omega
    · simp only [List.size_toArray, List.length_append, hl, Array.length_toList, zcs_size]; omega
    · rw [← hn, ← hl]
      exact List.take_left

def OfPost (w : World) (L : Ln) (e : Ending) (w' : World) : Prop := ∃ A c A' c' vs, e = .returned (.agg #[.int .i64 L.base, .slice A L.snaps.length c, .slice A' L.dead.length c']) ∧ LnO 51 w' w.heap.size A c A' c' vs L ∧ Spared w' vs L.snaps ∧ SpR w' (.slice A' L.dead.length c') L.dead ∧ Below w.heap.size w w'
end Dd
end Go.Proofs.Ytefgofoocabkkaa
