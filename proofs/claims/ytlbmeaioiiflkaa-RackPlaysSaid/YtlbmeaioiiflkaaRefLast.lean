/-
  The document's rack by contracts: last, Flush, Crash. Conditions: the rack is one.
-/
import Derived.Test.YtlbmeaioiiflkaaRefKeep
import Derived.Test.YtlbmeaioiiflkaaRackFlush
import Derived.Test.YtlbmeaioiiflkaaRackCrash
import Derived.Test.YtlbmeaioiiflkaaDrawMore
namespace Go.Proofs.Ytlbmeaioiiflkaa
open Go Go.RowKit
set_option maxRecDepth 100000
set_option linter.unusedVariables false
namespace refRack
section
variable {B : Nat} {w w' : World} {g : Nat} {s : RS} {vL vG vW : Value} {H C : Nat → Nat}
theorem textL_set {n a : Nat} (X : Nat → Nat → Nat) (x : Nat → Nat) (h : a < n) : (textL n X).set a (textV x) = textL n (fun a' => if a' = a then x else X a') := by
  apply List.ext_getElem?
  intro j
  rw [List.getElem?_set]
  by_cases hj : j < n
  · rw [textL_get _ hj, textL_get _ hj]
    by_cases e : a = j
    · subst e
      rw [if_pos rfl, if_pos (by simp [textL]; exact h), if_pos rfl]
    · rw [if_neg e, if_neg (fun q => e q.symm)]
  · rw [List.getElem?_eq_none (l := textL n X) (by simp [textL]; omega), List.getElem?_eq_none (l := textL n _) (by simp [textL]; omega)]
    have : (textL n X).length = n := by simp [textL]
    by_cases e : a = j
    · omega
    · rw [if_neg e]
/-- a sector's text is another one -/
theorem TK.setText (h : TK B w g s vL vG vW H C) {d a : Nat} (hd : d < s.nd) (ha : a < s.ns) (x : Nat → Nat) :
    TK B (w.setCell ⟨H d, a, none⟩ (textV x)) g { s with last := fun d' a' => if d' = d ∧ a' = a then x else s.last d' a' } vL vG vW H C ∧ KeepR B w (w.setCell ⟨H d, a, none⟩ (textV x)) := by
  have hrow := h.rows d hd
  have hob : (Value.slice (some ⟨H d, 0, none⟩) s.ns (C d)).ownBlock = some (H d) := rfl
  have ok : ∀ {n c : Nat} {t : TypeId} {v : Value} {xs : List Value}, (9 == t) = false → w.ownsRow B t c v n xs → (w.setCell ⟨H d, a, none⟩ (textV x)).ownsRow B t c v n xs := fun he h1 => own_keep h1 fun g1 hg1 => Below.heap_setCell w ⟨H d, a, none⟩ (textV x) g1 (fun e => own_type hrow h1 he hob (by rw [hg1, e]))
  refine ⟨⟨?_, h.hg, ok rfl h.heads, fun d' hd' => ?_, h.apart, ok rfl h.lost, ok rfl h.waits⟩, (KeepR.refl B w).of_grown (grown_set w _ a _) (own_lt hrow hob).2 h.le (own_obj hrow rfl hob)⟩
  · exact h.blk.far (p := ⟨H d, a, none⟩) (fun e => own_not_blk hrow h.blk rfl (by rw [hob]; exact congrArg some e.symm)) _
  · by_cases e : d' = d
    · subst e
      have h2 := ((h.rows d' hd').stored a (textV x)).1
      rw [textL_set _ _ ha] at h2
      have e2 : (fun a' => if a' = a then x else s.last d' a') = (fun a' => if d' = d' ∧ a' = a then x else s.last d' a') := by
        funext a'
        by_cases q : a' = a
        · rw [if_pos q, if_pos ⟨rfl, q⟩]
        · rw [if_neg q, if_neg (fun z => q z.2)]
      rw [e2] at h2
      exact h2
    · have e2 : (fun a' => if d' = d ∧ a' = a then x else s.last d' a') = s.last d' := by
        funext a'
        rw [if_neg (fun z => e z.1)]
      show (w.setCell ⟨H d, a, none⟩ (textV x)).ownsRow B 9 1 _ s.ns (textL s.ns (fun a' => if d' = d ∧ a' = a then x else s.last d' a'))
      rw [e2]
      exact own_keep (h.rows d' hd') fun g1 hg1 => Below.heap_setCell w ⟨H d, a, none⟩ (textV x) g1 (fun q => h.apart d' d hd' hd e (by simp [Value.ownBlock] at hg1; rw [hg1]; exact q))
set_option maxHeartbeats 800000 in
theorem last_k (w : World) (g : Nat) (s : RS) (d a : Nat) (x : Nat → Nat) (h : TK B w g s vL vG vW H C) (hd : d < s.nd) (ha : a < s.ns) :
    Calls Try.prog 36 #[.pointer (some ⟨g, 0, none⟩), .agg #[.int .i64 (d : Int), .int .i64 (a : Int), textV x]] w fun e w' => e = .returned (.tuple #[]) ∧ TK B w' g { s with last := fun d' a' => if d' = d ∧ a' = a then x else s.last d' a' } vL vG vW H C ∧ KeepR B w w' := by
  have hb1 : Below w.heap.size w (w.alloc (.cells #[.int .i64 (d : Int), .int .i64 (a : Int), textV x] 75)).drew := ((Below.refl _ _).alloc (Nat.le_refl _) _).drew
  have h1 := h.below hb1
  have K1 := Lib.hid ((KeepR.refl B w).new hb1 h.le)
  obtain ⟨l, c, rfl, k1, _⟩ := h1.head hd
  obtain ⟨k2, k3⟩ := h1.text hd ha
  have k0 := h1.c0
  have X1 := Blk.new w 75 #[.int .i64 (d : Int), .int .i64 (a : Int), textV x]
  have HP := Lib.hid (h1.setText hd ha x)
  have HT : Hid ((w.alloc (.cells #[.int .i64 (d : Int), .int .i64 (a : Int), textV x] 75)).drew.cell? ⟨H d, 0 + a, none⟩ = some (textV (s.last d a)) ∧ (w.alloc (.cells #[.int .i64 (d : Int), .int .i64 (a : Int), textV x] 75)).drew.frozen? ⟨H d, 0 + a, none⟩ = false) := Lib.hid (by rw [Nat.zero_add]; exact ⟨k2, k3⟩)
  have HS : Hid ((fun w' : World => w'.cell? ⟨g, 0, none⟩ = some (.slice (some ⟨l, 0, none⟩) s.nd c) ∧ w'.cell? ⟨l, 0 + d, none⟩ = some (.slice (some ⟨H d, 0, none⟩) s.ns (C d)) ∧ w'.cell? ⟨w.heap.size, 0, none⟩ = some (.int .i64 (d : Int)) ∧ w'.cell? ⟨w.heap.size, 1, none⟩ = some (.int .i64 (a : Int)) ∧ w'.cell? ⟨w.heap.size, 2, none⟩ = some (textV x)) (w.alloc (.cells #[.int .i64 (d : Int), .int .i64 (a : Int), textV x] 75)).drew) :=
    Lib.hid ⟨k0, by rw [Nat.zero_add]; exact k1, X1.cell 0, X1.cell 1, X1.cell 2⟩
  generalize H d = hb at *
  generalize C d = cd at *
  clear h h1 hb1 k0 k1 k2 k3 X1
  obtain ⟨nd, hnd⟩ : ∃ nd, nd = s.nd := ⟨_, rfl⟩
  obtain ⟨ns, hns⟩ : ∃ ns, ns = s.ns := ⟨_, rfl⟩
  rw [← hnd] at hd HS
  rw [← hns] at ha HS
  clear hnd hns
  go_enter Try.func36, Try.ntmps36
  go_wp2_with fail
  refine region_anyZ (fun w' => w'.cell? ⟨g, 0, none⟩ = some (.slice (some ⟨l, 0, none⟩) nd c) ∧ w'.cell? ⟨l, 0 + d, none⟩ = some (.slice (some ⟨hb, 0, none⟩) ns cd) ∧ w'.cell? ⟨w.heap.size, 0, none⟩ = some (.int .i64 (d : Int)) ∧ w'.cell? ⟨w.heap.size, 1, none⟩ = some (.int .i64 (a : Int)) ∧ w'.cell? ⟨w.heap.size, 2, none⟩ = some (textV x)) 13 (by kernel_rfl) ?_
  refine takeG 0 (.move (.tmp 0)) (some 4) none (.pointer (some ⟨g, 0, none⟩)) (by kernel_rfl) (by kernel_rfl) (by kernel_rfl) (fun _ _ _ h => h) (fun o wq e hS => exec_move wq e (by kernel_rfl)) HS.out ?_
  refine takeG 1 (.nilCheck (.tmp 4)) (some 5) none (.pointer (some ⟨g, 0, none⟩)) (by kernel_rfl) (by kernel_rfl) (by kernel_rfl) (fun _ _ _ h => h) (fun o wq e hS => exec_nil wq e (by kernel_rfl)) HS.out ?_
  refine takeG 2 (.fieldAddr 66 (.tmp 5) 0) (some 6) none (.pointer (some ⟨g, 0, none⟩)) (by kernel_rfl) (by kernel_rfl) (by kernel_rfl) (fun _ _ _ h => h) (fun o wq e hS => exec_field (u := .pointer (some ⟨g, 0, none⟩)) wq e (by kernel_rfl) (by kernel_rfl)) HS.out ?_
  refine takeG 3 (.load 63 (.tmp 6)) (some 7) none (.slice (some ⟨l, 0, none⟩) nd c) (by kernel_rfl) (by kernel_rfl) (by kernel_rfl) (fun _ _ _ h => h) (fun o wq e hS => exec_load (x := (.tmp 6)) e (by kernel_rfl) (load_one Try.underlying63 (by kernel_rfl) hS.1)) HS.out ?_
  refine takeG 4 (.fieldAddr 75 (.tmp 3) 0) (some 8) none (.pointer (some ⟨w.heap.size, 0, none⟩)) (by kernel_rfl) (by kernel_rfl) (by kernel_rfl) (fun _ _ _ h => h) (fun o wq e hS => exec_field (u := .pointer (some ⟨w.heap.size, 0, none⟩)) wq e (by kernel_rfl) (by kernel_rfl)) HS.out ?_
  refine takeG 5 (.load 3 (.tmp 8)) (some 9) none (.int .i64 (d : Int)) (by kernel_rfl) (by kernel_rfl) (by kernel_rfl) (fun _ _ _ h => h) (fun o wq e hS => exec_load (x := (.tmp 8)) e (by kernel_rfl) (load_one Try.underlying3 (by kernel_rfl) hS.2.2.1)) HS.out ?_
  refine takeG 6 (.indexAddr 63 (.tmp 7) (.tmp 9)) (some 10) none (.pointer (some ⟨l, 0 + d, none⟩)) (by kernel_rfl) (by kernel_rfl) (by kernel_rfl) (fun _ _ _ h => h) (fun o wq e hS => exec_index (u1 := .slice (some ⟨l, 0, none⟩) nd c) (u2 := .int .i64 (d : Int)) wq e (by kernel_rfl) (by kernel_rfl) (index_slice Try.underlying63 (by kernel_rfl) l 0 nd c d hd _)) HS.out ?_
  refine takeG 7 (.load 67 (.tmp 10)) (some 11) none (.slice (some ⟨hb, 0, none⟩) ns cd) (by kernel_rfl) (by kernel_rfl) (by kernel_rfl) (fun _ _ _ h => h) (fun o wq e hS => exec_load (x := (.tmp 10)) e (by kernel_rfl) (load_one Try.underlying67 (by kernel_rfl) hS.2.1)) HS.out ?_
  refine takeG 8 (.fieldAddr 75 (.tmp 3) 1) (some 12) none (.pointer (some ⟨w.heap.size, 1, none⟩)) (by kernel_rfl) (by kernel_rfl) (by kernel_rfl) (fun _ _ _ h => h) (fun o wq e hS => exec_field (u := .pointer (some ⟨w.heap.size, 0, none⟩)) wq e (by kernel_rfl) (by kernel_rfl)) HS.out ?_
  refine takeG 9 (.load 3 (.tmp 12)) (some 13) none (.int .i64 (a : Int)) (by kernel_rfl) (by kernel_rfl) (by kernel_rfl) (fun _ _ _ h => h) (fun o wq e hS => exec_load (x := (.tmp 12)) e (by kernel_rfl) (load_one Try.underlying3 (by kernel_rfl) hS.2.2.2.1)) HS.out ?_
  refine takeG 10 (.fieldAddr 75 (.tmp 3) 2) (some 14) none (.pointer (some ⟨w.heap.size, 2, none⟩)) (by kernel_rfl) (by kernel_rfl) (by kernel_rfl) (fun _ _ _ h => h) (fun o wq e hS => exec_field (u := .pointer (some ⟨w.heap.size, 0, none⟩)) wq e (by kernel_rfl) (by kernel_rfl)) HS.out ?_
  refine takeG 11 (.load 9 (.tmp 14)) (some 15) none (textV x) (by kernel_rfl) (by kernel_rfl) (by kernel_rfl) (fun _ _ _ h => h) (fun o wq e hS => exec_load (x := (.tmp 14)) e (by kernel_rfl) (load_one Try.underlying9 (by kernel_rfl) hS.2.2.2.2)) HS.out ?_
  refine takeG 12 (.indexAddr 67 (.tmp 11) (.tmp 13)) (some 16) none (.pointer (some ⟨hb, 0 + a, none⟩)) (by kernel_rfl) (by kernel_rfl) (by kernel_rfl) (fun _ _ _ h => h) (fun o wq e hS => exec_index (u1 := .slice (some ⟨hb, 0, none⟩) ns cd) (u2 := .int .i64 (a : Int)) wq e (by kernel_rfl) (by kernel_rfl) (index_slice Try.underlying67 (by kernel_rfl) hb 0 ns cd a ha _)) HS.out ?_
  refine lastStore 13 9 (.tmp 16) (.tmp 15) (.pointer (some ⟨hb, 0 + a, none⟩)) (textV x) _ (by kernel_rfl) (by kernel_rfl) (by kernel_rfl) rfl (by kernel_rfl) (by kernel_rfl) (store_one (by kernel_rfl) rfl rfl (by rw [HT.out.1]; rfl) HT.out.2 (by rw [add_plain]; rfl)) ?_
  simp only [put_some, put_none, List.setIfInBounds_toArray, List.set_cons_succ, List.set_cons_zero]
  rw [Nat.zero_add a]
  have H9 := Lib.hid HP.out.1
  have K9 := Lib.hid (K1.out.trans HP.out.2)
  clear HP HS HT K1
  go_wp2_with fail
  go_end0
  exact ⟨rfl, H9.out, K9.out⟩
end
end refRack
end Go.Proofs.Ytlbmeaioiiflkaa
