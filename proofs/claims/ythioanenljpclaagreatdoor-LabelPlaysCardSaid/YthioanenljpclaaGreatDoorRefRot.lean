/-
  The document's rack by contracts: Rot. Conditions: the rack is one; its bytes are bytes.
-/
import Derived.Test.YthioanenljpclaaGreatDoorRefRottenM
import Derived.Test.YthioanenljpclaaGreatDoorRefLastM
namespace Go.Proofs.YthioanenljpclaaGreatDoor
open Go Go.RowKit
set_option maxRecDepth 100000
set_option linter.unusedVariables false
namespace refRack
section
variable {B : Nat} {w w' : World} {g : Nat} {s : RS} {vL vG vW : Value} {H C : Nat → Nat}
theorem waitL_set (W : Nat → Wt) (i : Nat) (X : Nat → Nat) : ∀ n, i < n → (waitL W n).set (i * 3 + 2) (textV X) = waitL (putW W i X) n
  | 0, h => absurd h (Nat.not_lt_zero _)
  | n + 1, h => by
    show (waitL W n ++ waitV (W n)).set (i * 3 + 2) (textV X) = waitL (putW W i X) n ++ waitV (putW W i X n)
    by_cases e : i = n
    · subst e
      rw [List.set_append_right _ _ (by rw [waitL_length]; omega), waitL_length, show i * 3 + 2 - i * 3 = 2 by omega, waitL_congr (W := putW W i X) (V := W) fun j hj => if_neg (by omega), show putW W i X i = ⟨(W i).d, (W i).a, X⟩ from if_pos rfl]
      rfl
    · rw [List.set_append_left _ _ (by rw [waitL_length]; omega), waitL_set W i X n (by omega), show putW W i X n = W n from if_neg (by omega)]
theorem TK.setWait {lw cw : Nat} (h : TK B w g s vL vG (.slice (some ⟨lw, 0, none⟩) s.nw cw) H C) {i : Nat} (hi : i < s.nw) (X : Nat → Nat) :
    TK B (w.setCell ⟨lw, i * 3 + 2, none⟩ (textV X)) g { s with W := putW s.W i X } vL vG (.slice (some ⟨lw, 0, none⟩) s.nw cw) H C ∧ KeepR B w (w.setCell ⟨lw, i * 3 + 2, none⟩ (textV X)) := by
  have hob : (Value.slice (some ⟨lw, 0, none⟩) s.nw cw).ownBlock = some lw := rfl
  have ok : ∀ {n c' : Nat} {t : TypeId} {v : Value} {xs : List Value}, (92 == t) = false → w.ownsRow B t c' v n xs → (w.setCell ⟨lw, i * 3 + 2, none⟩ (textV X)).ownsRow B t c' v n xs := fun he h1 => own_keep h1 fun g1 hg1 => Below.heap_setCell w ⟨lw, i * 3 + 2, none⟩ (textV X) g1 (fun e => own_type h.waits h1 he hob (by rw [hg1, e]))
  refine ⟨⟨h.blk.far (p := ⟨lw, i * 3 + 2, none⟩) (fun e => own_not_blk h.waits h.blk rfl (by rw [hob]; exact congrArg some e.symm)) _, h.hg, ok rfl h.heads, fun d' hd' => ok rfl (h.rows d' hd'), h.apart, ok rfl h.lost, ?_⟩, (KeepR.refl B w).of_grown (grown_set w _ _ _) (own_lt h.waits hob).2 h.le (own_obj h.waits rfl hob)⟩
  have h2 := (h.waits.stored (i * 3 + 2) (textV X)).1
  rw [waitL_set s.W i X s.nw hi] at h2
  exact h2
theorem rot_neg_k (w : World) (g : Nat) (s : RS) (D E n : Int) (hn : n < 0) (h : TK B w g s vL vG vW H C) :
    Calls Tryz.prog 19 #[.pointer (some ⟨g, 0, none⟩), .int .i64 D, .int .i64 E, .int .i64 n] w fun e w' => e = .returned (.int .i64 1) ∧ w' = w := by
  have HI := Lib.hid (in_k w g s D E h)
  have t2 : decide (n < 0) = true := by simpa using hn
  clear h hn
  cases hp : s.isP D E with
  | true =>
    rw [hp] at HI
    clear hp
    go_enter Tryz.func19, Tryz.ntmps19
    go_wp2_with fail
    refine HI.out.mono ?_
    rintro e w' ⟨rfl, rfl⟩
    go_wp2_with fail
    go_ret
    exact ⟨rfl, rfl⟩
  | false =>
    rw [hp] at HI
    clear hp
    go_enter Tryz.func19, Tryz.ntmps19
    go_wp2_with fail
    refine HI.out.mono ?_
    rintro e w' ⟨rfl, rfl⟩
    go_wp2_with fail
    go_ret
    exact ⟨rfl, rfl⟩
theorem rot_why_k (w : World) (g : Nat) (s : RS) (D E n : Int) (hn : 0 ≤ n) (hw : s.why D E ≠ 0) (h : TK B w g s vL vG vW H C) :
    Calls Tryz.prog 19 #[.pointer (some ⟨g, 0, none⟩), .int .i64 D, .int .i64 E, .int .i64 n] w fun e w' => e = .returned (.int .i64 (s.why D E)) ∧ w' = w := by
  have HI := Lib.hid (in_k w g s D E h)
  have t2 : decide (n < 0) = false := by simp; omega
  clear hn
  cases hp : s.isP D E with
  | true =>
    rw [hp] at HI
    obtain ⟨d, rfl, hd⟩ : ∃ d : Nat, D = (d : Int) ∧ d < s.nd := by
      simp [RS.isP, RS.isD] at hp
      exact ⟨D.toNat, by omega, by omega⟩
    have hg : s.gone d = true := by
      unfold RS.why at hw
      rw [hp, if_pos rfl, Int.toNat_natCast] at hw
      cases e : s.gone d with
      | true => rfl
      | false => rw [e] at hw; simp at hw
    have hy : s.why (d : Int) E = 3 := by
      unfold RS.why
      rw [hp, if_pos rfl, Int.toNat_natCast, hg]
      rfl
    rw [hy]
    have c1 := h.c1
    obtain ⟨l, c, rfl, k1, _⟩ := h.gone hd
    rw [hg] at k1
    have i0 : (0 : Int) ≤ (d : Int) := by omega
    have i1 : (d : Int) < (s.nd : Int) := by omega
    clear h hw hp hg hy hd
    go_enter Tryz.func19, Tryz.ntmps19
    go_wp2_with fail
    refine HI.out.mono ?_
    rintro e w' ⟨rfl, rfl⟩
    go_wp2_with fail
    go_ret
    exact ⟨rfl, rfl⟩
  | false =>
    rw [hp] at HI
    have hy : s.why D E = 1 := by
      unfold RS.why
      rw [hp]
      rfl
    rw [hy]
    clear hp h hw hy
    go_enter Tryz.func19, Tryz.ntmps19
    go_wp2_with fail
    refine HI.out.mono ?_
    rintro e w' ⟨rfl, rfl⟩
    go_wp2_with fail
    go_ret
    exact ⟨rfl, rfl⟩
theorem TK.cost' (h : TK B w g s vL vG vW H C) (c : Nat) : TK B w g { s with cost := c } vL vG vW H C := ⟨h.blk, h.hg, h.heads, h.rows, h.apart, h.lost, h.waits⟩
set_option maxHeartbeats 1600000 in
theorem rot_k (w : World) (g : Nat) (s : RS) (d a n : Nat) (hd : d < s.nd) (ha : a < s.ns) (hg : s.gone d = false) (hn : n ≤ 9223372036854775807) (hX : ∀ j, j < 128 → s.holds d a j < 256) (h : TK B w g s vL vG vW H C) :
    Calls Tryz.prog 19 #[.pointer (some ⟨g, 0, none⟩), .int .i64 (d : Int), .int .i64 (a : Int), .int .i64 (n : Int)] w fun e w' => e = .returned (.int .i64 0) ∧ TAt B w' g (s.rotted d a n) ∧ KeepR B w w' := by
  have HI := Lib.hid (in_k w g s (d : Int) (a : Int) h)
  rw [show s.isP (d : Int) (a : Int) = true by simp [RS.isP, RS.isD]; omega] at HI
  have HN := Lib.hid (newest_k w g s d a h)
  have t2 : decide ((n : Int) < 0) = false := by simp
  have c1 := h.c1
  obtain ⟨l, c, rfl, k1, _⟩ := h.gone hd
  rw [hg] at k1
  have i0 : (0 : Int) ≤ (d : Int) := by omega
  have i1 : (d : Int) < (s.nd : Int) := by omega
  cases hnew : newIn s.W d a s.nw with
  | some i =>
    have hh : s.holds d a = (s.W i).x := by unfold RS.holds; rw [hnew]
    rw [hh] at hX
    rw [hnew] at HN
    have t1 : idx (some i) = (i : Int) := rfl
    rw [t1] at HN
    have hi := (newIn_lt hnew).1
    rw [rotted_some hnew]
    obtain ⟨lw, cw, rfl, _, _, kw⟩ := h.wait hi
    have c2 := h.c2
    obtain ⟨X, hXe⟩ : ∃ X, X = (s.W i).x := ⟨_, rfl⟩
    rw [← hXe] at hX kw ⊢
    have HX := Lib.hid hX
    have hT := h.keep (w' := w.drew) (fun k _ _ => rfl)
    have z0 : (0 : Int) ≤ (i : Int) := by omega
    obtain ⟨wr, hwr⟩ : ∃ wr, wr = w.drew := ⟨_, rfl⟩
    have HT := Lib.hid hT
    rw [← hwr] at HT
    obtain ⟨nw, hnw⟩ : ∃ nw, nw = s.nw := ⟨_, rfl⟩
    have HNW := Lib.hid hnw
    have HS : Hid (wr.cell? ⟨g, 2, none⟩ = some (.slice (some ⟨lw, 0, none⟩) nw cw) ∧ wr.cell? ⟨lw, i * 3 + 2, none⟩ = some (textV X)) := Lib.hid (by rw [hwr, hnw]; exact ⟨c2, kw⟩)
    rw [← hnw] at hi
    have HWR := Lib.hid hwr
    clear h hd ha hg hX hh hnew t1 hXe hT hnw c2 kw hwr
    go_enter Tryz.func19, Tryz.ntmps19
    go_wp2_with fail
    refine HI.out.mono ?_
    rintro e w1 ⟨rfl, rfl⟩
    go_wp2_with fail
    refine HN.out.mono ?_
    rintro e w2 ⟨rfl, rfl⟩
    go_wp2_with fail
    obtain rfl := HWR.out
    clear HWR
    refine region_anyZ (fun w' => w'.cell? ⟨g, 2, none⟩ = some (.slice (some ⟨lw, 0, none⟩) nw cw) ∧ w'.cell? ⟨lw, i * 3 + 2, none⟩ = some (textV X)) 17 (by kernel_rfl) ?_
    refine takeG 0 (.move (.tmp 0)) (some 32) none (.pointer (some ⟨g, 0, none⟩)) (by kernel_rfl) (by kernel_rfl) (by kernel_rfl) (fun _ _ _ h => h) (fun o wq e hS => exec_move wq e (by kernel_rfl)) HS.out ?_
    refine takeG 1 (.nilCheck (.tmp 32)) (some 33) none (.pointer (some ⟨g, 0, none⟩)) (by kernel_rfl) (by kernel_rfl) (by kernel_rfl) (fun _ _ _ h => h) (fun o wq e hS => exec_nil wq e (by kernel_rfl)) HS.out ?_
    refine takeG 2 (.fieldAddr 74 (.tmp 33) 2) (some 34) none (.pointer (some ⟨g, 2, none⟩)) (by kernel_rfl) (by kernel_rfl) (by kernel_rfl) (fun _ _ _ h => h) (fun o wq e hS => exec_field (u := .pointer (some ⟨g, 0, none⟩)) wq e (by kernel_rfl) (by kernel_rfl)) HS.out ?_
    refine takeG 3 (.load 72 (.tmp 34)) (some 35) none (.slice (some ⟨lw, 0, none⟩) nw cw) (by kernel_rfl) (by kernel_rfl) (by kernel_rfl) (fun _ _ _ h => h) (fun o wq e hS => exec_load (x := (.tmp 34)) e (by kernel_rfl) (load_one Tryz.underlying72 (by kernel_rfl) hS.1)) HS.out ?_
    refine takeG 4 (.move (.tmp 9)) (some 36) none (.int .i64 (i : Int)) (by kernel_rfl) (by kernel_rfl) (by kernel_rfl) (fun _ _ _ h => h) (fun o wq e hS => exec_move wq e (by kernel_rfl)) HS.out ?_
    refine takeG 5 (.move (.tmp 0)) (some 37) none (.pointer (some ⟨g, 0, none⟩)) (by kernel_rfl) (by kernel_rfl) (by kernel_rfl) (fun _ _ _ h => h) (fun o wq e hS => exec_move wq e (by kernel_rfl)) HS.out ?_
    refine takeG 6 (.nilCheck (.tmp 37)) (some 38) none (.pointer (some ⟨g, 0, none⟩)) (by kernel_rfl) (by kernel_rfl) (by kernel_rfl) (fun _ _ _ h => h) (fun o wq e hS => exec_nil wq e (by kernel_rfl)) HS.out ?_
    refine takeG 7 (.fieldAddr 74 (.tmp 38) 2) (some 39) none (.pointer (some ⟨g, 2, none⟩)) (by kernel_rfl) (by kernel_rfl) (by kernel_rfl) (fun _ _ _ h => h) (fun o wq e hS => exec_field (u := .pointer (some ⟨g, 0, none⟩)) wq e (by kernel_rfl) (by kernel_rfl)) HS.out ?_
    refine takeG 8 (.load 72 (.tmp 39)) (some 40) none (.slice (some ⟨lw, 0, none⟩) nw cw) (by kernel_rfl) (by kernel_rfl) (by kernel_rfl) (fun _ _ _ h => h) (fun o wq e hS => exec_load (x := (.tmp 39)) e (by kernel_rfl) (load_one Tryz.underlying72 (by kernel_rfl) hS.1)) HS.out ?_
    refine takeG 9 (.move (.tmp 9)) (some 41) none (.int .i64 (i : Int)) (by kernel_rfl) (by kernel_rfl) (by kernel_rfl) (fun _ _ _ h => h) (fun o wq e hS => exec_move wq e (by kernel_rfl)) HS.out ?_
    refine takeG 10 (.indexAddr 72 (.tmp 40) (.tmp 41)) (some 42) none (.pointer (some ⟨lw, i * 3, none⟩)) (by kernel_rfl) (by kernel_rfl) (by kernel_rfl) (fun _ _ _ h => h) (fun o wq e hS => exec_index (u1 := .slice (some ⟨lw, 0, none⟩) nw cw) (u2 := .int .i64 (i : Int)) wq e (by kernel_rfl) (by kernel_rfl) (index_wide Tryz.underlying72 (by kernel_rfl) lw nw cw i hi _)) HS.out ?_
    refine takeG 11 (.fieldAddr 92 (.tmp 42) 2) (some 43) none (.pointer (some ⟨lw, i * 3 + 2, none⟩)) (by kernel_rfl) (by kernel_rfl) (by kernel_rfl) (fun _ _ _ h => h) (fun o wq e hS => exec_field (u := .pointer (some ⟨lw, i * 3, none⟩)) wq e (by kernel_rfl) (by kernel_rfl)) HS.out ?_
    refine takeG 12 (.load 9 (.tmp 43)) (some 44) none (textV X) (by kernel_rfl) (by kernel_rfl) (by kernel_rfl) (fun _ _ _ h => h) (fun o wq e hS => exec_load (x := (.tmp 43)) e (by kernel_rfl) (load_one Tryz.underlying9 (by kernel_rfl) hS.2)) HS.out ?_
    refine takeG 13 (.move (.tmp 3)) (some 45) none (.int .i64 (n : Int)) (by kernel_rfl) (by kernel_rfl) (by kernel_rfl) (fun _ _ _ h => h) (fun o wq e hS => exec_move wq e (by kernel_rfl)) HS.out ?_
    refine loneG 14 (.call ⟨.value (.func 49), #[(.tmp 44), (.tmp 45)], #[9, 3]⟩) (some 46) none (by kernel_rfl) (by kernel_rfl) (by kernel_rfl) ?_
    intro o ho hod
    refine wp_callC (f := 49) (args := #[textV X, .int .i64 (n : Int)]) (by cases o; cases ho; kernel_rfl) (rotten_k _ X n HX.out hn) ?_
    rintro e w4 ⟨rfl, b4⟩
    refine ⟨textV (rotF X n), rfl, ?_⟩
    rw [hod]
    clear hod ho
    have HS2 : Hid (w4.cell? ⟨g, 2, none⟩ = some (.slice (some ⟨lw, 0, none⟩) nw cw) ∧ w4.cell? ⟨lw, i * 3 + 2, none⟩ = some (textV X)) := Lib.hid ⟨(b4.cell (p := ⟨g, 2, none⟩) (block_lt_of_cell HS.out.1)).trans HS.out.1, (b4.cell (p := ⟨lw, i * 3 + 2, none⟩) (block_lt_of_cell HS.out.2)).trans HS.out.2⟩
    have T4 := Lib.hid (HT.out.below (b4 : Below w2.drew.heap.size w2.drew w4))
    have K4 := Lib.hid ((KeepR.refl B w2.drew).new b4 HT.out.le)
    have FZ := Lib.hid (T4.out.waits.frozenAt (i * 3 + 2))
    clear b4
    refine ⟨fun _ => HS2.out, ?_⟩
    refine loneG 15 (.indexAddr 72 (.tmp 35) (.tmp 36)) (some 47) none (by kernel_rfl) (by kernel_rfl) (by kernel_rfl) ?_
    intro o ho hod
    refine wp_val (v := .pointer (some ⟨lw, i * 3, none⟩)) (exec_index (u1 := .slice (some ⟨lw, 0, none⟩) nw cw) (u2 := .int .i64 (i : Int)) _ ho (by kernel_rfl) (by kernel_rfl) (index_wide Tryz.underlying72 (by kernel_rfl) lw nw cw i hi _)) ?_
    rw [hod]
    clear hod ho
    refine ⟨fun _ => HS2.out, ?_⟩
    refine loneG 16 (.fieldAddr 92 (.tmp 47) 2) (some 48) none (by kernel_rfl) (by kernel_rfl) (by kernel_rfl) ?_
    intro o ho hod
    refine wp_val (v := .pointer (some ⟨lw, i * 3 + 2, none⟩)) (exec_field (u := .pointer (some ⟨lw, i * 3, none⟩)) _ ho (by kernel_rfl) (by kernel_rfl)) ?_
    rw [hod]
    clear hod ho
    refine ⟨fun _ => HS2.out, ?_⟩
    refine lastStore 17 9 (.tmp 48) (.tmp 46) (.pointer (some ⟨lw, i * 3 + 2, none⟩)) (textV (rotF X n)) _ (by kernel_rfl) (by kernel_rfl) (by kernel_rfl) rfl (by kernel_rfl) (by kernel_rfl) (store_one (by kernel_rfl) rfl rfl (by rw [HS2.out.2]; rfl) FZ.out (by rw [add_plain])) ?_
    simp only [put_some, put_none, List.setIfInBounds_toArray, List.set_cons_succ, List.set_cons_zero]
    obtain rfl := HNW.out
    have hq := TK.setWait (T4.out) hi (rotF X n)
    have H9 := Lib.hid (hq.1.cost' (s.cost + 1))
    have K0 : KeepR B w2 w2.drew := ⟨(Below.refl B _).drew, fun _ _ h _ => h⟩
    have K9 := Lib.hid (K0.trans (K4.out.trans hq.2))
    clear hq HS HS2 HT T4 K4 FZ K0
    go_wp2_with fail
    go_ret
    exact ⟨rfl, ⟨_, _, _, _, _, H9.out⟩, K9.out⟩
  | none =>
    have hh : s.holds d a = s.last d a := by unfold RS.holds; rw [hnew]
    rw [hh] at hX
    rw [hnew] at HN
    have t1 : idx (none : Option Nat) = -1 := rfl
    rw [t1] at HN
    rw [rotted_none hnew]
    obtain ⟨lh, ch, rfl, kh, _⟩ := h.head hd
    have kt := (h.text hd ha).1
    have c0 := h.c0
    obtain ⟨X, hXe⟩ : ∃ X, X = s.last d a := ⟨_, rfl⟩
    rw [← hXe] at hX kt ⊢
    have HX := Lib.hid hX
    have hT := h.keep (w' := w.drew) (fun k _ _ => rfl)
    obtain ⟨wr, hwr⟩ : ∃ wr, wr = w.drew := ⟨_, rfl⟩
    have HT := Lib.hid hT
    rw [← hwr] at HT
    obtain ⟨hb, hhb⟩ : ∃ hb, hb = H d := ⟨_, rfl⟩
    obtain ⟨cd, hcd⟩ : ∃ cd, cd = C d := ⟨_, rfl⟩
    obtain ⟨nd, hnd⟩ : ∃ nd, nd = s.nd := ⟨_, rfl⟩
    obtain ⟨ns, hns⟩ : ∃ ns, ns = s.ns := ⟨_, rfl⟩
    have HDD := Lib.hid hd
    have HAA := Lib.hid ha
    have HHB := Lib.hid hhb
    have HS : Hid (wr.cell? ⟨g, 0, none⟩ = some (.slice (some ⟨lh, 0, none⟩) nd ch) ∧ wr.cell? ⟨lh, 0 + d, none⟩ = some (.slice (some ⟨hb, 0, none⟩) ns cd) ∧ wr.cell? ⟨hb, 0 + a, none⟩ = some (textV X)) := Lib.hid (by rw [hwr, hnd, hns, hhb, hcd, Nat.zero_add, Nat.zero_add]; exact ⟨c0, kh, kt⟩)
    rw [← hnd] at hd
    rw [← hns] at ha
    have HWR := Lib.hid hwr
    clear h hg hX hh hnew t1 hXe hT hnd hns hhb hcd c0 kh kt hwr
    go_enter Tryz.func19, Tryz.ntmps19
    go_wp2_with fail
    refine HI.out.mono ?_
    rintro e w1 ⟨rfl, rfl⟩
    go_wp2_with fail
    refine HN.out.mono ?_
    rintro e w2 ⟨rfl, rfl⟩
    go_wp2_with fail
    obtain rfl := HWR.out
    clear HWR
    refine region_anyZ (fun w' => w'.cell? ⟨g, 0, none⟩ = some (.slice (some ⟨lh, 0, none⟩) nd ch) ∧ w'.cell? ⟨lh, 0 + d, none⟩ = some (.slice (some ⟨hb, 0, none⟩) ns cd) ∧ w'.cell? ⟨hb, 0 + a, none⟩ = some (textV X)) 21 (by kernel_rfl) ?_
    refine takeG 0 (.move (.tmp 0)) (some 49) none (.pointer (some ⟨g, 0, none⟩)) (by kernel_rfl) (by kernel_rfl) (by kernel_rfl) (fun _ _ _ h => h) (fun o wq e hS => exec_move wq e (by kernel_rfl)) HS.out ?_
    refine takeG 1 (.nilCheck (.tmp 49)) (some 50) none (.pointer (some ⟨g, 0, none⟩)) (by kernel_rfl) (by kernel_rfl) (by kernel_rfl) (fun _ _ _ h => h) (fun o wq e hS => exec_nil wq e (by kernel_rfl)) HS.out ?_
    refine takeG 2 (.fieldAddr 74 (.tmp 50) 0) (some 51) none (.pointer (some ⟨g, 0, none⟩)) (by kernel_rfl) (by kernel_rfl) (by kernel_rfl) (fun _ _ _ h => h) (fun o wq e hS => exec_field (u := .pointer (some ⟨g, 0, none⟩)) wq e (by kernel_rfl) (by kernel_rfl)) HS.out ?_
    refine takeG 3 (.load 71 (.tmp 51)) (some 52) none (.slice (some ⟨lh, 0, none⟩) nd ch) (by kernel_rfl) (by kernel_rfl) (by kernel_rfl) (fun _ _ _ h => h) (fun o wq e hS => exec_load (x := (.tmp 51)) e (by kernel_rfl) (load_one Tryz.underlying71 (by kernel_rfl) hS.1)) HS.out ?_
    refine takeG 4 (.move (.tmp 1)) (some 53) none (.int .i64 (d : Int)) (by kernel_rfl) (by kernel_rfl) (by kernel_rfl) (fun _ _ _ h => h) (fun o wq e hS => exec_move wq e (by kernel_rfl)) HS.out ?_
    refine takeG 5 (.indexAddr 71 (.tmp 52) (.tmp 53)) (some 54) none (.pointer (some ⟨lh, 0 + d, none⟩)) (by kernel_rfl) (by kernel_rfl) (by kernel_rfl) (fun _ _ _ h => h) (fun o wq e hS => exec_index (u1 := .slice (some ⟨lh, 0, none⟩) nd ch) (u2 := .int .i64 (d : Int)) wq e (by kernel_rfl) (by kernel_rfl) (index_slice Tryz.underlying71 (by kernel_rfl) lh 0 nd ch d hd _)) HS.out ?_
    refine takeG 6 (.load 75 (.tmp 54)) (some 55) none (.slice (some ⟨hb, 0, none⟩) ns cd) (by kernel_rfl) (by kernel_rfl) (by kernel_rfl) (fun _ _ _ h => h) (fun o wq e hS => exec_load (x := (.tmp 54)) e (by kernel_rfl) (load_one Tryz.underlying75 (by kernel_rfl) hS.2.1)) HS.out ?_
    refine takeG 7 (.move (.tmp 2)) (some 56) none (.int .i64 (a : Int)) (by kernel_rfl) (by kernel_rfl) (by kernel_rfl) (fun _ _ _ h => h) (fun o wq e hS => exec_move wq e (by kernel_rfl)) HS.out ?_
    refine takeG 8 (.move (.tmp 0)) (some 57) none (.pointer (some ⟨g, 0, none⟩)) (by kernel_rfl) (by kernel_rfl) (by kernel_rfl) (fun _ _ _ h => h) (fun o wq e hS => exec_move wq e (by kernel_rfl)) HS.out ?_
    refine takeG 9 (.nilCheck (.tmp 57)) (some 58) none (.pointer (some ⟨g, 0, none⟩)) (by kernel_rfl) (by kernel_rfl) (by kernel_rfl) (fun _ _ _ h => h) (fun o wq e hS => exec_nil wq e (by kernel_rfl)) HS.out ?_
    refine takeG 10 (.fieldAddr 74 (.tmp 58) 0) (some 59) none (.pointer (some ⟨g, 0, none⟩)) (by kernel_rfl) (by kernel_rfl) (by kernel_rfl) (fun _ _ _ h => h) (fun o wq e hS => exec_field (u := .pointer (some ⟨g, 0, none⟩)) wq e (by kernel_rfl) (by kernel_rfl)) HS.out ?_
    refine takeG 11 (.load 71 (.tmp 59)) (some 60) none (.slice (some ⟨lh, 0, none⟩) nd ch) (by kernel_rfl) (by kernel_rfl) (by kernel_rfl) (fun _ _ _ h => h) (fun o wq e hS => exec_load (x := (.tmp 59)) e (by kernel_rfl) (load_one Tryz.underlying71 (by kernel_rfl) hS.1)) HS.out ?_
    refine takeG 12 (.move (.tmp 1)) (some 61) none (.int .i64 (d : Int)) (by kernel_rfl) (by kernel_rfl) (by kernel_rfl) (fun _ _ _ h => h) (fun o wq e hS => exec_move wq e (by kernel_rfl)) HS.out ?_
    refine takeG 13 (.indexAddr 71 (.tmp 60) (.tmp 61)) (some 62) none (.pointer (some ⟨lh, 0 + d, none⟩)) (by kernel_rfl) (by kernel_rfl) (by kernel_rfl) (fun _ _ _ h => h) (fun o wq e hS => exec_index (u1 := .slice (some ⟨lh, 0, none⟩) nd ch) (u2 := .int .i64 (d : Int)) wq e (by kernel_rfl) (by kernel_rfl) (index_slice Tryz.underlying71 (by kernel_rfl) lh 0 nd ch d hd _)) HS.out ?_
    refine takeG 14 (.load 75 (.tmp 62)) (some 63) none (.slice (some ⟨hb, 0, none⟩) ns cd) (by kernel_rfl) (by kernel_rfl) (by kernel_rfl) (fun _ _ _ h => h) (fun o wq e hS => exec_load (x := (.tmp 62)) e (by kernel_rfl) (load_one Tryz.underlying75 (by kernel_rfl) hS.2.1)) HS.out ?_
    refine takeG 15 (.move (.tmp 2)) (some 64) none (.int .i64 (a : Int)) (by kernel_rfl) (by kernel_rfl) (by kernel_rfl) (fun _ _ _ h => h) (fun o wq e hS => exec_move wq e (by kernel_rfl)) HS.out ?_
    refine takeG 16 (.indexAddr 75 (.tmp 63) (.tmp 64)) (some 65) none (.pointer (some ⟨hb, 0 + a, none⟩)) (by kernel_rfl) (by kernel_rfl) (by kernel_rfl) (fun _ _ _ h => h) (fun o wq e hS => exec_index (u1 := .slice (some ⟨hb, 0, none⟩) ns cd) (u2 := .int .i64 (a : Int)) wq e (by kernel_rfl) (by kernel_rfl) (index_slice Tryz.underlying75 (by kernel_rfl) hb 0 ns cd a ha _)) HS.out ?_
    refine takeG 17 (.load 9 (.tmp 65)) (some 66) none (textV X) (by kernel_rfl) (by kernel_rfl) (by kernel_rfl) (fun _ _ _ h => h) (fun o wq e hS => exec_load (x := (.tmp 65)) e (by kernel_rfl) (load_one Tryz.underlying9 (by kernel_rfl) hS.2.2)) HS.out ?_
    refine takeG 18 (.move (.tmp 3)) (some 67) none (.int .i64 (n : Int)) (by kernel_rfl) (by kernel_rfl) (by kernel_rfl) (fun _ _ _ h => h) (fun o wq e hS => exec_move wq e (by kernel_rfl)) HS.out ?_
    refine loneG 19 (.call ⟨.value (.func 49), #[(.tmp 66), (.tmp 67)], #[9, 3]⟩) (some 68) none (by kernel_rfl) (by kernel_rfl) (by kernel_rfl) ?_
    intro o ho hod
    refine wp_callC (f := 49) (args := #[textV X, .int .i64 (n : Int)]) (by cases o; cases ho; kernel_rfl) (rotten_k _ X n HX.out hn) ?_
    rintro e w4 ⟨rfl, b4⟩
    refine ⟨textV (rotF X n), rfl, ?_⟩
    rw [hod]
    clear hod ho
    have HS2 : Hid (w4.cell? ⟨g, 0, none⟩ = some (.slice (some ⟨lh, 0, none⟩) nd ch) ∧ w4.cell? ⟨lh, 0 + d, none⟩ = some (.slice (some ⟨hb, 0, none⟩) ns cd) ∧ w4.cell? ⟨hb, 0 + a, none⟩ = some (textV X)) := Lib.hid ⟨(b4.cell (p := ⟨g, 0, none⟩) (block_lt_of_cell HS.out.1)).trans HS.out.1, (b4.cell (p := ⟨lh, 0 + d, none⟩) (block_lt_of_cell HS.out.2.1)).trans HS.out.2.1, (b4.cell (p := ⟨hb, 0 + a, none⟩) (block_lt_of_cell HS.out.2.2)).trans HS.out.2.2⟩
    have T4 := Lib.hid (HT.out.below (b4 : Below w2.drew.heap.size w2.drew w4))
    have K4 := Lib.hid ((KeepR.refl B w2.drew).new b4 HT.out.le)
    have FZ : Hid (w4.frozen? ⟨hb, 0 + a, none⟩ = false) := Lib.hid (by rw [HHB.out]; exact (T4.out.rows d HDD.out).frozenAt (0 + a))
    clear b4
    refine ⟨fun _ => HS2.out, ?_⟩
    refine loneG 20 (.indexAddr 75 (.tmp 55) (.tmp 56)) (some 69) none (by kernel_rfl) (by kernel_rfl) (by kernel_rfl) ?_
    intro o ho hod
    refine wp_val (v := .pointer (some ⟨hb, 0 + a, none⟩)) (exec_index (u1 := .slice (some ⟨hb, 0, none⟩) ns cd) (u2 := .int .i64 (a : Int)) _ ho (by kernel_rfl) (by kernel_rfl) (index_slice Tryz.underlying75 (by kernel_rfl) hb 0 ns cd a ha _)) ?_
    rw [hod]
    clear hod ho
    refine ⟨fun _ => HS2.out, ?_⟩
    refine lastStore 21 9 (.tmp 69) (.tmp 68) (.pointer (some ⟨hb, 0 + a, none⟩)) (textV (rotF X n)) _ (by kernel_rfl) (by kernel_rfl) (by kernel_rfl) rfl (by kernel_rfl) (by kernel_rfl) (store_one (by kernel_rfl) rfl rfl (by rw [HS2.out.2.2]; rfl) FZ.out (by rw [add_plain]; rfl)) ?_
    simp only [put_some, put_none, List.setIfInBounds_toArray, List.set_cons_succ, List.set_cons_zero]
    rw [Nat.zero_add a]
    have hq := TK.setText (T4.out) HDD.out HAA.out (rotF X n)
    rw [← HHB.out] at hq
    have H9 := Lib.hid (hq.1.cost' (s.cost + 1))
    have K0 : KeepR B w2 w2.drew := ⟨(Below.refl B _).drew, fun _ _ h _ => h⟩
    have K9 := Lib.hid (K0.trans (K4.out.trans hq.2))
    clear hq HS HS2 HT T4 K4 FZ K0
    go_wp2_with fail
    go_ret
    exact ⟨rfl, ⟨_, _, _, _, _, H9.out⟩, K9.out⟩
end
end refRack
end Go.Proofs.YthioanenljpclaaGreatDoor
