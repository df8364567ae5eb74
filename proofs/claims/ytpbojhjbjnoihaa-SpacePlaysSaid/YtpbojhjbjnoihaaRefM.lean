/-
  The document's space in memory: a state for each cell; how many have one, which ranges, all of some, some set. No conditions beyond those that each theorem types.
-/
import Derived.Test.YtpbojhjbjnoihaaRefRng
import Derived.Test.YtpbojhjbjnoihaaNatRowM
namespace Go.Proofs.Ytpbojhjbjnoihaa
open Go Go.RowKit
set_option maxRecDepth 100000
set_option linter.unusedVariables false
namespace Sp
theorem Frm.setCell {O : Nat → Prop} {w w' : World} (h : Frm O w w') {p : Addr} (hp : O p.block) (u : Value) : Frm O w (w'.setCell p u) :=
  ⟨h.os, h.tape, h.output, by simp [World.setCell]; exact h.size, fun k hk ho => (Below.heap_setCell w' p u k (fun e => ho (e ▸ hp))).trans (h.block k hk ho)⟩
theorem Frm.drew {O : Nat → Prop} {w w' : World} (h : Frm O w w') : Frm O w w'.drew := ⟨h.os, h.tape, h.output, h.size, h.block⟩
theorem Frm.trans {O : Nat → Prop} {w w1 w2 : World} (h : Frm O w w1) (h2 : Frm O w1 w2) : Frm O w w2 :=
  ⟨h2.os.trans h.os, h2.tape.trans h.tape, h2.output.trans h.output, Nat.le_trans h.size h2.size, fun g hg ho => (h2.block g (Nat.lt_of_lt_of_le hg h.size) ho).trans (h.block g hg ho)⟩
/-- what a call made of its own, and what stood before -/
theorem Frm.new {O : Nat → Prop} {w w1 w2 : World} (h : Frm O w w1) (h2 : Below w.heap.size w1 w2) : Frm O w w2 :=
  ⟨h2.os.trans h.os, h2.tape.trans h.tape, h2.output.trans h.output, Nat.le_trans h.size h2.size, fun g hg ho => (h2.block g hg).trans (h.block g hg ho)⟩
theorem Frm.wide {w w' : World} {O O' : Nat → Prop} (h : Frm O w w') (hO : ∀ q, O q → O' q) : Frm O' w w' :=
  ⟨h.os, h.tape, h.output, h.size, fun g hg ho => h.block g hg fun h1 => ho (hO g h1)⟩
end Sp
namespace Rf
open Sp
/-- N cells, f their states, k kept back -/
def RefM (w : World) (O : Nat → Prop) (b N : Nat) (f : Nat → Int) (k : Int) : Prop := ∃ g c cs, Blk w b 73 #[.slice (some ⟨g, 0, none⟩) N c, .int .i64 k] ∧ Blk w g 3 cs ∧ (∀ i, i < N → cs[i]? = some (.int .i64 (f i))) ∧ O b ∧ O g
section
variable {w w' : World} {O : Nat → Prop} {b N : Nat} {f : Nat → Int} {k : Int}
theorem RefM.keep (h : RefM w O b N f k) (hb : Below w.heap.size w w') : RefM w' O b N f k := by
  obtain ⟨g, c, cs, h1, h2, h3, h4⟩ := h
  exact ⟨g, c, cs, h1.below hb h1.lt, h2.below hb h2.lt, h3, h4⟩
theorem RefM.drew (h : RefM w O b N f k) : RefM w.drew O b N f k := h
end
set_option maxHeartbeats 1600000 in
theorem count_rf {w : World} {O : Nat → Prop} {b N : Nat} {f : Nat → Int} {k : Int} (h : RefM w O b N f k) (hN : N ≤ 40000) (q : Int) :
    Calls Try.prog 48 #[.pointer (some ⟨b, 0, none⟩), .int .i64 q] w fun e w' => e = .returned (.int .i64 ((numB (fun c => f c == q) N : Nat) : Int)) ∧ w' = w := by
  obtain ⟨g, c, cs, h1, h2, h3, _⟩ := h
  have c0 : w.cell? ⟨b, 0, none⟩ = some (.slice (some ⟨g, 0, none⟩) N c) := h1.cell 0
  have HX := Lib.hid h2
  have HC := Lib.hid h3
  clear h1 h2 h3
  go_enter Try.func48, Try.ntmps48
  go_wp2_with fail
  go_loop [5, 6] (fun u y => ∃ i : Nat, i ≤ N ∧ y = .int .i64 (i : Int) ∧ u = .int .i64 ((numB (fun c => f c == q) i : Nat) : Int)) (fun _ y => N - (intOf y).toNat)
  case atStart => exact ⟨0, by omega, rfl, rfl⟩
  case round =>
    obtain ⟨i, hi, rfl, rfl⟩ := hrel
    have hnb := numB_le (fun c => f c == q) i
    by_cases hlt : i < N
    · have t1 : (i : Int) < (N : Int) := by omega
      have hcell : w.cell? ⟨g, i, none⟩ = some (.int .i64 (f i)) := (HX.out.cell i).trans (HC.out i hlt)
      obtain ⟨v, hv⟩ : ∃ v, v = f i := ⟨_, rfl⟩
      rw [← hv] at hcell
      have HV := Lib.hid hv
      obtain ⟨nb, hnb2⟩ : ∃ nb, nb = numB (fun c => f c == q) i := ⟨_, rfl⟩
      have HN : Hid (numB (fun c => f c == q) (i + 1) = nb + if v == q then 1 else 0) := Lib.hid (by rw [hnb2, hv]; rfl)
      rw [← hnb2] at hnb ⊢
      clear hv hnb2
      by_cases hz : v = q
      · subst hz
        have HN2 : Hid (numB (fun c => f c == v) (i + 1) = nb + 1) := Lib.hid (by rw [HN.out]; simp)
        clear HN
        go_wp2_with fail
        go_round
        case rel => exact ⟨i + 1, by omega, by go_num, by rw [HN2.out]; go_num⟩
        case measure => simp [intOf]; omega
      · have hz1 : (v == q) = false := by simp [hz]
        have HN2 : Hid (numB (fun c => f c == q) (i + 1) = nb) := Lib.hid (by rw [HN.out, hz1]; simp)
        clear HN hz
        go_wp2_with fail
        go_round
        case rel => exact ⟨i + 1, by omega, by go_num, by rw [HN2.out]⟩
        case measure => simp [intOf]; omega
    · obtain rfl : N = i := by omega
      have t1 : ¬ ((N : Int) < (N : Int)) := by omega
      clear hlt HC HX
      go_wp2_with fail
      go_ret
      exact ⟨rfl, rfl⟩
set_option maxHeartbeats 1600000 in
theorem free_rf {w : World} {O : Nat → Prop} {b N K : Nat} {f : Nat → Int} (h : RefM w O b N f (K : Int)) (hN : N ≤ 40000) (hK : K ≤ 1000000) :
    Calls Try.prog 33 #[.pointer (some ⟨b, 0, none⟩)] w fun e w' => e = .returned (.int .i64 (((numB (fun c => f c == 0) N : Nat) : Int) - (K : Int))) ∧ Below w.heap.size w w' := by
  have HC := Lib.hid (count_rf h.drew hN 0)
  have hnb := numB_le (fun c => f c == 0) N
  obtain ⟨nb, hnb2⟩ : ∃ nb, nb = numB (fun c => f c == 0) N := ⟨_, rfl⟩
  rw [← hnb2] at HC hnb ⊢
  obtain ⟨g, c, cs, h1, _⟩ := h
  have hsub : ∀ W : World, (binOp .sub 3 (.int .i64 (nb : Int)) (.int .i64 (K : Int))).run Try.prog W = .ok (.int .i64 ((nb : Int) - (K : Int))) W := fun W => by
    rw [show binOp .sub 3 (.int .i64 (nb : Int)) (.int .i64 (K : Int)) = pure (.int .i64 (IntKind.i64.wrap ((nb : Int) - (K : Int)))) from rfl, IntWalk.i64_in _ (by omega)]
    rfl
  have HS := Lib.hid (show w.drew.cell? ⟨b, 1, none⟩ = some (.int .i64 (K : Int)) from h1.cell 1)
  clear h1 hnb2
  go_enter Try.func33, Try.ntmps33
  go_upto_region 1 with (fail)
  refine region_anyZ (fun w' => w'.cell? ⟨b, 1, none⟩ = some (.int .i64 (K : Int))) 8 (by kernel_rfl) ?_
  refine takeG 0 (.move (.tmp 0)) (some 3) none (.pointer (some ⟨b, 0, none⟩)) (by kernel_rfl) (by kernel_rfl) (by kernel_rfl) (fun _ _ _ h => h) (fun o wq e hS => exec_move wq e (by kernel_rfl)) HS.out ?_
  refine takeG 2 (.move (.tmp 0)) (some 5) none (.pointer (some ⟨b, 0, none⟩)) (by kernel_rfl) (by kernel_rfl) (by kernel_rfl) (fun _ _ _ h => h) (fun o wq e hS => exec_move wq e (by kernel_rfl)) HS.out ?_
  refine takeG 3 (.nilCheck (.tmp 5)) (some 6) none (.pointer (some ⟨b, 0, none⟩)) (by kernel_rfl) (by kernel_rfl) (by kernel_rfl) (fun _ _ _ h => h) (fun o wq e hS => exec_nil wq e (by kernel_rfl)) HS.out ?_
  refine takeG 4 (.fieldAddr 73 (.tmp 6) 1) (some 7) none (.pointer (some ⟨b, 1, none⟩)) (by kernel_rfl) (by kernel_rfl) (by kernel_rfl) (fun _ _ _ h => h) (fun o wq e hS => exec_field (u := .pointer (some ⟨b, 0, none⟩)) wq e (by kernel_rfl) (by kernel_rfl)) HS.out ?_
  refine takeG 5 (.load 3 (.tmp 7)) (some 8) none (.int .i64 (K : Int)) (by kernel_rfl) (by kernel_rfl) (by kernel_rfl) (fun _ _ _ h => h) (fun o wq e hS => exec_load (x := (.tmp 7)) e (by kernel_rfl) (load_one Try.underlying3 (by kernel_rfl) hS)) HS.out ?_
  refine loneG 1 (.call ⟨.value (.func 48), #[(.tmp 3), (.const (.int .i64 0))], #[37, 3]⟩) (some 4) none (by kernel_rfl) (by kernel_rfl) (by kernel_rfl) ?_
  intro o ho hod
  refine wp_callC (f := 48) (args := #[.pointer (some ⟨b, 0, none⟩), .int .i64 0]) (by cases o; cases ho; kernel_rfl) HC.out ?_
  rintro ee W4 ⟨rfl, hw⟩
  have hw := hw.symm
  subst hw
  refine ⟨.int .i64 (nb : Int), rfl, ?_⟩
  rw [hod]
  clear hod ho
  refine ⟨fun _ => HS.out, ?_⟩
  refine takeG 6 (.binOp .sub 3 (.tmp 4) (.tmp 8) 3) (some 9) none (.int .i64 ((nb : Int) - (K : Int))) (by kernel_rfl) (by kernel_rfl) (by kernel_rfl) (fun _ _ _ h => h) (fun o wq e hS => exec_bin (u1 := .int .i64 (nb : Int)) (u2 := .int .i64 (K : Int)) wq e (by kernel_rfl) (by kernel_rfl) (eqG_int ..) (hsub _)) HS.out ?_
  refine lastS 7 (.assign (.tmp 9)) (some 2) (.int .i64 ((nb : Int) - (K : Int))) (by kernel_rfl) (by kernel_rfl) (by kernel_rfl) HS.out (fun o e => exec_assign _ e (by kernel_rfl)) ?_
  simp only [put_some, put_none, List.setIfInBounds_toArray, List.set_cons_succ, List.set_cons_zero]
  go_wp2_with fail
  go_ret
  exact ⟨rfl, (Below.refl _ _).drew⟩
def SaysAll (f : Nat → Int) (v : Int) (a b : Nat) (e : Ending) : Prop := ∃ bb : Bool, e = .returned (.bool bb) ∧ (bb = true ↔ allB f v a b)
set_option maxHeartbeats 1600000 in
theorem all_rf {w : World} {O : Nat → Prop} {b N : Nat} {f : Nat → Int} {k : Int} (h : RefM w O b N f k) (hN : N ≤ 40000) (a n : Nat) (han : a + n ≤ N) (v : Int) :
    Calls Try.prog 37 #[.pointer (some ⟨b, 0, none⟩), .int .i64 (a : Int), .int .i64 (n : Int), .int .i64 v] w fun e w' => SaysAll f v a (a + n) e ∧ w' = w := by
  obtain ⟨g, c, cs, h1, h2, h3, _⟩ := h
  have c0 : w.cell? ⟨b, 0, none⟩ = some (.slice (some ⟨g, 0, none⟩) N c) := h1.cell 0
  have HX := Lib.hid h2
  have HC := Lib.hid h3
  clear h1 h2 h3
  go_enter Try.func37, Try.ntmps37
  go_wp2_with fail
  go_loop [9] (fun y => ∃ i : Nat, a ≤ i ∧ i ≤ a + n ∧ y = .int .i64 (i : Int) ∧ Hid (allB f v a i)) (fun y => a + n - (intOf y).toNat)
  case atStart => exact ⟨a, by omega, by omega, rfl, Lib.hid fun c h1 h2 => by omega⟩
  case round =>
    obtain ⟨i, hi1, hi2, rfl, HA⟩ := hrel
    by_cases hlt : i < a + n
    · have t1 : (i : Int) < (a : Int) + (n : Int) := by omega
      have hcell : w.cell? ⟨g, i, none⟩ = some (.int .i64 (f i)) := (HX.out.cell i).trans (HC.out i (by omega))
      obtain ⟨x, hv⟩ : ∃ x, x = f i := ⟨_, rfl⟩
      rw [← hv] at hcell
      have HV := Lib.hid hv
      clear hv
      by_cases hz : x = v
      · subst hz
        have HA2 : Hid (allB f x a (i + 1)) := Lib.hid fun c h1 h2 => by
          by_cases e : c = i
          · subst e; exact HV.out.symm
          · exact HA.out c h1 (by omega)
        clear HA HV
        go_wp2_with fail
        go_round
        case rel => exact ⟨i + 1, by omega, by omega, by go_num, HA2⟩
        case measure => simp [intOf]; omega
      · have hz1 : (x == v) = false := by simp [hz]
        have hz2 : (x != v) = true := by simp [hz]
        have HNO : Hid (¬ allB f v a (a + n)) := Lib.hid fun h => hz (HV.out.trans (h i hi1 hlt))
        clear HA HV hz
        go_wp2_with fail
        go_ret
        exact ⟨⟨false, rfl, (fun h => by cases h), fun h => absurd h HNO.out⟩, rfl⟩
    · obtain rfl : i = a + n := by omega
      have t1 : ¬ (((a + n : Nat) : Int) < (a : Int) + (n : Int)) := by omega
      clear hlt HC HX
      go_wp2_with fail
      go_ret
      exact ⟨⟨true, rfl, fun _ => HA.out, fun _ => rfl⟩, rfl⟩
set_option maxHeartbeats 1600000 in
theorem set_rf {w : World} {O : Nat → Prop} {b N : Nat} {f : Nat → Int} {k : Int} (h : RefM w O b N f k) (hN : N ≤ 40000) (a n : Nat) (han : a + n ≤ N) (v : Int) :
    Calls Try.prog 35 #[.pointer (some ⟨b, 0, none⟩), .int .i64 (a : Int), .int .i64 (n : Int), .int .i64 v] w fun e w' => e = .returned (.tuple #[]) ∧ RefM w' O b N (fset f a (a + n) v) k ∧ Frm O w w' := by
  obtain ⟨g, c, cs, h1, h2, h3, h4, h5⟩ := h
  have hbg : b ≠ g := fun e => by
    subst e
    unfold Blk at h1 h2
    rw [h1] at h2
    injection h2 with h2
    injection h2 with _ h2
    exact absurd h2 (by decide)
  have HST : Hid (∃ cs', Blk w g 3 cs' ∧ ∀ i, i < N → cs'[i]? = some (.int .i64 (fset f a a v i))) := Lib.hid ⟨cs, h2, by rw [fset_none]; exact h3⟩
  have HB1 := Lib.hid h1
  have HL : Hid (Frm O w w) := Lib.hid (Frm.refl _ _)
  have HBB := Lib.hid (⟨hbg, h4, h5⟩ : _ ∧ _ ∧ _)
  clear h1 h2 h3 h4 h5 hbg
  go_enter Try.func35, Try.ntmps35
  go_wp2_with fail
  go_loopw [8] (fun y wr => ∃ i : Nat, a ≤ i ∧ i ≤ a + n ∧ y = .int .i64 (i : Int) ∧ Hid (∃ cs', Blk wr g 3 cs' ∧ ∀ j, j < N → cs'[j]? = some (.int .i64 (fset f a i v j))) ∧ Hid (Blk wr b 73 #[.slice (some ⟨g, 0, none⟩) N c, .int .i64 k]) ∧ Hid (Frm O w wr)) (fun y _ => a + n - (intOf y).toNat)
  case atStart => exact ⟨a, by omega, by omega, rfl, HST, HB1, HL⟩
  case round =>
    clear HST HB1 HL
    obtain ⟨i, hi1, hi2, rfl, HST, HB1, HL⟩ := hrel
    by_cases hlt : i < a + n
    · have t1 : (i : Int) < (a : Int) + (n : Int) := by omega
      have hiN : (i : Int) < (N : Int) := by omega
      have c0 : wr.cell? ⟨b, 0, none⟩ = some (.slice (some ⟨g, 0, none⟩) N c) := HB1.out.cell 0
      obtain ⟨cs', x1, x2⟩ := HST.out
      have hcell : wr.cell? ⟨g, i, none⟩ = some (.int .i64 (fset f a i v i)) := (x1.cell i).trans (x2 i (by omega))
      have hfr := x1.frozen i
      have X := x1.set_ i (.int .i64 v)
      have hs : i < cs'.size := by
        have := x2 i (by omega)
        exact (Array.getElem?_eq_some_iff.1 this).1
      have HST2 : Hid (∃ cs', Blk (wr.setCell ⟨g, i, none⟩ (.int .i64 v)) g 3 cs' ∧ ∀ j, j < N → cs'[j]? = some (.int .i64 (fset f a (i + 1) v j))) := Lib.hid ⟨_, X, fun j hj => by
        rw [← fset_next f hi1 v, Array.getElem?_setIfInBounds]
        by_cases e : i = j
        · subst e
          rw [if_pos rfl, if_pos hs]
          show some (Value.int .i64 v) = some (Value.int .i64 (if i = i then v else fset f a i v i))
          rw [if_pos rfl]
        · rw [if_neg e]
          show cs'[j]? = some (Value.int .i64 (if j = i then v else fset f a i v j))
          rw [if_neg (fun x => e x.symm)]
          exact x2 j hj⟩
      have HB2 := Lib.hid (HB1.out.far (p := ⟨g, i, none⟩) HBB.out.1 (.int .i64 v))
      have HL2 : Hid (Frm O w (wr.setCell ⟨g, i, none⟩ (.int .i64 v))) := Lib.hid (HL.out.setCell (p := ⟨g, i, none⟩) HBB.out.2.2 _)
      clear X x1 x2 hs HST HB1 HL
      go_wp2_with fail
      go_roundw
      case rel => exact ⟨i + 1, by omega, by omega, by go_num, HST2, HB2, HL2⟩
      case measure => simp [intOf]; omega
    · obtain rfl : i = a + n := by omega
      have t1 : ¬ (((a + n : Nat) : Int) < (a : Int) + (n : Int)) := by omega
      clear hlt
      go_wp2_with fail
      go_end0
      obtain ⟨cs', x1, x2⟩ := HST.out
      exact ⟨rfl, ⟨g, c, cs', HB1.out, x1, x2, HBB.out.2.1, HBB.out.2.2⟩, HL.out⟩
def inZ (N : Nat) (a n : Int) : Bool := decide (1 ≤ n) && decide (0 ≤ a) && decide (n ≤ (N : Int)) && decide (a ≤ (N : Int) - n)
theorem in_rf {w : World} {O : Nat → Prop} {b N : Nat} {f : Nat → Int} {k : Int} (h : RefM w O b N f k) (hN : N ≤ 40000) (a n : Int) (ha1 : -9223372036854775808 ≤ a) (ha2 : a ≤ 9223372036854775807) (hn1 : -9223372036854775808 ≤ n) (hn2 : n ≤ 9223372036854775807) :
    Calls Try.prog 36 #[.pointer (some ⟨b, 0, none⟩), .int .i64 a, .int .i64 n] w fun e w' => e = .returned (.bool (inZ N a n)) ∧ w' = w := by
  obtain ⟨g, c, cs, h1, _⟩ := h
  have c0 : w.cell? ⟨b, 0, none⟩ = some (.slice (some ⟨g, 0, none⟩) N c) := h1.cell 0
  clear h1
  obtain ⟨R, hR⟩ : ∃ R, R = inZ N a n := ⟨_, rfl⟩
  rw [← hR]
  have HR := Lib.hid hR
  clear hR
  by_cases e1 : 1 ≤ n
  · by_cases e2 : 0 ≤ a
    · by_cases e3 : n ≤ (N : Int)
      · by_cases e4 : a ≤ (N : Int) - n
        · have hr : R = true := by rw [HR.out]; unfold inZ; simp [e1, e2, e3, e4]
          subst hr
          clear HR
          go_enter Try.func36, Try.ntmps36
          go_wp2_with fail
          go_ret
          exact ⟨rfl, rfl⟩
        · have hr : R = false := by rw [HR.out]; unfold inZ; simp [e1, e2, e3, e4]
          subst hr
          clear HR
          go_enter Try.func36, Try.ntmps36
          go_wp2_with fail
          go_ret
          exact ⟨rfl, rfl⟩
      · have hr : R = false := by rw [HR.out]; unfold inZ; simp [e3]
        subst hr
        clear HR
        go_enter Try.func36, Try.ntmps36
        go_wp2_with fail
        go_ret
        exact ⟨rfl, rfl⟩
    · have hr : R = false := by rw [HR.out]; unfold inZ; simp [e2]
      subst hr
      clear HR
      go_enter Try.func36, Try.ntmps36
      go_wp2_with fail
      go_ret
      exact ⟨rfl, rfl⟩
  · have hr : R = false := by rw [HR.out]; unfold inZ; simp [e1]
    subst hr
    clear HR
    go_enter Try.func36, Try.ntmps36
    go_wp2_with fail
    go_ret
    exact ⟨rfl, rfl⟩
end Rf
end Go.Proofs.Ytpbojhjbjnoihaa
