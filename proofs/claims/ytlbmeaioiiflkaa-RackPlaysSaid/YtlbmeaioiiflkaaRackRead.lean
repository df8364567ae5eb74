/-
  'slices.Clone' of a row of bytes and 'rack.Read' by contracts. Conditions: the rack is one.
-/
import Derived.Test.YtlbmeaioiiflkaaRackNew
import Derived.WalkSpells
import Derived.Laws.AppendOwn
namespace Go.Proofs.Ytlbmeaioiiflkaa
open Go.RowKit
set_option linter.unusedVariables false

theorem own_base {w : World} {B B' n c : Nat} {e : TypeId} {v : Value} {xs : List Value} (h : w.ownsRow B e c v n xs) (hb : B' ≤ B) : w.ownsRow B' e c v n xs := by
  refine ⟨h.1, ?_⟩
  rcases h.2 with e | ⟨g, cap, cur, e, h1, h2⟩
  · exact .inl e
  · exact .inr ⟨g, cap, cur, e, by omega, h2⟩
def rowL (n : Nat) (X : Nat → Nat) : List Value := (List.range n).map fun j => Value.int .u8 ((X j : Nat) : Int)
theorem rowL_length (n : Nat) (X : Nat → Nat) : (rowL n X).length = n := by simp [rowL]
theorem rowL_get {n j : Nat} (X : Nat → Nat) (h : j < n) : (rowL n X)[j]? = some (.int .u8 ((X j : Nat) : Int)) := by simp [rowL, h]

set_option maxRecDepth 100000 in
set_option maxHeartbeats 1600000 in
theorem clone_any (w : World) (g n c : Nat) (X : Nat → Nat) (hx : ∀ j, j < n → w.cell? ⟨g, j, none⟩ = some (.int .u8 ((X j : Nat) : Int))) (hn : n ≤ 70000) :
    Calls Try.prog 39 #[.slice (some ⟨g, 0, none⟩) n c] w fun e w' => ∃ v, e = .returned v ∧ w'.ownsRow w.heap.size 5 1 v n (rowL n X) ∧ Below w.heap.size w w' := by
  obtain ⟨i0, hi, hz0, hz1, hz2⟩ := info_parts info_u8
  have HX := Lib.hid hx
  clear hx
  have he : ∀ w : World, (binOp .eql 43 (.slice (some ⟨g, 0, none⟩) n c) (.slice none 0 0)).run Try.prog w = .ok (.bool false) w := by
    intro w
    simp only [binOp]
    simp [Op.equal, Op.maxDepth, Lib.run_equalIn_slice_nil w 9999 43 _ _ n c 0 0 Try.underlying43]
  go_enter Try.func39, Try.ntmps39
  have OW : Hid ((w.alloc (.cells #[] 5)).ownsRow w.heap.size 5 1 (.slice (some ⟨w.heap.size, 0, none⟩) 0 0) 0 []) :=
    ⟨rfl, .inr ⟨w.heap.size, 0, #[], rfl, Nat.le_refl _, (Blk.new w 5 #[]), Nat.le_refl _, by simp [maxLen], rfl, rfl⟩⟩
  go_wp2_with (at_builtin; refine wpList_append_own _ rfl (.tmp 5) (.tmp 6) 43 rfl w.heap.size 5 i0 (.int .u8 0) 1 1 Try.underlying43 hi hz0 hz1 hz2 rfl (by decide) _ _ _ rfl OW.out ⟨g, 0, none⟩ n c (rowL n X) rfl (by simp [rowL_length]) ?_ ?_ (by simp only [maxLen]; omega) (by omega) (by simp) ?_)
  · intro j u hj
    have hjn : j < n := by have := (List.getElem?_eq_some_iff.1 hj).1; rw [rowL_length] at this; exact this
    rw [rowL_get X hjn] at hj
    injection hj with hj
    subst hj
    have h1 := HX.out j hjn
    rw [add_plain, Nat.zero_add]
    exact ((w.cell?_alloc_old _ _ (Nat.ne_of_lt (block_lt_of_cell h1))).trans h1)
  · intro u hu
    simp only [rowL, List.mem_map] at hu
    obtain ⟨j, _, rfl⟩ := hu
    rfl
  · intro v' w2 hv2 hg2 _
    have HV := Lib.hid hv2
    have HG := Lib.hid hg2
    clear hv2 hg2
    go_wp2_with fail
    go_ret
    refine ⟨v', rfl, ?_, ?_⟩
    · exact HV.out
    · exact ((Below.refl _ w).alloc (Nat.le_refl _) _).grown HG.out (by simp) (fun k hk => by
        injection hk with hk
        exact Nat.le_of_eq hk)

/-- what Read answers where it answers no bytes -/
def RS.deny (s : RS) (D A : Int) : Int := if s.why D A = 0 then (if s.off then 16 else 0) else s.why D A

set_option maxRecDepth 100000 in
set_option maxHeartbeats 1600000 in
theorem read_no {B : Nat} (w : World) (r : Nat) (s : RS) (D A : Int) (h : RackAt B w r s) (hd : s.deny D A ≠ 0) :
    Calls Try.prog 19 #[.pointer (some ⟨r, 0, none⟩), .int .i64 D, .int .i64 A] w fun e w' => e = .returned (.tuple #[.slice none 0 0, .int .i64 (s.deny D A)]) ∧ RackAt B w' r s ∧ Keep B w w' := by
  have H1 := Lib.hid (h.alloc (.cells #[.int .i64 D, .int .i64 A] 54))
  have K1 := Lib.hid ((Keep.refl B w).alloc h.le (.cells #[.int .i64 D, .int .i64 A] 54))
  clear h
  go_enter Try.func19, Try.ntmps19
  go_wp2_with fail
  refine (reach_any _ r s D A H1.out).mono ?_
  rintro e w1 ⟨rfl, h2, k2, _, _⟩
  have H2 := Lib.hid h2
  have K2 := Lib.hid (K1.out.trans k2)
  clear h2 k2
  by_cases hw : s.why D A = 0
  · have ed : s.deny D A = 16 := by
      unfold RS.deny at hd ⊢
      rw [if_pos hw] at hd ⊢
      by_cases ho : s.off = true
      · rw [if_pos ho]
      · rw [if_neg ho] at hd; exact absurd rfl hd
    have ho : s.off = true := by
      unfold RS.deny at ed
      rw [if_pos hw] at ed
      by_cases ho : s.off = true
      · exact ho
      · rw [if_neg ho] at ed; cases ed
    rw [hw]
    have ED := Lib.hid ed
    obtain ⟨_, m1, m2, v, hw2⟩ := H2.out
    have c21 := hw2.c21
    simp only [ho] at c21
    clear ed hd hw ho hw2
    go_wp2_with fail
    go_ret2
    rw [ED.out]
    exact ⟨rfl, H2.out, K2.out⟩
  · have ed : s.deny D A = s.why D A := by unfold RS.deny; rw [if_neg hw]
    have ED := Lib.hid ed
    generalize s.why D A = y at *
    clear ed hd
    have t1 : (y = 0) = False := by simp [hw]
    go_wp2_with fail
    go_ret2
    rw [ED.out]
    exact ⟨rfl, H2.out, K2.out⟩

set_option maxRecDepth 100000 in
set_option maxHeartbeats 1600000 in
theorem read_ok {B : Nat} (w : World) (r : Nat) (s : RS) (d a : Nat) (h : RackAt B w r s) (hd : d < s.nd) (ha : a < s.ns) (hg : s.gone d = false) (ho : s.off = false) :
    Calls Try.prog 19 #[.pointer (some ⟨r, 0, none⟩), .int .i64 (d : Int), .int .i64 (a : Int)] w fun e w' => (∃ v, e = .returned (.tuple #[v, .int .i64 0]) ∧ w'.ownsRow w.heap.size 5 1 v 128 (rowL 128 (s.holds d a))) ∧ RackAt B w' r s ∧ Keep B w w' := by
  have H1 := Lib.hid (h.alloc (.cells #[.int .i64 (d : Int), .int .i64 (a : Int)] 54))
  have K1 := Lib.hid ((Keep.refl B w).alloc h.le (.cells #[.int .i64 (d : Int), .int .i64 (a : Int)] 54))
  have hwhy : s.why (d : Int) (a : Int) = 0 := by
    have e : s.isP (d : Int) (a : Int) = true := by simp [RS.isP, RS.isD]; omega
    unfold RS.why
    rw [if_pos e, Int.toNat_natCast, hg]
    rfl
  have b0 := Lib.hid (Blk.new w 54 #[.int .i64 (d : Int), .int .i64 (a : Int)])
  have hz := zero_sector
  clear h
  go_enter Try.func19, Try.ntmps19
  go_wp2_with fail
  refine (reach_any _ r s d a H1.out).mono ?_
  rintro e w1 ⟨rfl, h2, k2, _, _⟩
  have H2 := Lib.hid h2
  have K2 := Lib.hid (K1.out.trans k2)
  have b1 := k2.block b0.out rfl
  have hs1 : w.heap.size ≤ w1.heap.size := K2.out.below.size
  obtain ⟨_, m1, m2, v, hw2⟩ := h2
  have c21 := hw2.c21
  simp only [ho] at c21
  have p0 : w1.cell? ⟨w.heap.size, 0, none⟩ = some (.int .i64 (d : Int)) := b1.cell 0
  have p1 : w1.cell? ⟨w.heap.size, 1, none⟩ = some (.int .i64 (a : Int)) := b1.cell 1
  clear k2 hw2 b1
  rw [hwhy]
  clear hwhy
  go_wp2_with fail
  refine (holds_any _ r s d a H2.out hd ha).mono ?_
  rintro e w2 ⟨rfl, h3, k3⟩
  have H3 := Lib.hid h3
  have K3 := Lib.hid (K2.out.trans k3)
  have hs2 : w.heap.size ≤ w2.heap.size := K3.out.below.size
  clear h3 k3 p0 p1 c21
  go_wp2_with (with_reducible refine wpList_allocX ?_ 57 ?_ _ (alloc_sector _) ?_; rfl; rfl; refine of_hid ?_)
  refine Lib.hid ?_
  refine wpList_storeBlk rfl 57 (.tmp 10) (.tmp 26) rfl w2.heap.size (secA zeros) (secA (s.holds d a)) rfl rfl (Blk.new _ _ _) (by rw [secA_size]; exact isize_sector) (by rw [secA_size, secA_size]) (secA_one _) ?_
  intro w4 hb4 hg4 hs4
  have hs4' : w2.heap.size + 1 = w4.heap.size := by rw [hs4]; simp
  have H4 := Lib.hid ((H3.out.alloc _).grownFar (Blk.new _ _ _) rfl hg4)
  have K4 := Lib.hid ((K3.out.alloc H3.out.le _).grownNew hg4 (Nat.le_trans H3.out.le (Nat.le_refl _)) (H3.out.alloc _).le hs2)
  have hx : Hid (∀ j, j < 128 → w4.cell? ⟨w2.heap.size, j, none⟩ = some (.int .u8 ((s.holds d a j : Nat) : Int))) := fun j hj => (hb4.cell j).trans (rowArr_get hj)
  clear hb4 hg4 hs4
  go_wp2_with fail
  refine (clone_any _ _ 128 _ (s.holds d a) hx.out (by omega)).mono ?_
  rintro e w5 ⟨v5, rfl, ho5, hb5⟩
  have H5 := Lib.hid (H4.out.below hb5)
  have K5 := Lib.hid (K4.out.new hb5 H4.out.le)
  have O5 := Lib.hid (own_base ho5 (B' := w.heap.size) (by omega))
  clear ho5 hb5
  go_wp2_with fail
  go_ret2
  exact ⟨⟨_, rfl, O5.out⟩, H5.out, K5.out⟩
end Go.Proofs.Ytlbmeaioiiflkaa
