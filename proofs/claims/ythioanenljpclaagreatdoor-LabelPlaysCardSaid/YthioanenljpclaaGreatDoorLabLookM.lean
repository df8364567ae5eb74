/-
  'hoardlaw01.bytes' by a contract, rows of bytes and their texts. Conditions: numbers that fit an int.
-/
import Derived.Test.YthioanenljpclaaGreatDoorRackCrashM
import Derived.Laws.BytesArg
import Derived.Test.YthioanenljpclaaGreatDoorDrawSeqM
import Derived.Test.YthioanenljpclaaGreatDoorBytesM
import Derived.Laws.StructEq
import Derived.Test.YthioanenljpclaaGreatDoorRackLoseM
import Derived.Test.YthioanenljpclaaGreatDoorRackRot
import Derived.Test.YthioanenljpclaaGreatDoorLabDecM
namespace Go.Proofs.YthioanenljpclaaGreatDoor
set_option maxRecDepth 100000
open Go.RowKit
set_option linter.unusedVariables false

end Go.Proofs.YthioanenljpclaaGreatDoor
namespace Go.Proofs.YthioanenljpclaaGreatDoor
set_option maxRecDepth 100000
open Go Go.RowKit
set_option linter.unusedVariables false

/-- a row of bytes that a call has answered -/
def Row8 (w : World) (v : Value) (n : Nat) (X : Nat → Nat) : Prop := ∃ g c cs, v = .slice (some ⟨g, 0, none⟩) n c ∧ Blk w g 5 cs ∧ ∀ j, j < n → cs[0 + j]? = some (.int .u8 ((X j : Nat) : Int))
theorem Row8.of_blk {w : World} {g n c : Nat} {X : Nat → Nat} (h : Blk w g 5 (rowArr n X)) : Row8 w (.slice (some ⟨g, 0, none⟩) n c) n X :=
  ⟨g, c, _, rfl, h, fun j hj => by rw [Nat.zero_add]; exact rowArr_get hj⟩
theorem Row8.conv {w : World} {v : Value} {n : Nat} {X : Nat → Nat} (h : Row8 w v n X) : (convert 51 9 v).run Tryz.prog w = .ok (.string (strB n X)) w := by
  obtain ⟨g, c, cs, rfl, hb, hx⟩ := h
  exact conv_bytes hb hx
theorem Row8.keep {B : Nat} {w w' : World} {v : Value} {n : Nat} {X : Nat → Nat} (h : Row8 w v n X) (hk : Keep B w w') : Row8 w' v n X := by
  obtain ⟨g, c, cs, rfl, hb, hx⟩ := h
  exact ⟨g, c, cs, rfl, hk.block hb rfl, hx⟩
theorem Row8.new_ {w w' : World} {v : Value} {n : Nat} {X : Nat → Nat} (h : Row8 w v n X) (hk : Below w.heap.size w w') : Row8 w' v n X := by
  obtain ⟨g, c, cs, rfl, hb, hx⟩ := h
  exact ⟨g, c, cs, rfl, hb.new_ hk, hx⟩
theorem Row8.drew {w : World} {v : Value} {n : Nat} {X : Nat → Nat} (h : Row8 w v n X) : Row8 w.drew v n X := h
end Go.Proofs.YthioanenljpclaaGreatDoor
namespace Go.Proofs.YthioanenljpclaaGreatDoor
open Go Go.RowKit
set_option maxRecDepth 100000
set_option linter.unusedVariables false
namespace refRack
theorem spent_costs (s : RS) : s.spent.cost = s.cost := (spent_same s).2.2.2.2.1
section
variable {B : Nat} {w w' : World} {r g : Nat} {s t : RS}
set_option maxHeartbeats 800000 in
theorem rot_whyR {B : Nat} (w : World) (r : Nat) (s : RS) (D A : Int) (n : Int) (h : RackAt B w r s) (hn : 0 ≤ n) (hw : s.why D A ≠ 0) :
    Calls Tryz.prog 18 #[.pointer (some ⟨r, 0, none⟩), .int .i64 D, .int .i64 A, .int .i64 n] w fun e w' => e = .returned (.int .i64 (s.why D A)) ∧ RackAt B w' r s ∧ Keep B w w' := by
  have H1 := Lib.hid (h.alloc (.cells #[.int .i64 D, .int .i64 A] 84))
  have K1 := Lib.hid ((Keep.refl B w).alloc h.le (.cells #[.int .i64 D, .int .i64 A] 84))
  have hz := zero_sector
  clear h
  go_enter Tryz.func18, Tryz.ntmps18
  go_wp2_with fail
  refine (reach_any _ r s D A H1.out).mono ?_
  rintro e w2 ⟨rfl, h2, k2, _, _⟩
  have H2 := Lib.hid h2
  have K2 := Lib.hid (K1.out.trans k2)
  clear h2 k2
  generalize hy : s.why D A = y at *
  have HY := Lib.hid hy
  clear hy
  have t1 : (y = 0) = False := by simp [hw]
  go_wp2_with fail
  go_ret
  rw [HY.out]
  exact ⟨rfl, H2.out, K2.out⟩
theorem rot_negR {B : Nat} (w : World) (r : Nat) (s : RS) (D A N : Int) (hN : N < 0) :
    Calls Tryz.prog 18 #[.pointer (some ⟨r, 0, none⟩), .int .i64 D, .int .i64 A, .int .i64 N] w fun e w' => e = .returned (.int .i64 1) ∧ w' = w := by
  go_enter Tryz.func18, Tryz.ntmps18
  go_wp2_with fail
  go_ret
  exact ⟨rfl, rfl⟩
theorem isD_some {s : RS} {D : Int} (h : s.isD D = true) : ∃ d : Nat, D = (d : Int) ∧ d < s.nd := by
  unfold RS.isD at h
  rw [Bool.and_eq_true] at h
  have h1 := of_decide_eq_true h.1
  have h2 := of_decide_eq_true h.2
  exact ⟨D.toNat, by omega, by omega⟩
theorem why_some {s : RS} {D A : Int} (h : s.why D A = 0) : ∃ d a : Nat, D = (d : Int) ∧ A = (a : Int) ∧ d < s.nd ∧ a < s.ns ∧ s.gone d = false := by
  unfold RS.why at h
  by_cases hp : s.isP D A = true
  · rw [if_pos hp] at h
    unfold RS.isP at hp
    rw [Bool.and_eq_true, Bool.and_eq_true] at hp
    obtain ⟨d, rfl, hd⟩ := isD_some hp.1
    have h1 := of_decide_eq_true hp.2.1
    have h2 := of_decide_eq_true hp.2.2
    refine ⟨d, A.toNat, rfl, by omega, hd, by omega, ?_⟩
    cases hg : s.gone d with
    | false => rfl
    | true => rw [Int.toNat_natCast, hg] at h; simp at h
  · rw [if_neg hp] at h; simp at h
def loseE (s : RS) (D : Int) : Int := if s.isD D = true then 0 else 1
def loseS (s : RS) (D : Int) : RS := if s.isD D = true then s.lost D.toNat else s
def anewS (s : RS) (D : Int) : RS := if s.isD D = true then s.anew D.toNat else s
def rotE (s : RS) (D A n : Int) : Int := if n < 0 then 1 else s.why D A
def rotS (s : RS) (D A n : Int) : RS := if n < 0 ∨ s.why D A ≠ 0 then s else s.rotted D.toNat A.toNat n.toNat
def wrE (s : RS) (D A : Int) (m : Nat) : Int := if m = 128 then (if s.why D A = 0 then (if s.pow = true then 0 else 16) else s.why D A) else 1
def wrS (s : RS) (D A : Int) (m : Nat) (X : Nat → Nat) : RS := if m = 128 ∧ s.why D A = 0 then (if s.pow = true then s.spent.wrote D.toNat A.toNat X else s.spent) else s
theorem loseS_cost (s : RS) (D : Int) : (loseS s D).cost = s.cost := by
  unfold refRack.loseS
  by_cases hd : s.isD D = true
  · rw [if_pos hd]; rfl
  · rw [if_neg hd]
theorem anewS_cost (s : RS) (D : Int) : (anewS s D).cost = s.cost := by
  unfold refRack.anewS
  by_cases hd : s.isD D = true
  · rw [if_pos hd]; rfl
  · rw [if_neg hd]
theorem rotS_cost (s : RS) (D A n : Int) : (rotS s D A n).cost ≤ s.cost + 1 := by
  unfold refRack.rotS
  by_cases hd : n < 0 ∨ s.why D A ≠ 0
  · rw [if_pos hd]; omega
  · rw [if_neg hd]
    cases hi : newIn s.W D.toNat A.toNat s.nw with
    | some i => rw [rotted_some hi]; exact Nat.le_refl _
    | none => rw [rotted_none hi]; exact Nat.le_refl _
theorem wrS_cost (s : RS) (D A : Int) (m : Nat) (X : Nat → Nat) : (wrS s D A m X).cost ≤ s.cost + 1 := by
  unfold refRack.wrS
  have e : s.spent.cost = s.cost := spent_costs s
  by_cases hd : m = 128 ∧ s.why D A = 0
  · rw [if_pos hd]
    by_cases hp : s.pow = true
    · rw [if_pos hp]; show s.spent.cost + 1 ≤ _; omega
    · rw [if_neg hp]; omega
  · rw [if_neg hd]; omega
theorem lose_tot (w : World) (r : Nat) (s : RS) (D : Int) (h : RackAt B w r s) :
    Calls Tryz.prog 14 #[.pointer (some ⟨r, 0, none⟩), .int .i64 D] w fun e w' => e = .returned (.int .i64 (loseE s D)) ∧ RackAt B w' r (loseS s D) ∧ Keep B w w' := by
  cases hd : s.isD D with
  | true =>
    obtain ⟨d, rfl, hd2⟩ := isD_some hd
    unfold refRack.loseE refRack.loseS
    rw [if_pos hd, if_pos hd, Int.toNat_natCast]
    exact lose_ok w r s d h hd2
  | false =>
    unfold refRack.loseE refRack.loseS
    rw [if_neg (by rw [hd]; decide), if_neg (by rw [hd]; decide)]
    exact (lose_no w r s D h hd).mono fun e w' ⟨h1, h2⟩ => ⟨h1, by rw [h2]; exact h, by rw [h2]; exact Keep.refl B w⟩
theorem anew_tot (w : World) (r : Nat) (s : RS) (D : Int) (h : RackAt B w r s) :
    Calls Tryz.prog 16 #[.pointer (some ⟨r, 0, none⟩), .int .i64 D] w fun e w' => e = .returned (.int .i64 (loseE s D)) ∧ RackAt B w' r (anewS s D) ∧ Keep B w w' := by
  cases hd : s.isD D with
  | true =>
    obtain ⟨d, rfl, hd2⟩ := isD_some hd
    unfold refRack.loseE refRack.anewS
    rw [if_pos hd, if_pos hd, Int.toNat_natCast]
    exact replace_ok w r s d h hd2
  | false =>
    unfold refRack.loseE refRack.anewS
    rw [if_neg (by rw [hd]; decide), if_neg (by rw [hd]; decide)]
    exact (replace_no w r s D h hd).mono fun e w' ⟨h1, h2⟩ => ⟨h1, by rw [h2]; exact h, by rw [h2]; exact Keep.refl B w⟩
theorem rot_tot (w : World) (r : Nat) (s : RS) (D A n : Int) (hn : n ≤ 9223372036854775807) (hcost : s.cost + 1 ≤ 1000000) (h : RackAt B w r s) :
    Calls Tryz.prog 18 #[.pointer (some ⟨r, 0, none⟩), .int .i64 D, .int .i64 A, .int .i64 n] w fun e w' => e = .returned (.int .i64 (rotE s D A n)) ∧ RackAt B w' r (rotS s D A n) ∧ Keep B w w' := by
  unfold refRack.rotE refRack.rotS
  by_cases h0 : n < 0
  · rw [if_pos h0, if_pos (.inl h0)]
    exact (rot_negR (B := B) w r s D A n h0).mono fun e w' ⟨h1, h2⟩ => ⟨h1, by rw [h2]; exact h, by rw [h2]; exact Keep.refl B w⟩
  · rw [if_neg h0]
    by_cases h1 : s.why D A = 0
    · rw [if_neg (by omega)]
      rw [h1]
      obtain ⟨d, a, rfl, rfl, h2, h3, h4⟩ := why_some h1
      obtain ⟨m, rfl⟩ : ∃ m : Nat, n = (m : Int) := ⟨n.toNat, by omega⟩
      rw [Int.toNat_natCast, Int.toNat_natCast, Int.toNat_natCast]
      exact rot_ok w r s d a m h h2 h3 h4 (by omega) hcost
    · rw [if_pos (.inr h1)]
      exact rot_whyR w r s D A n h (by omega) h1
theorem wr_tot (w : World) (r : Nat) (s : RS) (D A : Int) (gb m c : Nat) (X : Nat → Nat) (hb : Blk w gb 5 (rowArr m X)) (hX : ∀ j, j < 128 → X j < 256) (hcost : s.cost + 1 ≤ 1000000) (h : RackAt B w r s) :
    Calls Tryz.prog 21 #[.pointer (some ⟨r, 0, none⟩), .int .i64 D, .int .i64 A, .slice (some ⟨gb, 0, none⟩) m c] w fun e w' => e = .returned (.int .i64 (wrE s D A m)) ∧ RackAt B w' r (wrS s D A m X) ∧ Keep B w w' := by
  unfold refRack.wrE refRack.wrS
  by_cases hm : m = 128
  · subst hm
    rw [if_pos rfl]
    by_cases h1 : s.why D A = 0
    · rw [if_pos h1, if_pos (show 128 = 128 ∧ s.why D A = 0 from ⟨rfl, h1⟩)]
      obtain ⟨d, a, rfl, rfl, h2, h3, h4⟩ := why_some h1
      rw [Int.toNat_natCast, Int.toNat_natCast]
      exact write_go w r s _ _ d a gb 0 c X 5 _ h h2 h3 h4 hb rfl (fun j hj => ⟨by rw [Nat.zero_add]; exact rowArr_get hj, hX j hj⟩) hcost rfl rfl
    · rw [if_neg h1, if_neg (show ¬(128 = 128 ∧ s.why D A = 0) from fun q => h1 q.2)]
      exact write_why w r s D A _ c h h1
  · rw [if_neg hm, if_neg (show ¬(m = 128 ∧ s.why D A = 0) from fun q => hm q.1)]
    exact (write_size w r s D A _ m c h hm).mono fun e w' ⟨h1, h2⟩ => ⟨h1, by rw [h2]; exact h, by rw [h2]; exact Keep.refl B w⟩
/-- what a read answers: the bytes, or none -/
def rdN (s : RS) (D A : Int) : Nat := if s.deny D A = 0 then 128 else 0
theorem deny_some {s : RS} {D A : Int} (h : s.deny D A = 0) : s.why D A = 0 ∧ s.off = false := by
  unfold RS.deny at h
  by_cases h1 : s.why D A = 0
  · rw [if_pos h1] at h
    refine ⟨h1, ?_⟩
    cases ho : s.off with
    | false => rfl
    | true => rw [ho] at h; simp at h
  · rw [if_neg h1] at h; exact absurd h h1
theorem read_tot (w : World) (r : Nat) (s : RS) (D A : Int) (h : RackAt B w r s) :
    Calls Tryz.prog 64 #[.pointer (some ⟨r, 0, none⟩), .int .i64 D, .int .i64 A] w fun e w' => (∃ v, e = .returned (.tuple #[v, .int .i64 (s.deny D A)]) ∧ w'.ownsRow w.heap.size 5 1 v (rdN s D A) (rowL (rdN s D A) (s.holds D.toNat A.toNat))) ∧ RackAt B w' r s ∧ Keep B w w' := by
  unfold rdN
  by_cases h1 : s.deny D A = 0
  · rw [if_pos h1, h1]
    obtain ⟨h2, h3⟩ := deny_some h1
    obtain ⟨d, a, rfl, rfl, h4, h5, h6⟩ := why_some h2
    rw [Int.toNat_natCast, Int.toNat_natCast]
    exact read_ok w r s d a h h4 h5 h6 h3
  · rw [if_neg h1]
    exact (read_no w r s D A h h1).mono fun e w' ⟨h2, h3, h4⟩ => ⟨⟨_, h2, rfl, .inl ⟨rfl, rfl⟩⟩, h3, h4⟩
end
end refRack
end Go.Proofs.YthioanenljpclaaGreatDoor
namespace Go.Proofs.YthioanenljpclaaGreatDoor
set_option maxRecDepth 100000
open Go Go.RowKit
set_option linter.unusedVariables false

/-- the power is on, and stays -/
def RS.calm (s : RS) : Prop := s.off = false ∧ s.armed = false
theorem RS.calm.pow {s : RS} (h : s.calm) : s.pow = true := by unfold RS.pow; rw [h.1, h.2]; rfl
theorem RS.calm.spent {s : RS} (h : s.calm) : s.spent = s := by unfold RS.spent; rw [h.1, h.2]; rfl
theorem RS.calm.wrote {s : RS} (h : s.calm) (d a : Nat) (X : Nat → Nat) : (s.wrote d a X).calm := h
theorem RS.calm.laid {s : RS} (h : s.calm) (P : Nat → Bool) : (s.laid P).calm := h
theorem RS.calm.flushed {s : RS} (h : s.calm) : s.flushed.calm := h
section
variable {B : Nat} {w w' : World} {r : Nat} {s : RS}
theorem RackAt.ok (h : RackAt B w r s) : s.ok := h.1
theorem RS.holds_lt {s : RS} (h : s.ok) (d a j : Nat) (hj : j < 128) : s.holds d a j < 256 := by
  unfold RS.holds
  cases hi : newIn s.W d a s.nw with
  | some i => exact (h.wp i (newIn_lt hi).1).2.2 j hj
  | none => exact h.lp d a j hj
end
end Go.Proofs.YthioanenljpclaaGreatDoor
namespace Go.Proofs.YthioanenljpclaaGreatDoor
open Go Go.RowKit refRack
set_option maxRecDepth 100000
set_option linter.unusedVariables false
namespace Lab
/-- the bytes of a sector -/
def sec (s : RS) (d a : Nat) : List Nat := (List.range 128).map (s.holds d a)
theorem sec_length (s : RS) (d a : Nat) : (sec s d a).length = 128 := by simp [sec]
theorem sec_lst (s : RS) (d a j : Nat) (h : j < 128) : lst (sec s d a) j = s.holds d a j := by
  unfold lst sec
  rw [List.getD_eq_getElem?_getD]
  simp [h]
theorem sec_lt {s : RS} (h : s.ok) (d a : Nat) : ∀ b ∈ sec s d a, b < 256 := fun b hb => by
  unfold sec at hb
  rw [List.mem_map] at hb
  obtain ⟨j, hj, rfl⟩ := hb
  exact RS.holds_lt h d a j (by simpa using hj)
/-- the record in a slot, if there is one -/
def Has (s : RS) (d a : Nat) (u : U) : Prop := Is (sec s d a) u ∧ u.t.tmod 8 = (a : Int)
open Classical in
noncomputable def found (s : RS) (d a : Nat) : Option U := if h : ∃ u, Has s d a u then some h.choose else none
theorem found_some {s : RS} {d a : Nat} {u : U} (h : Has s d a u) : found s d a = some u := by
  have hx : ∃ u, Has s d a u := ⟨u, h⟩
  unfold found
  rw [dif_pos hx]
  exact congrArg some (hx.choose_spec.1.one h.1)
theorem found_none {s : RS} {d a : Nat} (h : ∀ u, ¬ Has s d a u) : found s d a = none := by
  unfold found
  rw [dif_neg (fun ⟨u, hu⟩ => h u hu)]
noncomputable def lookU (s : RS) (d a : Nat) : U := if s.deny (d : Int) (a : Int) = 0 then (found s d a).getD zeroU else zeroU
noncomputable def lookE (s : RS) (d a : Nat) : Int := if s.deny (d : Int) (a : Int) = 0 then (if (found s d a).isSome = true then 0 else 7) else s.deny (d : Int) (a : Int)
theorem rdb_own {w : World} {B n : Nat} {v : Value} {X : Nat → Nat} (h : w.ownsRow B 5 1 v n (rowL n X)) (hn : 0 < n) (hX : ∀ j, j < n → X j < 256) : ∃ A c, v = .slice A n c ∧ RdB w w.heap.size A n X ∧ n ≤ c ∧ c ≤ maxLen := by
  rcases h.2 with ⟨rfl, h0⟩ | ⟨g, cap, cur, rfl, h1, h2, h3, h4, _⟩
  · omega
  · refine ⟨_, _, rfl, fun j hj => ⟨g, 0, rfl, (Array.getElem?_eq_some_iff.1 h2).1, ?_, hX j hj⟩, h3, h4⟩
    rw [Nat.zero_add, h.cellAt j (by omega)]
    exact rowL_get X hj
section
variable {B : Nat}
theorem fits_any (w : World) (r : Nat) (s : RS) (h : RackAt B w r s) :
    Calls Tryz.prog 32 #[.pointer (some ⟨r, 0, none⟩)] w fun e w' => e = .returned (.bool (decide (8 < s.ns))) ∧ w = w' := by
  have HS := Lib.hid (sectors_any w r s h)
  have hns := h.1.ns2
  clear h
  by_cases h8 : 8 < s.ns
  · have t1 : decide ((8 : Int) < (s.ns : Int)) = true := by simp; omega
    have t2 : decide (8 < s.ns) = true := by simp; omega
    rw [t2]
    clear t2
    go_enter Tryz.func32, Tryz.ntmps32
    go_wp2_with fail
    refine HS.out.mono ?_
    rintro e w' ⟨rfl, rfl⟩
    go_wp2_with fail
    go_ret
    exact ⟨rfl, rfl⟩
  · have t1 : decide ((8 : Int) < (s.ns : Int)) = false := by simp; omega
    have t2 : decide (8 < s.ns) = false := by simp; omega
    rw [t2]
    clear t2
    go_enter Tryz.func32, Tryz.ntmps32
    go_wp2_with fail
    refine HS.out.mono ?_
    rintro e w' ⟨rfl, rfl⟩
    go_wp2_with fail
    go_ret
    exact ⟨rfl, rfl⟩
theorem slot_any (t : Int) (w : World) : Calls Tryz.prog 35 #[.int .i64 t] w fun e w' => e = .returned (.int .i64 (t.tmod 8)) ∧ w = w' := by
  have h1 : -8 < t.tmod 8 ∧ t.tmod 8 < 8 := by
    have h2 := Int.emod_nonneg t (show (8 : Int) ≠ 0 by omega)
    rcases Int.le_total 0 t with h | h
    · rw [Int.tmod_eq_emod_of_nonneg h]; omega
    · have e : t.tmod 8 = -((-t).tmod 8) := by rw [Int.neg_tmod]; omega
      rw [e, Int.tmod_eq_emod_of_nonneg (by omega)]
      omega
  have hw : IntKind.i64.wrap (t.tmod 8) = t.tmod 8 := by rw [IntKind.wrap_i64]; omega
  have HW := Lib.hid hw
  clear h1 hw
  go_enter Tryz.func35, Tryz.ntmps35
  go_wp2_with fail
  go_ret
  first
  | exact ⟨rfl, rfl⟩
  | exact ⟨by rw [HW.out], rfl⟩
  | (simp [HW.out])
theorem grown_set5 (w : World) (g : Nat) (a b c d e : Value) : w.grownBy (set5 w g a b c d e) (some g) := by
  have tr : ∀ {x y z : World}, x.grownBy y (some g) → y.grownBy z (some g) → x.grownBy z (some g) := fun h k =>
    ⟨k.os.trans h.os, k.tape.trans h.tape, k.output.trans h.output, Nat.le_trans h.size k.size, fun i hi hne => (k.block i (Nat.lt_of_lt_of_le hi h.size) hne).trans (h.block i hi hne)⟩
  unfold set5
  exact tr (tr (tr (tr (grown_set w g 0 a) (grown_set _ g 1 b)) (grown_set _ g 2 c)) (grown_set _ g 3 d)) (grown_set _ g 4 e)
theorem _root_.Go.Proofs.YthioanenljpclaaGreatDoor.RackAt.set5 {w : World} {r g : Nat} {s : RS} {cs : Array Value} (h : RackAt B w r s) (hg : Blk w g 41 cs) (a b c d e : Value) : RackAt B (set5 w g a b c d e) r s := h.grownFar hg rfl (grown_set5 w g a b c d e)
theorem _root_.Go.Proofs.YthioanenljpclaaGreatDoor.Keep.set5 {a0 w : World} {g : Nat} (h : Keep B a0 w) (hB : B ≤ g) (hs : B ≤ w.heap.size) (ha : a0.heap.size ≤ g) (a b c d e : Value) : Keep B a0 (set5 w g a b c d e) := h.grownNew (grown_set5 w g a b c d e) hB hs ha
theorem rdb_sec {w : World} {Bb : Nat} {A : Option Addr} {s : RS} {d a : Nat} (h : RdB w Bb A 128 (s.holds d a)) : RdB w Bb A (sec s d a).length (lst (sec s d a)) := fun j hj => by
  rw [sec_length] at hj
  rw [sec_lst s d a j hj]
  exact h j hj
set_option maxHeartbeats 3200000 in
theorem look_any (w : World) (r : Nat) (s : RS) (d a : Nat) (h : RackAt B w r s) (hl : Laid w) (hB : 0 < B) :
    Calls Tryz.prog 52 #[.pointer (some ⟨r, 0, none⟩), .int .i64 (d : Int), .int .i64 (a : Int)] w fun e w' => e = .returned (.tuple #[.agg (uA (lookU s d a)), .int .i64 (lookE s d a)]) ∧ RackAt B w' r s ∧ Keep B w w' := by
  have hle := h.le
  have K0 : Hid (Keep B w (w.alloc (.cells #[.int .i64 0, .int .i64 0, .int .i64 0, .int .i64 0, .string ⟨#[]⟩] 41))) := Lib.hid ((Keep.refl B w).alloc hle _)
  have X0 : Hid (Blk (w.alloc (.cells #[.int .i64 0, .int .i64 0, .int .i64 0, .int .i64 0, .string ⟨#[]⟩] 41)) w.heap.size 41 #[.int .i64 0, .int .i64 0, .int .i64 0, .int .i64 0, .string ⟨#[]⟩]) := Lib.hid (Blk.new _ _ _)
  have HR := Lib.hid (read_tot _ r s (d : Int) (a : Int) (h.alloc (.cells #[.int .i64 0, .int .i64 0, .int .i64 0, .int .i64 0, .string ⟨#[]⟩] 41)))
  have HOK := Lib.hid h.1
  have HLD := Lib.hid hl
  clear h hl
  obtain ⟨y, hy⟩ : ∃ y, y = s.deny (d : Int) (a : Int) := ⟨_, rfl⟩
  rw [← hy] at HR
  have HY := Lib.hid hy
  by_cases h0 : y = 0
  rotate_left
  · have hU : Hid (lookU s d a = zeroU) := Lib.hid (by unfold lookU; rw [if_neg (by rw [← hy]; exact h0)])
    have hE : Hid (lookE s d a = y) := Lib.hid (by unfold lookE; rw [if_neg (by rw [← hy]; exact h0), ← hy])
    rw [hU.out, hE.out]
    have t1 : (y != 0) = true := by simpa using h0
    clear hy h0 hU hE
    go_enter Tryz.func52, Tryz.ntmps52
    go_wp2_with fail
    refine HR.out.mono ?_
    rintro e w2 ⟨⟨v, rfl, ho⟩, h2, k2⟩
    have R2 := Lib.hid h2
    have K2 := Lib.hid (K0.out.trans k2)
    have X2 := Lib.hid (k2.block X0.out rfl)
    obtain ⟨⟨d0, d1, d2, d3, d4⟩, e0, e1, e2, e3, e4⟩ := uber_facts X2.out
    obtain ⟨A, c, rfl⟩ : ∃ A c, v = .slice A (rdN s (d : Int) (a : Int)) c := by
      rcases ho.2 with ⟨e, e2⟩ | ⟨l, cap, cur, e, _⟩
      · exact ⟨none, 0, by rw [e, e2]⟩
      · exact ⟨_, cap, e⟩
    clear ho h2 k2 K0 X0 HR
    go_wp2_with fail
    refine bodyPost_ret (results_cell2 rfl rfl (set5_load X2.out _ _ _ _ _) rfl) rfl ?_
    exact ⟨rfl, R2.out.set5 X2.out _ _ _ _ _, K2.out.set5 hle (Nat.le_trans hle K2.out.below.size) (Nat.le_refl _) _ _ _ _ _⟩
  · subst h0
    have hN : rdN s (d : Int) (a : Int) = 128 := by unfold rdN; rw [if_pos hy.symm]
    rw [hN] at HR
    simp only [Int.toNat_natCast] at HR
    have HU : Hid (lookU s d a = (found s d a).getD zeroU) := Lib.hid (by unfold lookU; rw [if_pos hy.symm])
    have HE : Hid (lookE s d a = if (found s d a).isSome = true then 0 else 7) := Lib.hid (by unfold lookE; rw [if_pos hy.symm])
    clear hy hN HY
    go_enter Tryz.func52, Tryz.ntmps52
    go_wp2_with fail
    refine HR.out.mono ?_
    rintro e w2 ⟨⟨v, rfl, ho⟩, h2, k2⟩
    have R2 := Lib.hid h2
    have K2 := Lib.hid (K0.out.trans k2)
    have X2 := Lib.hid (k2.block X0.out rfl)
    obtain ⟨A, c, rfl, hr, hlc, hcm⟩ := rdb_own ho (by omega) (fun j hj => RS.holds_lt HOK.out d a j hj)
    have RB := Lib.hid (rdb_sec hr)
    have HCM := Lib.hid hcm
    have HDC := Lib.hid (decode_lab A (sec s d a) c w2.heap.size w2 RB.out (Nat.le_refl _) (sec_lt HOK.out d a) (by rw [sec_length]; exact hlc) hcm ((HLD.out.below K2.out.below hB)))
    rw [sec_length] at HDC
    clear ho h2 k2 K0 X0 HR hr hcm
    go_wp2_with fail
    refine HDC.out.mono ?_
    rintro e w3 ⟨hd3, b3⟩
    have R3 := Lib.hid (R2.out.below b3)
    have K3 := Lib.hid (K2.out.new b3 (Nat.le_trans hle K2.out.below.size))
    have X3 := Lib.hid (X2.out.new_ b3)
    have HX3 := Lib.hid X3.out.lt
    clear b3 HDC R2 K2 X2 RB
    rcases hd3 with ⟨u, hu, rfl⟩ | ⟨hno, rfl⟩
    · have HIS := Lib.hid hu
      obtain ⟨t, ⟨pa, pz, pb, ps⟩⟩ := u
      simp only [uA]
      have X4 := Lib.hid (X3.out.alloc (.cells #[.int .i64 t, .int .i64 pa, .int .i64 pz, .int .i64 pb, .string ps] 41))
      have K4 := Lib.hid (K3.out.alloc (Nat.le_trans hle K3.out.below.size) (.cells #[.int .i64 t, .int .i64 pa, .int .i64 pz, .int .i64 pb, .string ps] 41))
      have R4 := Lib.hid (R3.out.alloc (.cells #[.int .i64 t, .int .i64 pa, .int .i64 pz, .int .i64 pb, .string ps] 41))
      have Y4 := Lib.hid (Blk.new w3 41 #[.int .i64 t, .int .i64 pa, .int .i64 pz, .int .i64 pb, .string ps])
      obtain ⟨⟨d0, d1, d2, d3, d4⟩, e0, e1, e2, e3, e4⟩ := uber_facts X4.out
      obtain ⟨⟨f0, f1, f2, f3, f4⟩, _, _, _, _, _⟩ := uber_facts Y4.out
      obtain ⟨q, hq⟩ : ∃ q, q = t.tmod 8 := ⟨_, rfl⟩
      have HSL : Hid (∀ W, Calls Tryz.prog 35 #[.int .i64 t] W fun e w' => e = .returned (.int .i64 q) ∧ W = w') := Lib.hid fun W => by
        rw [hq]
        exact slot_any t W
      clear hu R3 K3 X3
      by_cases hqa : q = (a : Int)
      · have HF : Hid (found s d a = some ⟨t, ⟨pa, pz, pb, ps⟩⟩) := Lib.hid (found_some ⟨HIS.out, by show t.tmod 8 = _; rw [← hq]; exact hqa⟩)
        have HV : Hid (Ending.returned (.tuple #[.agg #[.int .i64 t, .int .i64 pa, .int .i64 pz, .int .i64 pb, .string ps], .int .i64 0]) = .returned (.tuple #[.agg (uA (lookU s d a)), .int .i64 (lookE s d a)])) := Lib.hid (by rw [HU.out, HE.out, HF.out]; rfl)
        subst hqa
        have t1 : ((a : Int) != (a : Int)) = false := by simp
        clear HF HIS hq HU HE
        go_wp2_with fail
        refine (HSL.out _).mono ?_
        rintro e w' ⟨rfl, rfl⟩
        go_wp2_with fail
        refine bodyPost_ret (results_cell2 rfl rfl (set5_load X4.out _ _ _ _ _) rfl) rfl ?_
        exact ⟨HV.out, R4.out.set5 X4.out _ _ _ _ _, K4.out.set5 hle (Nat.le_trans hle K4.out.below.size) (Nat.le_refl _) _ _ _ _ _⟩
      · have HF : Hid (found s d a = none) := Lib.hid (found_none fun v hv => by
          have := hv.1.one HIS.out
          subst this
          exact hqa (hq.trans hv.2))
        have HV : Hid (Ending.returned (.tuple #[.agg #[.int .i64 0, .int .i64 0, .int .i64 0, .int .i64 0, .string ⟨#[]⟩], .int .i64 7]) = .returned (.tuple #[.agg (uA (lookU s d a)), .int .i64 (lookE s d a)])) := Lib.hid (by rw [HU.out, HE.out, HF.out]; rfl)
        have t1 : (q != (a : Int)) = true := by simpa using hqa
        clear HF HIS hq HU HE hqa
        go_wp2_with fail
        refine (HSL.out _).mono ?_
        rintro e w' ⟨rfl, rfl⟩
        go_wp2_with fail
        refine bodyPost_ret (results_cell2 rfl rfl (set5_load X4.out _ _ _ _ _) rfl) rfl ?_
        exact ⟨HV.out, R4.out.set5 X4.out _ _ _ _ _, K4.out.set5 hle (Nat.le_trans hle K4.out.below.size) (Nat.le_refl _) _ _ _ _ _⟩
    · have HF : Hid (found s d a = none) := Lib.hid (found_none fun v hv => hno v hv.1)
      have HV : Hid (Ending.returned (.tuple #[.agg #[.int .i64 0, .int .i64 0, .int .i64 0, .int .i64 0, .string ⟨#[]⟩], .int .i64 7]) = .returned (.tuple #[.agg (uA (lookU s d a)), .int .i64 (lookE s d a)])) := Lib.hid (by rw [HU.out, HE.out, HF.out]; rfl)
      have X4 := Lib.hid (X3.out.alloc (.cells #[.int .i64 0, .int .i64 0, .int .i64 0, .int .i64 0, .string ⟨#[]⟩] 41))
      have K4 := Lib.hid (K3.out.alloc (Nat.le_trans hle K3.out.below.size) (.cells #[.int .i64 0, .int .i64 0, .int .i64 0, .int .i64 0, .string ⟨#[]⟩] 41))
      have R4 := Lib.hid (R3.out.alloc (.cells #[.int .i64 0, .int .i64 0, .int .i64 0, .int .i64 0, .string ⟨#[]⟩] 41))
      obtain ⟨⟨d0, d1, d2, d3, d4⟩, e0, e1, e2, e3, e4⟩ := uber_facts X4.out
      clear HF hno HU HE R3 K3 X3
      go_wp2_with fail
      refine bodyPost_ret (results_cell2 rfl rfl (set5_load X4.out _ _ _ _ _) rfl) rfl ?_
      exact ⟨HV.out, R4.out.set5 X4.out _ _ _ _ _, K4.out.set5 hle (Nat.le_trans hle K4.out.below.size) (Nat.le_refl _) _ _ _ _ _⟩
end
end Lab
end Go.Proofs.YthioanenljpclaaGreatDoor
