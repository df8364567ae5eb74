/-
  'hoardlaw01.bytes' by a contract, rows of bytes and their texts. Conditions: numbers that fit an int.
-/
import Derived.Test.YtjnnmeolonbedaaDoorRackCrashM
import Derived.Laws.BytesArg
import Derived.Test.YtjnnmeolonbedaaDoorDrawSeqM
import Derived.Test.YtjnnmeolonbedaaDoorStrBM
import Derived.Laws.StructEq
import Derived.Test.YtjnnmeolonbedaaDoorRackLoseM
import Derived.Test.YtjnnmeolonbedaaDoorRackRot
namespace Go.Proofs.YtjnnmeolonbedaaDoor
set_option maxRecDepth 100000
open Go.RowKit
set_option linter.unusedVariables false

/-- byte j of the bytes by number f -/
def bv (n : Nat) (f : Int) (j : Nat) : Nat := if 1 < n ∧ j = 0 then (f.tdiv 256 % 256).toNat else if 1 < n ∧ j = 1 then (f.tdiv 65536 % 256).toNat else ((f + j) % 256).toNat
theorem bv_lt (n : Nat) (f : Int) (j : Nat) : bv n f j < 256 := by
  unfold bv
  split
  · omega
  · split <;> omega
theorem byte_of (x : Int) : wrap64 x % 256 = ((x % 256).toNat : Int) := by
  unfold wrap64
  omega
theorem byte_of' (x : Int) : IntKind.u8.wrap x = ((x % 256).toNat : Int) := by
  rw [IntKind.wrap_u8]
  omega
def bvTo (k : Nat) (f : Int) (j : Nat) : Nat := if j < k then ((f + j) % 256).toNat else 0

end Go.Proofs.YtjnnmeolonbedaaDoor
namespace Go.Proofs.YtjnnmeolonbedaaDoor
set_option maxRecDepth 100000
open Go Go.RowKit
set_option linter.unusedVariables false

/-- a row of bytes that a call has answered -/
def Row8 (w : World) (v : Value) (n : Nat) (X : Nat → Nat) : Prop := ∃ g c cs, v = .slice (some ⟨g, 0, none⟩) n c ∧ Blk w g 5 cs ∧ ∀ j, j < n → cs[0 + j]? = some (.int .u8 ((X j : Nat) : Int))
theorem Row8.of_own {w : World} {B n : Nat} {v : Value} {X : Nat → Nat} (h : w.ownsRow B 5 1 v n (rowL n X)) (hn : 0 < n) : Row8 w v n X := by
  rcases h.2 with ⟨_, e⟩ | ⟨g, cap, cur, e, _, hb, _, _, hs, ht⟩
  · omega
  · refine ⟨g, cap, cur, e, hb, fun j hj => ?_⟩
    have h1 := rowL_get X hj
    rw [← ht, List.getElem?_take_of_lt (by omega), Array.getElem?_toList] at h1
    rw [Nat.zero_add]
    exact h1
theorem Row8.of_blk {w : World} {g n c : Nat} {X : Nat → Nat} (h : Blk w g 5 (rowArr n X)) : Row8 w (.slice (some ⟨g, 0, none⟩) n c) n X :=
  ⟨g, c, _, rfl, h, fun j hj => by rw [Nat.zero_add]; exact rowArr_get hj⟩
theorem Row8.conv {w : World} {v : Value} {n : Nat} {X : Nat → Nat} (h : Row8 w v n X) : (convert 26 9 v).run Tryd.prog w = .ok (.string (strB n X)) w := by
  obtain ⟨g, c, cs, rfl, hb, hx⟩ := h
  exact conv_bytes hb hx
theorem Row8.keep {B : Nat} {w w' : World} {v : Value} {n : Nat} {X : Nat → Nat} (h : Row8 w v n X) (hk : Keep B w w') : Row8 w' v n X := by
  obtain ⟨g, c, cs, rfl, hb, hx⟩ := h
  exact ⟨g, c, cs, rfl, hk.block hb rfl, hx⟩
theorem Row8.new_ {w w' : World} {v : Value} {n : Nat} {X : Nat → Nat} (h : Row8 w v n X) (hk : Below w.heap.size w w') : Row8 w' v n X := by
  obtain ⟨g, c, cs, rfl, hb, hx⟩ := h
  exact ⟨g, c, cs, rfl, hb.new_ hk, hx⟩
theorem Row8.drew {w : World} {v : Value} {n : Nat} {X : Nat → Nat} (h : Row8 w v n X) : Row8 w.drew v n X := h
end Go.Proofs.YtjnnmeolonbedaaDoor
namespace Go.Proofs.YtjnnmeolonbedaaDoor
open Go Go.RowKit
set_option maxRecDepth 100000
set_option linter.unusedVariables false
namespace refRack
theorem spent_costs (s : RS) : s.spent.cost = s.cost := (spent_same s).2.2.2.2.1
section
variable {B : Nat} {w w' : World} {r g : Nat} {s t : RS}
theorem new_noR (w : World) (D S : Int) (hbad : D < 1 ∨ 16 < D ∨ S < 1 ∨ 2000 < S) :
    Calls Tryd.prog 14 #[.int .i64 D, .int .i64 S] w fun e w' => e = .returned (.tuple #[.pointer none, .int .i64 1]) ∧ w' = w := by
  rcases (by omega : D < 1 ∨ (1 ≤ D ∧ 16 < D) ∨ (1 ≤ D ∧ D ≤ 16 ∧ S < 1) ∨ (1 ≤ D ∧ D ≤ 16 ∧ 1 ≤ S ∧ 2000 < S)) with h | ⟨h1, h2⟩ | ⟨h1, h2, h3⟩ | ⟨h1, h2, h3, h4⟩
  all_goals
    clear hbad
    go_enter Tryd.func14, Tryd.ntmps14
    go_wp2_with fail
    go_ret2
    exact ⟨rfl, rfl⟩
set_option maxHeartbeats 800000 in
theorem rot_whyR {B : Nat} (w : World) (r : Nat) (s : RS) (D A : Int) (n : Int) (h : RackAt B w r s) (hn : 0 ≤ n) (hw : s.why D A ≠ 0) :
    Calls Tryd.prog 21 #[.pointer (some ⟨r, 0, none⟩), .int .i64 D, .int .i64 A, .int .i64 n] w fun e w' => e = .returned (.int .i64 (s.why D A)) ∧ RackAt B w' r s ∧ Keep B w w' := by
  have H1 := Lib.hid (h.alloc (.cells #[.int .i64 D, .int .i64 A] 81))
  have K1 := Lib.hid ((Keep.refl B w).alloc h.le (.cells #[.int .i64 D, .int .i64 A] 81))
  have hz := zero_sector
  clear h
  go_enter Tryd.func21, Tryd.ntmps21
  go_wp2_with fail
  refine (reach_any _ r s D A H1.out).mono ?_
  rintro e w2 ⟨rfl, h2, k2, _, _⟩
  have H2 := Lib.hid h2
  have K2 := Lib.hid (K1.out.trans k2)
  clear h2 k2
  generalize hy : s.why D A = y at *
  have HY := Lib.hid hy
  clear hy
  have t1 : (y = 0) = False := by simp [hw]
  go_wp2_with fail
  go_ret
  rw [HY.out]
  exact ⟨rfl, H2.out, K2.out⟩
theorem rot_negR {B : Nat} (w : World) (r : Nat) (s : RS) (D A N : Int) (hN : N < 0) :
    Calls Tryd.prog 21 #[.pointer (some ⟨r, 0, none⟩), .int .i64 D, .int .i64 A, .int .i64 N] w fun e w' => e = .returned (.int .i64 1) ∧ w' = w := by
  go_enter Tryd.func21, Tryd.ntmps21
  go_wp2_with fail
  go_ret
  exact ⟨rfl, rfl⟩
theorem isD_some {s : RS} {D : Int} (h : s.isD D = true) : ∃ d : Nat, D = (d : Int) ∧ d < s.nd := by
  unfold RS.isD at h
  rw [Bool.and_eq_true] at h
  have h1 := of_decide_eq_true h.1
  have h2 := of_decide_eq_true h.2
  exact ⟨D.toNat, by omega, by omega⟩
theorem why_some {s : RS} {D A : Int} (h : s.why D A = 0) : ∃ d a : Nat, D = (d : Int) ∧ A = (a : Int) ∧ d < s.nd ∧ a < s.ns ∧ s.gone d = false := by
  unfold RS.why at h
  by_cases hp : s.isP D A = true
  · rw [if_pos hp] at h
    unfold RS.isP at hp
    rw [Bool.and_eq_true, Bool.and_eq_true] at hp
    obtain ⟨d, rfl, hd⟩ := isD_some hp.1
    have h1 := of_decide_eq_true hp.2.1
    have h2 := of_decide_eq_true hp.2.2
    refine ⟨d, A.toNat, rfl, by omega, hd, by omega, ?_⟩
    cases hg : s.gone d with
    | false => rfl
    | true => rw [Int.toNat_natCast, hg] at h; simp at h
  · rw [if_neg hp] at h; simp at h
def loseE (s : RS) (D : Int) : Int := if s.isD D = true then 0 else 1
def loseS (s : RS) (D : Int) : RS := if s.isD D = true then s.lost D.toNat else s
def anewS (s : RS) (D : Int) : RS := if s.isD D = true then s.anew D.toNat else s
def rotE (s : RS) (D A n : Int) : Int := if n < 0 then 1 else s.why D A
def rotS (s : RS) (D A n : Int) : RS := if n < 0 ∨ s.why D A ≠ 0 then s else s.rotted D.toNat A.toNat n.toNat
def wrE (s : RS) (D A : Int) (m : Nat) : Int := if m = 128 then (if s.why D A = 0 then (if s.pow = true then 0 else 16) else s.why D A) else 1
def wrS (s : RS) (D A : Int) (m : Nat) (X : Nat → Nat) : RS := if m = 128 ∧ s.why D A = 0 then (if s.pow = true then s.spent.wrote D.toNat A.toNat X else s.spent) else s
theorem loseS_cost (s : RS) (D : Int) : (loseS s D).cost = s.cost := by
  unfold refRack.loseS
  by_cases hd : s.isD D = true
  · rw [if_pos hd]; rfl
  · rw [if_neg hd]
theorem anewS_cost (s : RS) (D : Int) : (anewS s D).cost = s.cost := by
  unfold refRack.anewS
  by_cases hd : s.isD D = true
  · rw [if_pos hd]; rfl
  · rw [if_neg hd]
theorem rotS_cost (s : RS) (D A n : Int) : (rotS s D A n).cost ≤ s.cost + 1 := by
  unfold refRack.rotS
  by_cases hd : n < 0 ∨ s.why D A ≠ 0
  · rw [if_pos hd]; omega
  · rw [if_neg hd]
    cases hi : newIn s.W D.toNat A.toNat s.nw with
    | some i => rw [rotted_some hi]; exact Nat.le_refl _
    | none => rw [rotted_none hi]; exact Nat.le_refl _
theorem wrS_cost (s : RS) (D A : Int) (m : Nat) (X : Nat → Nat) : (wrS s D A m X).cost ≤ s.cost + 1 := by
  unfold refRack.wrS
  have e : s.spent.cost = s.cost := spent_costs s
  by_cases hd : m = 128 ∧ s.why D A = 0
  · rw [if_pos hd]
    by_cases hp : s.pow = true
    · rw [if_pos hp]; show s.spent.cost + 1 ≤ _; omega
    · rw [if_neg hp]; omega
  · rw [if_neg hd]; omega
theorem lose_tot (w : World) (r : Nat) (s : RS) (D : Int) (h : RackAt B w r s) :
    Calls Tryd.prog 19 #[.pointer (some ⟨r, 0, none⟩), .int .i64 D] w fun e w' => e = .returned (.int .i64 (loseE s D)) ∧ RackAt B w' r (loseS s D) ∧ Keep B w w' := by
  cases hd : s.isD D with
  | true =>
    obtain ⟨d, rfl, hd2⟩ := isD_some hd
    unfold refRack.loseE refRack.loseS
    rw [if_pos hd, if_pos hd, Int.toNat_natCast]
    exact lose_ok w r s d h hd2
  | false =>
    unfold refRack.loseE refRack.loseS
    rw [if_neg (by rw [hd]; decide), if_neg (by rw [hd]; decide)]
    exact (lose_no w r s D h hd).mono fun e w' ⟨h1, h2⟩ => ⟨h1, by rw [h2]; exact h, by rw [h2]; exact Keep.refl B w⟩
theorem rot_tot (w : World) (r : Nat) (s : RS) (D A n : Int) (hn : n ≤ 9223372036854775807) (hcost : s.cost + 1 ≤ 1000000) (h : RackAt B w r s) :
    Calls Tryd.prog 21 #[.pointer (some ⟨r, 0, none⟩), .int .i64 D, .int .i64 A, .int .i64 n] w fun e w' => e = .returned (.int .i64 (rotE s D A n)) ∧ RackAt B w' r (rotS s D A n) ∧ Keep B w w' := by
  unfold refRack.rotE refRack.rotS
  by_cases h0 : n < 0
  · rw [if_pos h0, if_pos (.inl h0)]
    exact (rot_negR (B := B) w r s D A n h0).mono fun e w' ⟨h1, h2⟩ => ⟨h1, by rw [h2]; exact h, by rw [h2]; exact Keep.refl B w⟩
  · rw [if_neg h0]
    by_cases h1 : s.why D A = 0
    · rw [if_neg (by omega)]
      rw [h1]
      obtain ⟨d, a, rfl, rfl, h2, h3, h4⟩ := why_some h1
      obtain ⟨m, rfl⟩ : ∃ m : Nat, n = (m : Int) := ⟨n.toNat, by omega⟩
      rw [Int.toNat_natCast, Int.toNat_natCast, Int.toNat_natCast]
      exact rot_ok w r s d a m h h2 h3 h4 (by omega) hcost
    · rw [if_pos (.inr h1)]
      exact rot_whyR w r s D A n h (by omega) h1
theorem wr_tot (w : World) (r : Nat) (s : RS) (D A : Int) (gb m c : Nat) (X : Nat → Nat) (hb : Blk w gb 5 (rowArr m X)) (hX : ∀ j, j < 128 → X j < 256) (hcost : s.cost + 1 ≤ 1000000) (h : RackAt B w r s) :
    Calls Tryd.prog 34 #[.pointer (some ⟨r, 0, none⟩), .int .i64 D, .int .i64 A, .slice (some ⟨gb, 0, none⟩) m c] w fun e w' => e = .returned (.int .i64 (wrE s D A m)) ∧ RackAt B w' r (wrS s D A m X) ∧ Keep B w w' := by
  unfold refRack.wrE refRack.wrS
  by_cases hm : m = 128
  · subst hm
    rw [if_pos rfl]
    by_cases h1 : s.why D A = 0
    · rw [if_pos h1, if_pos (show 128 = 128 ∧ s.why D A = 0 from ⟨rfl, h1⟩)]
      obtain ⟨d, a, rfl, rfl, h2, h3, h4⟩ := why_some h1
      rw [Int.toNat_natCast, Int.toNat_natCast]
      exact write_go w r s _ _ d a gb 0 c X 5 _ h h2 h3 h4 hb rfl (fun j hj => ⟨by rw [Nat.zero_add]; exact rowArr_get hj, hX j hj⟩) hcost rfl rfl
    · rw [if_neg h1, if_neg (show ¬(128 = 128 ∧ s.why D A = 0) from fun q => h1 q.2)]
      exact write_why w r s D A _ c h h1
  · rw [if_neg hm, if_neg (show ¬(m = 128 ∧ s.why D A = 0) from fun q => hm q.1)]
    exact (write_size w r s D A _ m c h hm).mono fun e w' ⟨h1, h2⟩ => ⟨h1, by rw [h2]; exact h, by rw [h2]; exact Keep.refl B w⟩
/-- what a read answers: the bytes, or none -/
def rdN (s : RS) (D A : Int) : Nat := if s.deny D A = 0 then 128 else 0
theorem deny_some {s : RS} {D A : Int} (h : s.deny D A = 0) : s.why D A = 0 ∧ s.off = false := by
  unfold RS.deny at h
  by_cases h1 : s.why D A = 0
  · rw [if_pos h1] at h
    refine ⟨h1, ?_⟩
    cases ho : s.off with
    | false => rfl
    | true => rw [ho] at h; simp at h
  · rw [if_neg h1] at h; exact absurd h h1
theorem strB_zero (X : Nat → Nat) : strB 0 X = ⟨#[]⟩ := rfl
theorem read_tot (w : World) (r : Nat) (s : RS) (D A : Int) (h : RackAt B w r s) :
    Calls Tryd.prog 58 #[.pointer (some ⟨r, 0, none⟩), .int .i64 D, .int .i64 A] w fun e w' => (∃ v, e = .returned (.tuple #[v, .int .i64 (s.deny D A)]) ∧ w'.ownsRow w.heap.size 5 1 v (rdN s D A) (rowL (rdN s D A) (s.holds D.toNat A.toNat))) ∧ RackAt B w' r s ∧ Keep B w w' := by
  unfold rdN
  by_cases h1 : s.deny D A = 0
  · rw [if_pos h1, h1]
    obtain ⟨h2, h3⟩ := deny_some h1
    obtain ⟨d, a, rfl, rfl, h4, h5, h6⟩ := why_some h2
    rw [Int.toNat_natCast, Int.toNat_natCast]
    exact read_ok w r s d a h h4 h5 h6 h3
  · rw [if_neg h1]
    exact (read_no w r s D A h h1).mono fun e w' ⟨h2, h3, h4⟩ => ⟨⟨_, h2, rfl, .inl ⟨rfl, rfl⟩⟩, h3, h4⟩
end
end refRack
end Go.Proofs.YtjnnmeolonbedaaDoor
namespace Go.Proofs.YtjnnmeolonbedaaDoor
set_option maxRecDepth 100000
open Go Go.RowKit
set_option linter.unusedVariables false

/-- the power is on, and stays -/
def RS.calm (s : RS) : Prop := s.off = false ∧ s.armed = false
theorem RS.calm.pow {s : RS} (h : s.calm) : s.pow = true := by unfold RS.pow; rw [h.1, h.2]; rfl
theorem RS.calm.spent {s : RS} (h : s.calm) : s.spent = s := by unfold RS.spent; rw [h.1, h.2]; rfl
theorem RS.calm.wrote {s : RS} (h : s.calm) (d a : Nat) (X : Nat → Nat) : (s.wrote d a X).calm := h
theorem RS.calm.laid {s : RS} (h : s.calm) (P : Nat → Bool) : (s.laid P).calm := h
theorem RS.calm.flushed {s : RS} (h : s.calm) : s.flushed.calm := h
theorem RS.crashed_calm (s : RS) (P : Nat → Bool) : (s.crashed P).calm := ⟨rfl, rfl⟩
section
variable {B : Nat} {w w' : World} {r : Nat} {s : RS}
theorem write_calm (w : World) (r : Nat) (s : RS) (D A : Int) (d a : Nat) (v : Value) (X : Nat → Nat) (h : RackAt B w r s) (hc : s.calm) (hD : D = (d : Int)) (hA : A = (a : Int)) (hd : d < s.nd) (ha : a < s.ns) (hg : s.gone d = false) (hv : Row8 w v 128 X) (hX : ∀ j, j < 128 → X j < 256) (hcost : s.cost + 1 ≤ 1000000) :
    Calls Tryd.prog 34 #[.pointer (some ⟨r, 0, none⟩), .int .i64 D, .int .i64 A, v] w fun e w' => e = .returned (.int .i64 0) ∧ RackAt B w' r (s.wrote d a X) ∧ Keep B w w' := by
  obtain ⟨g, c, cs, rfl, hb, hx⟩ := hv
  subst hD hA
  exact write_go w r s (s.wrote d a X) 0 d a g 0 c X _ cs h hd ha hg hb rfl (fun j hj => ⟨hx j hj, hX j hj⟩) hcost (by rw [hc.pow]; rfl) (by rw [hc.pow, hc.spent]; rfl)
theorem flush_calm (w : World) (r : Nat) (s : RS) (h : RackAt B w r s) (hc : s.calm) :
    Calls Tryd.prog 17 #[.pointer (some ⟨r, 0, none⟩)] w fun e w' => e = .returned (.int .i64 0) ∧ RackAt B w' r s.flushed ∧ Keep B w w' :=
  flush_any w r s s.flushed 0 h (by rw [hc.pow]; rfl) (by rw [hc.pow, hc.spent]; rfl)
theorem RackAt.ok (h : RackAt B w r s) : s.ok := h.1
theorem RS.holds_lt {s : RS} (h : s.ok) (d a j : Nat) (hj : j < 128) : s.holds d a j < 256 := by
  unfold RS.holds
  cases hi : newIn s.W d a s.nw with
  | some i => exact (h.wp i (newIn_lt hi).1).2.2 j hj
  | none => exact h.lp d a j hj
theorem read_calm (w : World) (r : Nat) (s : RS) (D A : Int) (d a : Nat) (h : RackAt B w r s) (hc : s.calm) (hD : D = (d : Int)) (hA : A = (a : Int)) (hd : d < s.nd) (ha : a < s.ns) (hg : s.gone d = false) :
    Calls Tryd.prog 58 #[.pointer (some ⟨r, 0, none⟩), .int .i64 D, .int .i64 A] w fun e w' => ∃ v, e = .returned (.tuple #[v, .int .i64 0]) ∧ Row8 w' v 128 (s.holds d a) ∧ RackAt B w' r s ∧ Keep B w w' := by
  subst hD hA
  exact (read_ok w r s d a h hd ha hg hc.1).mono fun e w' ⟨⟨v, h1, h2⟩, h3, h4⟩ => ⟨v, h1, Row8.of_own h2 (by omega), h3, h4⟩
end
end Go.Proofs.YtjnnmeolonbedaaDoor
