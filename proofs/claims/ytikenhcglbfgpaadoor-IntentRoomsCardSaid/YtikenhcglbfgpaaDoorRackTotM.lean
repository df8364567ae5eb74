/-
  'rack.Rot' by contracts. Conditions: the rack is one.
-/
import Derived.Test.YtikenhcglbfgpaaDoorRackRotRowM
import Derived.Test.YtikenhcglbfgpaaDoorRackCrash
import Derived.Laws.BytesArg
import Derived.Test.YtikenhcglbfgpaaDoorDrawMoreM
import Derived.Test.YtikenhcglbfgpaaDoorStrBM
import Derived.Laws.StructEq
import Derived.Test.YtikenhcglbfgpaaDoorRackLoseM
namespace Go.Proofs.YtikenhcglbfgpaaDoor
set_option maxRecDepth 100000
open Go.RowKit
set_option linter.unusedVariables false

/-- a rotten sector's bytes -/
def rotF (X : Nat → Nat) (n : Nat) (j : Nat) : Nat := if j = n % 128 then X j ^^^ (1 + n / 128 % 255) else X j
def RS.rotted (s : RS) (d a n : Nat) : RS :=
  match newIn s.W d a s.nw with
  | some i => { s with W := putW s.W i (rotF (s.W i).x n), cost := s.cost + 1 }
  | none => { s with last := fun d' a' => if d' = d ∧ a' = a then rotF (s.last d a) n else s.last d' a', cost := s.cost + 1 }
theorem rotted_some {s : RS} {d a n i : Nat} (h : newIn s.W d a s.nw = some i) : s.rotted d a n = { s with W := putW s.W i (rotF (s.W i).x n), cost := s.cost + 1 } := by
  unfold RS.rotted
  rw [h]
theorem rotted_none {s : RS} {d a n : Nat} (h : newIn s.W d a s.nw = none) : s.rotted d a n = { s with last := fun d' a' => if d' = d ∧ a' = a then rotF (s.last d a) n else s.last d' a', cost := s.cost + 1 } := by
  unfold RS.rotted
  rw [h]
theorem rotF_lt {X : Nat → Nat} {n j : Nat} (h : X j < 256) : rotF X n j < 256 := by
  unfold rotF
  split
  · exact xor_lt_256 h (by omega)
  · exact h
theorem RS.ok.rotted {s : RS} (h : s.ok) {d a n : Nat} (hc : s.cost + 1 ≤ 1000000) : (s.rotted d a n).ok := by
  cases hi : newIn s.W d a s.nw with
  | some i =>
    rw [rotted_some hi]
    refine ⟨h.nd1, h.nd2, h.ns1, h.ns2, h.left, hc, fun k hk => ?_, h.lp⟩
    have hk' : k < s.nw := hk
    show (putW s.W i (rotF (s.W i).x n) k).d < s.nd ∧ (putW s.W i (rotF (s.W i).x n) k).a < s.ns ∧ ∀ j, j < 128 → (putW s.W i (rotF (s.W i).x n) k).x j < 256
    unfold putW
    by_cases e : k = i
    · subst e
      rw [if_pos rfl]
      exact ⟨(h.wp k hk').1, (h.wp k hk').2.1, fun j hj => rotF_lt ((h.wp k hk').2.2 j hj)⟩
    · rw [if_neg e]
      exact h.wp k hk'
  | none =>
    rw [rotted_none hi]
    refine ⟨h.nd1, h.nd2, h.ns1, h.ns2, h.left, hc, h.wp, fun d' a' j hj => ?_⟩
    show (if d' = d ∧ a' = a then rotF (s.last d a) n else s.last d' a') j < 256
    split
    · exact rotF_lt (h.lp d a j hj)
    · exact h.lp d' a' j hj

section
variable {B : Nat} {w w' : World} {r m1 m2 : Nat} {v : Value} {s : RS}
theorem RackK.rotSome {g i cap : Nat} {X : Nat → Nat} (h : RackW B w r m1 m2 (.slice (some ⟨g, 0, none⟩) s.nw cap) s) (hi : i < s.nw) :
    RackW B (w.setCells g (i * 130 + 2) (secA X).toList) r m1 m2 (.slice (some ⟨g, 0, none⟩) s.nw cap) { s with W := putW s.W i X, cost := s.cost + 1 } := by
  have hg := grown_setCells g (secA X).toList (i * 130 + 2) w
  have e0 : (Value.slice (some ⟨g, 0, none⟩) s.nw cap).ownBlock = some g := rfl
  obtain ⟨n, F, f1, f2, f3⟩ := h.last
  refine ⟨h.blk.grown hg (fun e => h.row_ne (e0.trans e.symm)), h.hr, h.h1, h.h2, h.ne, ⟨n, F, by show n + s.nw ≤ s.cost + 1; omega, f2.grown hg (fun e => h.row_ne1 (e0.trans e.symm)), f3⟩, (h.newest.grown hg (fun e => h.row_ne2 (e0.trans e.symm))).congr fun d a _ _ => ?_, (row_put h.row hi).1⟩
  show (newIn s.W d a s.nw).map iv = (newIn (putW s.W i X) d a s.nw).map iv
  rw [newIn_congr (W := putW s.W i X) (V := s.W) (fun k _ => by
    unfold putW
    by_cases e : k = i
    · rw [if_pos e, e]; exact ⟨rfl, rfl⟩
    · rw [if_neg e]; exact ⟨rfl, rfl⟩)]
theorem RackK.rotNone {n' d a : Nat} {F : Nat → Nat → Option Value} {Y : Nat → Nat} (h : RackW B w r m1 m2 v s) (f1 : n' + s.nw ≤ s.cost)
    (f3 : ∀ d a, d < 4611686018427387904 → a < 4611686018427387904 → (F d a).getD (.agg (secA zeros)) = .agg (secA (s.last d a)))
    (hg : w.grownBy w' (some m1)) (hm : MapS w' m1 (n' + 1) (putF F d a (.agg (secA Y)))) : RackW B w' r m1 m2 v { s with last := fun d' a' => if d' = d ∧ a' = a then Y else s.last d' a', cost := s.cost + 1 } := by
  refine ⟨h.blk.grown hg (fun e => h.ne1 (by injection e with e; exact e.symm)), h.hr, h.h1, h.h2, h.ne, ⟨n' + 1, _, by show n' + 1 + s.nw ≤ s.cost + 1; omega, hm, fun d' a' hd ha => ?_⟩, h.newest.grown hg (fun e => h.ne (by injection e with e; exact e.symm)), h.row.1, ?_⟩
  · show _ = Value.agg (secA (if d' = d ∧ a' = a then Y else s.last d' a'))
    unfold putF
    by_cases e1 : d' = d ∧ a' = a
    · rw [if_pos e1, if_pos e1]
      rfl
    · rw [if_neg e1, if_neg e1]
      exact f3 d' a' hd ha
  · rcases h.row.2 with e | ⟨g, cap, cur, rfl, g1, g2, g3⟩
    · exact .inl e
    · exact .inr ⟨g, cap, cur, rfl, g1, (hg.block g (Array.getElem?_eq_some_iff.1 g2).1 (fun e => h.row_ne1 (by rw [← e]; rfl))).trans g2, g3⟩
end

end Go.Proofs.YtikenhcglbfgpaaDoor
namespace Go.Proofs.YtikenhcglbfgpaaDoor
set_option maxRecDepth 100000
open Go.RowKit
set_option linter.unusedVariables false

/-- byte j of the bytes by number f -/
def bv (n : Nat) (f : Int) (j : Nat) : Nat := if 1 < n ∧ j = 0 then (f.tdiv 256 % 256).toNat else if 1 < n ∧ j = 1 then (f.tdiv 65536 % 256).toNat else ((f + j) % 256).toNat
theorem bv_lt (n : Nat) (f : Int) (j : Nat) : bv n f j < 256 := by
  unfold bv
  split
  · omega
  · split <;> omega
theorem byte_of (x : Int) : wrap64 x % 256 = ((x % 256).toNat : Int) := by
  unfold wrap64
  omega
theorem byte_of' (x : Int) : IntKind.u8.wrap x = ((x % 256).toNat : Int) := by
  rw [IntKind.wrap_u8]
  omega
def bvTo (k : Nat) (f : Int) (j : Nat) : Nat := if j < k then ((f + j) % 256).toNat else 0

end Go.Proofs.YtikenhcglbfgpaaDoor
namespace Go.Proofs.YtikenhcglbfgpaaDoor
set_option maxRecDepth 100000
open Go Go.RowKit
set_option linter.unusedVariables false

/-- a row of bytes that a call has answered -/
def Row8 (w : World) (v : Value) (n : Nat) (X : Nat → Nat) : Prop := ∃ g c cs, v = .slice (some ⟨g, 0, none⟩) n c ∧ Blk w g 5 cs ∧ ∀ j, j < n → cs[0 + j]? = some (.int .u8 ((X j : Nat) : Int))
theorem Row8.of_own {w : World} {B n : Nat} {v : Value} {X : Nat → Nat} (h : w.ownsRow B 5 1 v n (rowL n X)) (hn : 0 < n) : Row8 w v n X := by
  rcases h.2 with ⟨_, e⟩ | ⟨g, cap, cur, e, _, hb, _, _, hs, ht⟩
  · omega
  · refine ⟨g, cap, cur, e, hb, fun j hj => ?_⟩
    have h1 := rowL_get X hj
    rw [← ht, List.getElem?_take_of_lt (by omega), Array.getElem?_toList] at h1
    rw [Nat.zero_add]
    exact h1
theorem Row8.of_blk {w : World} {g n c : Nat} {X : Nat → Nat} (h : Blk w g 5 (rowArr n X)) : Row8 w (.slice (some ⟨g, 0, none⟩) n c) n X :=
  ⟨g, c, _, rfl, h, fun j hj => by rw [Nat.zero_add]; exact rowArr_get hj⟩
theorem Row8.conv {w : World} {v : Value} {n : Nat} {X : Nat → Nat} (h : Row8 w v n X) : (convert 38 9 v).run Tryd.prog w = .ok (.string (strB n X)) w := by
  obtain ⟨g, c, cs, rfl, hb, hx⟩ := h
  exact conv_bytes hb hx
theorem Row8.keep {B : Nat} {w w' : World} {v : Value} {n : Nat} {X : Nat → Nat} (h : Row8 w v n X) (hk : Keep B w w') : Row8 w' v n X := by
  obtain ⟨g, c, cs, rfl, hb, hx⟩ := h
  exact ⟨g, c, cs, rfl, hk.block hb rfl, hx⟩
theorem Row8.new_ {w w' : World} {v : Value} {n : Nat} {X : Nat → Nat} (h : Row8 w v n X) (hk : Below w.heap.size w w') : Row8 w' v n X := by
  obtain ⟨g, c, cs, rfl, hb, hx⟩ := h
  exact ⟨g, c, cs, rfl, hb.new_ hk, hx⟩
theorem Row8.drew {w : World} {v : Value} {n : Nat} {X : Nat → Nat} (h : Row8 w v n X) : Row8 w.drew v n X := h
end Go.Proofs.YtikenhcglbfgpaaDoor
namespace Go.Proofs.YtikenhcglbfgpaaDoor
open Go Go.RowKit
set_option maxRecDepth 100000
set_option linter.unusedVariables false
namespace refRack
theorem spent_costs (s : RS) : s.spent.cost = s.cost := (spent_same s).2.2.2.2.1
section
variable {B : Nat} {w w' : World} {r g : Nat} {s t : RS}
theorem new_noR (w : World) (D S : Int) (hbad : D < 1 ∨ 16 < D ∨ S < 1 ∨ 2000 < S) :
    Calls Tryd.prog 6 #[.int .i64 D, .int .i64 S] w fun e w' => e = .returned (.tuple #[.pointer none, .int .i64 1]) ∧ w' = w := by
  rcases (by omega : D < 1 ∨ (1 ≤ D ∧ 16 < D) ∨ (1 ≤ D ∧ D ≤ 16 ∧ S < 1) ∨ (1 ≤ D ∧ D ≤ 16 ∧ 1 ≤ S ∧ 2000 < S)) with h | ⟨h1, h2⟩ | ⟨h1, h2, h3⟩ | ⟨h1, h2, h3, h4⟩
  all_goals
    clear hbad
    go_enter Tryd.func6, Tryd.ntmps6
    go_wp2_with fail
    go_ret2
    exact ⟨rfl, rfl⟩
theorem isD_some {s : RS} {D : Int} (h : s.isD D = true) : ∃ d : Nat, D = (d : Int) ∧ d < s.nd := by
  unfold RS.isD at h
  rw [Bool.and_eq_true] at h
  have h1 := of_decide_eq_true h.1
  have h2 := of_decide_eq_true h.2
  exact ⟨D.toNat, by omega, by omega⟩
theorem why_some {s : RS} {D A : Int} (h : s.why D A = 0) : ∃ d a : Nat, D = (d : Int) ∧ A = (a : Int) ∧ d < s.nd ∧ a < s.ns ∧ s.gone d = false := by
  unfold RS.why at h
  by_cases hp : s.isP D A = true
  · rw [if_pos hp] at h
    unfold RS.isP at hp
    rw [Bool.and_eq_true, Bool.and_eq_true] at hp
    obtain ⟨d, rfl, hd⟩ := isD_some hp.1
    have h1 := of_decide_eq_true hp.2.1
    have h2 := of_decide_eq_true hp.2.2
    refine ⟨d, A.toNat, rfl, by omega, hd, by omega, ?_⟩
    cases hg : s.gone d with
    | false => rfl
    | true => rw [Int.toNat_natCast, hg] at h; simp at h
  · rw [if_neg hp] at h; simp at h
def loseE (s : RS) (D : Int) : Int := if s.isD D = true then 0 else 1
def loseS (s : RS) (D : Int) : RS := if s.isD D = true then s.lost D.toNat else s
def anewS (s : RS) (D : Int) : RS := if s.isD D = true then s.anew D.toNat else s
def rotE (s : RS) (D A n : Int) : Int := if n < 0 then 1 else s.why D A
def rotS (s : RS) (D A n : Int) : RS := if n < 0 ∨ s.why D A ≠ 0 then s else s.rotted D.toNat A.toNat n.toNat
def wrE (s : RS) (D A : Int) (m : Nat) : Int := if m = 128 then (if s.why D A = 0 then (if s.pow = true then 0 else 16) else s.why D A) else 1
def wrS (s : RS) (D A : Int) (m : Nat) (X : Nat → Nat) : RS := if m = 128 ∧ s.why D A = 0 then (if s.pow = true then s.spent.wrote D.toNat A.toNat X else s.spent) else s
theorem loseS_cost (s : RS) (D : Int) : (loseS s D).cost = s.cost := by
  unfold refRack.loseS
  by_cases hd : s.isD D = true
  · rw [if_pos hd]; rfl
  · rw [if_neg hd]
theorem anewS_cost (s : RS) (D : Int) : (anewS s D).cost = s.cost := by
  unfold refRack.anewS
  by_cases hd : s.isD D = true
  · rw [if_pos hd]; rfl
  · rw [if_neg hd]
theorem rotS_cost (s : RS) (D A n : Int) : (rotS s D A n).cost ≤ s.cost + 1 := by
  unfold refRack.rotS
  by_cases hd : n < 0 ∨ s.why D A ≠ 0
  · rw [if_pos hd]; omega
  · rw [if_neg hd]
    cases hi : newIn s.W D.toNat A.toNat s.nw with
    | some i => rw [rotted_some hi]; exact Nat.le_refl _
    | none => rw [rotted_none hi]; exact Nat.le_refl _
theorem wrS_cost (s : RS) (D A : Int) (m : Nat) (X : Nat → Nat) : (wrS s D A m X).cost ≤ s.cost + 1 := by
  unfold refRack.wrS
  have e : s.spent.cost = s.cost := spent_costs s
  by_cases hd : m = 128 ∧ s.why D A = 0
  · rw [if_pos hd]
    by_cases hp : s.pow = true
    · rw [if_pos hp]; show s.spent.cost + 1 ≤ _; omega
    · rw [if_neg hp]; omega
  · rw [if_neg hd]; omega
theorem wr_tot (w : World) (r : Nat) (s : RS) (D A : Int) (gb m c : Nat) (X : Nat → Nat) (hb : Blk w gb 5 (rowArr m X)) (hX : ∀ j, j < 128 → X j < 256) (hcost : s.cost + 1 ≤ 1000000) (h : RackAt B w r s) :
    Calls Tryd.prog 32 #[.pointer (some ⟨r, 0, none⟩), .int .i64 D, .int .i64 A, .slice (some ⟨gb, 0, none⟩) m c] w fun e w' => e = .returned (.int .i64 (wrE s D A m)) ∧ RackAt B w' r (wrS s D A m X) ∧ Keep B w w' := by
  unfold refRack.wrE refRack.wrS
  by_cases hm : m = 128
  · subst hm
    rw [if_pos rfl]
    by_cases h1 : s.why D A = 0
    · rw [if_pos h1, if_pos (show 128 = 128 ∧ s.why D A = 0 from ⟨rfl, h1⟩)]
      obtain ⟨d, a, rfl, rfl, h2, h3, h4⟩ := why_some h1
      rw [Int.toNat_natCast, Int.toNat_natCast]
      exact write_go w r s _ _ d a gb 0 c X 5 _ h h2 h3 h4 hb rfl (fun j hj => ⟨by rw [Nat.zero_add]; exact rowArr_get hj, hX j hj⟩) hcost rfl rfl
    · rw [if_neg h1, if_neg (show ¬(128 = 128 ∧ s.why D A = 0) from fun q => h1 q.2)]
      exact write_why w r s D A _ c h h1
  · rw [if_neg hm, if_neg (show ¬(m = 128 ∧ s.why D A = 0) from fun q => hm q.1)]
    exact (write_size w r s D A _ m c h hm).mono fun e w' ⟨h1, h2⟩ => ⟨h1, by rw [h2]; exact h, by rw [h2]; exact Keep.refl B w⟩
/-- what a read answers: the bytes, or none -/
def rdN (s : RS) (D A : Int) : Nat := if s.deny D A = 0 then 128 else 0
theorem deny_some {s : RS} {D A : Int} (h : s.deny D A = 0) : s.why D A = 0 ∧ s.off = false := by
  unfold RS.deny at h
  by_cases h1 : s.why D A = 0
  · rw [if_pos h1] at h
    refine ⟨h1, ?_⟩
    cases ho : s.off with
    | false => rfl
    | true => rw [ho] at h; simp at h
  · rw [if_neg h1] at h; exact absurd h h1
theorem strB_zero (X : Nat → Nat) : strB 0 X = ⟨#[]⟩ := rfl
theorem read_tot (w : World) (r : Nat) (s : RS) (D A : Int) (h : RackAt B w r s) :
    Calls Tryd.prog 15 #[.pointer (some ⟨r, 0, none⟩), .int .i64 D, .int .i64 A] w fun e w' => (∃ v, e = .returned (.tuple #[v, .int .i64 (s.deny D A)]) ∧ w'.ownsRow w.heap.size 5 1 v (rdN s D A) (rowL (rdN s D A) (s.holds D.toNat A.toNat))) ∧ RackAt B w' r s ∧ Keep B w w' := by
  unfold rdN
  by_cases h1 : s.deny D A = 0
  · rw [if_pos h1, h1]
    obtain ⟨h2, h3⟩ := deny_some h1
    obtain ⟨d, a, rfl, rfl, h4, h5, h6⟩ := why_some h2
    rw [Int.toNat_natCast, Int.toNat_natCast]
    exact read_ok w r s d a h h4 h5 h6 h3
  · rw [if_neg h1]
    exact (read_no w r s D A h h1).mono fun e w' ⟨h2, h3, h4⟩ => ⟨⟨_, h2, rfl, .inl ⟨rfl, rfl⟩⟩, h3, h4⟩
end
end refRack
end Go.Proofs.YtikenhcglbfgpaaDoor
