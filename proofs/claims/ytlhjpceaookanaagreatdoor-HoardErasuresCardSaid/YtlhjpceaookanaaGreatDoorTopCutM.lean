/-
  The law's block on a rack, in plain words; and a struct of the law's from its box. No conditions beyond those that each theorem types.
-/
import Derived.Test.YtlhjpceaookanaaGreatDoorArrLawLayM
import Derived.Test.YtlhjpceaookanaaGreatDoorRackTotM
import Derived.Test.YtlhjpceaookanaaGreatDoorArrWriteM
import Derived.Test.YtlhjpceaookanaaGreatDoorArrRepairM
import Derived.ProofKit
import Derived.ChangeArms
import Derived.WideShapes
import Derived.ChangeSlices
import Derived.Lib.SmallJoins
import Derived.Test.YtlhjpceaookanaaGreatDoorArrFitsM
import Derived.Test.YtlhjpceaookanaaGreatDoorArrCallsM
import Derived.Test.YtlhjpceaookanaaGreatDoorRows
import Derived.Test.YtlhjpceaookanaaGreatDoorChecked
import Derived.LaidMore
import Derived.OpenShut
import Derived.Stop.Joined
import Derived.Test.YtlhjpceaookanaaGreatDoorArrWrM
namespace Go.Proofs.YtlhjpceaookanaaGreatDoor
open Go Go.RowKit refRack
set_option maxRecDepth 100000
set_option linter.unusedVariables false
namespace Arr
theorem ownB_keepK {B base : Nat} {w w' : World} {v : Value} {l : List Nat} (h : Gr.OwnG 5 1 Cc.csB w base v l) (hk : Keep B w w') : Gr.OwnG 5 1 Cc.csB w' base v l := by
  refine ⟨h.1, ?_⟩
  rcases h.2 with e | ⟨g, cap, cur, e, h1, h2, h3⟩
  · exact .inl e
  · exact .inr ⟨g, cap, cur, e, h1, hk.kept g _ h2 rfl, h3⟩
/-- a rack on which one block stands -/
structure LB (s : RS) (N n ad : Nat) (X : Nat → Nat) : Prop where
  nd : s.nd = N
  ns : s.ns = 9
  calm : s.calm
  gone : ∀ d, s.gone d = false
  cost : s.cost ≤ 32
  sound : Sound s 2 ad n X
theorem layS_ok {N n ad : Nat} (hN : 5 ≤ N) (hN2 : N ≤ 16) (h1 : 1 ≤ n) (hn : n ≤ 1024) (X : Nat → Nat) : LB (layS N n ad X) N n ad X := by
  obtain ⟨hl, hc⟩ := wrAll_like (RS.new N 9) 2 ad (cellX N n X) (cost N n)
  have h3 := (cost_room hN hN2 h1 hn).1
  have hs : Sound (wrAll (RS.new N 9) 2 ad (cellX (RS.new N 9).nd n X) (cost (RS.new N 9).nd n)) 2 ad n X := Sound.wrAll
  exact ⟨hl.nd, hl.ns, hl.calm ⟨rfl, rfl⟩, fun d => by show (wrAll _ _ _ _ _).gone d = false; rw [hl.gone]; rfl, Nat.le_trans hc (by show 0 + _ ≤ 32; omega), hs.flushed⟩
theorem Sound.apart {s : RS} {f ad n at_ k : Nat} {X : Nat → Nat} {Y : Nat → Nat → Nat} (h : Sound s f ad n X) (hd : ad + cost s.nd n ≤ at_ ∨ at_ + k ≤ ad) : Sound (Arr.wrAll s f at_ Y k) f ad n X := fun i hi hg v hv => by
  have hl := (wrAll_like s f at_ Y k).1
  rw [hl.nd] at hi
  rw [hl.goneC] at hg
  rw [wrAll_holds, if_neg (by omega), hl.nd]
  exact h i hi hg v hv
/-- a second block beside it -/
theorem lb_second {s : RS} {N n ad m at_ : Nat} {X Y : Nat → Nat} (h : LB s N n ad X) (hN : 5 ≤ N) (hN2 : N ≤ 16) (h1 : 1 ≤ m) (hm : m ≤ 1024) (hd : ad + cost N n ≤ at_ ∨ at_ + cost N m ≤ ad) :
    (wrAll s 2 at_ (cellX s.nd m Y) (cost s.nd m)).calm ∧ (∀ d, (wrAll s 2 at_ (cellX s.nd m Y) (cost s.nd m)).flushed.gone d = false) ∧ Sound (wrAll s 2 at_ (cellX s.nd m Y) (cost s.nd m)).flushed 2 ad n X ∧ Sound (wrAll s 2 at_ (cellX s.nd m Y) (cost s.nd m)).flushed 2 at_ m Y := by
  obtain ⟨hl, hc⟩ := wrAll_like s 2 at_ (cellX s.nd m Y) (cost s.nd m)
  exact ⟨hl.calm h.calm, fun d => by show (wrAll _ _ _ _ _).gone d = false; rw [hl.gone]; exact h.gone d, (h.sound.apart (by rw [h.nd]; exact hd)).flushed, (Sound.wrAll).flushed⟩
end Arr
end Go.Proofs.YtlhjpceaookanaaGreatDoor
namespace Go.Proofs.YtlhjpceaookanaaGreatDoor
open Go Go.RowKit
set_option maxRecDepth 100000
set_option linter.unusedVariables false
theorem newIn_putWR (W : Nat → Wt) (i : Nat) (X : Nat → Nat) (d a k : Nat) : newIn (putW W i X) d a k = newIn W d a k :=
  newIn_congr fun j _ => by
    unfold putW
    by_cases e : j = i
    · rw [if_pos e, e]; exact ⟨rfl, rfl⟩
    · rw [if_neg e]; exact ⟨rfl, rfl⟩
theorem holds_rottedR (s : RS) (d a n d' a' : Nat) : (s.rotted d a n).holds d' a' = if d' = d ∧ a' = a then rotF (s.holds d a) n else s.holds d' a' := by
  cases hi : newIn s.W d a s.nw with
  | some i =>
    rw [rotted_some hi]
    unfold RS.holds
    show (match newIn (putW s.W i _) d' a' s.nw with | some k => (putW s.W i _ k).x | none => s.last d' a') = _
    rw [newIn_putWR, hi]
    by_cases e : d' = d ∧ a' = a
    · obtain ⟨rfl, rfl⟩ := e
      rw [if_pos ⟨rfl, rfl⟩, hi]
      show (putW s.W i _ i).x = _
      unfold putW
      rw [if_pos rfl]
    · rw [if_neg e]
      cases hk : newIn s.W d' a' s.nw with
      | none => rfl
      | some k =>
        have h1 := newIn_lt hi
        have h2 := newIn_lt hk
        show (putW s.W i _ k).x = (s.W k).x
        unfold putW
        rw [if_neg (fun x => e (by rw [x] at h2; exact ⟨h2.2.1.symm.trans h1.2.1, h2.2.2.symm.trans h1.2.2⟩))]
  | none =>
    rw [rotted_none hi]
    unfold RS.holds
    show (match newIn s.W d' a' s.nw with | some k => (s.W k).x | none => (if d' = d ∧ a' = a then rotF (s.last d a) n else s.last d' a')) = _
    rw [hi]
    by_cases e : d' = d ∧ a' = a
    · obtain ⟨rfl, rfl⟩ := e
      rw [if_pos ⟨rfl, rfl⟩, hi, if_pos ⟨rfl, rfl⟩]
    · cases hk : newIn s.W d' a' s.nw with
      | none => simp only [if_neg e]
      | some k => simp only [if_neg e]
theorem rotted_sameR (s : RS) (d a n : Nat) : (s.rotted d a n).nd = s.nd ∧ (s.rotted d a n).ns = s.ns ∧ (s.rotted d a n).off = s.off ∧ (s.rotted d a n).armed = s.armed ∧ (s.rotted d a n).gone = s.gone := by
  unfold RS.rotted
  split <;> exact ⟨rfl, rfl, rfl, rfl, rfl⟩
end Go.Proofs.YtlhjpceaookanaaGreatDoor
namespace Go.Proofs.YtlhjpceaookanaaGreatDoor
open Go Go.RowKit refRack
set_option maxRecDepth 100000
set_option linter.unusedVariables false
namespace Arr
open Cc
theorem docC_none {k q : Nat} {bz : Nat → Int} {x : Nat → Nat → Nat} {t v : Nat} (hq : q = 0) (ht : t < k) : docC k 0 q bz x t v = x t v := by
  subst hq
  rw [docC_data v ht, docD_not v (by unfold M.isL; rfl), X0_good v (isB_false fun j hj => absurd hj (by omega))]
theorem outRow_none {k : Nat} {bd : Nat → Bool} {x : Nat → Nat → Nat} {t v : Nat} (h : ∀ j, bd j = false) (ht : t < k) : outRow k bd x t v = x (t + 3) v := by
  unfold outRow
  have hp : plc k bd = [] := by unfold plc trueL; simp [h]
  rw [hp]
  have hq : qOf k 0 (bzL []) = 0 := by
    have := (qOf_split (k := k) (m := 0) (bz := bzL []) (N := 0) (fun i hi => absurd hi (by omega))).le
    omega
  show docC k 0 (qOf k 0 (bzL [])) (bzL []) (fun i => x (pi k i)) t v = _
  rw [docC_none hq ht]
  show x (pi k t) v = _
  unfold pi
  rw [if_pos ht]
section
variable {N n ad : Nat} {x : Nat → Nat → Nat} {Z : Nat → Nat} (hN : 5 ≤ N) (h1 : 1 ≤ n) (hx : ∀ r t v, r < rws N (secs n) → t < kR N (secs n) r → v < 128 → x (r * N + (t + 3)) v = Z ((r * (N - 3) + t) * 128 + v))
include hN h1 hx
omit hN h1 in
theorem rebR_none {r : Nat} (hr : r < rws N (secs n)) : rebR N n ad [] x r = (List.range (kR N (secs n) r * 128)).map (fun j => Z (r * (N - 3) * 128 + j)) := by
  unfold rebR
  rw [joinL_congr (M := fun t => (List.range 128).map fun v => Z ((r * (N - 3) + t) * 128 + v)) fun t ht => List.map_congr_left fun v hv => ?_, joinL_map]
  · refine List.map_congr_left fun j hj => ?_
    show Z ((r * (N - 3) + j / 128) * 128 + j % 128) = _
    have e : (r * (N - 3) + j / 128) * 128 + j % 128 = r * (N - 3) * 128 + j := by rw [Nat.add_mul]; omega
    rw [e]
  · have hv : v < 128 := by simpa using hv
    rw [outRow_none (fun j => by simp) ht]
    exact hx r t v hr ht hv
theorem rebL_none_to : ∀ r, r ≤ rws N (secs n) → (r < rws N (secs n) → joinL (rebR N n ad [] x) r = (List.range (r * (N - 3) * 128)).map Z) ∧ (r = rws N (secs n) → joinL (rebR N n ad [] x) r = (List.range (secs n * 128)).map Z)
  | 0, _ => ⟨fun _ => by simp [joinL], fun e => by have := (rws_spec hN (secs_pos h1)).1; omega⟩
  | r + 1, h => by
    have ih := (rebL_none_to r (by omega)).1 (by omega)
    have hy := row_next hN (secs_pos h1) (r := r) (by omega)
    have e := rebR_none (ad := ad) hx (r := r) (by omega)
    have e2 : joinL (rebR N n ad [] x) (r + 1) = (List.range (r * (N - 3) * 128 + kR N (secs n) r * 128)).map Z := by
      rw [joinL_succ, ih, e, List.range_add, List.map_append, List.map_map]
      rfl
    rw [e2, ← Nat.add_mul]
    constructor
    · intro h2
      rw [if_pos h2] at hy
      rw [hy, Nat.succ_mul]
    · intro h2
      rw [if_neg (by omega)] at hy
      rw [hy.2]
theorem rebL_none : (rebL N n ad [] x).take n = (List.range n).map Z := by
  unfold rebL
  rw [(rebL_none_to hN h1 hx _ (Nat.le_refl _)).2 rfl, ← List.map_take, List.take_range]
  have := secs_ge n
  rw [Nat.min_eq_left this]
end
theorem secD_congr {n : Nat} {X Z : Nat → Nat} (h : ∀ j, j < n → Z j = X j) (j v : Nat) : secD n Z j v = secD n X j v := by
  unfold secD
  split
  · exact h _ (by assumption)
  · rfl
theorem cellX_congr {N n : Nat} {X Z : Nat → Nat} (h : ∀ j, j < n → Z j = X j) : cellX N n Z = cellX N n X := by
  have e : secD n Z = secD n X := by funext j v; exact secD_congr h j v
  funext i v
  unfold cellX
  rw [e]
/-- the last cell is the last sector's -/
theorem last_cell {N n : Nat} (hN : 5 ≤ N) (h1 : 1 ≤ n) : ∃ r t, r < rws N (secs n) ∧ t < kR N (secs n) r ∧ cost N n - 1 = r * N + 3 + t ∧ r * (N - 3) + t = secs n - 1 ∧ t + 3 < N := by
  have hp := secs_pos h1
  have hr := (rws_spec hN hp).1
  have g := row_next hN hp (r := rws N (secs n) - 1) (by omega)
  rw [if_neg (by omega)] at g
  have g2 := row_cells hN hp (r := rws N (secs n) - 1) (by omega)
  refine ⟨rws N (secs n) - 1, kR N (secs n) (rws N (secs n) - 1) - 1, by omega, by omega, ?_, by omega, by omega⟩
  unfold cost
  omega
/-- a cell of a row's data is the last one just where its sector is -/
theorem cell_last {N n r t : Nat} (hN : 5 ≤ N) (h1 : 1 ≤ n) (hr : r < rws N (secs n)) (ht : t < kR N (secs n) r) (e : r * N + 3 + t = cost N n - 1) : r * (N - 3) + t = secs n - 1 := by
  obtain ⟨r', t', h2, h3, h4, h5, h6⟩ := last_cell hN h1
  rw [h4] at e
  have g2 := row_cells hN (secs_pos h1) hr
  have e1 : r * N + (3 + t) = r' * N + (3 + t') := by omega
  have a1 := cell_row (N := N) (r := r) (p := 3 + t) (by omega)
  have a2 := cell_row (N := N) (r := r') (p := 3 + t') (by omega)
  have e2 : r = r' := by rw [← a1.1, e1, a2.1]
  have e3 : 3 + t = 3 + t' := by rw [← a1.2, e1, a2.2]
  have e4 : t = t' := by omega
  rw [e2, e4, h5]
section
variable {s : RS} {N n ad off : Nat} {X : Nat → Nat} (hL : LB s N n ad X) (hN : 5 ≤ N) (hN2 : N ≤ 16) (h1 : 1 ≤ n) (hn : n ≤ 1024) (ho : off < 128) (ho2 : n ≤ (secs n - 1) * 128 + off)
/-- the rack, rotten behind the block's end -/
def tailS (s : RS) (N n ad off : Nat) : RS := s.rotted ((ad + cost N n - 1) % N) (2 + (ad + cost N n - 1) / N) off
theorem tail_same (s : RS) (N n ad off : Nat) : (tailS s N n ad off).nd = s.nd ∧ (tailS s N n ad off).ns = s.ns ∧ (tailS s N n ad off).off = s.off ∧ (tailS s N n ad off).armed = s.armed ∧ (tailS s N n ad off).gone = s.gone := rotted_sameR _ _ _ _
include hL hN h1
omit hN in
theorem tail_holds {i v : Nat} (hi : i < cost N n) (hv : v < 128) : holdsC (tailS s N n ad off) 2 (ad + i) v = if i = cost N n - 1 then rotF (cellX N n X i) off v else cellX N n X i v := by
  have hc : 1 ≤ cost N n := by have := secs_pos h1; unfold cost; omega
  unfold holdsC
  rw [(tail_same s N n ad off).1, hL.nd]
  unfold tailS
  rw [holds_rottedR]
  have hs : ∀ j, j < cost N n → ∀ u, u < 128 → s.holds ((ad + j) % N) (2 + (ad + j) / N) u = cellX N n X j u := fun j hj u hu => by
    have := hL.sound j (by rw [hL.nd]; exact hj) (hL.gone _) u hu
    unfold holdsC at this
    rw [hL.nd] at this
    exact this
  rw [show ad + cost N n - 1 = ad + (cost N n - 1) by omega]
  by_cases e : i = cost N n - 1
  · rw [if_pos e, if_pos ⟨by rw [e], by rw [e]⟩]
    unfold rotF
    rw [← e, hs i hi v hv]
  · rw [if_neg e, if_neg (fun q => e (by have := place_inj q.1 q.2; omega)), hs i hi v hv]
omit hN h1 in
theorem tail_gone (d : Nat) : (tailS s N n ad off).gone d = false := by rw [(tail_same s N n ad off).2.2.2.2]; exact hL.gone d
include hN2 ho ho2
theorem tail_dat : datP (tailS s N n ad off).nd n ad (goneB (tailS s N n ad off) ad n) (heldB (tailS s N n ad off) 2 ad) [] = (List.range n).map X := by
  rw [goneB_none (tail_gone hL), (tail_same s N n ad off).1, hL.nd]
  unfold datP
  have e : outP [] [] = [] := by unfold outP Sq.srt; simp
  rw [e]
  rw [rebL_none (Z := fun j => if j = (secs n - 1) * 128 + off then rotF (secD n X (secs n - 1)) off off else padB n X j) hN h1]
  · refine List.map_congr_left fun j hj => ?_
    have hj : j < n := by simpa using hj
    show (if _ then _ else _) = _
    rw [if_neg (by omega)]
    unfold padB
    rw [if_pos hj]
  · intro r t v hr ht hv
    have g := row_cells hN (secs_pos h1) hr
    show holdsC (tailS s N n ad off) 2 (ad + (r * N + (t + 3))) v = _
    rw [tail_holds hL h1 (by unfold cost; omega) hv, show r * N + (t + 3) = r * N + 3 + t by omega]
    rw [show rotF (cellX N n X (r * N + 3 + t)) off v = rotF (secD n X (r * (N - 3) + t)) off v by unfold rotF; rw [cellX_data n X v (by omega)], cellX_data n X v (by omega)]
    by_cases e : r * N + 3 + t = cost N n - 1
    · have e2 := cell_last hN h1 hr ht e
      rw [if_pos e, e2]
      by_cases ev : v = off
      · rw [ev, if_pos rfl]
      · rw [if_neg (by omega)]
        unfold rotF
        rw [if_neg (by omega)]
        rfl
    · rw [if_neg e]
      obtain ⟨r', t', q1, q2, q3, q4, q5⟩ := last_cell hN h1
      rw [if_neg (fun q => e ?_)]
      · rfl
      · have e3 : r * (N - 3) + t = r' * (N - 3) + t' := by omega
        have e4 : r = r' := by
          have g' := row_cells hN (secs_pos h1) q1
          rcases Nat.lt_trichotomy r r' with h | h | h
          · have : (r + 1) * (N - 3) ≤ r' * (N - 3) := Nat.mul_le_mul_right _ h
            rw [Nat.succ_mul] at this
            omega
          · exact h
          · have : (r' + 1) * (N - 3) ≤ r * (N - 3) := Nat.mul_le_mul_right _ h
            rw [Nat.succ_mul] at this
            omega
        subst e4
        omega
theorem tail_fit : fitB (tailS s N n ad off) 2 ad n (sumS n X) [] = true := by
  unfold fitB fitP
  rw [tail_dat hL hN hN2 h1 ho ho2, sumL_map]
  exact beq_self_eq_true _
omit hN2 in
theorem tail_wrong {k : Nat} (hk : k < cost N n) : wrongC (tailS s N n ad off) 2 ad (cellX N n X) k = decide (k = cost N n - 1) := by
  have hg : goneC (tailS s N n ad off) (ad + k) = false := tail_gone hL _
  unfold wrongC
  rw [hg]
  by_cases e : k = cost N n - 1
  · rw [decide_eq_true e]
    have : ¬ ∀ v, v < 128 → holdsC (tailS s N n ad off) 2 (ad + k) v = cellX N n X k v := fun h => by
      have h2 := h off ho
      rw [tail_holds hL h1 hk ho, if_pos e] at h2
      obtain ⟨r, t, q1, q2, q3, q4, q5⟩ := last_cell hN h1
      unfold rotF at h2
      rw [if_pos (by omega), e, q3, cellX_data n X off (by omega), q4] at h2
      unfold secD at h2
      rw [if_neg (by omega), Nat.div_eq_of_lt ho] at h2
      simp at h2
    rw [sameN_no this]
    rfl
  · rw [decide_eq_false e]
    have : ∀ v, v < 128 → holdsC (tailS s N n ad off) 2 (ad + k) v = cellX N n X k v := fun v hv => by
      rw [tail_holds hL h1 hk hv, if_neg e]
    rw [sameN_yes this]
    rfl
omit hN2 in
theorem tail_to : ∀ k, k ≤ cost N n - 1 → wrL (tailS s N n ad off) 2 ad (cellX N n X) k = [] ∧ repS (tailS s N n ad off) 2 ad (cellX N n X) k = tailS s N n ad off
  | 0, _ => ⟨rfl, rfl⟩
  | k + 1, h => by
    obtain ⟨e1, e2⟩ := tail_to k (by omega)
    have hw := tail_wrong hL hN h1 ho ho2 (k := k) (by omega)
    rw [decide_eq_false (by omega)] at hw
    rw [wrL_succ, repS_succ, hw, if_neg (by decide), if_neg (by decide), e1, e2]
    exact ⟨rfl, rfl⟩
omit hN2 in
theorem tail_rep : wrL (tailS s N n ad off) 2 ad (cellX N n X) (cost N n) = [(ad + cost N n - 1) % N] := by
  have hc : 1 ≤ cost N n := by have := secs_pos h1; unfold cost; omega
  have hw := tail_wrong hL hN h1 ho ho2 (k := cost N n - 1) (by omega)
  rw [decide_eq_true rfl] at hw
  have e := wrL_succ (tailS s N n ad off) 2 ad (cellX N n X) (cost N n - 1)
  rw [hw, if_pos rfl, (tail_to hL hN h1 ho ho2 _ (Nat.le_refl _)).1, (tail_same s N n ad off).1, hL.nd, show cost N n - 1 + 1 = cost N n by omega, show ad + (cost N n - 1) = ad + cost N n - 1 by omega] at e
  exact e
omit hN2 hL ho in
theorem tail_zero : cellX N n X (cost N n - 1) off = 0 := by
  obtain ⟨r, t, q1, q2, q3, q4, q5⟩ := last_cell hN h1
  rw [q3, cellX_data n X off (by omega), q4]
  unfold secD
  rw [if_neg (by omega)]
end
theorem rotted_cost (s : RS) (d a n : Nat) : (s.rotted d a n).cost ≤ s.cost + 1 := by
  unfold RS.rotted
  split <;> exact Nat.le_refl _
/-- bytes of the call's own, as they are read -/
theorem own_rd {w : World} {base gb n c : Nat} {l : List Nat} (h : Gr.OwnG 5 1 csB w base (.slice (some ⟨gb, 0, none⟩) n c) l) (hn : l.length = n) (hl : ∀ y ∈ l, y < 256) :
    RdB w w.heap.size (some ⟨gb, 0, none⟩) n (fun j => l.getD j 0) ∧ n ≤ c ∧ c ≤ maxLen := by
  refine ⟨rdB_own h hn hl, ?_⟩
  rcases h.2 with ⟨e1, _⟩ | ⟨g', cap', cur, e1, e2, e3, e4, e5, e6, e7⟩
  · cases e1
  · cases e1
    exact ⟨by omega, e5⟩
theorem read_tail {B a r N n ad off : Nat} {s : RS} {X : Nat → Nat} (w : World) (h : At B w a r 2 (tailS s N n ad off)) (hl : Laid w) (hB : 0 < B) (hL : LB s N n ad X) (hN : 5 ≤ N) (hN2 : N ≤ 16) (h1 : 1 ≤ n) (hn : n ≤ 1024) (ho : off < 128) (ho2 : n ≤ (secs n - 1) * 128 + off) (hoff : (tailS s N n ad off).off = false) (hc : ad + cost (tailS s N n ad off).nd n ≤ cells (tailS s N n ad off) 2) :
    Calls Tryz.prog 10 #[.pointer (some ⟨a, 0, none⟩), .int .i64 (ad : Int), .int .i64 (n : Int), .string (sumS n X)] w fun e w' => (∃ gb c oA oc, e = .returned (.tuple #[.slice (some ⟨gb, 0, none⟩) n c, .slice oA 0 oc, .int .i64 0]) ∧ Gr.OwnG 5 1 csB w' w.heap.size (.slice (some ⟨gb, 0, none⟩) n c) ((List.range n).map X)) ∧ RackAt B w' r (tailS s N n ad off) ∧ Keep B w w' := by
  refine (readA_any w h hl hB hoff ad n h1 hn hc (sumS n X) (strB_size _ _)).mono ?_
  rintro e w' ⟨hp, hr, hk⟩
  refine ⟨?_, hr, hk⟩
  have hg : goneB (tailS s N n ad off) ad n = [] := goneB_none (tail_gone hL)
  have h0 : anyP (fitB (tailS s N n ad off) 2 ad n (sumS n X)) (hereB (tailS s N n ad off) ad n) 0 [] = true := by rw [anyP_zero]; exact tail_fit hL hN hN2 h1 ho ho2
  rcases hp with ⟨_, h2 | h2⟩ | ⟨m, q, gb, c, ov, h2, h3, h4, h5, rfl, h6, h7⟩
  · rw [hg] at h2
    exact absurd h2 (by decide)
  · rw [h2 0 (by rw [hg]; decide)] at h0; cases h0
  · have hm : m = 0 := by
      rcases Nat.eq_zero_or_pos m with e | e
      · exact e
      · rw [h3 0 e] at h0; cases h0
    subst hm
    obtain ⟨t, e1, e2, _⟩ := h5
    have : t = [] := List.eq_nil_of_length_eq_zero e2
    subst this
    have e1 : q = [] := by simpa using e1
    subst e1
    rw [tail_dat hL hN hN2 h1 ho ho2] at h6
    rw [hg] at h7
    have e : outP [] [] = [] := by unfold outP Sq.srt; simp
    rw [e] at h7
    rcases Nr.own_shape h7 with ⟨rfl, _⟩ | ⟨g, c', rfl, _⟩
    · exact ⟨gb, c, none, 0, rfl, h6⟩
    · exact ⟨gb, c, _, _, rfl, h6⟩
theorem cmp_one (x : Nat) : cmpL (Sq.srt [x]) = [x] := by
  have : Sq.srt [x] = [x] := by unfold Sq.srt; simp
  rw [this]
  rfl
end Arr
end Go.Proofs.YtlhjpceaookanaaGreatDoor
namespace Go.Proofs.YtlhjpceaookanaaGreatDoor
open Go Go.RowKit Go.ChangeShapes Go.WideShapes Go.Joins
set_option maxRecDepth 100000
set_option linter.unusedVariables false
namespace Arr
theorem wf_endsA {a : Int} (h : (Lit.int .i64 a).wf = true) : -9223372036854775808 ≤ a ∧ a ≤ 9223372036854775807 := by
  simp only [Lit.wf, Bool.and_eq_true, decide_eq_true_eq] at h
  exact h
/-- n numbers, below block B -/
def RdZ (w : World) (B : Nat) (A : Option Addr) (n : Nat) (x : Nat → Int) : Prop :=
  ∀ i, i < n → ∃ b o, A = some ⟨b, o, none⟩ ∧ b < B ∧ w.cell? ⟨b, o + i, none⟩ = some (.int .i64 (x i)) ∧ -9223372036854775808 ≤ x i ∧ x i ≤ 9223372036854775807
theorem RdZ.below {w w' : World} {B B' : Nat} {A : Option Addr} {n : Nat} {x : Nat → Int} (h : RdZ w B A n x) (hb : Below B' w w') (hB : B ≤ B') : RdZ w' B A n x := fun i hi => by
  obtain ⟨b, o, h1, h2, h3, h4⟩ := h i hi
  exact ⟨b, o, h1, h2, (hb.cell (p := ⟨b, o + i, none⟩) (show b < B' by omega)).trans h3, h4⟩
theorem getD_memA {zs : List Int} {j : Nat} (h : j < zs.length) : zs.getD j 0 ∈ zs := by
  rw [List.getD_eq_getElem?_getD, List.getElem?_eq_getElem h]
  exact List.getElem_mem h
section
variable {H : Type} {enc : TypeId × Value → H} {w : World} {base : Nat} {spare : Nat → Bool} {held : Bool}
theorem ints_of_trodA {fuel : Nat} {c0 : Value} {y : DataW H × List MemPlace} (h : DataW.trod enc Tryz.prog w base (fun _ => true) held fuel 22 [c0] = some y) : ∃ A n c x, c0 = .slice A n c ∧ RdZ w w.heap.size A n x ∧ n ≤ c ∧ c ≤ maxLen := by
  rcases open_ints Tryz.underlying22 Tryz.underlying3 (by kernel_rfl) h with ⟨hcs, _⟩ | ⟨a, l, c, zs, hcs, _, hl, hm, hz, _, hcell, hwz⟩
  · injection hcs with hcs _
    exact ⟨none, 0, 0, fun _ => 0, hcs, fun i hi => absurd hi (by omega), Nat.le_refl _, by simp [maxLen]⟩
  · injection hcs with hcs _
    simp at hz
    refine ⟨some a, l, c, fun j => zs.getD j 0, hcs, fun j hj => ?_, hl, hm⟩
    obtain ⟨b, o, sp⟩ := a
    have h0 := hcell j (by omega)
    have hsp : sp = none := by
      have h1 := hcell 0 (by omega)
      have h2 := World.cell?_spot h1
      simpa [Addr.add] using h2
    subst hsp
    rw [add_plain] at h0
    exact ⟨b, o, rfl, block_lt_of_cell h0, h0, wf_endsA (hwz _ (getD_memA (by omega)))⟩
theorem arrayFive {α : Type} {cs : Array α} (h : cs.size = 5) : ∃ c0 c1 c2 c3 c4, cs = #[c0, c1, c2, c3, c4] := by
  obtain ⟨l⟩ := cs
  match l, h with
  | [c0, c1, c2, c3, c4], _ => exact ⟨c0, c1, c2, c3, c4, rfl⟩
theorem trod_struct5A {P : Program} {t : TypeId} {f0 f1 f2 f3 f4 : Field} {fuel : Nat} {cs : List Value} {x : DataW H × List MemPlace} (ht : P.underlying t = some (.struct #[f0, f1, f2, f3, f4])) (h : DataW.trod enc P w base spare held fuel t cs = some x) :
    ∃ y0 y1 y2 y3 y4 n, DataW.trod enc P w base spare held n f0.type ((cs.drop f0.offset).take (P.cellsOf f0.type)) = some y0 ∧
      DataW.trod enc P w base spare held n f1.type ((cs.drop f1.offset).take (P.cellsOf f1.type)) = some y1 ∧ DataW.trod enc P w base spare held n f2.type ((cs.drop f2.offset).take (P.cellsOf f2.type)) = some y2 ∧
      DataW.trod enc P w base spare held n f3.type ((cs.drop f3.offset).take (P.cellsOf f3.type)) = some y3 ∧ DataW.trod enc P w base spare held n f4.type ((cs.drop f4.offset).take (P.cellsOf f4.type)) = some y4 := by
  obtain ⟨xs, n, _, rfl, hl, hlen, hf⟩ := DataW.trod_struct ht h
  match xs, hlen with
  | [y0, y1, y2, y3, y4], _ => exact ⟨y0, y1, y2, y3, y4, n, by simpa using hf 0 f0 rfl, by simpa using hf 1 f1 rfl, by simpa using hf 2 f2 rfl, by simpa using hf 3 f3 rfl, by simpa using hf 4 f4 rfl⟩
/-- the law's block -/
structure BlkIn (w : World) (v : Value) (dr adr : Int) (D : ByteArray) (fA hA : Option Addr) (fn fc hn hc : Nat) (fx hx : Nat → Int) : Prop where
  eq : v = .agg #[.int .i64 dr, .string D, .int .i64 adr, .slice fA fn fc, .slice hA hn hc]
  fail : RdZ w w.heap.size fA fn fx
  how : RdZ w w.heap.size hA hn hx
  f1 : fn ≤ fc
  f2 : fc ≤ maxLen
  h1 : hn ≤ hc
  h2 : hc ≤ maxLen
theorem blk_of_trod {r : Reach} {b0 : Nat} {v : Value} {d : DataW H} {p : List MemPlace} (hv : Value.okWide Tryz.prog w r b0 24 v) (h : DataW.Trod enc Tryz.prog w base (fun _ => true) held 24 v d p) : ∃ dr adr D fA hA fn fc hn hc fx hx, BlkIn w v dr adr D fA hA fn fc hn hc fx hx := by
  obtain ⟨cs, rfl, hsz⟩ := okWide_struct Tryz.underlying24 hv
  obtain ⟨c0, c1, c2, c3, c4, rfl⟩ := arrayFive (hsz.trans (by kernel_rfl))
  obtain ⟨fuel, hf⟩ := h
  obtain ⟨y0, y1, y2, y3, y4, n, h0, h1, h2, h3, h4⟩ := trod_struct5A Tryz.underlying24 hf
  have k0 : Tryz.prog.cellsOf 3 = 1 := by kernel_rfl
  have k1 : Tryz.prog.cellsOf 9 = 1 := by kernel_rfl
  have k2 : Tryz.prog.cellsOf 22 = 1 := by kernel_rfl
  simp only [k0, k1, k2, Value.cells, List.drop_zero, List.drop_succ_cons, List.take_succ_cons, List.take_zero] at h0 h1 h2 h3 h4
  obtain ⟨a, e0, _, w0⟩ := DataW.trod_int Tryz.underlying3 h0
  obtain ⟨s, e1, _, w1⟩ := DataW.trod_string Tryz.underlying9 h1
  obtain ⟨b, e2, _, w2⟩ := DataW.trod_int Tryz.underlying3 h2
  obtain ⟨fA, fn, fc, fx, e3, q3, r3, s3⟩ := ints_of_trodA h3
  obtain ⟨hA, hn, hc, hx, e4, q4, r4, s4⟩ := ints_of_trodA h4
  injection e0 with e0 _
  injection e1 with e1 _
  injection e2 with e2 _
  subst e0 e1 e2 e3 e4
  exact ⟨a, b, s, fA, hA, fn, fc, hn, hc, fx, hx, rfl, q3, q4, r3, s3, r4, s4⟩
end
end Arr
end Go.Proofs.YtlhjpceaookanaaGreatDoor
namespace Go.Proofs.YtlhjpceaookanaaGreatDoor
set_option maxRecDepth 100000
open Go Go.RowKit
set_option linter.unusedVariables false

theorem slice_to (A : Option Addr) (n c hi : Nat) (H : Int) (hH : H = (hi : Int)) (h : hi ≤ c) (w : World) :
    (Instr.sliceAt 36 (.slice A n c) none (some (.int .i64 H)) none).run Tryz.prog w = .ok (.slice (subA A c 0) hi c) w := by
  subst hH
  have hu : Tryz.prog.underlying 36 = some (.slice (Tryz.prog.elem 36)) := by kernel_rfl
  have he : Tryz.prog.elem 36 = 5 := by kernel_rfl
  rw [run_sliceAt_slice (P := Tryz.prog) (w := w) (h := hu), run_slice_h (P := Tryz.prog) (w := w) 36 A n c hu .i64 (hi : Int) (by omega) (by omega), he, sizeOf_u8]
  simp [sliced, subA]
/-- what a seal must be -/
def sealed (n : Nat) (X : Nat → Nat) : Prop := ∀ j, j < 32 → M.sum (n - 32) X j = X (n - 32 + j)
theorem strB_eq_iff {n : Nat} {X Y : Nat → Nat} (hX : ∀ j, j < n → X j < 256) (hY : ∀ j, j < n → Y j < 256) : ((strB n X).toList == (strB n Y).toList) = true ↔ ∀ j, j < n → X j = Y j := by
  rw [beq_iff_eq]
  constructor
  · intro h
    exact (strB_inj hX hY h).2
  · intro h
    rw [strB_congr h]
theorem not_bang {b : Bool} (h : ¬ b = true) : (!b) = true := by cases b <;> simp_all
end Go.Proofs.YtlhjpceaookanaaGreatDoor
namespace Go.Proofs.YtlhjpceaookanaaGreatDoor
set_option maxRecDepth 100000
open Go Go.ChangeShapes Go.WideShapes Go.ChangeAt Go.RowKit
set_option linter.unusedVariables false

def laidL : List (String × DataW Unit) := [("hoard/sha.roots", Rows.laid_hoard_sha_roots)]
theorem gRoots : Tryz.prog.globalNamed "hoard/sha.roots" = some 0 := by kernel_rfl
theorem tRoots : (Tryz.prog.globals[0]?).map (·.type) = some 120 := by kernel_rfl
theorem door_met (os : Os) (args : Array Value) : laidMetH Tryz.prog laidL ((World.doorLaid Tryz.prog 400 os).forCall (fun _ _ => 0) ⟨#[], args, []⟩).memory :=
  laidMetH_of_parts3 (fuel := 8) (laidMet_of_run' 8 (by kernel_rfl) (by kernel_rfl)) (by kernel_rfl) (by kernel_rfl)
theorem roots_lits : (Rows.laid_hoard_sha_roots : DataW Unit) = .agg ((List.range 64).map fun t => .lit (.int .u32 ((M.rt t : Nat) : Int))) := by kernel_rfl
theorem laid_of {W : World} (h : laidMetH Tryz.prog laidL W) : Laid W := by
  rw [MakeChecks.laidMetH_plain _ _ _ (by kernel_rfl)] at h
  obtain ⟨ps, ⟨g0, t0, cs0, f0, p0, q0, hg0, ht0, hv0, hd0, _, _⟩, _, _⟩ := h
  obtain rfl := Option.some.inj (gRoots.symm.trans hg0)
  obtain rfl := Option.some.inj (tRoots.symm.trans ht0)
  obtain ⟨xs, m1, rfl, hx1, hlen, hn3, hel⟩ := DataW.trod_array Tryz.underlying120 hd0
  have c1 : Tryz.prog.cellsOf 97 = 1 := by kernel_rfl
  rw [roots_lits] at hx1
  simp only [Prod.mk.injEq, DataW.agg.injEq] at hx1
  intro t ht
  have h0 := hel t ht
  have hlx : t < xs.length := by omega
  rw [List.getElem?_eq_getElem hlx] at h0
  obtain ⟨k, e1, e2, _⟩ := DataW.trod_int Tryz.underlying97 h0
  have hk : k = ((M.rt t : Nat) : Int) := by
    have h1 := congrArg (fun l => l[t]?) hx1.1
    simp [hlx, ht, e2] at h1
    first | exact h1 | exact h1.symm
  have h2 := World.var?_cell hg0 hv0 t
  rw [h2]
  rw [c1, Nat.mul_one] at e1
  have h3 := congrArg (fun l => l[0]?) e1
  simp at h3
  rw [h3, hk]
end Go.Proofs.YtlhjpceaookanaaGreatDoor
namespace Go.Proofs.YtlhjpceaookanaaGreatDoor
open Go Go.RowKit
set_option maxRecDepth 100000
set_option linter.unusedVariables false
namespace Top
/-- the bytes of a number's sector -/
def scX (f j : Nat) : Nat := (f + j * 7) % 256
theorem scX_lt (f j : Nat) : scX f j < 256 := Nat.mod_lt _ (by decide)
def scTo (k f j : Nat) : Nat := if j < k then scX f j else 0
theorem sector_any (f : Nat) (hf : f ≤ 1000) (w : World) :
    Calls Tryz.prog 48 #[.int .i64 (f : Int)] w fun e w' => e = .returned (.slice (some ⟨w.heap.size, 0, none⟩) 128 128) ∧ Blk w' w.heap.size 5 (rowArr 128 (scX f)) ∧ Below w.heap.size w w' := by
  have hmk := fun W => make_bytes 128 (by omega) W 128 rfl
  have B0 : Hid (Blk (w.alloc (.cells (rowArr 128 fun _ => 0) 5)) w.heap.size 5 (rowArr 128 (scTo 0 f))) := by
    have h := Blk.new w 5 (rowArr 128 fun _ => 0)
    exact h
  have L0 : Hid (Below w.heap.size w (w.alloc (.cells (rowArr 128 fun _ => 0) 5))) := Lib.hid ((Below.refl _ _).alloc (Nat.le_refl _) _)
  go_enter Tryz.func48, Tryz.ntmps48
  go_wp2_with fail
  generalize w.alloc (.cells (rowArr 128 fun _ => 0) 5) = w1 at *
  generalize hh : w.heap.size = h at *
  have HH := Lib.hid hh
  clear hh
  clear hmk
  go_loopw [4] (fun x wr => ∃ k : Nat, k ≤ 128 ∧ x = .int .i64 k ∧ Hid (Blk wr h 5 (rowArr 128 (scTo k f))) ∧ Hid (Below h w wr)) (fun x _ => 128 - (intOf x).toNat)
  case atStart => exact ⟨0, by omega, rfl, B0, L0⟩
  case round =>
    obtain ⟨k, hk, rfl, B1, L1⟩ := hrel
    clear B0 L0
    by_cases hlt : k < 128
    · have c1 : wr.cell? ⟨h, k, none⟩ = some (.int .u8 ((scTo k f k : Nat) : Int)) := by rw [B1.out.cell, rowArr_get hlt]
      have f1 := B1.out.frozen k
      have i1 : (0 : Int) ≤ (k : Int) := by omega
      have i2 : (k : Int) < 128 := by omega
      have B2 := B1.out.set_ k (.int .u8 ((scX f k : Nat) : Int))
      rw [rowArr_set hlt] at B2
      have B3 : Hid (Blk (wr.setCell ⟨h, k, none⟩ (.int .u8 ((scX f k : Nat) : Int))) h 5 (rowArr 128 (scTo (k + 1) f))) := by
        have e : rowArr 128 (fun j => if j = k then scX f k else scTo k f j) = rowArr 128 (scTo (k + 1) f) := rowArr_congr fun c hc => by
          unfold scTo
          by_cases e : c = k
          · subst e; rw [if_pos rfl, if_pos (by omega)]
          · rw [if_neg e]
            by_cases e2 : c < k
            · rw [if_pos e2, if_pos (by omega)]
            · rw [if_neg e2, if_neg (by omega)]
        rw [← e]
        exact B2
      have L3 := Lib.hid (L1.out.setCell (p := ⟨h, k, none⟩) (Nat.le_refl _) (.int .u8 ((scX f k : Nat) : Int)))
      have HE : Hid (((f : Int) + (k : Int) * 7) % 256 = ((scX f k : Nat) : Int)) := Lib.hid (by unfold scX; omega)
      clear B1 L1 B2
      go_wp2_with fail
      rw [HE.out]
      go_roundw
      case rel => exact ⟨k + 1, by omega, by go_num, B3, L3⟩
      case measure => simp [intOf]; omega
    · have e : k = 128 := by omega
      subst e
      have e : rowArr 128 (scTo 128 f) = rowArr 128 (scX f) := rowArr_congr fun c hc => by unfold scTo; rw [if_pos hc]
      rw [e] at B1
      go_wp2_with fail
      go_ret
      have hh := HH.out
      subst hh
      exact ⟨rfl, B1.out, L1.out⟩
theorem sector_row8 (f : Nat) (hf : f ≤ 1000) (w : World) : Calls Tryz.prog 48 #[.int .i64 (f : Int)] w fun e w' => ∃ v, e = .returned v ∧ Row8 w' v 128 (scX f) ∧ Below w.heap.size w w' :=
  (sector_any f hf w).mono fun e w' ⟨h1, h2, h3⟩ => ⟨_, h1, Row8.of_blk h2, h3⟩
set_option maxHeartbeats 1600000 in
theorem awake_any (w : World) :
    Calls Tryz.prog 14 #[] w fun e w' => e = .returned (.bool true) ∧ Below w.heap.size w w' := by
  go_enter Tryz.func14, Tryz.ntmps14
  go_wp2_with fail
  refine (new_any w 1 1 (by omega) (by omega) (by omega) (by omega)).mono ?_
  rintro e w1 ⟨⟨r, rfl, h1⟩, k1⟩
  have H1 := Lib.hid h1
  have K1 := Lib.hid k1
  have HSE := Lib.hid (sector_row8 3 (by omega) w1)
  clear h1 k1
  go_wp2_with fail
  refine HSE.out.mono ?_
  rintro e w2 ⟨v2, rfl, r2, b2⟩
  have H2 := Lib.hid (H1.out.below b2)
  have K2 := Lib.hid (K1.out.new b2 H1.out.le)
  have R2 := Lib.hid r2
  clear r2 b2 H1 K1 HSE
  go_wp2_with fail
  refine (write_calm _ r _ 0 0 0 0 v2 _ H2.out ⟨rfl, rfl⟩ rfl rfl (by decide) (by decide) rfl R2.out (fun j _ => scX_lt 3 j) (by decide)).mono ?_
  rintro e w3 ⟨rfl, h3, k3⟩
  have H3 := Lib.hid h3
  have K3 := Lib.hid (K2.out.trans k3)
  clear h3 k3 H2 K2 R2
  go_wp2_with fail
  refine (flush_calm _ r _ H3.out ⟨rfl, rfl⟩).mono ?_
  rintro e w4 ⟨rfl, h4, k4⟩
  have H4 := Lib.hid h4
  have K4 := Lib.hid (K3.out.trans k4)
  clear h4 k4 H3 K3
  go_wp2_with fail
  refine (crash_any _ r _ none 0 0 (fun _ => 0) H4.out ⟨fun i hi => absurd hi (Nat.not_lt_zero _), by simp [maxLen], .inl rfl⟩).mono ?_
  rintro e w5 ⟨rfl, h5, k5⟩
  have H5 := Lib.hid h5
  have K5 := Lib.hid (K4.out.trans k5)
  clear h5 k5 H4 K4
  go_wp2_with fail
  refine (read_calm _ r _ 0 0 0 0 H5.out (RS.crashed_calm _ _) rfl rfl (by decide) (by decide) rfl).mono ?_
  rintro e w6 ⟨v6, rfl, r6, h6, k6⟩
  have R6 := Lib.hid r6
  have K6 := Lib.hid (K5.out.trans k6)
  clear r6 k6 h6 H5 K5
  have HE : Hid (((((RS.new 1 1).wrote 0 0 (scX 3)).flushed.crashed (odd 0 fun _ => 0)).holds 0 0) = scX 3) := by
    show _ = _
    rfl
  rw [HE.out] at R6
  clear HE
  go_wp2_with fail
  have HS6 : Hid (Row8 w6 v6 128 (scX 3)) := R6
  refine region_anyZ (fun w => Row8 w v6 128 (scX 3)) 9 (by kernel_rfl) ?_
  refine takeG 0 (.move (.tmp 4)) (some 29) none (.int .i64 0) (by kernel_rfl) (by kernel_rfl) (by kernel_rfl) (fun _ _ _ h => h) (fun o w e _ => exec_move w e (by kernel_rfl)) HS6.out ?_
  refine takeG 1 (.binOp .eql 30 (.tmp 29) (.const (.int .i64 0)) 30) (some 30) none (.bool true) (by kernel_rfl) (by kernel_rfl) (by kernel_rfl) (fun _ _ _ h => h) (fun o w e _ => exec_bin (u1 := .int .i64 0) (u2 := .int .i64 0) w e (by kernel_rfl) (by kernel_rfl) (eqG_int ..) (by kernel_rfl)) HS6.out ?_
  refine takeG 2 (.move (.tmp 30)) (some 31) none (.bool true) (by kernel_rfl) (by kernel_rfl) (by kernel_rfl) (fun _ _ _ h => h) (fun o w e _ => exec_move w e (by kernel_rfl)) HS6.out ?_
  refine takeG 3 (.move (.tmp 3)) (some 32) (some (2, true)) v6 (by kernel_rfl) (by kernel_rfl) (by kernel_rfl) (fun _ _ _ h => h) (fun o w e _ => exec_move w e (by kernel_rfl)) HS6.out ?_
  refine takeG 4 (.convert 36 9 (.tmp 32)) (some 33) (some (2, true)) (.string (strB 128 (scX 3))) (by kernel_rfl) (by kernel_rfl) (by kernel_rfl) (fun _ _ _ h => h) (fun o w e hS => exec_conv (u := v6) w e (by kernel_rfl) hS.conv) HS6.out ?_
  refine loneG 5 (.call ⟨.value (.func 48), #[.const (.int .i64 3)], #[3]⟩) (some 34) (some (2, true)) (by kernel_rfl) (by kernel_rfl) (by kernel_rfl) ?_
  intro o ho hod
  refine wp_callC (f := 48) (args := #[.int .i64 ((3 : Nat) : Int)]) (by cases o; cases ho; kernel_rfl) (sector_row8 3 (by omega) _) ?_
  rintro e w7 ⟨v7, rfl, r7, b7⟩
  refine ⟨v7, rfl, ?_⟩
  rw [hod]
  clear hod ho
  have HS7 : Hid (Row8 w7 v6 128 (scX 3) ∧ Row8 w7 v7 128 (scX 3)) := Lib.hid ⟨HS6.out.drew.new_ b7, r7⟩
  have K7 := Lib.hid (K6.out.drew.new b7 (K6.out.below.size))
  clear r7 b7 K6 HS6
  refine ⟨fun _ => HS7.out.1, ?_⟩
  refine loneG 6 (.convert 36 9 (.tmp 34)) (some 35) (some (2, true)) (by kernel_rfl) (by kernel_rfl) (by kernel_rfl) ?_
  intro o ho hod
  refine wp_val (exec_conv (u := v7) _ ho (by kernel_rfl) HS7.out.2.conv) ?_
  rw [hod]
  clear hod ho
  refine ⟨fun _ => HS7.out.1, ?_⟩
  refine loneG 7 (.binOp .eql 9 (.tmp 33) (.tmp 35) 9) (some 36) (some (2, true)) (by kernel_rfl) (by kernel_rfl) (by kernel_rfl) ?_
  intro o ho hod
  refine wp_val (v := .bool true) (exec_bin (u1 := .string (strB 128 (scX 3))) (u2 := .string (strB 128 (scX 3))) _ ho (by kernel_rfl) (by kernel_rfl) (eqG_str ..) (by rw [eq_str, beq_self_eq_true])) ?_
  rw [hod]
  clear hod ho
  refine ⟨fun _ => HS7.out.1, ?_⟩
  refine loneG 8 (.pick (.tmp 31) (.tmp 36) (.const (.bool false))) (some 37) none (by kernel_rfl) (by kernel_rfl) (by kernel_rfl) ?_
  intro o ho hod
  refine wp_val (v := .bool true) (exec_pick (b := true) _ ho (by kernel_rfl) (by kernel_rfl)) ?_
  rw [hod]
  clear hod ho
  refine ⟨fun _ => HS7.out.1, ?_⟩
  refine lastG 9 (.assign (.tmp 37)) (some 0) (.bool true) (by kernel_rfl) (by kernel_rfl) (by kernel_rfl) rfl (fun o e => exec_assign _ e (by kernel_rfl)) ?_
  go_wp2_with fail
  go_ret
  exact ⟨by kernel_rfl, K7.out.below⟩
end Top
end Go.Proofs.YtlhjpceaookanaaGreatDoor
namespace Go.Proofs.YtlhjpceaookanaaGreatDoor
open Go Go.RowKit
set_option maxRecDepth 100000
set_option linter.unusedVariables false
namespace Top
open Arr
/-- the text that 'cut' leaves -/
def cutN (n m : Nat) : Nat := max (min n m) 1
def cutX (D : ByteArray) (j : Nat) : Nat := if D.size = 0 then 120 else bOf D j
theorem cutX_lt (D : ByteArray) (j : Nat) : cutX D j < 256 := by
  unfold cutX
  split
  · decide
  · exact bOf_lt D j
theorem cut_any (D : ByteArray) (m : Nat) (hm : m ≤ 100000) (hm1 : 1 ≤ m) (w : World) :
    Calls Tryz.prog 15 #[.string D, .int .i64 (m : Int)] w fun e w' => e = .returned (.string (strB (cutN D.size m) (cutX D))) ∧ w' = w := by
  obtain ⟨k, hk⟩ : ∃ k, k = min D.size m := ⟨_, rfl⟩
  have t1 : min (D.size : Int) (m : Int) = (k : Int) := by omega
  have hsl : ∀ W : World, (Instr.sliceAt 9 (.string D) none (some (.int .i64 (k : Int))) none).run Tryz.prog W = .ok (.string (strB k (bOf D))) W := fun W => by
    have h := slice_strTo D.size (bOf D) k k rfl (by omega) W
    rw [← str_isS D] at h
    exact h
  by_cases hk0 : k = 0
  · have HR : Hid (strB (cutN D.size m) (cutX D) = ⟨#[120]⟩) := Lib.hid (by
      rw [ex_str]
      have h0 : D.size = 0 := by omega
      unfold cutN
      rw [show max (min D.size m) 1 = 1 by omega]
      exact strB_congr fun j _ => by unfold cutX exX; rw [if_pos h0])
    subst hk0
    have he : (strB 0 (bOf D)).toList.isEmpty = true := strB_none _
    clear hk
    go_enter Tryz.func15, Tryz.ntmps15
    go_wp2_with fail
    go_ret
    rw [HR.out]
    exact ⟨rfl, rfl⟩
  · have HR : Hid (strB (cutN D.size m) (cutX D) = strB k (bOf D)) := Lib.hid (by
      have h0 : D.size ≠ 0 := by omega
      unfold cutN
      rw [show max (min D.size m) 1 = k by omega]
      exact strB_congr fun j _ => by unfold cutX; rw [if_neg h0])
    have he : (strB k (bOf D)).toList.isEmpty = false := strB_some (by omega)
    clear hk
    go_enter Tryz.func15, Tryz.ntmps15
    go_wp2_with fail
    go_ret
    rw [HR.out]
    exact ⟨rfl, rfl⟩
end Top
end Go.Proofs.YtlhjpceaookanaaGreatDoor
