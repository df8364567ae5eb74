/-
  What a repair makes of a rack, as mathematics; 'slices.Compact' of an own row by a contract. No conditions beyond those that each theorem types.
-/
import Derived.Test.YtlhjpceaookanaaGreatDoorArrSameM
namespace Go.Proofs.YtlhjpceaookanaaGreatDoor
open Go Go.Proofs Go.RowKit Go.Shelf Go.Sort refRack
set_option maxRecDepth 100000
set_option linter.unusedVariables false
namespace Arr
open Cc
/-- does a cell of a block want writing anew? -/
def sameN (x y : Nat → Nat) : Bool := (List.range 128).all fun v => x v == y v
theorem sameN_yes {x y : Nat → Nat} (h : ∀ v, v < 128 → x v = y v) : sameN x y = true := by
  unfold sameN
  rw [List.all_eq_true]
  intro v hv
  rw [List.mem_range] at hv
  exact beq_iff_eq.2 (h v hv)
theorem sameN_no {x y : Nat → Nat} (h : ¬ ∀ v, v < 128 → x v = y v) : sameN x y = false := by
  cases e : sameN x y with
  | false => rfl
  | true =>
    refine absurd (fun v hv => ?_) h
    unfold sameN at e
    rw [List.all_eq_true] at e
    exact beq_iff_eq.1 (e v (List.mem_range.2 hv))
theorem sameN_iff {x y : Nat → Nat} : sameN x y = true ↔ ∀ v, v < 128 → x v = y v :=
  ⟨fun e v hv => by unfold sameN at e; rw [List.all_eq_true] at e; exact beq_iff_eq.1 (e v (List.mem_range.2 hv)), sameN_yes⟩
def wrongC (s : RS) (f ad : Nat) (Y : Nat → Nat → Nat) (k : Nat) : Bool := !goneC s (ad + k) && !sameN (holdsC s f (ad + k)) (Y k)
/-- the first k of a block's cells looked at, and what is wrong written -/
def repS (s : RS) (f ad : Nat) (Y : Nat → Nat → Nat) : Nat → RS
  | 0 => s
  | k + 1 => if wrongC s f ad Y k = true then (repS s f ad Y k).wrote ((ad + k) % s.nd) (f + (ad + k) / s.nd) (Y k) else repS s f ad Y k
theorem repS_succ (s : RS) (f ad : Nat) (Y : Nat → Nat → Nat) (k : Nat) : repS s f ad Y (k + 1) = if wrongC s f ad Y k = true then (repS s f ad Y k).wrote ((ad + k) % s.nd) (f + (ad + k) / s.nd) (Y k) else repS s f ad Y k := rfl
/-- to which drives -/
def wrL (s : RS) (f ad : Nat) (Y : Nat → Nat → Nat) (k : Nat) : List Nat := ((List.range k).filter (wrongC s f ad Y)).map fun i => (ad + i) % s.nd
theorem wrL_succ (s : RS) (f ad : Nat) (Y : Nat → Nat → Nat) (k : Nat) : wrL s f ad Y (k + 1) = wrL s f ad Y k ++ (if wrongC s f ad Y k = true then [(ad + k) % s.nd] else []) := by
  unfold wrL
  rw [List.range_succ, List.filter_append, List.map_append]
  congr 1
  by_cases h : wrongC s f ad Y k = true
  · rw [if_pos h]; simp [List.filter_cons, h]
  · rw [if_neg h]; simp [List.filter_cons, h]
theorem wrL_len (s : RS) (f ad : Nat) (Y : Nat → Nat → Nat) (k : Nat) : (wrL s f ad Y k).length ≤ k := by
  unfold wrL
  rw [List.length_map]
  have := List.length_filter_le (wrongC s f ad Y) (List.range k)
  rwa [List.length_range] at this
theorem repS_like (s : RS) (f ad : Nat) (Y : Nat → Nat → Nat) : ∀ k, Like s (repS s f ad Y k) ∧ (repS s f ad Y k).cost ≤ s.cost + k
  | 0 => ⟨Like.refl s, Nat.le_refl _⟩
  | k + 1 => by
    obtain ⟨h, hc⟩ := repS_like s f ad Y k
    rw [repS_succ]
    split
    · exact ⟨⟨h.nd, h.ns, h.gone, h.off, h.armed⟩, by show (repS s f ad Y k).cost + 1 ≤ _; omega⟩
    · exact ⟨h, by omega⟩
theorem repS_holds (s : RS) (f ad : Nat) (Y : Nat → Nat → Nat) (c : Nat) : ∀ k, holdsC (repS s f ad Y k) f c = if ad ≤ c ∧ c < ad + k ∧ wrongC s f ad Y (c - ad) = true then Y (c - ad) else holdsC s f c
  | 0 => by rw [if_neg (by omega)]; rfl
  | k + 1 => by
    have ih := repS_holds s f ad Y c k
    have hl := (repS_like s f ad Y k).1
    rw [repS_succ]
    by_cases hg : wrongC s f ad Y k = true
    · rw [if_pos hg]
      have e0 : holdsC ((repS s f ad Y k).wrote ((ad + k) % s.nd) (f + (ad + k) / s.nd) (Y k)) f c = if c % s.nd = (ad + k) % s.nd ∧ f + c / s.nd = f + (ad + k) / s.nd then Y k else holdsC (repS s f ad Y k) f c := by
        have en : ((repS s f ad Y k).wrote ((ad + k) % s.nd) (f + (ad + k) / s.nd) (Y k)).nd = s.nd := hl.nd
        unfold holdsC
        rw [en, hl.nd, holds_wrote]
      rw [e0, ih]
      by_cases e : c = ad + k
      · subst e
        rw [if_pos ⟨rfl, rfl⟩, if_pos ⟨by omega, by omega, by rw [show ad + k - ad = k by omega]; exact hg⟩, show ad + k - ad = k by omega]
      · rw [if_neg (fun q => e (place_inj q.1 q.2))]
        by_cases h : ad ≤ c ∧ c < ad + k ∧ wrongC s f ad Y (c - ad) = true
        · rw [if_pos h, if_pos ⟨h.1, by omega, h.2.2⟩]
        · rw [if_neg h, if_neg (fun q => h ⟨q.1, by omega, q.2.2⟩)]
    · rw [if_neg hg, ih]
      by_cases e : c = ad + k
      · subst e
        rw [if_neg (by omega), if_neg (fun h => hg (by have := h.2.2; rwa [show ad + k - ad = k by omega] at this))]
      · by_cases h : ad ≤ c ∧ c < ad + k ∧ wrongC s f ad Y (c - ad) = true
        · rw [if_pos h, if_pos ⟨h.1, by omega, h.2.2⟩]
        · rw [if_neg h, if_neg (fun q => h ⟨q.1, by omega, q.2.2⟩)]
theorem wrongC_false {s : RS} {f ad k : Nat} {Y : Nat → Nat → Nat} (h : wrongC s f ad Y k = false) (hg : goneC s (ad + k) = false) : ∀ v, v < 128 → holdsC s f (ad + k) v = Y k v := by
  unfold wrongC at h
  rw [hg] at h
  exact sameN_iff.1 (by simpa using h)
/-- behind a repair the cells hold what they must -/
theorem repS_good {s : RS} {f ad C : Nat} {Y : Nat → Nat → Nat} {i : Nat} (hi : i < C) (hg : goneC s (ad + i) = false) : ∀ v, v < 128 → holdsC (repS s f ad Y C) f (ad + i) v = Y i v := fun v hv => by
  rw [repS_holds, show ad + i - ad = i by omega]
  cases h : wrongC s f ad Y i with
  | true => rw [if_pos ⟨by omega, by omega, rfl⟩]
  | false => rw [if_neg (fun q => by cases q.2.2)]; exact wrongC_false h hg v hv
theorem Sound.repaired {s : RS} {f ad n : Nat} {X : Nat → Nat} : Sound (repS s f ad (cellX s.nd n X) (cost s.nd n)) f ad n X := fun i hi hg v hv => by
  have hl := (repS_like s f ad (cellX s.nd n X) (cost s.nd n)).1
  rw [hl.nd] at hi ⊢
  rw [hl.goneC] at hg
  exact repS_good hi hg v hv
/-- neighbours that are the same, once -/
def cmpL (l : List Nat) : List Nat := ((List.range l.length).filter fun j => j == 0 || l.getD j 0 != l.getD (j - 1) 0).map fun j => l.getD j 0
theorem getBang_ints (l : List Nat) (j : Nat) (hj : j < l.length) : (Sq.ints l).toArray[j]! = ((l.getD j 0 : Nat) : Int) := by
  have h : j < (Sq.ints l).toArray.size := by simpa [Sq.ints] using hj
  rw [getElem!_pos (Sq.ints l).toArray j h]
  simp [Sq.ints, List.getD_eq_getElem?_getD, hj]
theorem compact_ints (l : List Nat) : Lib.compact (Sq.ints l) = Sq.ints (cmpL l) := by
  have e : (List.range l.length).filter (Lib.keeps (Sq.ints l).toArray) = (List.range l.length).filter fun j => j == 0 || l.getD j 0 != l.getD (j - 1) 0 := by
    refine List.filter_congr fun j hj => ?_
    rw [List.mem_range] at hj
    unfold Lib.keeps
    rcases Nat.eq_zero_or_pos j with rfl | h0
    · simp
    · rw [getBang_ints l j hj, getBang_ints l (j - 1) (by omega)]
      have h0' : j ≠ 0 := by omega
      by_cases e : l.getD j 0 = l.getD (j - 1) 0
      · rw [e]; simp [h0']
      · have h1 : ((l.getD j 0 : Nat) : Int) ≠ ((l.getD (j - 1) 0 : Nat) : Int) := by omega
        rw [decide_eq_true (Or.inr h1)]
        have : (l.getD j 0 != l.getD (j - 1) 0) = true := bne_iff_ne.2 e
        rw [this, Bool.or_true]
  unfold Lib.compact Lib.compactUpTo cmpL
  rw [Sq.ints_length, e]
  show _ = List.map (fun x : Nat => (x : Int)) (List.map _ _)
  rw [List.map_map]
  refine List.map_congr_left fun j hj => ?_
  rw [List.mem_filter, List.mem_range] at hj
  exact getBang_ints l j hj.1
theorem cmpL_len (l : List Nat) : (cmpL l).length ≤ l.length := by
  unfold cmpL
  rw [List.length_map]
  have := List.length_filter_le (fun j => j == 0 || l.getD j 0 != l.getD (j - 1) 0) (List.range l.length)
  rwa [List.length_range] at this
/-- 'slices.Compact' of an own row -/
theorem compact_own (w : World) (base : Nat) (v : Value) (l : List Nat) (h : Nr.OwnN w base v l) (hl : l.length ≤ 1000000) :
    Calls Tryz.prog 45 #[v] w fun e w' => ∃ v', e = .returned v' ∧ Nr.OwnN w' base v' (cmpL l) ∧ w.grownBy w' v.ownBlock := by
  have h0 := Sq.own_iff.1 h
  rcases h0.2 with ⟨rfl, hz⟩ | ⟨g, cap, cur, rfl, hbase, hg, r1, r2, r3, r4⟩
  · have hl0 : l = [] := by rw [Sq.ints_length] at hz; exact List.eq_nil_of_length_eq_zero hz
    subst hl0
    have hc : Calls Tryz.prog 45 #[.slice none 0 0] w fun e w' => e = .returned (.slice none 0 0) ∧ w' = w := Any.slices_Compact_int_empty layCompact none 0 w
    refine hc.mono ?_
    rintro e w' ⟨rfl, rfl⟩
    exact ⟨_, rfl, by rw [show cmpL [] = [] by simp [cmpL]]; exact h, World.grownBy.refl _ _⟩
  · rw [Nat.mul_one] at r4
    have hH : Holds (Value.int .i64) w g 0 (Sq.ints l).toArray := holds_of_blockI hg r4
    have hgl : g < w.heap.size := (Array.getElem?_eq_some_iff.1 hg).1
    have hc := Any.slices_Compact_int layCompact g 0 cap (Sq.ints l) w hH (by rw [Sq.ints_length]; omega) r1
    have hc2 : Calls Tryz.prog 45 #[.slice (some ⟨g, 0, none⟩) (Sq.ints l).length cap] w _ := hc
    refine hc2.mono ?_
    rintro e w' ⟨rfl, q, rfl⟩
    have hce : Lib.compact (Sq.ints l) = Sq.ints (cmpL l) := compact_ints l
    rw [hce]
    have hlen : (Sq.ints (cmpL l)).length ≤ (Sq.ints l).length := by rw [Sq.ints_length, Sq.ints_length]; exact cmpL_len l
    generalize hz : Sq.ints (cmpL l) ++ List.replicate ((Sq.ints l).length - (Sq.ints (cmpL l)).length) 0 = z
    have hzl : z.length = (Sq.ints l).length := by rw [← hz, List.length_append, List.length_replicate]; omega
    have e0 : Go.Sort.putRow (Value.int .i64) (Go.Sort.ahead w q) g 0 z.toArray = Go.Sort.grow (Go.Sort.putRow (Value.int .i64) (Go.Sort.ahead w q) g 0 z.toArray) #[] := by unfold Go.Sort.grow; rw [Array.append_empty]
    rw [e0]
    refine ⟨_, rfl, ?_, grownBy_sortedI _⟩
    rw [Sq.own_iff]
    have hs := ownsRow_sortedI (w := w) (n := q) (os := #[]) (ss := Sq.ints l) (ts := z) hzl hbase hg r1 r2 r3
    refine ⟨by simp, ?_⟩
    rcases hs.2 with ⟨e1, _⟩ | ⟨g', cap', cur', e1, e2, e3, e4, e5, e6, e7⟩
    · cases e1
    · cases e1
      refine .inr ⟨g, cap, cur', rfl, e2, e3, by omega, e5, e6, ?_⟩
      rw [Nat.mul_one] at e7 ⊢
      have e8 : cur'.toList.take (Sq.ints (cmpL l)).length = (cur'.toList.take (Sq.ints l).length).take (Sq.ints (cmpL l)).length := by rw [List.take_take, Nat.min_eq_left hlen]
      rw [e8, e7, ← hz, List.map_append, List.take_append_of_le_length (by simp), List.take_of_length_le (by simp)]
section
variable {B a r f : Nat} {s : RS} {w w' : World}
/-- only a row of numbers of the call's own has changed -/
def Shut (base : Nat) (v : Value) (w w' : World) : Prop := Below w.heap.size w w' ∨ ∃ g cs, base ≤ g ∧ v.ownBlock = some g ∧ Blk w g 3 cs ∧ w.grownBy w' (some g)
theorem own_shut {base : Nat} {v v' : Value} {l : List Nat} (ho : Nr.OwnN w base v l) (hb : Below base w w') (hg : GrowB v v' w w') : Shut base v w w' := by
  rcases ho.2 with ⟨rfl, _⟩ | ⟨g, cap, cur, rfl, h1, h2, _⟩
  · exact .inl ⟨hb.os, hb.tape, hb.output, hg.1, fun k hk => hg.2.1 k hk (by simp [Value.ownBlock])⟩
  · exact .inr ⟨g, cur, h1, rfl, h2, ⟨hb.os, hb.tape, hb.output, hg.1, fun k hk hne => hg.2.1 k hk (fun e => hne e.symm)⟩⟩
theorem grown_shut {base : Nat} {v : Value} {l : List Nat} (ho : Nr.OwnN w base v l) (hg : w.grownBy w' v.ownBlock) : Shut base v w w' := by
  rcases ho.2 with ⟨rfl, _⟩ | ⟨g, cap, cur, rfl, h1, h2, _⟩
  · exact .inl ⟨hg.os, hg.tape, hg.output, hg.size, fun k hk => hg.block k hk (by simp [Value.ownBlock])⟩
  · exact .inr ⟨g, cur, h1, rfl, h2, hg⟩
/-- numbers appended to a row of the call's own leave an array as it is -/
theorem At.shut {base : Nat} {v : Value} (h : At B w a r f s) (hs : Shut base v w w') : At B w' a r f s := by
  rcases hs with hn | ⟨g, cs, h1, h2, h3, h4⟩
  · exact h.grown_ hn
  · refine ⟨h.rack.grownFar h3 rfl h4, ?_, h.five, h.first⟩
    refine (h4.block a h.blk.lt (fun e => ?_)).trans h.blk
    injection e with e
    first
      | exact Blk.ne_ h3 h.blk (by decide) e
      | exact Blk.ne_ h3 h.blk (by decide) e.symm
theorem Keep.shut {base : Nat} {w0 : World} {v : Value} (hk : Keep B w0 w) (h0 : w0.heap.size ≤ base) (hB : B ≤ w0.heap.size) (hs : Shut base v w w') : Keep B w0 w' := by
  have hz := hk.below.size
  rcases hs with hn | ⟨g, cs, h1, h2, h3, h4⟩
  · exact hk.new hn (by omega)
  · exact hk.grownNew h4 (by omega) (by omega) (by omega)
end
end Arr
end Go.Proofs.YtlhjpceaookanaaGreatDoor
namespace Go.Proofs.YtlhjpceaookanaaGreatDoor
open Go Go.RowKit refRack
set_option maxRecDepth 100000
set_option linter.unusedVariables false
namespace Arr
open Cc
theorem equalA_yes (n c c2 B B2 : Nat) (A A2 : Option Addr) (X Y : Nat → Nat) (w : World) (hx : RdB w B A n X) (hy : RdB w B2 A2 n Y) (he : ∀ j, j < n → X j = Y j) :
    Calls Tryz.prog 41 #[.slice A n c, .slice A2 n c2] w fun e w' => e = .returned (.bool true) ∧ w' = w := by
  have S1 := conv_rd (cap := c) hx
  have S2 := conv_rd (cap := c2) hy
  rw [← strB_congr he] at S2
  clear hx hy
  generalize strB n X = s at *
  go_enter Tryz.func41, Tryz.ntmps41
  go_wp2_with fail
  go_ret
  exact ⟨rfl, rfl⟩
theorem equalA_no (n c c2 B B2 : Nat) (A A2 : Option Addr) (X Y : Nat → Nat) (w : World) (hx : RdB w B A n X) (hy : RdB w B2 A2 n Y) (he : ¬ ∀ j, j < n → X j = Y j) :
    Calls Tryz.prog 41 #[.slice A n c, .slice A2 n c2] w fun e w' => e = .returned (.bool false) ∧ w' = w := by
  have S1 := conv_rd (cap := c) hx
  have S2 := conv_rd (cap := c2) hy
  have hne : ((strB n X).toList == (strB n Y).toList) = false := beq_eq_false_iff_ne.2 fun h => he (strB_inj (fun j hj => by obtain ⟨_, _, _, _, _, q⟩ := hx j hj; exact q) (fun j hj => by obtain ⟨_, _, _, _, _, q⟩ := hy j hj; exact q) h).2
  clear hx hy he
  generalize strB n X = s at *
  generalize strB n Y = t at *
  go_enter Tryz.func41, Tryz.ntmps41
  go_wp2_with fail
  go_ret
  exact ⟨rfl, rfl⟩
theorem datP_ok {s : RS} {f ad n m : Nat} {q : List Nat} (hok : s.ok) (h5 : 5 ≤ s.nd) (h16 : s.nd ≤ 16) (h1 : 1 ≤ n) (hm : m + (goneB s ad n).length ≤ 3) (hq : OkSub (hereB s ad n) m [] q) :
    (datP s.nd n ad (goneB s ad n) (heldB s f ad) q).length = n ∧ (∀ y ∈ datP s.nd n ad (goneB s ad n) (heldB s f ad) q, y < 256) := by
  obtain ⟨t, e, hl, _⟩ := hq
  have hq : q.length = m := by rw [e]; simpa using hl
  have hlen : (datP s.nd n ad (goneB s ad n) (heldB s f ad) q).length = n := by
    unfold datP
    have := secs_ge n
    rw [List.length_take, rebL_len h5 h1]
    omega
  refine ⟨hlen, fun y hy => ?_⟩
  refine rebL_lt h5 h16 h1 (by unfold outP; rw [Sq.srt_length, List.length_append]; omega) (fun i hi _ v hv => ?_) y (List.mem_of_mem_take hy)
  exact RS.holds_lt hok _ _ v hv
/-- a block's bytes, as a set of drives left out tells them -/
noncomputable def datF (s : RS) (f ad n : Nat) (q : List Nat) (j : Nat) : Nat := (datP s.nd n ad (goneB s ad n) (heldB s f ad) q).getD j 0
section
variable {B a r f : Nat} {s : RS} {w w' : World}
set_option maxHeartbeats 6400000 in
theorem repair_of (w : World) (h : At B w a r f s) (hcal : s.calm) (ad n : Nat) (h1 : 1 ≤ n) (hn : n ≤ 1024) (hc : ad + cost s.nd n ≤ cells s f) (hcost : s.cost + cost s.nd n ≤ 1000000) (sum : ByteArray) (PZ : (Nat → Nat) → Prop) (PE : Prop)
    (hread : Calls Tryz.prog 10 #[.pointer (some ⟨a, 0, none⟩), .int .i64 (ad : Int), .int .i64 (n : Int), .string sum] w fun e w' => ((∃ (Z : Nat → Nat) (gb c : Nat) (ov : Value), (∀ j, Z j < 256) ∧ PZ Z ∧ e = .returned (.tuple #[.slice (some ⟨gb, 0, none⟩) n c, ov, .int .i64 0]) ∧ RdB w' w'.heap.size (some ⟨gb, 0, none⟩) n Z ∧ n ≤ c ∧ c ≤ maxLen) ∨ (PE ∧ e = .returned (.tuple #[.slice none 0 0, .slice none 0 0, .int .i64 4]))) ∧ RackAt B w' r s ∧ Keep B w w') :
    Calls Tryz.prog 12 #[.pointer (some ⟨a, 0, none⟩), .int .i64 (ad : Int), .int .i64 (n : Int), .string sum] w fun e w' => (∃ Z, PZ Z ∧ (∃ v, e = .returned (.tuple #[v, .int .i64 0]) ∧ Nr.OwnN w' w.heap.size v (cmpL (Sq.srt (wrL s f ad (cellX s.nd n Z) (cost s.nd n))))) ∧ RackAt B w' r (repS s f ad (cellX s.nd n Z) (cost s.nd n)) ∧ Keep B w w') ∨ (PE ∧ e = .returned (.tuple #[.slice none 0 0, .int .i64 4]) ∧ RackAt B w' r s ∧ Keep B w w') := by
  have HRD := Lib.hid hread
  have HA := Lib.hid h
  have HLE := Lib.hid h.rack.le
  clear hread
  go_enter Tryz.func12, Tryz.ntmps12
  go_wp2_with fail
  refine HRD.out.mono ?_
  rintro e w2 ⟨hcase, h2, k2⟩
  have HA2 : Hid (At B w2 a r f s) := Lib.hid (HA.out.rack_ h2 k2 rfl rfl)
  have K2 := Lib.hid k2
  clear HRD h2 k2
  rcases hcase with ⟨Z, gb, c, ov, hZ, hPZ, rfl, hz, hnc, hcm⟩ | ⟨hPE, rfl⟩
  rotate_left
  · have HPE := Lib.hid hPE
    clear hPE
    go_wp2_with fail
    go_ret2
    exact .inr ⟨HPE.out, rfl, HA2.out.rack, K2.out⟩
  have HPZ := Lib.hid hPZ
  have HW := Lib.hid (width_any w2 HA2.out)
  have HLAY : Hid (∀ W, w2 = W → Calls Tryz.prog 39 #[.slice (some ⟨gb, 0, none⟩) n c, .int .i64 ((s.nd - 3 : Nat) : Int)] W fun e w' => ∃ v, e = .returned v ∧ (∃ H, Rws w' w2.heap.size w2.heap.size v (cost s.nd n) H (cellX s.nd n Z)) ∧ Below w2.heap.size w2 w') := Lib.hid fun W hW => by
    subst hW
    exact lay_any _ n c w2.heap.size s.nd Z w2 hz (fun j _ => hZ j) (Nat.le_refl _) hnc hcm h1 hn h.five h.bounds.1
  have HCAL := Lib.hid hcal
  have HY : Hid (∀ j v, cellX s.nd n Z j v < 256) := Lib.hid (cellX_lt fun j _ => hZ j)
  have hle := cells_le h
  have HC : Hid (ad + cost s.nd n ≤ cells s f ∧ s.cost + cost s.nd n ≤ 1000000) := Lib.hid ⟨hc, hcost⟩
  have hC1 : 1 ≤ cost s.nd n := by have := secs_pos h1; unfold cost; omega
  have hC2 : ad + cost s.nd n ≤ 32000 := by omega
  have HWA := Lib.hid (fun k => repS_like s f ad (cellX s.nd n Z) k)
  have HWH := Lib.hid (fun k c => repS_holds s f ad (cellX s.nd n Z) c k)
  have HWS := Lib.hid (fun k => repS_succ s f ad (cellX s.nd n Z) k)
  have HWL := Lib.hid (fun k => wrL_succ s f ad (cellX s.nd n Z) k)
  have HWN := Lib.hid (fun k => wrL_len s f ad (cellX s.nd n Z) k)
  have HW0 : Hid (repS s f ad (cellX s.nd n Z) 0 = s) := Lib.hid rfl
  have HL0 : Hid (wrL s f ad (cellX s.nd n Z) 0 = []) := Lib.hid rfl
  have HQ : Hid (∀ k, wrongC s f ad (cellX s.nd n Z) k = (!goneC s (ad + k) && !sameN (holdsC s f (ad + k)) (cellX s.nd n Z k))) := Lib.hid fun _ => rfl
  have HNC : Hid (n ≤ c ∧ c ≤ maxLen) := Lib.hid ⟨hnc, hcm⟩
  generalize hCC : cost s.nd n = C at *
  generalize hYY : cellX s.nd n Z = Y at *
  generalize hT : repS s f ad Y = T at *
  generalize hLL : wrL s f ad Y = L at *
  generalize hQQ : wrongC s f ad Y = Q at *
  have HEE : Hid (cost s.nd n = C ∧ cellX s.nd n Z = Y ∧ repS s f ad Y = T ∧ wrL s f ad Y = L) := Lib.hid ⟨hCC, hYY, hT, hLL⟩
  clear h hc hcost hcal hCC hYY hT hLL hQQ hz hnc hcm hZ hle hPZ
  go_wp2_with fail
  refine HW.out.mono ?_
  rintro e w2' ⟨rfl, hw2⟩
  have HLAY := Lib.hid (HLAY.out w2' (by rw [hw2]))
  clear hw2 HW
  go_wp2_with fail
  refine HLAY.out.mono ?_
  rintro e w3 ⟨v3, rfl, ⟨H, hr⟩, b3⟩
  have B3 := Lib.hid b3
  have R3 := Lib.hid hr
  have A3 := Lib.hid (HA2.out.grown_ b3)
  have K3 : Hid (Keep B w w3) := Lib.hid (K2.out.new b3 HA2.out.rack.le)
  obtain ⟨g4, c4, rfl, hc4, hc4m, _⟩ := hr.own.block (by omega)
  have HZ3 : Hid (w.heap.size ≤ w3.heap.size) := Lib.hid K3.out.below.size
  clear hr b3 HLAY
  go_wp2_with fail
  go_loopw [13, 37] (fun v y wr => ∃ i : Nat, i ≤ C ∧ y = .int .i64 (i : Int) ∧ Hid (At B wr a r f (T i)) ∧ Hid (Keep B w3 wr) ∧ Hid (Nr.OwnN wr w3.heap.size v (L i))) (fun _ y _ => C - (intOf y).toNat)
  case atStart => exact ⟨0, Nat.zero_le _, rfl, Lib.hid (by rw [HW0.out]; exact A3.out), Lib.hid (Keep.refl _ _), Lib.hid (by rw [HL0.out]; exact Gr.OwnG.nil _ _)⟩
  case round =>
    obtain ⟨i, hi, rfl, HAt, HK, HO⟩ := hrel
    by_cases hlt : i < C
    · have hlk := HWA.out i
      obtain ⟨Rj, cj, eH, q1, q2, q3, q4⟩ := (R3.out.keepK HK.out).row i hlt
      have d1 := (R3.out.own.keepK HK.out).at_ hlt
      rw [eH] at d1
      have d1 : wr.cell? ⟨g4, i, none⟩ = some (.slice (some ⟨Rj, 0, none⟩) 128 cj) := d1
      have QR := Lib.hid q4
      have t2 : (i : Int) < (C : Int) := by omega
      have hcin : ad + i < cells s f := by have := HC.out.1; omega
      have HRE := Lib.hid (read_any wr HAt.out (by rw [hlk.1.off]; exact HCAL.out.1) (ad + i) (by rw [hlk.1.cells]; exact hcin))
      have HGE : Hid (lenC (T i) (ad + i) = (if goneC s (ad + i) = true then 0 else 128) ∧ errC (T i) (ad + i) = (if goneC s (ad + i) = true then 3 else 0)) := Lib.hid ⟨by unfold lenC; rw [hlk.1.goneC], by unfold errC; rw [hlk.1.goneC]⟩
      rw [HGE.out.1, HGE.out.2] at HRE
      have HHO : Hid (holdsC (T i) f (ad + i) = holdsC s f (ad + i)) := Lib.hid (by rw [HWH.out i (ad + i), if_neg (by omega)])
      rw [HHO.out] at HRE
      have HOK : Hid (∀ j, j < 128 → holdsC s f (ad + i) j < 256) := Lib.hid fun j hj => by
        rw [← HHO.out]
        exact RS.holds_lt HAt.out.rack.1 _ _ j hj
      have HWR : Hid (∀ W, At B W a r f (T i) → RowG W Rj 128 (Y i) → goneC s (ad + i) = false → Calls Tryz.prog 42 #[.pointer (some ⟨a, 0, none⟩), .int .i64 ((ad + i : Nat) : Int), .slice (some ⟨Rj, 0, none⟩) 128 cj] W fun e w' => e = .returned (.int .i64 0) ∧ RackAt B w' r ((T i).wrote ((ad + i) % s.nd) (f + (ad + i) / s.nd) (Y i)) ∧ Keep B W w') := Lib.hid fun W hW hRow hgf => by
        have h := write_any W hW (hlk.1.calm HCAL.out) (ad + i) (by rw [hlk.1.cells]; exact hcin) (by rw [hlk.1.goneC]; exact hgf) Rj cj (Y i) hRow (fun j _ => HY.out i j) (by have := hlk.2; have := HC.out.2; omega)
        rw [hlk.1.nd] at h
        exact h
      have HND : Hid ((T i).nd = s.nd ∧ (T i).ns = s.ns) := Lib.hid ⟨hlk.1.nd, hlk.1.ns⟩
      have HQi := Lib.hid (HQ.out i)
      have HSi := Lib.hid (HWS.out i)
      have HLi := Lib.hid (HWL.out i)
      have HNi := Lib.hid (HWN.out i)
      have HS1 := Lib.hid (HWA.out (i + 1))
      clear hlk eH q1 q2 q3 q4 hcin HGE
      go_wp2_with fail
      refine HRE.out.mono ?_
      rintro e w4 ⟨⟨v4, rfl, hv4⟩, h4, k4⟩
      have A4 : Hid (At B w4 a r f (T i)) := Lib.hid (HAt.out.rack_ h4 k4 rfl rfl)
      have K4 : Hid (Keep B w3 w4) := Lib.hid (HK.out.trans k4)
      have O4 : Hid (Nr.OwnN w4 w3.heap.size u13 (L i)) := Lib.hid (ownN_keepK HO.out k4)
      have QR4 : Hid (RowG w4 Rj 128 (Y i)) := Lib.hid (QR.out.keepK k4)
      clear h4 k4 HRE HAt HK HO QR d1
      cases hg : goneC s (ad + i) with
      | true =>
        have HQf : Hid (Q i = false) := Lib.hid (by rw [HQi.out, hg]; rfl)
        clear hg hv4
        go_wp2_with fail
        go_roundw
        case rel => exact ⟨i + 1, by omega, by go_num, Lib.hid (by rw [HSi.out, HQf.out, if_neg (by decide)]; exact A4.out), K4, Lib.hid (by rw [HLi.out, HQf.out, if_neg (by decide), List.append_nil]; exact O4.out)⟩
        case measure => simp [intOf]; omega
      | false =>
        rw [hg] at hv4
        obtain ⟨H4, rfl, hH4⟩ := owns_head hv4
        obtain ⟨e1, e2, e3, e4, e5⟩ := owns_rdb hv4 (fun j hj => HOK.out j hj)
        obtain ⟨hA, hN, hCp⟩ := H4
        obtain rfl : hN = 128 := e2
        have e1 : RdB w4 w4.heap.size hA 128 (holdsC s f (ad + i)) := e1
        have QB : RdB w4 w4.heap.size (some ⟨Rj, 0, none⟩) 128 (Y i) := QR4.out.rdb (fun v _ => HY.out i v) QR4.out.lt
        have hdv : hdV (hA, 128, hCp) = .slice hA 128 hCp := rfl
        rw [hdv]
        by_cases he : ∀ v, v < 128 → holdsC s f (ad + i) v = Y i v
        · have HQf : Hid (Q i = false) := Lib.hid (by rw [HQi.out, hg, sameN_yes he]; rfl)
          have HEQ := Lib.hid (equalA_yes 128 hCp cj w4.heap.size w4.heap.size hA (some ⟨Rj, 0, none⟩) _ _ w4 e1 QB he)
          clear hg hv4 e1 e3 e4 e5 QB he hH4
          go_wp2_with fail
          refine HEQ.out.mono ?_
          rintro e w5 ⟨rfl, hw5⟩
          have hw5 := hw5.symm
          subst hw5
          go_wp2_with fail
          go_roundw
          case rel => exact ⟨i + 1, by omega, by go_num, Lib.hid (by rw [HSi.out, HQf.out, if_neg (by decide)]; exact A4.out), K4, Lib.hid (by rw [HLi.out, HQf.out, if_neg (by decide), List.append_nil]; exact O4.out)⟩
          case measure => simp [intOf]; omega
        · have HQt : Hid (Q i = true) := Lib.hid (by rw [HQi.out, hg, sameN_no he]; rfl)
          have HEQ := Lib.hid (equalA_no 128 hCp cj w4.heap.size w4.heap.size hA (some ⟨Rj, 0, none⟩) _ _ w4 e1 QB he)
          have HW5 := Lib.hid (HWR.out w4 A4.out QR4.out hg)
          clear hg hv4 e1 e3 e4 e5 QB he hH4 HWR
          go_wp2_with fail
          refine HEQ.out.mono ?_
          rintro e w5 ⟨rfl, hw5⟩
          have hw5 := hw5.symm
          subst hw5
          go_wp2_with fail
          refine HW5.out.mono ?_
          rintro e w6 ⟨rfl, h6, k6⟩
          have hT1 : RackAt B w6 r (T (i + 1)) := by rw [HSi.out, HQt.out, if_pos rfl]; exact h6
          have A6 : Hid (At B w6 a r f (T (i + 1))) := Lib.hid (A4.out.rack_ hT1 k6 (by rw [HS1.out.1.nd, HND.out.1]) (by rw [HS1.out.1.ns, HND.out.2]))
          have K6 := Lib.hid (K4.out.trans k6)
          have O6 : Hid (Nr.OwnN w6 w3.heap.size u13 (L i)) := Lib.hid (ownN_keepK O4.out k6)
          have HDR := Lib.hid (drive_any w6 A6.out (ad + i) (by omega))
          have HDE : Hid ((T (i + 1)).nd = s.nd) := Lib.hid HS1.out.1.nd
          rw [HDE.out] at HDR
          have HZ6 : Hid (w3.heap.size ≤ w6.heap.size) := Lib.hid K6.out.below.size
          clear h6 k6 hT1 HEQ HW5
          go_wp2_with fail
          refine HDR.out.mono ?_
          rintro e w7 ⟨rfl, hw7⟩
          have hw7 := hw7.symm
          subst hw7
          have HLm : Hid ((L i).length ≤ 1000000) := Lib.hid (by have := HNi.out; omega)
          have HLn : Hid (L (i + 1) = L i ++ [(ad + i) % s.nd]) := Lib.hid (by rw [HLi.out, HQt.out, if_pos rfl])
          generalize hmd : (ad + i) % s.nd = md at *
          clear hmd
          go_wp2_with (at_builtin; refine wpList_app_g rfl 22 (.tmp 65) (.tmp 69) rfl rfl rfl (fun ty => appN O6.out md HLm.out HZ6.out ty) ?_; intro v8 w8 h8; refine of_hid ?_)
          refine Lib.hid ?_
          obtain ⟨o8, b8, g8⟩ := h8
          have A8 : Hid (At B w8 a r f (T (i + 1))) := Lib.hid (A6.out.shut (own_shut O6.out b8 g8))
          have K8 : Hid (Keep B w3 w8) := Lib.hid (Arr.Keep.shut K6.out (Nat.le_refl _) A3.out.rack.le (own_shut O6.out b8 g8))
          have O8 : Hid (Nr.OwnN w8 w3.heap.size v8 (L (i + 1))) := Lib.hid (by rw [HLn.out]; exact o8)
          clear o8 b8 g8
          go_wp2_with fail
          go_roundw
          case rel => exact ⟨i + 1, by omega, by go_num, A8, K8, O8⟩
          case measure => simp [intOf]; omega
    · obtain rfl : i = C := by omega
      have HNi := Lib.hid (HWN.out i)
      have HSO := Lib.hid (Sq.sort_own wr w3.heap.size u13 (L i) HO.out (by have := HNi.out; omega))
      go_wp2_with fail
      refine HSO.out.mono ?_
      rintro e w4 ⟨rfl, h4, g4⟩
      have S4 := grown_shut HO.out g4
      have A4 := Lib.hid (HAt.out.shut S4)
      have K4 := Lib.hid (Arr.Keep.shut HK.out (Nat.le_refl _) A3.out.rack.le S4)
      have O4 := Lib.hid h4
      have HCP := Lib.hid (compact_own w4 w3.heap.size u13 (Sq.srt (L i)) h4 (by rw [Sq.srt_length]; have := HNi.out; omega))
      clear h4 g4 HSO S4
      go_wp2_with fail
      refine HCP.out.mono ?_
      rintro e w5 ⟨v5, rfl, h5, g5⟩
      have S5 := grown_shut O4.out g5
      have A5 := Lib.hid (A4.out.shut S5)
      have K5 := Lib.hid (Arr.Keep.shut K4.out (Nat.le_refl _) A3.out.rack.le S5)
      have O5 := Lib.hid h5
      clear h5 g5 S5
      go_wp2_with fail
      go_ret2
      obtain ⟨x1, x2, x3, x4⟩ := HEE.out
      refine .inl ⟨Z, HPZ.out, ?_⟩
      rw [x1, x2, x3, x4]
      exact ⟨⟨v5, rfl, own_base O5.out HZ3.out⟩, A5.out.rack, K3.out.trans K5.out⟩
end
end Arr
end Go.Proofs.YtlhjpceaookanaaGreatDoor
