/-
  What is made again of cells that hold what they must, as mathematics: the block. Conditions: five to sixteen drives, one to 1024 bytes, three drives at most left out.
-/
import Derived.Test.YtmfjhnfhpcpfeaaGreatDoorArrRead
import Derived.Lib.SlBytesConst
import Derived.Test.YtmfjhnfhpcpfeaaGreatDoorArrFitsM
import Derived.Test.YtmfjhnfhpcpfeaaGreatDoorArrCallsM
import Derived.Test.YtmfjhnfhpcpfeaaGreatDoorRows
import Derived.Test.YtmfjhnfhpcpfeaaGreatDoorChecked
import Derived.ProofKit
import Derived.LaidMore
import Derived.OpenShut
import Derived.Stop.Joined
namespace Go.Proofs.YtmfjhnfhpcpfeaaGreatDoor
open Go Go.RowKit refRack
set_option maxRecDepth 100000
set_option linter.unusedVariables false
namespace Arr
open Cc
theorem joinL_map (g : Nat → Nat → Nat) : ∀ k, joinL (fun t => (List.range 128).map (g t)) k = (List.range (k * 128)).map (fun j => g (j / 128) (j % 128))
  | 0 => by simp [joinL]
  | k + 1 => by
    rw [joinL_succ, joinL_map g k, Nat.succ_mul, List.range_add, List.map_append, List.map_map]
    congr 1
    refine List.map_congr_left fun v hv => ?_
    have hv : v < 128 := by simpa using hv
    show g k v = g ((k * 128 + v) / 128) ((k * 128 + v) % 128)
    rw [show (k * 128 + v) / 128 = k by omega, show (k * 128 + v) % 128 = v by omega]
/-- a block's bytes, noughts behind them -/
def padB (n : Nat) (X : Nat → Nat) (j : Nat) : Nat := if j < n then X j else 0
section
variable {N n ad : Nat} {l : List Nat} {x : Nat → Nat → Nat} {X : Nat → Nat} (hN : 5 ≤ N) (hN2 : N ≤ 16) (h1 : 1 ≤ n) (hl : l.length ≤ 3) (hX : ∀ j, j < n → X j < 256) (hx : ∀ i, i < cost N n → (ad + i) % N ∉ l → ∀ v, v < 128 → x i v = cellX N n X i v)
include hN hN2 h1 hl hX hx
theorem rebR_good {r : Nat} (hr : r < rws N (secs n)) : rebR N n ad l x r = (List.range (kR N (secs n) r * 128)).map (fun j => padB n X (r * (N - 3) * 128 + j)) := by
  obtain ⟨g1, g2, g3, g4, g5⟩ := row_cells hN (secs_pos h1) hr
  unfold rebR
  rw [joinL_congr (M := fun t => (List.range 128).map fun v => padB n X ((r * (N - 3) + t) * 128 + v)) fun t ht => List.map_congr_left fun v hv => ?_, joinL_map]
  · refine List.map_congr_left fun j hj => ?_
    show padB n X ((r * (N - 3) + j / 128) * 128 + j % 128) = _
    have e : (r * (N - 3) + j / 128) * 128 + j % 128 = r * (N - 3) * 128 + j := by rw [Nat.add_mul]; omega
    rw [e]
  · have hv : v < 128 := by simpa using hv
    rw [outRow_good (n := 128) (D := fun j v => cellX N n X (r * N + j) v) (by omega) (Nat.le_trans (plc_le (by omega)) hl) (fun i hi v hv => cellX_lt hX _ _) (fun j hj v hv => ?_) (fun i hi hb v hv => ?_) ht hv]
    · show cellX N n X (r * N + (t + 3)) v = _
      rw [show r * N + (t + 3) = r * N + 3 + t by omega, cellX_data n X v (by omega)]
      rfl
    · show cellX N n X (r * N + j) v = _
      rw [cellX_par n X v (by omega) hj]
      refine M.xsum_congr fun i hi => ?_
      show M.gmul _ (secD n X (r * (N - 3) + i) v) = M.gmul _ (cellX N n X (r * N + (i + 3)) v)
      rw [show r * N + (i + 3) = r * N + 3 + i by omega, cellX_data n X v (by omega)]
    · exact hx (r * N + i) (by unfold cost; omega) (by simpa [Nat.add_assoc] using hb) v hv
theorem rebL_good_to : ∀ r, r ≤ rws N (secs n) → (r < rws N (secs n) → joinL (rebR N n ad l x) r = (List.range (r * (N - 3) * 128)).map (padB n X)) ∧ (r = rws N (secs n) → joinL (rebR N n ad l x) r = (List.range (secs n * 128)).map (padB n X))
  | 0, _ => ⟨fun _ => by simp [joinL], fun e => by have := (rws_spec hN (secs_pos h1)).1; omega⟩
  | r + 1, h => by
    have ih := (rebL_good_to r (by omega)).1 (by omega)
    have hy := row_next hN (secs_pos h1) (r := r) (by omega)
    have e := rebR_good hN hN2 h1 hl hX hx (r := r) (by omega)
    have e2 : joinL (rebR N n ad l x) (r + 1) = (List.range (r * (N - 3) * 128 + kR N (secs n) r * 128)).map (padB n X) := by
      rw [joinL_succ, ih, e, List.range_add, List.map_append, List.map_map]
      rfl
    rw [e2, ← Nat.add_mul]
    constructor
    · intro h2
      rw [if_pos h2] at hy
      rw [hy, Nat.succ_mul]
    · intro h2
      rw [if_neg (by omega)] at hy
      rw [hy.2]
theorem rebL_good : (rebL N n ad l x).take n = (List.range n).map X := by
  unfold rebL
  rw [(rebL_good_to hN hN2 h1 hl hX hx _ (Nat.le_refl _)).2 rfl, ← List.map_take, List.take_range]
  have := secs_ge n
  rw [Nat.min_eq_left this]
  refine List.map_congr_left fun j hj => ?_
  have hj : j < n := by simpa using hj
  unfold padB
  rw [if_pos hj]
end
end Arr
end Go.Proofs.YtmfjhnfhpcpfeaaGreatDoor
namespace Go.Proofs.YtmfjhnfhpcpfeaaGreatDoor
open Go Go.RowKit refRack
set_option maxRecDepth 100000
set_option linter.unusedVariables false
namespace Arr
open Cc
/-- the value of the last that waits for a place -/
theorem newIn_kept (W : Nat → Wt) (z : Wt) {d d' a : Nat} (hd : d' ≠ d) : ∀ k, (newIn (fun i => (keptL W d k).getD i z) d' a (keptL W d k).length).map (fun i => ((keptL W d k).getD i z).x) = (newIn W d' a k).map (fun i => (W i).x)
  | 0 => rfl
  | k + 1 => by
    have ih := newIn_kept W z (a := a) hd k
    by_cases h : (W k).d = d
    · have e : keptL W d (k + 1) = keptL W d k := if_pos h
      have e2 : newIn W d' a (k + 1) = newIn W d' a k := if_neg (fun q => hd (q.1.symm.trans h))
      rw [e, e2]
      exact ih
    · have e : keptL W d (k + 1) = keptL W d k ++ [W k] := if_neg h
      rw [e]
      generalize keptL W d k = l at *
      have hlen : (l ++ [W k]).length = l.length + 1 := by simp
      rw [hlen]
      have hlast : (l ++ [W k]).getD l.length z = W k := by simp [List.getD_eq_getElem?_getD]
      have hold : ∀ i, i < l.length → (l ++ [W k]).getD i z = l.getD i z := fun i hi => by simp [List.getD_eq_getElem?_getD, List.getElem?_append_left hi]
      have hc : newIn (fun i => (l ++ [W k]).getD i z) d' a l.length = newIn (fun i => l.getD i z) d' a l.length := newIn_congr fun i hi => by
        show ((l ++ [W k]).getD i z).d = (l.getD i z).d ∧ ((l ++ [W k]).getD i z).a = (l.getD i z).a
        rw [hold i hi]
        exact ⟨rfl, rfl⟩
      unfold newIn
      show Option.map _ (if ((l ++ [W k]).getD l.length z).d = d' ∧ ((l ++ [W k]).getD l.length z).a = a then some l.length else newIn (fun i => (l ++ [W k]).getD i z) d' a l.length) = _
      rw [hlast, hc]
      by_cases hm : (W k).d = d' ∧ (W k).a = a
      · rw [if_pos hm, if_pos hm]
        show some (((l ++ [W k]).getD l.length z).x) = some (W k).x
        rw [hlast]
      · rw [if_neg hm, if_neg hm, ← ih]
        cases hn : newIn (fun i => l.getD i z) d' a l.length with
        | none => rfl
        | some i =>
          have hi := (newIn_lt hn).1
          show some ((l ++ [W k]).getD i z).x = some (l.getD i z).x
          rw [hold i hi]
theorem holds_map (s : RS) (d a : Nat) : s.holds d a = ((newIn s.W d a s.nw).map fun i => (s.W i).x).getD (s.last d a) := by
  unfold RS.holds
  cases newIn s.W d a s.nw <;> rfl
theorem holds_lost {s : RS} {d d' : Nat} (a : Nat) (h : d' ≠ d) : (s.lost d).holds d' a = s.holds d' a := by
  rw [holds_map, holds_map]
  show ((newIn (fun i => (keptL s.W d s.nw).getD i ⟨0, 0, zeros⟩) d' a (keptL s.W d s.nw).length).map fun i => ((keptL s.W d s.nw).getD i ⟨0, 0, zeros⟩).x).getD (if d' = d then zeros else s.last d' a) = _
  rw [newIn_kept s.W ⟨0, 0, zeros⟩ h s.nw, if_neg h]
/-- a block's cells hold what they must, but for those of gone drives -/
def Sound (s : RS) (f ad n : Nat) (X : Nat → Nat) : Prop := ∀ i, i < cost s.nd n → goneC s (ad + i) = false → ∀ v, v < 128 → holdsC s f (ad + i) v = cellX s.nd n X i v
theorem Sound.wrAll {s : RS} {f ad n : Nat} {X : Nat → Nat} : Sound (wrAll s f ad (cellX s.nd n X) (cost s.nd n)) f ad n X := fun i hi hg v hv => by
  have hl := (wrAll_like s f ad (cellX s.nd n X) (cost s.nd n)).1
  rw [hl.nd] at hi
  rw [hl.goneC] at hg
  rw [wrAll_holds, if_pos ⟨by omega, by omega, hg⟩, hl.nd, show ad + i - ad = i by omega]
theorem Sound.flushed {s : RS} {f ad n : Nat} {X : Nat → Nat} (h : Sound s f ad n X) : Sound s.flushed f ad n X := fun i hi hg v hv => by
  have := h i hi hg v hv
  unfold holdsC at *
  rw [holds_flushed]
  exact this
theorem goneC_lost {s : RS} {d c : Nat} : goneC (s.lost d) c = (decide (c % s.nd = d) || goneC s c) := by
  show (if c % s.nd = d then true else s.gone (c % s.nd)) = _
  by_cases e : c % s.nd = d
  · rw [if_pos e, decide_eq_true e]; rfl
  · rw [if_neg e, decide_eq_false e]; rfl
theorem Sound.lost {s : RS} {f ad n : Nat} {X : Nat → Nat} (h : Sound s f ad n X) (d : Nat) : Sound (s.lost d) f ad n X := fun i hi hg v hv => by
  rw [goneC_lost, Bool.or_eq_false_iff] at hg
  have hne : (ad + i) % s.nd ≠ d := of_decide_eq_false hg.1
  have := h i hi hg.2 v hv
  unfold holdsC at *
  show (s.lost d).holds ((ad + i) % s.nd) _ v = _
  rw [holds_lost _ hne]
  exact this
def sumS (n : Nat) (X : Nat → Nat) : ByteArray := strB 32 (M.sum n X)
theorem getD_map {n j : Nat} {X : Nat → Nat} (h : j < n) : ((List.range n).map X).getD j 0 = X j := by
  rw [List.getD_eq_getElem?_getD, List.getElem?_map, List.getElem?_range h]
  rfl
theorem sumL_map (n : Nat) (X : Nat → Nat) : sumL ((List.range n).map X) = sumS n X := by
  unfold sumL sumS
  rw [List.length_map, List.length_range]
  exact strB_congr fun j _ => M.sum_congr (fun i hi => getD_map hi) j
theorem datP_sound {s : RS} {f ad n : Nat} {X : Nat → Nat} (h : Sound s f ad n X) (h5 : 5 ≤ s.nd) (h16 : s.nd ≤ 16) (h1 : 1 ≤ n) (hX : ∀ j, j < n → X j < 256) (hg : (goneB s ad n).length ≤ 3) : datP s.nd n ad (goneB s ad n) (heldB s f ad) [] = (List.range n).map X := by
  unfold datP
  have hm : ∀ y, y ∈ outP (goneB s ad n) [] ↔ y ∈ goneB s ad n := fun y => by unfold outP; rw [Sq.mem_srt, List.append_nil]
  refine rebL_good h5 h16 h1 (by unfold outP; rw [Sq.srt_length, List.append_nil]; exact hg) hX fun i hi hb v hv => ?_
  rw [hm, mem_goneB (by omega) hi] at hb
  exact h i hi (by simpa using hb) v hv
theorem fit_sound {s : RS} {f ad n : Nat} {X : Nat → Nat} (h : Sound s f ad n X) (h5 : 5 ≤ s.nd) (h16 : s.nd ≤ 16) (h1 : 1 ≤ n) (hX : ∀ j, j < n → X j < 256) (hg : (goneB s ad n).length ≤ 3) : fitB s f ad n (sumS n X) [] = true := by
  unfold fitB fitP
  rw [datP_sound h h5 h16 h1 hX hg, sumL_map]
  exact beq_self_eq_true _
section
variable {B a r f : Nat} {s : RS} {w w' : World}
/-- a block that stands is read -/
theorem read_sound (w : World) (h : At B w a r f s) (hl : Laid w) (hB : 0 < B) (ho : s.off = false) (ad n : Nat) (h1 : 1 ≤ n) (hn : n ≤ 1024) (hc : ad + cost s.nd n ≤ cells s f) (X : Nat → Nat) (hX : ∀ j, j < n → X j < 256) (hs : Sound s f ad n X) (hg : (goneB s ad n).length ≤ 3) :
    Calls Tryz.prog 18 #[.pointer (some ⟨a, 0, none⟩), .int .i64 (ad : Int), .int .i64 (n : Int), .string (sumS n X)] w fun e w' => (∃ gb c ov, e = .returned (.tuple #[.slice (some ⟨gb, 0, none⟩) n c, ov, .int .i64 0]) ∧ Gr.OwnG 5 1 csB w' w.heap.size (.slice (some ⟨gb, 0, none⟩) n c) ((List.range n).map X) ∧ Nr.OwnN w' w.heap.size ov (Sq.srt (goneB s ad n))) ∧ RackAt B w' r s ∧ Keep B w w' := by
  have hf := fit_sound hs h.five h.bounds.1 h1 hX hg
  refine (readA_any w h hl hB ho ad n h1 hn hc (sumS n X) (strB_size _ _)).mono ?_
  rintro e w' ⟨hp, hr, hk⟩
  refine ⟨?_, hr, hk⟩
  have h0 : anyP (fitB s f ad n (sumS n X)) (hereB s ad n) 0 [] = true := by rw [anyP_zero]; exact hf
  rcases hp with ⟨_, h2 | h2⟩ | ⟨m, q, gb, c, ov, h2, h3, h4, h5, rfl, h6, h7⟩
  · omega
  · rw [h2 0 (by omega)] at h0; cases h0
  · have hm : m = 0 := by
      rcases Nat.eq_zero_or_pos m with e | e
      · exact e
      · rw [h3 0 e] at h0; cases h0
    subst hm
    obtain ⟨t, e1, e2, _⟩ := h5
    have : t = [] := List.eq_nil_of_length_eq_zero e2
    subst this
    have e1 : q = [] := by simpa using e1
    subst e1
    rw [datP_sound hs h.five h.bounds.1 h1 hX hg] at h6
    unfold outP at h7
    rw [List.append_nil] at h7
    exact ⟨gb, c, ov, rfl, h6, h7⟩
end
end Arr
end Go.Proofs.YtmfjhnfhpcpfeaaGreatDoor
namespace Go.Proofs.YtmfjhnfhpcpfeaaGreatDoor
open Go Go.RowKit refRack
set_option maxRecDepth 100000
set_option linter.unusedVariables false
namespace Arr
open Cc
theorem ints_cell {w : World} {m : Nat} {v : Value} {p : List Nat} (h : Sq.Ints m w v (Sq.ints p)) : ∃ A c, v = .slice A p.length c ∧ ∀ (i x : Nat), p[i]? = some x → ∃ b o, A = some ⟨b, o, none⟩ ∧ b < m ∧ w.cell? ⟨b, o + i, none⟩ = some (.int .i64 (x : Int)) := by
  rcases h with ⟨rfl, e⟩ | ⟨b, o, c, rfl, hb, hc⟩
  · have : p = [] := by simpa [Sq.ints] using e
    subst this
    exact ⟨none, 0, rfl, fun i x hx => by simp at hx⟩
  · rw [Sq.ints_length] at hc ⊢
    refine ⟨some ⟨b, o, none⟩, c, rfl, fun i x hx => ⟨b, o, rfl, hb, ?_⟩⟩
    have hi := (List.getElem?_eq_some_iff.1 hx).1
    refine (hc i hi).trans ?_
    have := (List.getElem?_eq_some_iff.1 hx).2
    simp [Sq.ints, hi, this]
set_option maxHeartbeats 1600000 in
theorem same_any (w : World) (v1 v2 : Value) (l1 l2 : List Nat) (h1 : Sq.Ints w.heap.size w v1 (Sq.ints l1)) (h2 : Sq.Ints w.heap.size w v2 (Sq.ints l2)) (hl1 : l1.length ≤ 100000) (hl2 : l2.length ≤ 100000) :
    Calls Tryz.prog 27 #[v1, v2] w fun e w' => e = .returned (.bool (decide (l1 = l2))) ∧ ∃ d, w' = w.drewN d := by
  obtain ⟨A1, c1, rfl, r1⟩ := ints_cell h1
  obtain ⟨A2, c2, rfl, r2⟩ := ints_cell h2
  have R1 := Lib.hid r1
  have R2 := Lib.hid r2
  clear h1 h2 r1 r2
  by_cases hne : l1.length = l2.length
  · obtain ⟨n, hn⟩ : ∃ n, n = l1.length := ⟨_, rfl⟩
    rw [← hne, ← hn]
    have HN := Lib.hid (⟨hn, hn.trans hne⟩ : _ ∧ _)
    have hn1 : n ≤ 100000 := by omega
    clear hne hn hl1 hl2
    go_enter Tryz.func27, Tryz.ntmps27
    go_wp2_with fail
    go_loopw [5] (fun y wr => ∃ i : Nat, i ≤ n ∧ y = .int .i64 (i : Int) ∧ Hid (l1.take i = l2.take i) ∧ Hid (∃ d, wr = w.drewN d)) (fun y _ => n - (intOf y).toNat)
    case atStart => exact ⟨0, Nat.zero_le _, rfl, Lib.hid rfl, Lib.hid ⟨0, rfl⟩⟩
    case round =>
      obtain ⟨i, hi, rfl, HT, HW⟩ := hrel
      obtain ⟨d, rfl⟩ := HW.out
      by_cases hlt : i < n
      · have hi1 : i < l1.length := by have := HN.out.1; omega
        have hi2 : i < l2.length := by have := HN.out.2; omega
        obtain ⟨b1, o1, e1, _, p1⟩ := R1.out i l1[i] (List.getElem?_eq_getElem hi1)
        obtain ⟨b2, o2, e2, _, p2⟩ := R2.out i l2[i] (List.getElem?_eq_getElem hi2)
        subst e1 e2
        have HI := Lib.hid (⟨hi1, hi2⟩ : _ ∧ _)
        have HX : Hid (l1[i]? = some l1[i] ∧ l2[i]? = some l2[i]) := Lib.hid ⟨List.getElem?_eq_getElem hi1, List.getElem?_eq_getElem hi2⟩
        generalize l1[i] = x1 at *
        generalize l2[i] = x2 at *
        clear hi1 hi2
        by_cases hx : x1 = x2
        · have t1 : ((x1 : Int) = (x2 : Int)) := by omega
          subst hx
          go_wp2_with fail
          go_quiet (fail)
          go_wp2_with fail
          go_roundw
          case rel =>
            refine ⟨i + 1, by omega, by go_num, Lib.hid ?_, Lib.hid ⟨_, rfl⟩⟩
            rw [List.take_add_one, List.take_add_one, HT.out, HX.out.1, HX.out.2]
          case measure => simp [intOf]; omega
        · have t1 : ((x1 : Int) = (x2 : Int)) = False := by simp; omega
          have HNE := Lib.hid hx
          go_wp2_with fail
          go_quiet (fail)
          go_wp2_with fail
          go_ret
          refine ⟨?_, _, World.drewN_drewN _ _ _⟩
          have : l1 ≠ l2 := fun e => by
            have h1 := HX.out.1
            have h2 := HX.out.2
            rw [e, h2] at h1
            injection h1 with h1
            exact HNE.out h1.symm
          rw [decide_eq_false this]
          rfl
      · obtain rfl : i = n := by omega
        go_wp2_with fail
        go_ret
        refine ⟨?_, d, rfl⟩
        have : l1 = l2 := by
          have := HT.out
          rw [List.take_of_length_le (by have := HN.out.1; omega), List.take_of_length_le (by have := HN.out.2; omega)] at this
          exact this
        rw [decide_eq_true this]
        rfl
  · have t1 : ((l1.length : Int) = (l2.length : Int)) = False := by simp; omega
    have hd : decide (l1 = l2) = false := decide_eq_false fun e => hne (by rw [e])
    have HD := Lib.hid hd
    rw [HD.out]
    clear hd
    generalize l1.length = n1 at *
    generalize l2.length = n2 at *
    go_enter Tryz.func27, Tryz.ntmps27
    go_wp2_with fail
    go_ret
    exact ⟨rfl, 0, rfl⟩
/-- the law's 'sum' -/
theorem sum_law (n : Nat) (X : Nat → Nat) (w : World) (hX : ∀ j, X j < 256) (hn : n ≤ 100000) (hl : Laid w) :
    Calls Tryz.prog 19 #[.string (strB n X)] w fun e w' => e = .returned (.string (sumS n X)) ∧ Below w.heap.size w w' := by
  have HX := Lib.hid hX
  have HL := Lib.hid hl
  clear hX hl
  go_enter Tryz.func19, Tryz.ntmps19
  go_wp2_with ((with_reducible refine wpList_conv_str rfl (.tmp 3) rfl rfl (fun j _ => HX.out j) (by unfold maxLen; omega) ?_); intro c1 w1 ho1 hb1; refine of_hid ?_)
  refine Lib.hid ?_
  obtain ⟨A, c, e0, h1, h2, h3, _⟩ := ho1.shape (fun j _ => HX.out j)
  have HS := Lib.hid (sum_any A n c w1.heap.size X w1 h1 HX.out (Nat.le_refl _) h2 h3 (by omega) (HL.out.below hb1 HL.out.pos))
  have HB1 := Lib.hid hb1
  rw [e0]
  clear ho1 hb1 h1 h2 h3 e0
  go_wp2_with fail
  refine HS.out.mono ?_
  rintro e w2 ⟨rfl, b2⟩
  have HB2 := Lib.hid (HB1.out.trans (b2.mono HB1.out.size))
  clear b2
  go_wp2_with fail
  go_ret
  exact ⟨rfl, HB2.out⟩
end Arr
end Go.Proofs.YtmfjhnfhpcpfeaaGreatDoor
namespace Go.Proofs.YtmfjhnfhpcpfeaaGreatDoor
open Go Go.RowKit refRack
set_option maxRecDepth 100000
set_option linter.unusedVariables false
namespace Arr
open Cc
def abc (j : Nat) : Nat := if j = 0 then 97 else if j = 1 then 98 else if j = 2 then 99 else 0
theorem abc_lt (j : Nat) : abc j < 256 := by unfold abc; split <;> (try split) <;> (try split) <;> omega
theorem abc_str : strB 3 abc = ⟨#[97, 98, 99]⟩ := by decide
theorem srt_of {l : List Nat} (h : l.Pairwise fun x y => x ≤ y) : Sq.srt l = l := by
  unfold Sq.srt
  exact List.mergeSort_of_pairwise (h.imp fun h => by simpa using h)
theorem cost_k : cost 5 3 = 4 := by decide
theorem drvL_k : drvL 5 1 (min (cost 5 3) 5) = [1, 2, 3, 4] := by decide
theorem goneB_none {s : RS} {ad n : Nat} (h : ∀ d, s.gone d = false) : goneB s ad n = [] := by
  unfold goneB goneL
  simp [h]
def stK : RS := (((wrAll (RS.new 5 3) 1 1 (cellX 5 3 abc) (cost 5 3)).lost 1).lost 2).lost 4
theorem goneB_k : goneB stK 1 3 = [1, 2, 4] := by
  have hl := (wrAll_like (RS.new 5 3) 1 1 (cellX 5 3 abc) (cost 5 3)).1
  have hn : stK.nd = 5 := hl.nd
  unfold goneB goneL
  rw [hn, drvL_k, srt_of (by decide)]
  have hg : ∀ d, stK.gone d = (decide (d = 4) || decide (d = 2) || decide (d = 1)) := fun d => by
    show (if d = 4 then true else if d = 2 then true else if d = 1 then true else (wrAll (RS.new 5 3) 1 1 (cellX 5 3 abc) (cost 5 3)).gone d) = _
    rw [hl.gone]
    by_cases h4 : d = 4
    · simp [h4]
    · by_cases h2 : d = 2
      · simp [h2]
      · by_cases h1 : d = 1
        · simp [h1]
        · simp [h4, h2, h1]; rfl
  simp [hg]
theorem lose_in {B r : Nat} {s : RS} (w : World) (h : RackAt B w r s) (d : Nat) (hd : d < s.nd) :
    Calls Tryz.prog 22 #[.pointer (some ⟨r, 0, none⟩), .int .i64 (d : Int)] w fun e w' => e = .returned (.int .i64 0) ∧ RackAt B w' r (s.lost d) ∧ Keep B w w' := by
  have h1 : s.isD (d : Int) = true := by rw [isD_nat, decide_eq_true hd]
  have := lose_tot w r s (d : Int) h
  unfold refRack.loseE refRack.loseS at this
  rw [if_pos h1, if_pos h1, Int.toNat_natCast] at this
  exact this
theorem own_conv {w : World} {base gb n c : Nat} {X : Nat → Nat} (h : Gr.OwnG 5 1 csB w base (.slice (some ⟨gb, 0, none⟩) n c) ((List.range n).map X)) (hX : ∀ j, j < n → X j < 256) :
    (convert 43 9 (.slice (some ⟨gb, 0, none⟩) n c)).run Tryz.prog w = .ok (.string (strB n X)) w := by
  have h2 := conv_rd (cap := c) (rdB_own h (by simp) (fun y hy => by
    rw [List.mem_map] at hy
    obtain ⟨j, hj, rfl⟩ := hy
    exact hX j (by simpa using hj)))
  rw [h2]
  congr 2
  exact strB_congr fun j hj => getD_map hj
set_option maxHeartbeats 3200000 in
theorem known_arr (w : World) (hl : Laid w) :
    Calls Tryz.prog 9 #[] w fun e w' => e = .returned (.bool true) ∧ Below w.heap.size w w' := by
  have HL := Lib.hid hl
  have HN : Hid (Calls Tryz.prog 10 #[.int .i64 5, .int .i64 3] w fun e w' => (∃ r, e = .returned (.tuple #[.pointer (some ⟨r, 0, none⟩), .int .i64 0]) ∧ RackAt w.heap.size w' r (RS.new 5 3)) ∧ Keep w.heap.size w w') := Lib.hid (new_any w 5 3 (by decide) (by decide) (by decide) (by decide))
  have hbs : ∀ W : World, (Instr.buildSlice 43 3 #[(0, .int .u8 97), (1, .int .u8 98), (2, .int .u8 99)]).run Tryz.prog W = .ok (.slice (some ⟨W.heap.size, 0, none⟩) 3 3) (W.alloc (.cells #[.int .u8 97, .int .u8 98, .int .u8 99] 5)) := fun W => by kernel_rfl
  have hcv : ∀ W : World, (convert 43 43 (.slice (some ⟨W.heap.size, 0, none⟩) 3 3)).run Tryz.prog (W.alloc (.cells #[.int .u8 97, .int .u8 98, .int .u8 99] 5)) = .ok (.slice (some ⟨W.heap.size, 0, none⟩) 3 3) (W.alloc (.cells #[.int .u8 97, .int .u8 98, .int .u8 99] 5 (3, 4))) := fun W => Lib.run_convert_bytes_const W 43 5 #[.int .u8 97, .int .u8 98, .int .u8 99] 3 3 Tryz.underlying43 Tryz.underlying5
  clear hl
  go_enter Tryz.func9, Tryz.ntmps9
  go_wp2_with fail
  refine HN.out.mono ?_
  rintro e w1 ⟨⟨r, rfl, h1⟩, k1⟩
  have R1 := Lib.hid h1
  have K1 := Lib.hid k1
  have HA : Hid (Calls Tryz.prog 11 #[.pointer (some ⟨r, 0, none⟩), .int .i64 1] w1 fun e w' => e = .returned (.tuple #[.pointer (some ⟨w1.heap.size, 0, none⟩), .int .i64 0]) ∧ w' = w1.alloc (.cells (arrA r 1) 69) ∧ At w.heap.size w' w1.heap.size r 1 (RS.new 5 3) ∧ Keep w.heap.size w1 w') := Lib.hid (new_ok w1 h1 (by decide) (by decide))
  clear h1 k1
  go_wp2_with fail
  refine HA.out.mono ?_
  rintro e w2 ⟨rfl, hw2, hA2, k2⟩
  clear hw2
  generalize w1.heap.size = a at *
  have A2 := Lib.hid hA2
  have K2 := Lib.hid (K1.out.trans k2)
  have HC : Hid (Calls Tryz.prog 14 #[.pointer (some ⟨a, 0, none⟩)] w2 fun e w' => e = .returned (.int .i64 10) ∧ ∃ d, w' = w2.drewN d) := Lib.hid (cells_any w2 hA2)
  clear hA2 k2 HA
  go_wp2_with fail
  refine HC.out.mono ?_
  rintro e w3 ⟨rfl, d, rfl⟩
  have hcv2 : (convert 43 43 (.slice (some ⟨w2.heap.size, 0, none⟩) 3 3)).run Tryz.prog ((w2.drewN d).alloc (.cells #[.int .u8 97, .int .u8 98, .int .u8 99] 5)) = .ok (.slice (some ⟨w2.heap.size, 0, none⟩) 3 3) ((w2.drewN d).alloc (.cells #[.int .u8 97, .int .u8 98, .int .u8 99] 5 (3, 4))) := hcv (w2.drewN d)
  obtain ⟨w3, hw3⟩ : ∃ w3, w3 = (w2.drewN d).alloc (.cells #[.int .u8 97, .int .u8 98, .int .u8 99] 5 (3, 4)) := ⟨_, rfl⟩
  have h3 : At w.heap.size w3 a r 1 (RS.new 5 3) := by rw [hw3]; exact (A2.out.drewN d).alloc _
  have hrd : RdB w3 w3.heap.size (some ⟨w2.heap.size, 0, none⟩) 3 abc := fun j hj => by
    have hb : w3.heap[w2.heap.size]? = some (.cells #[.int .u8 97, .int .u8 98, .int .u8 99] 5 (3, 4)) := by rw [hw3]; exact heap_alloc_new (w2.drewN d) _
    refine ⟨_, 0, rfl, (Array.getElem?_eq_some_iff.1 hb).1, ?_, abc_lt j⟩
    rw [Nat.zero_add, cell_of_row _ _ _ _ _ _ hb]
    rcases (show j = 0 ∨ j = 1 ∨ j = 2 by omega) with rfl | rfl | rfl <;> rfl
  have HW : Hid (Calls Tryz.prog 16 #[.pointer (some ⟨a, 0, none⟩), .int .i64 1, .slice (some ⟨w2.heap.size, 0, none⟩) 3 3] w3 fun e w' => e = .returned (.int .i64 0) ∧ RackAt w.heap.size w' r (wrAll (RS.new 5 3) 1 1 (cellX 5 3 abc) (cost 5 3)) ∧ Keep w.heap.size w3 w') := Lib.hid
    (write_ok _ h3 ⟨rfl, rfl⟩ (some ⟨w2.heap.size, 0, none⟩) 3 3 1 _ abc hrd (fun j _ => abc_lt j) (Nat.le_refl _) (Nat.le_refl _) (by decide) (by decide) (by decide) (by decide) (by rw [goneB_none fun _ => rfl]; decide) (by decide))
  have A3 := Lib.hid h3
  have K3 : Hid (Keep w.heap.size w w3) := Lib.hid (by rw [hw3]; exact (K2.out.drewN d).alloc A2.out.rack.le _)
  have HW3 := Lib.hid hw3
  clear h3 hrd hw3 hcv
  go_wp2_with fail
  rw [← HW3.out]
  clear hcv2 hbs
  refine HW.out.mono ?_
  rintro e w4 ⟨rfl, h4, k4⟩
  have K4 := Lib.hid (K3.out.trans k4)
  have A4 : Hid (At w.heap.size w4 a r 1 (wrAll (RS.new 5 3) 1 1 (cellX 5 3 abc) (cost 5 3))) := Lib.hid (A3.out.rack_ h4 k4 (wrAll_like _ _ _ _ _).1.nd (wrAll_like _ _ _ _ _).1.ns)
  clear h4 k4 HW HC HN K2 K1 R1 A2
  have e4 : (wrAll (RS.new 5 3) 1 1 (cellX 5 3 abc) (cost 5 3)).nd = 5 := (wrAll_like _ _ _ _ _).1.nd
  have HS4 : Hid (Sound (wrAll (RS.new 5 3) 1 1 (cellX 5 3 abc) (cost 5 3)) 1 1 3 abc) := Lib.hid Sound.wrAll
  have HO4 : Hid ((wrAll (RS.new 5 3) 1 1 (cellX 5 3 abc) (cost 5 3)).off = false) := Lib.hid (wrAll_like _ _ _ _ _).1.off
  have HL1 := Lib.hid (lose_in w4 A4.out.rack 1 (by rw [e4]; decide))
  have HK : Hid (stK = (((wrAll (RS.new 5 3) 1 1 (cellX 5 3 abc) (cost 5 3)).lost 1).lost 2).lost 4) := Lib.hid rfl
  have HE4 := Lib.hid e4
  have HNS : Hid ((wrAll (RS.new 5 3) 1 1 (cellX 5 3 abc) (cost 5 3)).ns = 3) := Lib.hid (wrAll_like _ _ _ _ _).1.ns
  clear e4
  generalize wrAll (RS.new 5 3) 1 1 (cellX 5 3 abc) (cost 5 3) = s4 at *
  go_wp2_with fail
  refine HL1.out.mono ?_
  rintro e w5 ⟨rfl, h5, k5⟩
  have K5 := Lib.hid (K4.out.trans k5)
  have A5 : Hid (At w.heap.size w5 a r 1 (s4.lost 1)) := Lib.hid (A4.out.rack_ h5 k5 rfl rfl)
  have HL2 := Lib.hid (lose_in w5 A5.out.rack 2 (by show 2 < s4.nd; rw [HE4.out]; decide))
  clear h5 k5 HL1
  go_wp2_with fail
  refine HL2.out.mono ?_
  rintro e w6 ⟨rfl, h6, k6⟩
  have K6 := Lib.hid (K5.out.trans k6)
  have A6 : Hid (At w.heap.size w6 a r 1 ((s4.lost 1).lost 2)) := Lib.hid (A5.out.rack_ h6 k6 rfl rfl)
  have HL3 := Lib.hid (lose_in w6 A6.out.rack 4 (by show 4 < s4.nd; rw [HE4.out]; decide))
  clear h6 k6 HL2
  go_wp2_with fail
  refine HL3.out.mono ?_
  rintro e w7 ⟨rfl, h7, k7⟩
  have K7 := Lib.hid (K6.out.trans k7)
  have A7 : Hid (At w.heap.size w7 a r 1 stK) := Lib.hid (by rw [HK.out]; exact A6.out.rack_ h7 k7 rfl rfl)
  have HS7 : Hid (Sound stK 1 1 3 abc) := Lib.hid (by rw [HK.out]; exact ((HS4.out.lost 1).lost 2).lost 4)
  have HO7 : Hid (stK.off = false) := Lib.hid (by rw [HK.out]; exact HO4.out)
  have HN7 : Hid (stK.nd = 5 ∧ stK.ns = 3) := Lib.hid (by rw [HK.out]; exact ⟨HE4.out, HNS.out⟩)
  have HSU : Hid (Calls Tryz.prog 19 #[.string ⟨#[97, 98, 99]⟩] w7 fun e w' => e = .returned (.string (sumS 3 abc)) ∧ Below w7.heap.size w7 w') := Lib.hid (by
    have h := sum_law 3 abc w7 abc_lt (by decide) (HL.out.below K7.out.below HL.out.pos)
    rw [abc_str] at h
    exact h)
  clear h7 k7 HL3 HS4 HO4 K6 K5 A6 A5 A4 K4 K3 A3
  go_wp2_with fail
  refine HSU.out.mono ?_
  rintro e w8 ⟨rfl, b8⟩
  have A8 : Hid (At w.heap.size w8 a r 1 stK) := Lib.hid (A7.out.grown_ b8)
  have K8 : Hid (Keep w.heap.size w w8) := Lib.hid (K7.out.new b8 A7.out.rack.le)
  have HRD : Hid (Calls Tryz.prog 18 #[.pointer (some ⟨a, 0, none⟩), .int .i64 1, .int .i64 3, .string (sumS 3 abc)] w8 fun e w' => (∃ gb c ov, e = .returned (.tuple #[.slice (some ⟨gb, 0, none⟩) 3 c, ov, .int .i64 0]) ∧ Gr.OwnG 5 1 csB w' w8.heap.size (.slice (some ⟨gb, 0, none⟩) 3 c) ((List.range 3).map abc) ∧ Nr.OwnN w' w8.heap.size ov (Sq.srt (goneB stK 1 3))) ∧ RackAt w.heap.size w' r stK ∧ Keep w.heap.size w8 w') := Lib.hid
    (read_sound w8 A8.out (HL.out.below K8.out.below HL.out.pos) HL.out.pos HO7.out 1 3 (by decide) (by decide) (by rw [HN7.out.1]; unfold cells; rw [HN7.out.1, HN7.out.2]; decide) abc (fun j _ => abc_lt j) HS7.out (by rw [goneB_k]; decide))
  clear b8 HSU A7 K7
  go_wp2_with fail
  refine HRD.out.mono ?_
  rintro e w9 ⟨⟨gb, c, ov, rfl, hb9, ho9⟩, _, k9⟩
  rw [goneB_k, srt_of (by decide)] at ho9
  have K9 := Lib.hid (K8.out.trans k9)
  have cv := own_conv hb9 (fun j _ => abc_lt j)
  rw [abc_str] at cv
  have hbi : ∀ W : World, (Instr.buildSlice 33 3 #[(0, .int .i64 1), (1, .int .i64 2), (2, .int .i64 4)]).run Tryz.prog W = .ok (.slice (some ⟨W.heap.size, 0, none⟩) 3 3) (W.alloc (.cells #[.int .i64 1, .int .i64 2, .int .i64 4] 3)) := fun W => by kernel_rfl
  have b10 : Below w9.heap.size w9 (w9.alloc (.cells #[.int .i64 1, .int .i64 2, .int .i64 4] 3)) := (Below.refl _ _).alloc (Nat.le_refl _) _
  have x10 := Blk.new w9 3 #[.int .i64 1, .int .i64 2, .int .i64 4]
  have HSA : Hid (Calls Tryz.prog 27 #[ov, .slice (some ⟨w9.heap.size, 0, none⟩) 3 3] (w9.alloc (.cells #[.int .i64 1, .int .i64 2, .int .i64 4] 3)) fun e w' => e = .returned (.bool true) ∧ ∃ d, w' = (w9.alloc (.cells #[.int .i64 1, .int .i64 2, .int .i64 4] 3)).drewN d) := Lib.hid
    (same_any _ ov (.slice (some ⟨w9.heap.size, 0, none⟩) 3 3) [1, 2, 4] [1, 2, 4] (Sq.own_ints (ho9.below b10 (Nat.le_refl _))) (.inr ⟨w9.heap.size, 0, 3, rfl, x10.lt, fun j hj => by
      rw [Nat.zero_add, x10.cell]
      have hj : j < 3 := hj
      rcases (show j = 0 ∨ j = 1 ∨ j = 2 by omega) with rfl | rfl | rfl <;> rfl⟩) (by decide) (by decide))
  have B10 : Hid (Below w.heap.size w (w9.alloc (.cells #[.int .i64 1, .int .i64 2, .int .i64 4] 3))) := Lib.hid (K9.out.below.trans (b10.mono K9.out.below.size))
  clear hb9 ho9 k9 b10 x10 HRD K8 A8
  go_wp2_with fail
  refine HSA.out.mono ?_
  rintro e w10 ⟨rfl, d2, rfl⟩
  go_wp2_with fail
  go_ret
  exact ⟨rfl, below_drewN B10.out d2⟩
end Arr
end Go.Proofs.YtmfjhnfhpcpfeaaGreatDoor
namespace Go.Proofs.YtmfjhnfhpcpfeaaGreatDoor
open Go Go.RowKit refRack
set_option maxRecDepth 100000
set_option linter.unusedVariables false
namespace Arr
section
variable {B a r f : Nat} {w w' : World} {s s' : RS}
theorem span_size (w : World) (h : At B w a r f s) (A z : Int) (hz : z < 1 ∨ 1024 < z) :
    Calls Tryz.prog 33 #[.pointer (some ⟨a, 0, none⟩), .int .i64 A, .int .i64 z] w fun e w' => e = .returned (.tuple #[.int .i64 0, .int .i64 1]) ∧ w' = w := by
  have HC := Lib.hid (cost_no w h z hz)
  clear h hz
  go_enter Tryz.func33, Tryz.ntmps33
  go_wp2_with fail
  refine HC.out.mono ?_
  rintro e w' ⟨rfl, rfl⟩
  go_wp2_with fail
  go_ret2
  exact ⟨rfl, rfl⟩
theorem span_far (w : World) (h : At B w a r f s) (ad n : Nat) (h1 : 1 ≤ n) (hn : n ≤ 1024) (hc : cells s f < ad + cost s.nd n) (had : ad ≤ 9223372036854775807) :
    Calls Tryz.prog 33 #[.pointer (some ⟨a, 0, none⟩), .int .i64 (ad : Int), .int .i64 (n : Int)] w fun e w' => e = .returned (.tuple #[.int .i64 0, .int .i64 1]) ∧ ∃ d, w' = w.drewN d := by
  have HC := Lib.hid (cost_ok w h n h1 hn)
  have HL := Lib.hid (cells_any w h)
  have hle := cells_le h
  have hcc : cost s.nd n ≤ 100 := by
    have e1 := secs_le hn
    have e2 := rws_le h.five (secs_pos h1)
    unfold cost
    omega
  have t1 : ((ad : Int) < 0) = False := by simp
  have t2 : ((cells s f : Int) - (cost s.nd n : Int) < (ad : Int)) = True := by simp; omega
  have e1 : IntKind.i64.wrap ((cells s f : Int) - (cost s.nd n : Int)) = (cells s f : Int) - (cost s.nd n : Int) := by rw [IntKind.wrap_i64]; omega
  generalize cells s f = C at *
  generalize cost s.nd n = c at *
  clear h
  go_enter Tryz.func33, Tryz.ntmps33
  go_wp2_with fail
  refine HC.out.mono ?_
  rintro e w' ⟨rfl, rfl⟩
  go_wp2_with fail
  refine HL.out.mono ?_
  rintro e w' ⟨rfl, d, rfl⟩
  go_wp2_with fail
  go_ret2
  exact ⟨rfl, d, rfl⟩
theorem drives_size (w : World) (h : At B w a r f s) (A z : Int) (hz : z < 1 ∨ 1024 < z) :
    Calls Tryz.prog 13 #[.pointer (some ⟨a, 0, none⟩), .int .i64 A, .int .i64 z] w fun e w' => e = .returned (.tuple #[.slice none 0 0, .int .i64 1]) ∧ w' = w := by
  have HS := Lib.hid (span_size w h A z hz)
  clear h hz
  go_enter Tryz.func13, Tryz.ntmps13
  go_wp2_with fail
  refine HS.out.mono ?_
  rintro e w' ⟨rfl, rfl⟩
  go_wp2_with fail
  go_ret2
  exact ⟨rfl, rfl⟩
theorem drives_far (w : World) (h : At B w a r f s) (ad n : Nat) (h1 : 1 ≤ n) (hn : n ≤ 1024) (hc : cells s f < ad + cost s.nd n) (had : ad ≤ 9223372036854775807) :
    Calls Tryz.prog 13 #[.pointer (some ⟨a, 0, none⟩), .int .i64 (ad : Int), .int .i64 (n : Int)] w fun e w' => e = .returned (.tuple #[.slice none 0 0, .int .i64 1]) ∧ ∃ d, w' = w.drewN d := by
  have HS := Lib.hid (span_far w h ad n h1 hn hc had)
  clear h hc
  go_enter Tryz.func13, Tryz.ntmps13
  go_wp2_with fail
  refine HS.out.mono ?_
  rintro e w' ⟨rfl, d, rfl⟩
  go_wp2_with fail
  go_ret2
  exact ⟨rfl, d, rfl⟩
end
end Arr
end Go.Proofs.YtmfjhnfhpcpfeaaGreatDoor
namespace Go.Proofs.YtmfjhnfhpcpfeaaGreatDoor
set_option maxRecDepth 100000
open Go Go.RowKit
set_option linter.unusedVariables false

theorem slice_to (A : Option Addr) (n c hi : Nat) (H : Int) (hH : H = (hi : Int)) (h : hi ≤ c) (w : World) :
    (Instr.sliceAt 43 (.slice A n c) none (some (.int .i64 H)) none).run Tryz.prog w = .ok (.slice (subA A c 0) hi c) w := by
  subst hH
  have hu : Tryz.prog.underlying 43 = some (.slice (Tryz.prog.elem 43)) := by kernel_rfl
  have he : Tryz.prog.elem 43 = 5 := by kernel_rfl
  rw [run_sliceAt_slice (P := Tryz.prog) (w := w) (h := hu), run_slice_h (P := Tryz.prog) (w := w) 43 A n c hu .i64 (hi : Int) (by omega) (by omega), he, sizeOf_u8]
  simp [sliced, subA]
/-- what a seal must be -/
def sealed (n : Nat) (X : Nat → Nat) : Prop := ∀ j, j < 32 → M.sum (n - 32) X j = X (n - 32 + j)
theorem strB_eq_iff {n : Nat} {X Y : Nat → Nat} (hX : ∀ j, j < n → X j < 256) (hY : ∀ j, j < n → Y j < 256) : ((strB n X).toList == (strB n Y).toList) = true ↔ ∀ j, j < n → X j = Y j := by
  rw [beq_iff_eq]
  constructor
  · intro h
    exact (strB_inj hX hY h).2
  · intro h
    rw [strB_congr h]
theorem not_bang {b : Bool} (h : ¬ b = true) : (!b) = true := by cases b <;> simp_all
end Go.Proofs.YtmfjhnfhpcpfeaaGreatDoor
namespace Go.Proofs.YtmfjhnfhpcpfeaaGreatDoor
set_option maxRecDepth 100000
open Go Go.ChangeShapes Go.WideShapes Go.ChangeAt Go.RowKit
set_option linter.unusedVariables false

def laidL : List (String × DataW Unit) := [("hoard/sha.roots", Rows.laid_hoard_sha_roots)]
theorem gRoots : Tryz.prog.globalNamed "hoard/sha.roots" = some 0 := by kernel_rfl
theorem tRoots : (Tryz.prog.globals[0]?).map (·.type) = some 158 := by kernel_rfl
theorem door_met (os : Os) (args : Array Value) : laidMetH Tryz.prog laidL ((World.doorLaid Tryz.prog 400 os).forCall (fun _ _ => 0) ⟨#[], args, []⟩).memory :=
  laidMetH_of_parts3 (fuel := 8) (laidMet_of_run' 8 (by kernel_rfl) (by kernel_rfl)) (by kernel_rfl) (by kernel_rfl)
theorem roots_lits : (Rows.laid_hoard_sha_roots : DataW Unit) = .agg ((List.range 64).map fun t => .lit (.int .u32 ((M.rt t : Nat) : Int))) := by kernel_rfl
theorem laid_of {W : World} (h : laidMetH Tryz.prog laidL W) : Laid W := by
  rw [MakeChecks.laidMetH_plain _ _ _ (by kernel_rfl)] at h
  obtain ⟨ps, ⟨g0, t0, cs0, f0, p0, q0, hg0, ht0, hv0, hd0, _, _⟩, _, _⟩ := h
  obtain rfl := Option.some.inj (gRoots.symm.trans hg0)
  obtain rfl := Option.some.inj (tRoots.symm.trans ht0)
  obtain ⟨xs, m1, rfl, hx1, hlen, hn3, hel⟩ := DataW.trod_array Tryz.underlying158 hd0
  have c1 : Tryz.prog.cellsOf 115 = 1 := by kernel_rfl
  rw [roots_lits] at hx1
  simp only [Prod.mk.injEq, DataW.agg.injEq] at hx1
  intro t ht
  have h0 := hel t ht
  have hlx : t < xs.length := by omega
  rw [List.getElem?_eq_getElem hlx] at h0
  obtain ⟨k, e1, e2, _⟩ := DataW.trod_int Tryz.underlying115 h0
  have hk : k = ((M.rt t : Nat) : Int) := by
    have h1 := congrArg (fun l => l[t]?) hx1.1
    simp [hlx, ht, e2] at h1
    first | exact h1 | exact h1.symm
  have h2 := World.var?_cell hg0 hv0 t
  rw [h2]
  rw [c1, Nat.mul_one] at e1
  have h3 := congrArg (fun l => l[0]?) e1
  simp at h3
  rw [h3, hk]
end Go.Proofs.YtmfjhnfhpcpfeaaGreatDoor
