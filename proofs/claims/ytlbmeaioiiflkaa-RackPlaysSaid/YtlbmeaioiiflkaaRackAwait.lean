/-
  'rack.await' by a contract. Conditions: the row that is handed in is the rack's own.
-/
import Derived.Test.YtlbmeaioiiflkaaRackLoads
namespace Go.Proofs.Ytlbmeaioiiflkaa
open Go.RowKit
set_option linter.unusedVariables false

set_option maxRecDepth 100000 in
set_option maxHeartbeats 400000 in
theorem await_any (B : Nat) (w : World) (r m1 : Nat) (A : Option Addr) (n c : Nat) (s s' : RS) (hrs : Reset s s') (cs : Array Value) (hb : Blk w r 52 cs) (hcs : cs.size = 24) (hcell : ∀ j, j < 24 → j ≠ 3 → j ≠ 4 → cs[j]? = some (rackCell s m1 (.slice A n c) 0 j)) (hr : B ≤ r) (h1 : B ≤ m1) (hm1 : m1 ≠ r)
    (hn : n = s'.nw) (hl : ∃ n F, n + s'.nw ≤ s'.cost ∧ MapS w m1 n F ∧ ∀ d a, d < 4611686018427387904 → a < 4611686018427387904 → (F d a).getD (.agg (secA zeros)) = .agg (secA (s'.last d a)))
    (hrow : w.ownsRow B 59 130 (.slice A n c) n (flat s'.W n)) (hok : s'.ok) :
    Calls Try.prog 21 #[.pointer (some ⟨r, 0, none⟩), .slice A n c] w fun e w' => e = .returned (.tuple #[]) ∧ RackAt B w' r s' ∧ Keep B w w' := by
  have hc3 : ∃ x, w.cell? ⟨r, 3, none⟩ = some x := by
    rw [hb.cell]
    exact ⟨_, Array.getElem?_eq_getElem (by omega)⟩
  have hc4 : ∃ x, w.cell? ⟨r, 4, none⟩ = some x := by
    rw [hb.cell]
    exact ⟨_, Array.getElem?_eq_getElem (by omega)⟩
  obtain ⟨x3, c3⟩ := hc3
  obtain ⟨x4, c4⟩ := hc4
  have f3 := hb.frozen 3
  have f4 := hb.frozen 4
  have hlt := hb.lt
  -- the rack with an empty second map
  have b1 := hb.set_ 3 (.slice A n c)
  have b2 := (b1.set_ 4 (.map (some w.heap.size))).alloc (.map #[] 0)
  have e2 : (cs.setIfInBounds 3 (.slice A n c)).setIfInBounds 4 (.map (some w.heap.size)) = rackA s' m1 (.slice A n c) w.heap.size := by
    apply Array.ext_getElem?
    intro j
    rw [Array.getElem?_setIfInBounds, Array.getElem?_setIfInBounds, Array.size_setIfInBounds, hcs]
    by_cases hj : j < 24
    · rw [rackA_get _ _ _ _ hj]
      by_cases j4 : 4 = j
      · subst j4; rfl
      · rw [if_neg j4]
        by_cases j3 : 3 = j
        · subst j3; rfl
        · rw [if_neg j3, hcell j hj (fun e => j3 e.symm) (fun e => j4 e.symm), hrs.cells m1 0 w.heap.size (.slice A n c) (.slice A n c) j (fun e => j3 e.symm) (fun e => j4 e.symm)]
    · rw [if_neg (by omega), if_neg (by omega), Array.getElem?_eq_none (by omega), Array.getElem?_eq_none (by simp [rackA]; omega)]
  rw [e2] at b2
  obtain ⟨nl, F, g1, g2, g3⟩ := hl
  have hrn : (Value.slice A n c).ownBlock ≠ some r := fun e => by
    obtain ⟨_, cs', hb'⟩ := own_blk hrow e
    exact Blk.ne_ hb' hb (by decide) rfl
  have R0 : RackK B (((w.setCell ⟨r, 3, none⟩ (.slice A n c)).setCell ⟨r, 4, none⟩ (.map (some w.heap.size))).alloc (.map #[] 0)) r m1 w.heap.size (.slice A n c) s' 0 := by
    have hsz : ((w.setCell ⟨r, 3, none⟩ (.slice A n c)).setCell ⟨r, 4, none⟩ (.map (some w.heap.size))).heap.size = w.heap.size := by simp [World.setCell]
    refine ⟨b2, hr, h1, Nat.le_trans hr (Nat.le_of_lt hlt), ?_, ⟨nl, F, g1, (((g2.setCell (p := ⟨r, 3, none⟩) hm1 _).setCell (p := ⟨r, 4, none⟩) hm1 _).alloc _), g3⟩, ?_, ?_⟩
    · have := g2.lt
      omega
    · have := MapFp.made (okv := anyV) ((w.setCell ⟨r, 3, none⟩ (.slice A n c)).setCell ⟨r, 4, none⟩ (.map (some w.heap.size)))
      rw [hsz] at this
      exact this
    · rw [← hn]
      refine ⟨hrow.1, ?_⟩
      rcases hrow.2 with e | ⟨g, cap, cur, e, k1, k2, k3⟩
      · exact .inl e
      · refine .inr ⟨g, cap, cur, e, k1, ?_, k3⟩
        have hgr : g ≠ r := fun x => hrn (by rw [e, x]; rfl)
        have hg : Blk w g 59 cur := k2
        exact ((hg.far (p := ⟨r, 3, none⟩) hgr _).far (p := ⟨r, 4, none⟩) hgr _).alloc _
  have K0 : Keep B w (((w.setCell ⟨r, 3, none⟩ (.slice A n c)).setCell ⟨r, 4, none⟩ (.map (some w.heap.size))).alloc (.map #[] 0)) :=
    (((Keep.refl B w).setRack hb hr 3 _).setRack b1 hr 4 _).alloc (by simp [World.setCell]; omega) _
  have R := Lib.hid R0
  have K := Lib.hid K0
  have OK := Lib.hid hok
  have hcost := hok.cost
  have hmk : ∀ w : World, (Instr.makeMap 49 none).run Try.prog w = .ok (.map (some w.heap.size)) (w.alloc (.map #[] 0)) := fun w => by kernel_rfl
  have HN := Lib.hid hn
  have hrowA : Hid (0 < n → ∃ g, A = some ⟨g, 0, none⟩) := by
    intro h0
    rcases hrow.2 with ⟨_, e⟩ | ⟨g, cap, cur, e, _⟩
    · omega
    · injection e with e _
      exact ⟨g, e⟩
  have hn6 : n ≤ 1000000 := by omega
  clear hn
  clear R0 K0 b1 b2 e2 hrow hb hcell hok g2 g3 hrn
  go_enter Try.func21, Try.ntmps21
  go_wp2_with fail
  go_loopw [16] (fun x wr => ∃ k : Nat, k ≤ n ∧ x = .int .i64 k ∧ Hid (RackK B wr r m1 w.heap.size (.slice A n c) s' k) ∧ Hid (Keep B w wr)) (fun x _ => n - (intOf x).toNat)
  case atStart => exact ⟨0, by omega, rfl, R, K⟩
  case round =>
    obtain ⟨k, hk, rfl, R1, K1⟩ := hrel
    clear R K
    by_cases hlt2 : k < n
    · obtain ⟨g, rfl⟩ := hrowA.out (by omega)
      have hld := load_row (W := s'.W) (g := g) (c := c) (n := n) (by have := R1.out.row; rw [← HN.out] at this; exact this) hlt2
      have i1 : (0 : Int) ≤ (k : Int) := by omega
      have i2 : (k : Int) < (n : Int) := by omega
      go_wp2_with (refine wpList_loadX rfl 59 _ rfl _ _ rfl hld ?_; refine of_hid ?_)
      refine Lib.hid ?_
      refine wpList_allocX rfl 59 rfl _ (alloc_waiting _) ?_
      refine wpList_assignX rfl _ rfl _ rfl ?_
      refine wpList_storeX rfl 59 (.tmp 5) (.tmp 20) rfl (.pointer (some ⟨wr.heap.size, 0, none⟩)) (.agg (waitA (s'.W k))) rfl rfl (store_newW wr ⟨0, 0, zeros⟩ (s'.W k)) ?_
      have hbx := Lib.hid (Blk.new wr 59 (waitA (s'.W k)))
      have R2 := Lib.hid (R1.out.alloc (.cells (waitA (s'.W k)) 59))
      have K2 := Lib.hid (K1.out.alloc R1.out.le (.cells (waitA (s'.W k)) 59))
      generalize wr.heap.size = bx at *
      clear R1 K1 hld
      generalize wr.alloc (.cells (waitA (s'.W k)) 59) = w2 at *
      have c4' := R2.out.c4
      have hb0 := wplace0 hbx.out
      have hb1 := wplace1 hbx.out
      have hw := OK.out.wp k (by rw [← HN.out]; exact hlt2)
      go_wp2_with fail
      refine region_quiet_tail 7 (by kernel_rfl) (by kernel_rfl) ?_
      simp only [List.take_succ_cons, List.take_zero, List.drop_succ_cons, List.drop_zero]
      repeat (quiet_step (fail))
      refine wpQuiet_nil ?_
      rintro _ ⟨nq, rfl⟩
      refine wpList_mapPut rfl _ _ _ 49 3 rfl Try.underlying49 w.heap.size k _ rfl (R2.out.newest.drewN nq) (by simp only [maxLen]; have := R2.out.nw_le; rw [← HN.out] at this; omega) (s'.W k).d (s'.W k).a (by have := OK.out.nd2; omega) (by have := OK.out.ns2; omega) (.int .i64 (k : Int)) rfl rfl rfl ?_
      intro w3 hm3 hg3 hs3
      have R3 : Hid (RackK B w3 r m1 w.heap.size (.slice (some ⟨g, 0, none⟩) n c) s' (k + 1)) := (R2.out.drewN nq).step hg3 hm3
      have K3 : Hid (Keep B w w3) := (K2.out.drewN nq).ofMap (R2.out.newest.drewN nq) hg3 R2.out.h2
      clear hm3 hg3
      go_wp2_with fail
      go_roundw
      case rel => exact ⟨k + 1, by omega, by go_num, R3, K3⟩
      case measure => simp [intOf]; omega
    · have e : k = n := by omega
      subst e
      go_wp2_with fail
      go_end0
      rw [HN.out] at R1
      exact ⟨rfl, ⟨OK.out, m1, w.heap.size, _, R1.out⟩, K1.out⟩

theorem await_nil (B : Nat) (w : World) (r m1 : Nat) (s s' : RS) (v : Value) (hrs : Reset s s') (m2 : Nat) (hb : Blk w r 52 (rackA s m1 v m2)) (hr : B ≤ r) (h1 : B ≤ m1) (hm1 : m1 ≠ r)
    (hn : s'.nw = 0) (hl : ∃ n F, n ≤ s'.cost ∧ MapS w m1 n F ∧ ∀ d a, d < 4611686018427387904 → a < 4611686018427387904 → (F d a).getD (.agg (secA zeros)) = .agg (secA (s'.last d a))) (hok : s'.ok) :
    Calls Try.prog 21 #[.pointer (some ⟨r, 0, none⟩), .slice none 0 0] w fun e w' => e = .returned (.tuple #[]) ∧ RackAt B w' r s' ∧ Keep B w w' := by
  refine await_any B w r m1 none 0 0 s s' hrs _ hb (by simp [rackA]) (fun j hj j3 j4 => ?_) hr h1 hm1 hn.symm (by rw [hn]; exact hl) ⟨rfl, .inl ⟨rfl, rfl⟩⟩ hok
  rw [rackA_get _ _ _ _ hj]
  unfold rackCell
  rw [if_neg j3, if_neg j4, if_neg j3, if_neg j4]
end Go.Proofs.Ytlbmeaioiiflkaa
