/-
  'rack.powered' and 'rack.Arm' by contracts. Conditions: the rack is one.
-/
import Derived.Test.YthioanenljpclaaGreatDoorRackHasM
import Derived.Test.YthioanenljpclaaGreatDoorBytesM
namespace Go.Proofs.YthioanenljpclaaGreatDoor
set_option maxRecDepth 100000
open Go.RowKit
set_option linter.unusedVariables false

/-- is there power for one more? -/
def RS.pow (s : RS) : Bool := !s.off && (!s.armed || !decide (s.left = 0))
def RS.spent (s : RS) : RS := if s.off then s else if !s.armed then s else if s.left = 0 then { s with off := true } else { s with left := s.left - 1 }

set_option maxRecDepth 100000 in
set_option maxHeartbeats 800000 in
theorem powered_w {B m1 m2 : Nat} {v : Value} (w : World) (r : Nat) (s : RS) (h0 : s.ok) (h : RackW B w r m1 m2 v s) :
    Calls Tryz.prog 37 #[.pointer (some ⟨r, 0, none⟩)] w fun e w' => e = .returned (.bool s.pow) ∧ (s.spent.ok ∧ RackW B w' r m1 m2 v s.spent) ∧ Keep B w w' ∧ w.grownBy w' (some r) := by
  have c21 := h.c21
  have c22 := h.c22
  have c23 := h.c23
  have f21 := h.frozen 21
  have f23 := h.frozen 23
  have hleft := h0.left
  have H0 := Lib.hid h0
  have HW := Lib.hid h
  have K0 := Lib.hid (Keep.refl B w)
  clear h0 h
  by_cases ho : s.off = true
  · simp only [ho] at c21
    have e1 : s.pow = false := by simp [RS.pow, ho]
    have e2 : s.spent = s := by simp [RS.spent, ho]
    rw [e1, e2]
    go_enter Tryz.func37, Tryz.ntmps37
    go_wp2_with fail
    go_ret
    exact ⟨rfl, ⟨H0.out, HW.out⟩, K0.out, World.grownBy.refl _ _⟩
  · have ho' : s.off = false := by simpa using ho
    simp only [ho'] at c21
    by_cases ha : s.armed = true
    · simp only [ha] at c22
      by_cases hl : s.left = 0
      · have e1 : s.pow = false := by simp [RS.pow, ho', ha, hl]
        have e2 : s.spent = { s with off := true } := by simp [RS.spent, ho', ha, hl]
        rw [hl] at c23
        rw [e1, e2]
        go_enter Tryz.func37, Tryz.ntmps37
        go_wp2_with fail
        go_ret
        refine ⟨rfl, ⟨⟨H0.out.nd1, H0.out.nd2, H0.out.ns1, H0.out.ns2, H0.out.left, H0.out.cost, H0.out.wp, H0.out.lp⟩, HW.out.put (i := 21) (by omega) rfl ?_ rfl rfl rfl rfl⟩, K0.out.setRack HW.out.blk HW.out.hr 21 _, grown_set _ _ _ _⟩
        intro j hj hne
        unfold rackCell
        simp [hne]
      · have t1 : ((s.left : Int) = 0) = False := by simp; exact hl
        have t2 : ((s.left : Int) == 0) = false := by simp; exact hl
        have t3 : decide ((s.left : Int) = 0) = false := by simp; exact hl
        have t4 : IntKind.i64.wrap ((s.left : Int) - 1) = ((s.left - 1 : Nat) : Int) := by
          rw [show (s.left : Int) - 1 = ((s.left - 1 : Nat) : Int) by omega]
          rw [IntKind.wrap_i64]; omega
        have e1 : s.pow = true := by simp [RS.pow, ho', ha, hl]
        have e2 : s.spent = { s with left := s.left - 1 } := by simp [RS.spent, ho', ha, hl]
        rw [e1, e2]
        go_enter Tryz.func37, Tryz.ntmps37
        go_wp2_with fail
        go_ret
        refine ⟨rfl, ⟨⟨H0.out.nd1, H0.out.nd2, H0.out.ns1, H0.out.ns2, Nat.le_trans (Nat.sub_le _ _) H0.out.left, H0.out.cost, H0.out.wp, H0.out.lp⟩, HW.out.put (i := 23) (by omega) rfl ?_ rfl rfl rfl rfl⟩, K0.out.setRack HW.out.blk HW.out.hr 23 _, grown_set _ _ _ _⟩
        intro j hj hne
        unfold rackCell
        by_cases h1 : j = 21
        · subst h1; rfl
        by_cases h2 : j = 22
        · subst h2; rfl
        by_cases h3 : j < 21
        · simp [h3]
        · omega
    · have ha' : s.armed = false := by simpa using ha
      simp only [ha'] at c22
      have e1 : s.pow = true := by simp [RS.pow, ho', ha']
      have e2 : s.spent = s := by simp [RS.spent, ho', ha']
      rw [e1, e2]
      go_enter Tryz.func37, Tryz.ntmps37
      go_wp2_with fail
      go_ret
      exact ⟨rfl, ⟨H0.out, HW.out⟩, K0.out, World.grownBy.refl _ _⟩

/-- behind Arm(n) -/
def RS.arm (s : RS) (n : Int) : RS := { s with armed := decide (0 ≤ n), left := n.toNat }
set_option maxRecDepth 100000 in
set_option maxHeartbeats 800000 in
theorem arm_any {B : Nat} (w : World) (r : Nat) (s : RS) (n : Int) (hn : n ≤ 9223372036854775807) (h : RackAt B w r s) :
    Calls Tryz.prog 23 #[.pointer (some ⟨r, 0, none⟩), .int .i64 n] w fun e w' => e = .returned (.tuple #[]) ∧ RackAt B w' r (s.arm n) ∧ Keep B w w' := by
  obtain ⟨h0, m1, m2, v, h⟩ := h
  have f22 := h.frozen 22
  have f23 := h.frozen 23
  have c22 := h.c22
  have c23 := h.c23
  have b1 : ∀ b : Bool, RackW B (w.setCell ⟨r, 22, none⟩ (.bool b)) r m1 m2 v { s with armed := b } := by
    intro b
    refine h.put (i := 22) (by omega) rfl ?_ rfl rfl rfl rfl
    intro j hj hne
    unfold rackCell
    simp [hne]
  have b2 : ∀ (b : Bool) (l : Nat), RackW B ((w.setCell ⟨r, 22, none⟩ (.bool b)).setCell ⟨r, 23, none⟩ (.int .i64 (l : Int))) r m1 m2 v { s with armed := b, left := l } := by
    intro b l
    refine (b1 b).put (i := 23) (by omega) rfl ?_ rfl rfl rfl rfl
    intro j hj hne
    unfold rackCell
    by_cases h1 : j = 21
    · subst h1; rfl
    by_cases h2 : j = 22
    · subst h2; rfl
    by_cases h3 : j < 21
    · simp [h3]
    · omega
  have k2 : ∀ (b : Bool) (l : Nat), Keep B w ((w.setCell ⟨r, 22, none⟩ (.bool b)).setCell ⟨r, 23, none⟩ (.int .i64 (l : Int))) := fun b l => ((Keep.refl B w).setRack h.blk h.hr 22 (.bool b)).setRack (b1 b).blk h.hr 23 _
  have B2 := Lib.hid b2
  have K2 := Lib.hid k2
  have H0 := Lib.hid h0
  clear h h0 b1 b2 k2
  unfold RS.arm
  by_cases hn0 : 0 ≤ n
  · obtain ⟨l, rfl⟩ : ∃ l : Nat, n = (l : Int) := ⟨n.toNat, by omega⟩
    have t1 : ((l : Int) < 0) = False := by simp
    have t2 : decide (0 ≤ (l : Int)) = true := by simp
    simp only [t2, Int.toNat_natCast]
    go_enter Tryz.func23, Tryz.ntmps23
    go_wp2_with fail
    go_end0
    exact ⟨rfl, ⟨⟨H0.out.nd1, H0.out.nd2, H0.out.ns1, H0.out.ns2, by show l ≤ _; omega, H0.out.cost, H0.out.wp, H0.out.lp⟩, m1, m2, v, B2.out true l⟩, K2.out true l⟩
  · have t1 : (n < 0) = True := by simp; omega
    have t2 : decide (0 ≤ n) = false := by simp; omega
    have t3 : (0 ≤ n) = False := by simp; omega
    have t4 : n.toNat = 0 := by omega
    simp only [t2, t4]
    go_enter Tryz.func23, Tryz.ntmps23
    go_wp2_with fail
    go_end0
    exact ⟨rfl, ⟨⟨H0.out.nd1, H0.out.nd2, H0.out.ns1, H0.out.ns2, Nat.zero_le _, H0.out.cost, H0.out.wp, H0.out.lp⟩, m1, m2, v, B2.out false 0⟩, K2.out false 0⟩
end Go.Proofs.YthioanenljpclaaGreatDoor
namespace Go.Proofs.YthioanenljpclaaGreatDoor
set_option maxRecDepth 100000
open Go.RowKit
set_option linter.unusedVariables false

theorem zero_waiting (w : World) : (Sem.run Tryz.prog (zeroValue 89) w) = .ok (.agg (waitA ⟨0, 0, zeros⟩)) w := by kernel_rfl
theorem zero_sector (w : World) : (Sem.run Tryz.prog (zeroValue 87) w) = .ok (.agg (secA zeros)) w := by kernel_rfl
theorem isize_waiting : (Tryz.prog.info? 89).map (·.size) = some 130 := by kernel_rfl
theorem isize_sector : (Tryz.prog.info? 87).map (·.size) = some 128 := by kernel_rfl
theorem isize_place : (Tryz.prog.info? 84).map (·.size) = some 2 := by kernel_rfl

/-- the cells of the row -/
theorem row_cells {w : World} {B g n c : Nat} {W : Nat → Wt} (h : w.ownsRow B 89 130 (.slice (some ⟨g, 0, none⟩) n c) n (flat W n)) :
    ∃ cur, Blk w g 89 cur ∧ ∀ k j, k < n → j < 130 → cur[k * 130 + j]? = (waitA (W k))[j]? := by
  rcases h.2 with ⟨e, _⟩ | ⟨g', cap, cur, e, _, hg, _, _, hs, ht⟩
  · simp at e
  · simp only [Value.slice.injEq, Option.some.injEq, Addr.mk.injEq] at e
    obtain ⟨⟨e, _⟩, _⟩ := e
    subst e
    refine ⟨cur, hg, fun k j hk hj => ?_⟩
    have h1 := flat_get W hj hk
    rw [← ht, List.getElem?_take_of_lt (by omega), Array.getElem?_toList] at h1
    exact h1
theorem load_row {w : World} {B g n c : Nat} {W : Nat → Wt} (h : w.ownsRow B 89 130 (.slice (some ⟨g, 0, none⟩) n c) n (flat W n)) {k : Nat} (hk : k < n) :
    (Instr.loadAt 89 (.pointer (some ⟨g, k * 130, none⟩))).run Tryz.prog w = .ok (.agg (waitA (W k))) w := by
  obtain ⟨cur, hb, hc⟩ := row_cells h
  exact load_part hb Tryz.underlying89 rfl (by rw [waitA_size]; exact isize_waiting) (fun j hj => hc k j hk (by rw [waitA_size] at hj; exact hj))
theorem waitA_head (v : Wt) : ∀ j, j < (#[Value.int .i64 (v.d : Int), .int .i64 (v.a : Int)] : Array Value).size → (waitA v)[0 + j]? = (#[Value.int .i64 (v.d : Int), .int .i64 (v.a : Int)] : Array Value)[j]? := by
  intro j hj
  unfold waitA
  rw [Nat.zero_add, Array.getElem?_append_left hj]
theorem waitA_tail (v : Wt) : ∀ j, j < (secA v.x).size → (waitA v)[2 + j]? = (secA v.x)[j]? := by
  intro j hj
  unfold waitA
  rw [Array.getElem?_append_right (by simp)]
  congr 1
  simp

theorem alloc_waiting (w : World) : (Instr.alloc 89 true (.tuple #[])).run Tryz.prog w = .ok (.pointer (some ⟨w.heap.size, 0, none⟩)) (w.alloc (.cells (waitA ⟨0, 0, zeros⟩) 89)) := by kernel_rfl
theorem alloc_sector (w : World) : (Instr.alloc 87 true (.tuple #[])).run Tryz.prog w = .ok (.pointer (some ⟨w.heap.size, 0, none⟩)) (w.alloc (.cells (secA zeros) 87)) := by kernel_rfl
theorem store_newW (w : World) (v v' : Wt) : (Instr.storeAt 89 (.pointer (some ⟨w.heap.size, 0, none⟩)) (.agg (waitA v'))).run Tryz.prog (w.alloc (.cells (waitA v) 89)) = .ok () (w.alloc (.cells (waitA v') 89)) :=
  run_storeAt_new w _ _ _ (by rw [waitA_size]; exact isize_waiting) (by rw [waitA_size, waitA_size]) (waitA_one v')
theorem store_newS (w : World) (x y : Nat → Nat) : (Instr.storeAt 87 (.pointer (some ⟨w.heap.size, 0, none⟩)) (.agg (secA y))).run Tryz.prog (w.alloc (.cells (secA x) 87)) = .ok () (w.alloc (.cells (secA y) 87)) :=
  run_storeAt_new w _ _ _ (by rw [secA_size]; exact isize_sector) (by rw [secA_size, secA_size]) (secA_one y)
/-- the place of a waiting write that lies in a block of its own -/
theorem load_wplace {w : World} {g : Nat} {v : Wt} (h : Blk w g 89 (waitA v)) : (Instr.loadAt 84 (.pointer (some ⟨g, 0, none⟩))).run Tryz.prog w = .ok (pkey v.d v.a) w :=
  load_part h Tryz.underlying84 rfl (by simpa using isize_place) (waitA_head v)
theorem wplace0 {w : World} {g : Nat} {v : Wt} (h : Blk w g 89 (waitA v)) : w.cell? ⟨g, 0, none⟩ = some (.int .i64 (v.d : Int)) := (h.cell 0).trans (waitA_head v 0 (by simp))
theorem wplace1 {w : World} {g : Nat} {v : Wt} (h : Blk w g 89 (waitA v)) : w.cell? ⟨g, 1, none⟩ = some (.int .i64 (v.a : Int)) := (h.cell 1).trans (waitA_head v 1 (by simp))
theorem load_wsector {w : World} {g : Nat} {v : Wt} (h : Blk w g 89 (waitA v)) : (Instr.loadAt 87 (.pointer (some ⟨g, 2, none⟩))).run Tryz.prog w = .ok (.agg (secA v.x)) w :=
  load_part h Tryz.underlying87 rfl (by rw [secA_size]; exact isize_sector) (waitA_tail v)

/-- what 'await' turns of a rack: what waits -/
structure Reset (s s' : RS) : Prop where
  nd : s'.nd = s.nd
  ns : s'.ns = s.ns
  gone : s'.gone = s.gone
  off : s'.off = s.off
  armed : s'.armed = s.armed
  left : s'.left = s.left
theorem Reset.cells {s s' : RS} (h : Reset s s') (m1 m2 m2' : Nat) (v v' : Value) (j : Nat) (h3 : j ≠ 3) (h4 : j ≠ 4) : rackCell s' m1 v' m2' j = rackCell s m1 v m2 j := by
  unfold rackCell
  rw [h.nd, h.ns, h.gone, h.off, h.armed, h.left, if_neg h3, if_neg h4, if_neg h3, if_neg h4]

theorem zero_int (w : World) : (Sem.run Tryz.prog (zeroValue 3) w) = .ok (.int .i64 0) w := by kernel_rfl
/-- the sector of one of the row's elements -/
theorem load_rowS {w : World} {B g n c : Nat} {W : Nat → Wt} (h : w.ownsRow B 89 130 (.slice (some ⟨g, 0, none⟩) n c) n (flat W n)) {k : Nat} (hk : k < n) :
    (Instr.loadAt 87 (.pointer (some ⟨g, k * 130 + 2, none⟩))).run Tryz.prog w = .ok (.agg (secA (W k).x)) w := by
  obtain ⟨cur, hb, hc⟩ := row_cells h
  exact load_part hb Tryz.underlying87 rfl (by rw [secA_size]; exact isize_sector) (fun j hj => by
    rw [secA_size] at hj
    rw [Nat.add_assoc, hc k (2 + j) hk (by omega), waitA_tail _ _ (by rw [secA_size]; exact hj)])
theorem own_slice {w : World} {B n : Nat} {e : TypeId} {c : Nat} {v : Value} {xs : List Value} (h : w.ownsRow B e c v n xs) (hn : 0 < n) : ∃ g cap, v = .slice (some ⟨g, 0, none⟩) n cap := by
  rcases h.2 with ⟨_, e⟩ | ⟨g, cap, cur, e, _⟩
  · omega
  · exact ⟨g, cap, e⟩
end Go.Proofs.YthioanenljpclaaGreatDoor
namespace Go.Proofs.YthioanenljpclaaGreatDoor
set_option maxRecDepth 100000
open Go.RowKit
set_option linter.unusedVariables false

set_option maxRecDepth 100000 in
set_option maxHeartbeats 400000 in
theorem await_any (B : Nat) (w : World) (r m1 : Nat) (A : Option Addr) (n c : Nat) (s s' : RS) (hrs : Reset s s') (cs : Array Value) (hb : Blk w r 68 cs) (hcs : cs.size = 24) (hcell : ∀ j, j < 24 → j ≠ 3 → j ≠ 4 → cs[j]? = some (rackCell s m1 (.slice A n c) 0 j)) (hr : B ≤ r) (h1 : B ≤ m1) (hm1 : m1 ≠ r)
    (hn : n = s'.nw) (hl : ∃ n F, n + s'.nw ≤ s'.cost ∧ MapS w m1 n F ∧ ∀ d a, d < 4611686018427387904 → a < 4611686018427387904 → (F d a).getD (.agg (secA zeros)) = .agg (secA (s'.last d a)))
    (hrow : w.ownsRow B 89 130 (.slice A n c) n (flat s'.W n)) (hok : s'.ok) :
    Calls Tryz.prog 30 #[.pointer (some ⟨r, 0, none⟩), .slice A n c] w fun e w' => e = .returned (.tuple #[]) ∧ RackAt B w' r s' ∧ Keep B w w' := by
  have hc3 : ∃ x, w.cell? ⟨r, 3, none⟩ = some x := by
    rw [hb.cell]
    exact ⟨_, Array.getElem?_eq_getElem (by omega)⟩
  have hc4 : ∃ x, w.cell? ⟨r, 4, none⟩ = some x := by
    rw [hb.cell]
    exact ⟨_, Array.getElem?_eq_getElem (by omega)⟩
  obtain ⟨x3, c3⟩ := hc3
  obtain ⟨x4, c4⟩ := hc4
  have f3 := hb.frozen 3
  have f4 := hb.frozen 4
  have hlt := hb.lt
  -- the rack with an empty second map
  have b1 := hb.set_ 3 (.slice A n c)
  have b2 := (b1.set_ 4 (.map (some w.heap.size))).alloc (.map #[] 0)
  have e2 : (cs.setIfInBounds 3 (.slice A n c)).setIfInBounds 4 (.map (some w.heap.size)) = rackA s' m1 (.slice A n c) w.heap.size := by
    apply Array.ext_getElem?
    intro j
    rw [Array.getElem?_setIfInBounds, Array.getElem?_setIfInBounds, Array.size_setIfInBounds, hcs]
    by_cases hj : j < 24
    · rw [rackA_get _ _ _ _ hj]
      by_cases j4 : 4 = j
      · subst j4; rfl
      · rw [if_neg j4]
        by_cases j3 : 3 = j
        · subst j3; rfl
        · rw [if_neg j3, hcell j hj (fun e => j3 e.symm) (fun e => j4 e.symm), hrs.cells m1 0 w.heap.size (.slice A n c) (.slice A n c) j (fun e => j3 e.symm) (fun e => j4 e.symm)]
    · rw [if_neg (by omega), if_neg (by omega), Array.getElem?_eq_none (by omega), Array.getElem?_eq_none (by simp [rackA]; omega)]
  rw [e2] at b2
  obtain ⟨nl, F, g1, g2, g3⟩ := hl
  have hrn : (Value.slice A n c).ownBlock ≠ some r := fun e => by
    obtain ⟨_, cs', hb'⟩ := own_blk hrow e
    exact Blk.ne_ hb' hb (by decide) rfl
  have R0 : RackK B (((w.setCell ⟨r, 3, none⟩ (.slice A n c)).setCell ⟨r, 4, none⟩ (.map (some w.heap.size))).alloc (.map #[] 0)) r m1 w.heap.size (.slice A n c) s' 0 := by
    have hsz : ((w.setCell ⟨r, 3, none⟩ (.slice A n c)).setCell ⟨r, 4, none⟩ (.map (some w.heap.size))).heap.size = w.heap.size := by simp [World.setCell]
    refine ⟨b2, hr, h1, Nat.le_trans hr (Nat.le_of_lt hlt), ?_, ⟨nl, F, g1, (((g2.setCell (p := ⟨r, 3, none⟩) hm1 _).setCell (p := ⟨r, 4, none⟩) hm1 _).alloc _), g3⟩, ?_, ?_⟩
    · have := g2.lt
      omega
    · have := MapFp.made (okv := anyV) ((w.setCell ⟨r, 3, none⟩ (.slice A n c)).setCell ⟨r, 4, none⟩ (.map (some w.heap.size)))
      rw [hsz] at this
      exact this
    · rw [← hn]
      refine ⟨hrow.1, ?_⟩
      rcases hrow.2 with e | ⟨g, cap, cur, e, k1, k2, k3⟩
      · exact .inl e
      · refine .inr ⟨g, cap, cur, e, k1, ?_, k3⟩
        have hgr : g ≠ r := fun x => hrn (by rw [e, x]; rfl)
        have hg : Blk w g 89 cur := k2
        exact ((hg.far (p := ⟨r, 3, none⟩) hgr _).far (p := ⟨r, 4, none⟩) hgr _).alloc _
  have K0 : Keep B w (((w.setCell ⟨r, 3, none⟩ (.slice A n c)).setCell ⟨r, 4, none⟩ (.map (some w.heap.size))).alloc (.map #[] 0)) :=
    (((Keep.refl B w).setRack hb hr 3 _).setRack b1 hr 4 _).alloc (by simp [World.setCell]; omega) _
  have R := Lib.hid R0
  have K := Lib.hid K0
  have OK := Lib.hid hok
  have hcost := hok.cost
  have hmk : ∀ w : World, (Instr.makeMap 65 none).run Tryz.prog w = .ok (.map (some w.heap.size)) (w.alloc (.map #[] 0)) := fun w => by kernel_rfl
  have HN := Lib.hid hn
  have hrowA : Hid (0 < n → ∃ g, A = some ⟨g, 0, none⟩) := by
    intro h0
    rcases hrow.2 with ⟨_, e⟩ | ⟨g, cap, cur, e, _⟩
    · omega
    · injection e with e _
      exact ⟨g, e⟩
  have hn6 : n ≤ 1000000 := by omega
  clear hn
  clear R0 K0 b1 b2 e2 hrow hb hcell hok g2 g3 hrn
  go_enter Tryz.func30, Tryz.ntmps30
  go_wp2_with fail
  go_loopw [16] (fun x wr => ∃ k : Nat, k ≤ n ∧ x = .int .i64 k ∧ Hid (RackK B wr r m1 w.heap.size (.slice A n c) s' k) ∧ Hid (Keep B w wr)) (fun x _ => n - (intOf x).toNat)
  case atStart => exact ⟨0, by omega, rfl, R, K⟩
  case round =>
    obtain ⟨k, hk, rfl, R1, K1⟩ := hrel
    clear R K
    by_cases hlt2 : k < n
    · obtain ⟨g, rfl⟩ := hrowA.out (by omega)
      have hld := load_row (W := s'.W) (g := g) (c := c) (n := n) (by have := R1.out.row; rw [← HN.out] at this; exact this) hlt2
      have i1 : (0 : Int) ≤ (k : Int) := by omega
      have i2 : (k : Int) < (n : Int) := by omega
      go_wp2_with (refine wpList_loadX rfl 89 _ rfl _ _ rfl hld ?_; refine of_hid ?_)
      refine Lib.hid ?_
      refine wpList_allocX rfl 89 rfl _ (alloc_waiting _) ?_
      refine wpList_assignX rfl _ rfl _ rfl ?_
      refine wpList_storeX rfl 89 (.tmp 5) (.tmp 20) rfl (.pointer (some ⟨wr.heap.size, 0, none⟩)) (.agg (waitA (s'.W k))) rfl rfl (store_newW wr ⟨0, 0, zeros⟩ (s'.W k)) ?_
      have hbx := Lib.hid (Blk.new wr 89 (waitA (s'.W k)))
      have R2 := Lib.hid (R1.out.alloc (.cells (waitA (s'.W k)) 89))
      have K2 := Lib.hid (K1.out.alloc R1.out.le (.cells (waitA (s'.W k)) 89))
      generalize wr.heap.size = bx at *
      clear R1 K1 hld
      generalize wr.alloc (.cells (waitA (s'.W k)) 89) = w2 at *
      have c4' := R2.out.c4
      have hb0 := wplace0 hbx.out
      have hb1 := wplace1 hbx.out
      have hw := OK.out.wp k (by rw [← HN.out]; exact hlt2)
      go_wp2_with fail
      refine region_quiet_tail 7 (by kernel_rfl) (by kernel_rfl) ?_
      simp only [List.take_succ_cons, List.take_zero, List.drop_succ_cons, List.drop_zero]
      repeat (quiet_step (fail))
      refine wpQuiet_nil ?_
      rintro _ ⟨nq, rfl⟩
      refine wpList_mapPut rfl _ _ _ 65 3 rfl Tryz.underlying65 w.heap.size k _ rfl (R2.out.newest.drewN nq) (by simp only [maxLen]; have := R2.out.nw_le; rw [← HN.out] at this; omega) (s'.W k).d (s'.W k).a (by have := OK.out.nd2; omega) (by have := OK.out.ns2; omega) (.int .i64 (k : Int)) rfl rfl rfl ?_
      intro w3 hm3 hg3 hs3
      have R3 : Hid (RackK B w3 r m1 w.heap.size (.slice (some ⟨g, 0, none⟩) n c) s' (k + 1)) := (R2.out.drewN nq).step hg3 hm3
      have K3 : Hid (Keep B w w3) := (K2.out.drewN nq).ofMap (R2.out.newest.drewN nq) hg3 R2.out.h2
      clear hm3 hg3
      go_wp2_with fail
      go_roundw
      case rel => exact ⟨k + 1, by omega, by go_num, R3, K3⟩
      case measure => simp [intOf]; omega
    · have e : k = n := by omega
      subst e
      go_wp2_with fail
      go_end0
      rw [HN.out] at R1
      exact ⟨rfl, ⟨OK.out, m1, w.heap.size, _, R1.out⟩, K1.out⟩

theorem await_nil (B : Nat) (w : World) (r m1 : Nat) (s s' : RS) (v : Value) (hrs : Reset s s') (m2 : Nat) (hb : Blk w r 68 (rackA s m1 v m2)) (hr : B ≤ r) (h1 : B ≤ m1) (hm1 : m1 ≠ r)
    (hn : s'.nw = 0) (hl : ∃ n F, n ≤ s'.cost ∧ MapS w m1 n F ∧ ∀ d a, d < 4611686018427387904 → a < 4611686018427387904 → (F d a).getD (.agg (secA zeros)) = .agg (secA (s'.last d a))) (hok : s'.ok) :
    Calls Tryz.prog 30 #[.pointer (some ⟨r, 0, none⟩), .slice none 0 0] w fun e w' => e = .returned (.tuple #[]) ∧ RackAt B w' r s' ∧ Keep B w w' := by
  refine await_any B w r m1 none 0 0 s s' hrs _ hb (by simp [rackA]) (fun j hj j3 j4 => ?_) hr h1 hm1 hn.symm (by rw [hn]; exact hl) ⟨rfl, .inl ⟨rfl, rfl⟩⟩ hok
  rw [rackA_get _ _ _ _ hj]
  unfold rackCell
  rw [if_neg j3, if_neg j4, if_neg j3, if_neg j4]
end Go.Proofs.YthioanenljpclaaGreatDoor
