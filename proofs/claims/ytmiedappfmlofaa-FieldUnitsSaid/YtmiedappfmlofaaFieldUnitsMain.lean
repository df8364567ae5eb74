/-
  The walk of 'FieldUnits' at one to eight right sides: unit equations are answered by their right sides; a row twice is no system.
-/
import Derived.Test.YtmiedappfmlofaaFieldSys
import Derived.BigRegion
namespace Go.Proofs.Ytmiedappfmlofaa
open Go.RowKit
set_option linter.unusedVariables false

namespace fieldUnits
/-- the unit vectors -/
def unitX (i j : Nat) : Nat := if j = i then 1 else 0
theorem unit_lt (i j : Nat) : unitX i j < 256 := by unfold unitX; split <;> omega

/-- rows that are unit vectors, in blocks of their own -/
def RowsAt (w : World) (base n i : Nat) (v : Value) : Prop :=
  ∃ R : Nat → Nat, w.ownsRow base 37 1 v i ((List.range i).map fun j => Value.slice (some ⟨R j, 0, none⟩) n n) ∧ ∀ j, j < i → base ≤ R j ∧ Blk w (R j) 5 (rowArr n (unitX j))

theorem RowsAt.only {w w' : World} {base n i g : Nat} {v : Value} (h : RowsAt w base n i v) (ho : Only g w w') (hg : w.heap.size ≤ g ∨ Fld w g) : RowsAt w' base n i v := by
  obtain ⟨R, h1, h2⟩ := h
  refine ⟨R, own_only h1 ho ?_, fun j hj => ⟨(h2 j hj).1, ho.blk (h2 j hj).2 ?_⟩⟩
  · rcases hg with hg | hg
    · intro e
      have := (h1.lt g e).2
      omega
    · exact hg.own_ne h1 (by decide)
  · rcases hg with hg | hg
    · have := (h2 j hj).2.lt
      omega
    · exact hg.ne_u8 (h2 j hj).2
/-- what the rows read as -/
theorem RowsAt.reads {w : World} {base n : Nat} {v : Value} (h : RowsAt w base n n v) (hn : 1 ≤ n) : ∃ (gr cap : Nat) (R : Nat → Nat), v = .slice (some ⟨gr, 0, none⟩) n cap ∧ n ≤ cap ∧ cap ≤ maxLen ∧ base ≤ gr ∧ w.ownsRow base 37 1 v n ((List.range n).map fun j => Value.slice (some ⟨R j, 0, none⟩) n n) ∧ (∀ j, j < n → base ≤ R j ∧ Blk w (R j) 5 (rowArr n (unitX j))) ∧
    RdR w w.heap.size (some ⟨gr, 0, none⟩) n (fun j => some ⟨R j, 0, none⟩) (fun _ => n) (fun _ => n) unitX := by
  obtain ⟨R, h1, h2⟩ := h
  rcases h1.2 with ⟨_, hz⟩ | ⟨gr, cap, cur, rfl, hb, hg, hc1, hc2, _⟩
  · omega
  refine ⟨gr, cap, R, rfl, hc1, hc2, hb, h1, h2, fun i hi => ⟨gr, 0, rfl, (Array.getElem?_eq_some_iff.1 hg).1, ?_, ?_⟩⟩
  · rw [Nat.zero_add, h1.cellAt i (by omega)]
    simp [hi]
  · intro j hj
    obtain ⟨b, o, e1, _, e3, e4⟩ := rdb_of_blk (h2 i hi).2 (fun c _ => unit_lt i c) j hj
    exact ⟨b, o, e1, by injection e1 with e1; injection e1 with e1 _; rw [← e1]; exact (h2 i hi).2.lt, e3, e4⟩
theorem unit_sum (n i : Nat) (hi : i < n) (y : Nat → Nat) (hy : ∀ j, j < n → y j < 256) : y i = M.xsum n (fun k => M.gmul (unitX i k) (y k)) := by
  rw [M.xsum_one n _ i hi (fun j _ hne => by unfold unitX; rw [if_neg hne, M.gmul_zero_left])]
  unfold unitX
  rw [if_pos rfl, M.gmul_comm, M.gmul_one (hy i hi)]
/-- rows of which the second stands twice -/
def twice (i j : Nat) : Nat := if i = 0 then unitX 1 j else unitX i j
theorem twice_lt (i j : Nat) : twice i j < 256 := by unfold twice; split <;> exact unit_lt _ _
def first (j : Nat) : Nat := if j = 0 then 1 else 0
theorem twice_sol (n : Nat) (hn : 1 ≤ n) (y : Nat → Nat) : M.Sol n (joinM n twice y) first := by
  intro i hi
  apply M.xsum_zero
  intro j hj
  by_cases e : j = 0
  · subst e
    have e1 : joinM n twice y i 0 = 0 := by
      unfold joinM twice unitX
      rw [if_pos (by omega)]
      by_cases e2 : i = 0
      · rw [if_pos e2, if_neg (by omega)]
      · rw [if_neg e2, if_neg (fun x => e2 x.symm)]
    rw [e1, M.gmul_zero_left]
  · unfold first
    rw [if_neg e, M.gmul_zero_right]
theorem unit_only (n : Nat) (y z : Nat → Nat) (hz : M.SmallV n z) (hn : z n = 0) (h : M.Sol n (joinM n unitX y) z) : ∀ j, j < n → z j = 0 := by
  intro j hj
  have hu : M.Units n (joinM n unitX y) n := fun a ha b hb => by
    unfold joinM unitX
    rw [if_pos ha]
    by_cases e : b = a
    · rw [if_pos e, if_pos e.symm]
    · rw [if_neg e, if_neg (fun x => e x.symm)]
  have h1 := (M.sol_done hu hz).1 h j hj
  rw [hn, M.gmul_zero_right] at h1
  exact h1

set_option maxRecDepth 100000 in
set_option maxHeartbeats 1600000 in
theorem main (A : Option Addr) (n c : Nat) (y : Nat → Nat) (w : World) (hn : 1 ≤ n) (hn8 : n ≤ 8) (hv : RdB w w.heap.size A n y) :
    Calls Try.prog 10 #[.slice A n c] w fun e w' => e = .returned (.bool true) ∧ Below w.heap.size w w' := by
  have HV := Lib.hid hv
  clear hv
  have hmk := fun W => make_bytes n (by omega) W (n : Int) rfl
  have t1 : ((n : Int) < 1) = False := by simp; omega
  have t2 : ((8 : Int) < (n : Int)) = False := by simp; omega
  go_enter Try.func10, Try.ntmps10
  go_wp2_with fail
  refine (known_any _).mono ?_
  rintro e w1 ⟨rfl, hb1⟩
  have B1 := Lib.hid hb1
  clear hb1
  go_wp2_with fail
  have RA0 : Hid (RowsAt w1 w.heap.size n 0 (.slice none 0 0)) := ⟨fun _ => 0, ⟨rfl, .inl ⟨rfl, rfl⟩⟩, fun j hj => absurd hj (Nat.not_lt_zero _)⟩
  go_loopw [6, 7] (fun r s wr => ∃ i : Nat, i ≤ n ∧ s = .int .i64 i ∧ Hid (RowsAt wr w.heap.size n i r) ∧ Hid (Below w.heap.size w wr)) (fun _ s _ => n - (intOf s).toNat)
  case atStart => exact ⟨0, by omega, rfl, RA0, B1⟩
  case round =>
    obtain ⟨i, hi, rfl, RA, B2⟩ := hrel
    clear RA0 B1
    by_cases hlt : i < n
    · have hcell := rowArr_get (f := fun _ => 0) hlt
      have hbz : w.heap.size ≤ wr.heap.size := B2.out.size
      obtain ⟨R, hown, hrows⟩ := RA.out
      have OW := Lib.hid ((hown.alloc (.cells ((rowArr n fun _ => 0).setIfInBounds i (.int .u8 1)) 5)).alloc (.cells #[.slice (some ⟨wr.heap.size, 0, none⟩) n n] 37))
      have HROWS := Lib.hid hrows
      have HOWN := Lib.hid hown
      clear hown hrows RA
      go_wp2_with (at_builtin; refine wpList_append1 rfl (.tmp 45) (.tmp 47) _ rfl w.heap.size 37 (.slice none 0 0) 24 Try.underlying36 info_bytes rfl (by omega) _ i _ rfl OW.out ⟨wr.heap.size + 1, 0, none⟩ rfl (.slice (some ⟨wr.heap.size, 0, none⟩) n n) rfl (by simp) (by omega) (by simp; omega) ?_; intro v' w' hv' hg')
      have B3 : Hid (Below w.heap.size w w') := (((B2.out.alloc hbz _).alloc (by simp; omega) _).grown hg' (by simp; omega) (fun k hk => (HOWN.out.lt k hk).1))
      have RA3 : Hid (RowsAt w' w.heap.size n (i + 1) v') := by
        refine ⟨fun j => if j = i then wr.heap.size else R j, ?_, ?_⟩
        · rw [List.range_succ, List.map_append, List.map_cons, List.map_nil]
          have e : (List.range i).map (fun j => Value.slice (some ⟨if j = i then wr.heap.size else R j, 0, none⟩) n n) = (List.range i).map (fun j => Value.slice (some ⟨R j, 0, none⟩) n n) := by
            apply List.map_congr_left
            intro j hj
            have hj' : j < i := by simpa using hj
            rw [if_neg (by omega)]
          dsimp only
          rw [e, if_pos rfl]
          exact hv'
        · intro j hj
          dsimp only
          by_cases e : j = i
          · subst e
            rw [if_pos rfl]
            refine ⟨hbz, ?_⟩
            have h := ((Blk.new wr 5 ((rowArr n fun _ => 0).setIfInBounds j (.int .u8 1))).alloc (.cells #[.slice (some ⟨wr.heap.size, 0, none⟩) n n] 37)).grown hg' (fun e => (ownBlock_ne OW.out ((Blk.new wr 5 ((rowArr n fun _ => 0).setIfInBounds j (.int .u8 1))).alloc _) (by decide)) e.symm)
            have e2 : (rowArr n fun _ => 0).setIfInBounds j (.int .u8 1) = rowArr n (unitX j) := rowArr_set (v := 1) hlt
            rw [e2] at h
            exact h
          · rw [if_neg e]
            obtain ⟨h1, h2⟩ := HROWS.out j (by omega)
            refine ⟨h1, ?_⟩
            have h3 := (h2.alloc (.cells ((rowArr n fun _ => 0).setIfInBounds i (.int .u8 1)) 5)).alloc (.cells #[.slice (some ⟨wr.heap.size, 0, none⟩) n n] 37)
            exact h3.grown hg' (fun e => (ownBlock_ne OW.out h3 (by decide)) e.symm)
      clear hv' hg' OW HROWS HOWN
      go_roundw
      case rel => exact ⟨i + 1, by omega, by go_num, RA3, B3⟩
      case measure => simp [intOf]; omega
    · have e : i = n := by omega
      rw [e] at RA
      have RA2 := Lib.hid RA.out
      clear e
      have hsz : w.heap.size ≤ wr.heap.size := B2.out.size
      clear RA hmk
      go_wp2_with fail
      refine (fresh_any _).mono ?_
      rintro e w4 ⟨rfl, hf4, hb4, hs4⟩
      have RA4 := Lib.hid (RA2.out.only (Only.of_below hb4 wr.heap.size) (.inl (Nat.le_refl _)))
      have B4 := Lib.hid (B2.out.trans (hb4.mono hsz))
      have F4 := Lib.hid hf4
      have hsz4 : w.heap.size ≤ w4.heap.size := B4.out.size
      clear RA2 hb4 hf4 hs4
      generalize wr.heap.size = g at *
      obtain ⟨gr, cap, R, hvv, hc1, hc2, hgr, hown, hrows, hrd⟩ := RA4.out.reads hn
      subst hvv
      have HOWN := Lib.hid hown
      have HROWS := Lib.hid hrows
      have HRD := Lib.hid hrd
      clear hown hrows hrd
      have HVL : Hid (∀ j, j < n → y j < 256) := fun j hj => by obtain ⟨_, _, _, _, _, h5⟩ := HV.out j hj; exact h5
      have hneg : w.heap.size ≤ g := hsz
      have HRS : Hid (∀ w1, Only g w4 w1 → RdR w1 w4.heap.size (some ⟨gr, 0, none⟩) n (fun j => some ⟨R j, 0, none⟩) (fun _ => n) (fun _ => n) unitX) := by
        intro w1 ho i hi
        obtain ⟨b', o', e1, e2, e3, e4⟩ := HRD.out i hi
        injection e1 with e1
        injection e1 with e1 e1'
        subst e1; subst e1'
        have hne1 : gr ≠ g := fun e => F4.out.own_ne HOWN.out (by decide) (by rw [e]; rfl)
        refine ⟨gr, 0, rfl, e2, ho.cell e3 hne1, e4.only ho (fun b o e _ => ?_)⟩
        injection e with e
        injection e with e _
        rw [← e]
        exact F4.out.ne_u8 (HROWS.out i hi).2
      have HYS : Hid (∀ w1, Only g w4 w1 → RdB w1 w.heap.size A n y) := fun w1 ho => (HV.out.below B4.out (Nat.le_refl _)).below (ho.below hneg hsz4) (Nat.le_refl _)
      have HSQ : Hid (IsSq n n (fun _ => n)) := ⟨hn, hn8, rfl, fun _ _ => rfl⟩
      go_wp2_with fail
      refine (solve_ok g (some ⟨gr, 0, none⟩) A n cap c w4.heap.size w.heap.size (fun j => some ⟨R j, 0, none⟩) (fun _ => n) (fun _ => n) unitX y w4 (Nat.le_refl _) hsz4 HRS.out HYS.out HSQ.out F4.out).mono ?_
      rintro e w5 ⟨hs5, hf5, ho5⟩
      have B5 := Lib.hid (B4.out.trans (ho5.below hneg hsz4))
      have RA5 := Lib.hid (RA4.out.only ho5 (.inr F4.out))
      have HV5 := Lib.hid (HV.out.below B5.out (Nat.le_refl _))
      have OW5 := Lib.hid (own_only HOWN.out ho5 (F4.out.own_ne HOWN.out (by decide)))
      have hsz5 : w.heap.size ≤ w5.heap.size := B5.out.size
      have HROWS5 : Hid (∀ j, j < n → Blk w5 (R j) 5 (rowArr n (unitX j))) := fun j hj => ho5.blk (HROWS.out j hj).2 (F4.out.ne_u8 (HROWS.out j hj).2)
      have HS := Lib.hid hs5
      clear hs5 hf5 ho5 HRS HYS HRD HOWN RA4
      rcases HS.out with ⟨g', X, hg', hb', hX, hsol⟩ | ⟨z, hz, hzn, hzne, hzs⟩
      · have heq := one_eq (v := y) HVL.out hX (fun i hi => unit_sum n i hi y HVL.out) hsol
        have hcv1 := convert_rd (cap := n) (rdb_of_blk hb' hX) hn
        have hcv2 := convert_rd (cap := c) HV5.out hn
        rw [txt_congr heq] at hcv1
        generalize txt n y = tx at *
        clear HS hg' hb' hX hsol heq
        by_cases h1 : n = 1
        · have t3 : ((n : Int) == 1) = true := by rw [h1]; rfl
          clear h1
          go_wp2_with fail
          go_ret
          exact ⟨rfl, B5.out⟩
        · have t3 : ((n : Int) == 1) = false := beq_eq_false_iff_ne.2 (by omega)
          have d0 : w5.cell? ⟨gr, 0, none⟩ = some (.slice (some ⟨R 0, 0, none⟩) n n) := by
            rw [OW5.out.cellAt 0 (by omega), List.getElem?_map, List.getElem?_range (by omega)]; rfl
          have d1 : w5.cell? ⟨gr, 1, none⟩ = some (.slice (some ⟨R 1, 0, none⟩) n n) := by
            rw [OW5.out.cellAt 1 (by omega), List.getElem?_map, List.getElem?_range (by omega)]; rfl
          have f0 := OW5.out.frozenAt 0
          have B6 : Hid (Below w.heap.size w (w5.setCell ⟨gr, 0, none⟩ (.slice (some ⟨R 1, 0, none⟩) n n))) := B5.out.setCell (p := ⟨gr, 0, none⟩) hgr _
          have OW6 := Lib.hid (OW5.out.stored 0 (.slice (some ⟨R 1, 0, none⟩) n n)).1
          have HROWS6 : Hid (∀ j, j < n → Blk (w5.setCell ⟨gr, 0, none⟩ (.slice (some ⟨R 1, 0, none⟩) n n)) (R j) 5 (rowArr n (unitX j))) := fun j hj =>
            (HROWS5.out j hj).far (p := ⟨gr, 0, none⟩) (fun e => ownBlock_ne OW5.out (HROWS5.out j hj) (by decide) (by rw [e]; rfl)) _
          have hc2' : (1 : Int) < (cap : Int) := by omega
          go_wp2_with fail
          have hsz6 : w.heap.size ≤ (w5.setCell ⟨gr, 0, none⟩ (.slice (some ⟨R 1, 0, none⟩) n n)).heap.size := B6.out.size
          clear d0 d1 f0 hcv1 hcv2
          generalize w5.setCell ⟨gr, 0, none⟩ (.slice (some ⟨R 1, 0, none⟩) n n) = w6 at *
          refine (fresh_any _).mono ?_
          rintro e w7 ⟨rfl, hf7, hb7, hs7⟩
          have B7 := Lib.hid (B6.out.trans (hb7.mono hsz6))
          have F7 := Lib.hid hf7
          have OW7 := Lib.hid (own_only OW6.out (Only.of_below hb7 w6.heap.size) (fun e => by have := (OW6.out.lt _ e).2; omega))
          have HROWS7 : Hid (∀ j, j < n → Blk w7 (R j) 5 (rowArr n (unitX j))) := fun j hj => (HROWS6.out j hj).below hb7 (HROWS6.out j hj).lt
          have hsz7 : w.heap.size ≤ w7.heap.size := B7.out.size
          clear hb7 hf7 hs7
          generalize w6.heap.size = g7 at *
          have HRS : Hid (∀ w1, Only g7 w7 w1 → RdR w1 w7.heap.size (some ⟨gr, 0, none⟩) n (fun j => some ⟨if j = 0 then R 1 else R j, 0, none⟩) (fun _ => n) (fun _ => n) twice) := by
            intro w1 ho i hi
            have hne1 : gr ≠ g7 := fun e => F7.out.own_ne OW7.out (by decide) (by rw [e]; rfl)
            have hcell : w7.cell? ⟨gr, i, none⟩ = some (.slice (some ⟨if i = 0 then R 1 else R i, 0, none⟩) n n) := by
              rw [OW7.out.cellAt i (by omega), List.getElem?_set, List.getElem?_map, List.getElem?_range hi]
              by_cases e : 0 = i
              · rw [if_pos e, if_pos (by simp; omega), if_pos e.symm]
              · rw [if_neg e, if_neg (fun x => e x.symm)]; rfl
            refine ⟨gr, 0, rfl, (OW7.out.lt gr rfl).2, by rw [Nat.zero_add]; exact ho.cell hcell hne1, ?_⟩
            intro j hj
            by_cases e : i = 0
            · subst e
              have hb := HROWS7.out 1 (by omega)
              refine ⟨R 1, 0, rfl, hb.lt, ?_, twice_lt _ _⟩
              rw [Nat.zero_add]
              refine ho.cell ?_ (F7.out.ne_u8 hb)
              rw [hb.cell, rowArr_get hj]
              rfl
            · have hb := HROWS7.out i hi
              refine ⟨R i, 0, by show some _ = some _; rw [if_neg e], hb.lt, ?_, twice_lt _ _⟩
              rw [Nat.zero_add]
              refine ho.cell ?_ (F7.out.ne_u8 hb)
              rw [hb.cell, rowArr_get hj]
              unfold twice
              rw [if_neg e]
          have HYS : Hid (∀ w1, Only g7 w7 w1 → RdB w1 w.heap.size A n y) := fun w1 ho => (HV.out.below B7.out (Nat.le_refl _)).below (ho.below hsz6 hsz7) (Nat.le_refl _)
          go_wp2_with fail
          refine (solve_ok g7 (some ⟨gr, 0, none⟩) A n cap c w7.heap.size w.heap.size (fun j => some ⟨if j = 0 then R 1 else R j, 0, none⟩) (fun _ => n) (fun _ => n) twice y w7 (Nat.le_refl _) hsz7 HRS.out HYS.out HSQ.out F7.out).mono ?_
          rintro e w8 ⟨hs8, hf8, ho8⟩
          have B8 := Lib.hid (B7.out.trans (ho8.below hsz6 hsz7))
          have HS8 := Lib.hid hs8
          clear hs8 hf8 ho8 HRS HYS
          rcases HS8.out with ⟨g8, X8, hg8, hb8, hX8, hsol8⟩ | ⟨z, hz, hzn, hzne, hzs⟩
          · exact (not_one (z := first) (y := y) (y' := y) (fun j _ => by unfold first; split <;> omega) (if_neg (by omega)) ⟨0, by omega, by decide⟩ (twice_sol n hn y) hsol8).elim
          · clear HS8 hz hzn hzne hzs
            go_wp2_with fail
            go_ret
            exact ⟨rfl, B8.out⟩
      · obtain ⟨j, hj, hjne⟩ := hzne
        exact absurd (unit_only n y z hz hzn hzs j hj) hjne
end fieldUnits
end Go.Proofs.Ytmiedappfmlofaa
