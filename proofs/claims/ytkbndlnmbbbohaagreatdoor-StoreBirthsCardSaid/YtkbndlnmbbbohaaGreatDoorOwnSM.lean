/-
  'parity.sums' by a contract. Conditions: there is a column, and all are as long as the first.
-/
import Derived.Test.YtkbndlnmbbbohaaGreatDoorFieldJoinM
import Derived.Deep.QuietTactic
import Derived.BigQuiet
namespace Go.Proofs.YtkbndlnmbbbohaaGreatDoor
open Go.RowKit
set_option maxRecDepth 100000
set_option linter.unusedVariables false

theorem hdP_congr {n m i : Nat} {R S : Nat → Nat} (h : ∀ j, j < i → R j = S j) : hdP n m i R = hdP n m i S := by
  unfold hdP
  congr 1
  funext j
  by_cases e : j.val < i
  · rw [if_pos e, if_pos e, h _ e]
  · rw [if_neg e, if_neg e]
/-- behind j rows of 'sums' -/
structure SumsAt (w0 w : World) (b n k j : Nat) (x : Nat → Nat → Nat) (R : Nat → Nat) : Prop where
  head : Blk w w0.heap.size 41 (hdP 3 n j R)
  row : ∀ i, i < j → w0.heap.size < R i ∧ RowG w (R i) n (M.par k i x)
  fld : Fld w b
  only : Only b w0 w
  apart : ∀ i i', i < i' → i' < j → R i ≠ R i'
theorem SumsAt.next {w0 w w3 : World} {b n k j : Nat} {x : Nat → Nat → Nat} {R : Nat → Nat} (h : SumsAt w0 w b n k j x R) (hj : j < 3) (hb : b < w0.heap.size)
    (hf : Fld w3 b) (hg : RowG w3 w.heap.size n (fun v => 0 ^^^ M.par k j x v))
    (ho : Only2 b w.heap.size ((w.alloc (.cells (rowArr n fun _ => 0) 5)).setCell ⟨w0.heap.size, j, none⟩ (.slice (some ⟨w.heap.size, 0, none⟩) n n)) w3) :
    SumsAt w0 w3 b n k (j + 1) x (fun i => if i = j then w.heap.size else R i) := by
  have hs := h.only.size
  have hlt := h.head.lt
  have sz : ((w.alloc (.cells (rowArr n fun _ => 0) 5)).setCell ⟨w0.heap.size, j, none⟩ (.slice (some ⟨w.heap.size, 0, none⟩) n n)).heap.size = w.heap.size + 1 := by simp [World.setCell]
  have hh := (h.head.alloc (.cells (rowArr n fun _ => 0) 5)).set_ j (.slice (some ⟨w.heap.size, 0, none⟩) n n)
  rw [hdP_congr (S := fun i => if i = j then w.heap.size else R i) (fun i hi => (if_neg (by omega)).symm)] at hh
  have e : (hdP 3 n j fun i => if i = j then w.heap.size else R i).setIfInBounds j (.slice (some ⟨w.heap.size, 0, none⟩) n n) = hdP 3 n (j + 1) (fun i => if i = j then w.heap.size else R i) := by
    have h1 := hdP_set (n := 3) (m := n) (R := fun i => if i = j then w.heap.size else R i) hj
    simp only [if_true] at h1
    exact h1
  rw [e] at hh
  refine ⟨(ho.block _ (by omega) (by omega) (by omega)).trans hh, fun i hi => ?_, hf, ?_, fun i i' h1 h2 => ?_⟩
  · by_cases e2 : i = j
    · subst e2
      simp only [if_true]
      exact ⟨hlt, hg.congr fun v _ => Nat.zero_xor _⟩
    · simp only [if_neg e2]
      obtain ⟨h1, h2⟩ := h.row i (by omega)
      have hl := h2.lt
      refine ⟨h1, ?_⟩
      have h3 := (h2.alloc (.cells (rowArr n fun _ => 0) 5)).far (p := ⟨w0.heap.size, j, none⟩) (show R i ≠ w0.heap.size by omega) (.slice (some ⟨w.heap.size, 0, none⟩) n n)
      exact h3.heap (ho.block _ (by omega) (by omega) (by omega))
  · have o1 : Only b w0 ((w.alloc (.cells (rowArr n fun _ => 0) 5)).setCell ⟨w0.heap.size, j, none⟩ (.slice (some ⟨w.heap.size, 0, none⟩) n n)) :=
      (h.only.alloc _).setNew (p := ⟨w0.heap.size, j, none⟩) (Nat.le_refl _) _
    exact ⟨ho.os.trans o1.os, ho.tape.trans o1.tape, ho.output.trans o1.output, Nat.le_trans o1.size ho.size, fun i hi hne =>
      (ho.block i (by omega) (fun e => hne (by rw [e])) (by omega)).trans (o1.block i hi hne)⟩
  · have hl := (h.row i (by omega)).2.lt
    show (if i = j then w.heap.size else R i) ≠ (if i' = j then w.heap.size else R i')
    rw [if_neg (by omega)]
    by_cases e2 : i' = j
    · rw [if_pos e2]; omega
    · rw [if_neg e2]; exact h.apart i i' h1 (by omega)

set_option maxHeartbeats 1600000 in
theorem sums_any (b n k cd B : Nat) (A : Option Addr) (ra : Nat → Option Addr) (rl rc : Nat → Nat) (x : Nat → Nat → Nat) (w : World) (hb : Fld w b) (hr : RdR w B A k ra rl rc x) (hl : ∀ i, i < k → rl i = n)
    (hk0 : 0 < k) (hk : k ≤ 60) (hbb : B ≤ b) (hn : n ≤ 4096) (hB : B ≤ w.heap.size) :
    Calls Tryz.prog 129 #[.pointer (some ⟨b, 0, none⟩), .slice A k cd] w fun e w' => e = .returned (.slice (some ⟨w.heap.size, 0, none⟩) 3 3) ∧ ∃ R, SumsAt w w' b n k 3 x R := by
  have hmk : ∀ W : World, (Instr.makeSlice 139 (.int .i64 3) (.int .i64 3)).run Tryz.prog W = .ok (.slice (some ⟨W.heap.size, 0, none⟩) 3 3) (W.alloc (.cells (hdP 3 n 0 (fun j => w.heap.size + 1 + j)) 41)) := fun W => make_rows 3 n (fun j => w.heap.size + 1 + j) (by omega) W
  have hmb := fun W => make_bytes n (by omega) W (n : Int) rfl
  have hbl := hb.lt
  have J0 : Hid (SumsAt w (w.alloc (.cells (hdP 3 n 0 (fun j => w.heap.size + 1 + j)) 41)) b n k 0 x (fun j => w.heap.size + 1 + j)) :=
    ⟨Blk.new _ _ _, fun j hj => absurd hj (by omega), hb.alloc _, (Only.refl _ _).alloc _, fun i i' _ h => absurd h (by omega)⟩
  have HR := Lib.hid hr
  have HL := Lib.hid hl
  have HBD : Hid (B ≤ b ∧ B ≤ w.heap.size ∧ b < w.heap.size) := ⟨hbb, hB, hbl⟩
  clear hr hl hb hbb hB hbl
  go_enter Tryz.func129, Tryz.ntmps129
  go_wp2_with fail
  generalize hwz : w.heap.size = z at *
  go_loopw [10] (fun v wr => ∃ i : Nat, i ≤ 3 ∧ v = .int .i64 i ∧ ∃ R, Hid (SumsAt w wr b n k i x R)) (fun v _ => 3 - (intOf v).toNat)
  case atStart => exact ⟨0, by omega, rfl, _, J0⟩
  case round =>
    obtain ⟨i, hi, rfl, R, H⟩ := hrel
    clear J0
    by_cases hlt : i < 3
    · have sz := H.out.only.size
      rw [hwz] at sz
      have hh := H.out.head
      rw [hwz] at hh
      have BL : Hid (Below B w wr) := H.out.only.below HBD.out.1 (by rw [hwz]; exact HBD.out.2.1)
      have XR := Lib.hid (HR.out.below BL.out (Nat.le_refl _))
      obtain ⟨bx, ox, rfl, hbx, hcx, _⟩ := XR.out 0 hk0
      rw [HL.out 0 hk0, Nat.add_zero] at hcx
      have h1 : ∀ o, (wr.alloc o).cell? ⟨z, i, none⟩ = some (.slice none 0 0) := fun o => by
        rw [(hh.alloc o).cell, hdP_get hlt, if_neg (by omega)]
      have f1 : ∀ o, (wr.alloc o).frozen? ⟨z, i, none⟩ = false := fun o => (hh.alloc o).frozen i
      have hzl := hh.lt
      have d1 : ((wr.alloc (.cells (rowArr n fun _ => 0) 5)).setCell ⟨z, i, none⟩ (.slice (some ⟨wr.heap.size, 0, none⟩) n n)).cell? ⟨z, i, none⟩ = some (.slice (some ⟨wr.heap.size, 0, none⟩) n n) := World.cell?_setCell_same _ _ _ (h1 _)
      have G1 : Hid (RowG ((wr.alloc (.cells (rowArr n fun _ => 0) 5)).setCell ⟨z, i, none⟩ (.slice (some ⟨wr.heap.size, 0, none⟩) n n)) wr.heap.size n (fun _ => 0)) :=
        RowG.far (RowG.of_blk (Blk.new wr 5 (rowArr n fun _ => 0)) (Nat.le_refl _)) (p := ⟨z, i, none⟩) (show wr.heap.size ≠ z by omega) _
      have F1 : Hid (Fld ((wr.alloc (.cells (rowArr n fun _ => 0) 5)).setCell ⟨z, i, none⟩ (.slice (some ⟨wr.heap.size, 0, none⟩) n n)) b) :=
        (H.out.fld.alloc _).far (p := ⟨z, i, none⟩) (show b ≠ z by have := HBD.out.2.2; omega) _
      have B1 : Hid (Below B wr ((wr.alloc (.cells (rowArr n fun _ => 0) 5)).setCell ⟨z, i, none⟩ (.slice (some ⟨wr.heap.size, 0, none⟩) n n))) :=
        ((Below.refl B wr).alloc (by have := HBD.out.2.1; omega) _).setCell (p := ⟨z, i, none⟩) HBD.out.2.1 _
      have X1 := Lib.hid (XR.out.below B1.out (Nat.le_refl _))
      have S1 : Hid (B ≤ ((wr.alloc (.cells (rowArr n fun _ => 0) 5)).setCell ⟨z, i, none⟩ (.slice (some ⟨wr.heap.size, 0, none⟩) n n)).heap.size) := by
        have h := HBD.out.2.1
        have e : ((wr.alloc (.cells (rowArr n fun _ => 0) 5)).setCell ⟨z, i, none⟩ (.slice (some ⟨wr.heap.size, 0, none⟩) n n)).heap.size = wr.heap.size + 1 := by simp [World.setCell]
        show B ≤ _
        rw [e]
        omega
      have HWZ := Lib.hid hwz
      have HZL := Lib.hid hzl
      clear hh BL XR hbx B1 hmk hwz hzl
      go_wp2_with fail
      refine (addData_any b wr.heap.size i n k n cd B _ ra rl rc x (fun _ => 0) _ F1.out G1.out X1.out HL.out (fun _ => (by omega)) hlt hk (by have := HBD.out.2.1; omega) HBD.out.1 (by have := HBD.out.2.2; have := HZL.out; omega) hn S1.out).mono ?_
      rintro e w3 ⟨rfl, hf3, hg3, ho3⟩
      have H3 := Lib.hid (H.out.next hlt (by rw [HWZ.out]; exact HBD.out.2.2) hf3 hg3 (by rw [HWZ.out]; exact ho3))
      clear hf3 hg3 ho3 F1 G1 X1 S1 H h1 f1 d1 hcx
      go_wp2_with fail
      go_roundw
      case rel => exact ⟨i + 1, by omega, by go_num, _, H3⟩
      case measure => simp [intOf]; omega
    · obtain rfl : i = 3 := by omega
      have HWZ := Lib.hid hwz
      clear hmk hwz
      go_wp2_with fail
      go_ret
      exact ⟨by rw [HWZ.out]; rfl, R, H.out⟩
end Go.Proofs.YtkbndlnmbbbohaaGreatDoor
namespace Go.Proofs.YtkbndlnmbbbohaaGreatDoor
open Go.RowKit
set_option maxRecDepth 100000
set_option linter.unusedVariables false

set_option maxHeartbeats 400000 in
theorem length_nil (k cd B : Nat) (A : Option Addr) (ra : Nat → Option Addr) (rl rc : Nat → Nat) (x : Nat → Nat → Nat) (w : World) (hr : RdR w B A k ra rl rc x) (hk0 : 0 < k) :
    Calls Tryz.prog 163 #[.slice A k cd, .slice none 0 0] w fun e w' => e = .returned (.int .i64 (rl 0 : Nat)) ∧ w = w' := by
  obtain ⟨bx, ox, rfl, hbx, hcx, _⟩ := hr 0 hk0
  rw [Nat.add_zero] at hcx
  clear hr
  go_enter Tryz.func163, Tryz.ntmps163
  go_wp2
  go_loop [9] (fun x => x = .int .i64 ((0 : Nat) : Int)) (fun x => k - (intOf x).toNat)
  case atStart => rfl
  case round =>
    obtain rfl := hrel
    generalize ra 0 = r1 at *
    generalize rc 0 = c1 at *
    generalize hn : rl 0 = n at *
    have HN := Lib.hid hn
    clear hn
    go_wp2
    go_ret
    exact ⟨by rw [HN.out]; rfl, rfl⟩

/-- Have they one length that a column may have? -/
def Alike (k : Nat) (rl : Nat → Nat) : Prop := 1 ≤ rl 0 ∧ rl 0 ≤ 4096 ∧ ∀ i, i < k → rl i = rl 0

set_option maxHeartbeats 400000 in
theorem alike_yes (k cd B : Nat) (A : Option Addr) (ra : Nat → Option Addr) (rl rc : Nat → Nat) (x : Nat → Nat → Nat) (w : World) (hr : RdR w B A k ra rl rc x) (hk0 : 0 < k) (hk : k ≤ 16) (ha : Alike k rl) :
    Calls Tryz.prog 128 #[.slice A k cd, .slice none 0 0] w fun e w' => e = .returned (.bool true) ∧ w = w' := by
  obtain ⟨h1, h2, h3⟩ := ha
  have HA := Lib.hid h3
  have HR := Lib.hid hr
  have t1 : ((rl 0 : Int) < 1) = False := by simp; omega
  have t2 : ((4096 : Int) < (rl 0 : Int)) = False := by simp; omega
  clear h3 hr
  go_enter Tryz.func128, Tryz.ntmps128
  go_wp2_with fail
  refine (length_nil k cd B A ra rl rc x _ HR.out hk0).mono ?_
  rintro e w1 ⟨rfl, rfl⟩
  generalize hn : rl 0 = n at *
  have HN := Lib.hid hn
  clear hn
  go_wp2_with fail
  go_loop [1, 19] (fun y x => ∃ i : Nat, i ≤ k ∧ y = .slice none 0 0 ∧ x = .int .i64 i) (fun y x => k - (intOf x).toNat)
  case atStart => exact ⟨0, by omega, rfl, rfl⟩
  case round =>
    obtain ⟨i, hi, rfl, rfl⟩ := hrel
    by_cases hlt : i < k
    · obtain ⟨bx, ox, rfl, hbx, hcx, _⟩ := HR.out i hlt
      rw [HA.out i hlt] at hcx
      generalize ra i = r1 at *
      generalize rc i = c1 at *
      clear hbx
      go_wp2_with fail
      go_round
      case rel => exact ⟨i + 1, by omega, rfl, by go_num⟩
      case measure => simp [intOf]; omega
    · obtain rfl : i = k := by omega
      go_wp2_with fail
      go_ret
      exact ⟨rfl, rfl⟩

end Go.Proofs.YtkbndlnmbbbohaaGreatDoor
namespace Go.Proofs.YtkbndlnmbbbohaaGreatDoor
open Go.RowKit
set_option maxRecDepth 100000
set_option linter.unusedVariables false

theorem RdR.drewN {w : World} {B n : Nat} {A : Option Addr} {ra : Nat → Option Addr} {rl rc : Nat → Nat} {x : Nat → Nat → Nat} (h : RdR w B A n ra rl rc x) (m : Nat) : RdR (w.drewN m) B A n ra rl rc x := h

end Go.Proofs.YtkbndlnmbbbohaaGreatDoor
namespace Go.Proofs.YtkbndlnmbbbohaaGreatDoor
open Go Go.RowKit Go.Lib
set_option maxRecDepth 100000
set_option linter.unusedVariables false

/-- a row's head: where, length, capacity -/
abbrev Hd := Option Addr × Nat × Nat
def hdV (h : Hd) : Value := .slice h.1 h.2.1 h.2.2
/-- n heads that lie below block B -/
def RdH (w : World) (B : Nat) (A : Option Addr) (n : Nat) (X : Nat → Hd) : Prop := ∀ i, i < n → ∃ b o, A = some ⟨b, o, none⟩ ∧ b < B ∧ w.cell? ⟨b, o + i, none⟩ = some (hdV (X i))
theorem infoS : (Tryz.prog.info? 41).map (fun i => (i.zero, i.size, i.bytes)) = some (some (.slice none 0 0), 1, 24) := by kernel_rfl
theorem sizeOf_bytes (w : World) : (sizeOf 41).run Tryz.prog w = .ok 1 w := by
  obtain ⟨i0, hi, hz0, hz1, hz2⟩ := info_parts infoS
  simp [sizeOf, typeInfo, hi, hz1]
def headsL (n : Nat) (X : Nat → Hd) : List Value := (List.range n).map fun j => hdV (X j)
theorem headsL_length (n : Nat) (X : Nat → Hd) : (headsL n X).length = n := by simp [headsL]
theorem headsL_get {n j : Nat} (X : Nat → Hd) (h : j < n) : (headsL n X)[j]? = some (hdV (X j)) := by simp [headsL, h]
theorem headsL_mem {n : Nat} {X : Nat → Hd} : ∀ u ∈ headsL n X, u.oneCell' = true := fun u hu => by
  simp only [headsL, List.mem_map] at hu
  obtain ⟨j, _, rfl⟩ := hu
  rfl
/-- X, and Y behind -/
def catS (n : Nat) (X Y : Nat → Hd) (j : Nat) : Hd := if j < n then X j else Y (j - n)
theorem headsL_cat (n m : Nat) (X Y : Nat → Hd) : headsL n X ++ headsL m Y = headsL (n + m) (catS n X Y) := by
  apply List.ext_getElem?
  intro j
  by_cases h : j < n
  · rw [List.getElem?_append_left (by rw [headsL_length]; exact h), headsL_get X h, headsL_get _ (by omega)]
    unfold catS
    rw [if_pos h]
  · rw [List.getElem?_append_right (by rw [headsL_length]; omega), headsL_length]
    by_cases h2 : j < n + m
    · rw [headsL_get Y (by omega), headsL_get _ h2]
      unfold catS
      rw [if_neg h]
    · rw [List.getElem?_eq_none (by rw [headsL_length]; omega), List.getElem?_eq_none (by rw [headsL_length]; omega)]
/-- the call's own row of n bytes -/
def OwnS (w : World) (base : Nat) (v : Value) (n : Nat) (X : Nat → Hd) : Prop :=
  (v = .slice none 0 0 ∧ n = 0) ∨ ∃ g cap cur fr, v = .slice (some ⟨g, 0, none⟩) n cap ∧ base ≤ g ∧ w.heap[g]? = some (.cells cur 41 fr) ∧ freeTail fr cap ∧ n ≤ cap ∧ cap ≤ maxLen ∧ cur.size = cap ∧ ∀ j, j < n → cur[j]? = some (hdV (X j))
theorem OwnS.nil (w : World) (base : Nat) (X : Nat → Hd) : OwnS w base (.slice none 0 0) 0 X := .inl ⟨rfl, rfl⟩
theorem OwnS.shape {w : World} {base n : Nat} {v : Value} {X : Nat → Hd} (h : OwnS w base v n X) :
    ∃ A c, v = .slice A n c ∧ RdH w w.heap.size A n X ∧ n ≤ c ∧ c ≤ maxLen ∧ (∀ g o, A = some ⟨g, o, none⟩ → base ≤ g) ∧ (A = none → c = 0) := by
  rcases h with ⟨rfl, rfl⟩ | ⟨g, cap, cur, fr, rfl, hg, hb, h0, h1, h2, h3, h4⟩
  · exact ⟨none, 0, rfl, fun j hj => absurd hj (by omega), by omega, by simp [maxLen], fun g o e => (by cases e), fun _ => rfl⟩
  · exact ⟨_, _, rfl, fun j hj => ⟨g, 0, rfl, lt_of_heap hb, by rw [Nat.zero_add, cell_of_row _ _ _ _ _ _ hb]; exact h4 j hj⟩, h1, h2, fun g' o e => by injection e with e; injection e with e _; omega, fun e => (by cases e)⟩
theorem OwnS.congr {w : World} {base n : Nat} {v : Value} {X Y : Nat → Hd} (h : OwnS w base v n X) (e : ∀ j, j < n → X j = Y j) : OwnS w base v n Y := by
  rcases h with h | ⟨g, cap, cur, fr, rfl, hg, hb, h0, h1, h2, h3, h4⟩
  · exact .inl h
  · exact .inr ⟨g, cap, cur, fr, rfl, hg, hb, h0, h1, h2, h3, fun j hj => by rw [← e j hj]; exact h4 j hj⟩
theorem OwnS.keep {w w' : World} {base n : Nat} {v : Value} {X : Nat → Hd} (h : OwnS w base v n X) (hk : ∀ g, v.ownBlock = some g → w'.heap[g]? = w.heap[g]?) : OwnS w' base v n X := by
  rcases h with h | ⟨g, cap, cur, fr, rfl, hg, hb, h3⟩
  · exact .inl h
  · exact .inr ⟨g, cap, cur, fr, rfl, hg, (hk g rfl).trans hb, h3⟩
theorem OwnS.lt {w : World} {base n g : Nat} {v : Value} {X : Nat → Hd} (h : OwnS w base v n X) (hg : v.ownBlock = some g) : g < w.heap.size ∧ base ≤ g := by
  rcases h with ⟨rfl, _⟩ | ⟨g', cap, cur, fr, rfl, hb, hblk, _⟩
  · simp [Value.ownBlock] at hg
  · simp [Value.ownBlock] at hg
    subst hg
    exact ⟨lt_of_heap hblk, hb⟩
theorem OwnS.below {w w' : World} {base n B : Nat} {v : Value} {X : Nat → Hd} (h : OwnS w base v n X) (hk : Below B w w') (hB : w.heap.size ≤ B) : OwnS w' base v n X :=
  h.keep fun g hg => hk.block g (by have := (h.lt hg).1; omega)
theorem OwnS.base {w : World} {base base' n : Nat} {v : Value} {X : Nat → Hd} (h : OwnS w base v n X) (hb : base' ≤ base) : OwnS w base' v n X := by
  rcases h with h | ⟨g, cap, cur, fr, rfl, hg, h3⟩
  · exact .inl h
  · exact .inr ⟨g, cap, cur, fr, rfl, Nat.le_trans hb hg, h3⟩
theorem grow_rowS {w : World} {n m cap : Nat} {olds : List Value} {X Y : Nat → Hd} (ho : olds = headsL n X) (hl : n + m ≤ 100000) :
    OwnS (w.drew.alloc (.cells (olds.toArray ++ (headsL m Y).toArray ++ Builtin.zeroCells (Value.slice none 0 0).cells (grownCap w (n + m) cap 41 - (n + m))) 41)) w.heap.size (.slice (some ⟨w.heap.size, 0, none⟩) (n + m) (grownCap w (n + m) cap 41)) (n + m) (catS n X Y) := by
  have hge := grownCap_ge w (n + m) cap 41
  have hcm : grownCap w (n + m) cap 41 ≤ maxLen := grownCap_le_maxLen w (n + m) cap 41 (by simp only [maxLen]; omega)
  refine .inr ⟨w.heap.size, _, _, (0, 0), rfl, Nat.le_refl _, heap_alloc_new w.drew _, .inl (Nat.le_refl _), hge, hcm, ?_, fun j hj => ?_⟩
  · have hz1 : (Value.slice none 0 0).cells.size = 1 := rfl
    simp only [Array.size_append, List.size_toArray, size_zeroCells, hz1, ho, headsL_length]
    omega
  · have h1 := headsL_cat n m X Y
    have h2 := headsL_get (catS n X Y) hj
    rw [← h1, ← ho] at h2
    rw [Array.getElem?_append_left (by simp [ho, headsL_length]; omega)]
    simpa using h2
theorem put_rowS {cur cur' : Array Value} {n m : Nat} {X Y : Nat → Hd} (h4 : ∀ j, j < n → cur[j]? = some (hdV (X j))) (e : ∀ j, cur'[j]? = if n + 0 ≤ j ∧ j < n + 0 + (headsL m Y).length then (headsL m Y)[j - (n + 0)]? else cur[j]?) :
    ∀ j, j < n + m → cur'[j]? = some (hdV (catS n X Y j)) := fun j hj => by
  rw [e, headsL_length, Nat.add_zero]
  unfold catS
  by_cases h : j < n
  · rw [if_neg (by omega), if_pos h]
    exact h4 j h
  · rw [if_pos ⟨by omega, hj⟩, if_neg h]
    exact headsL_get Y (by omega)
theorem run_append_hd {w : World} {base n B m c : Nat} {v : Value} {A : Option Addr} {X Y : Nat → Hd} (ty : TypeId) (h : OwnS w base v n X) (hy : RdH w B A m Y) (h0 : A = none → c = 0) (hmc : m ≤ c) (hl : n + m ≤ 100000) (hb : base ≤ w.heap.size) :
    ∃ v' w', (Builtin.append_ #[139, 139] ty #[v, .slice A m c]).run Tryz.prog w = .ok v' w' ∧ OwnS w' base v' (n + m) (catS n X Y) ∧ w.grownBy w' v.ownBlock ∧ (v'.ownBlock = v.ownBlock ∨ v'.ownBlock = some w.heap.size) := by
  obtain ⟨i0, hi, hz0, hz1, hz2⟩ := info_parts infoS
  have hsz : ∀ w', (sizeOf 41).run Tryz.prog w' = .ok 1 w' := sizeOf_bytes
  have hne : ∀ m', m = m' + 1 → ∃ ad, A = some ad := fun m' e => by obtain ⟨b, o, e2, _⟩ := hy 0 (by omega); exact ⟨_, e2⟩
  have hnews : ∀ ad, A = some ad → ∀ j u, (headsL m Y)[j]? = some u → w.cell? (ad.add j) = some u := fun ad e j u hj => by
    have hjm : j < m := by have := (List.getElem?_eq_some_iff.1 hj).1; rw [headsL_length] at this; exact this
    rw [headsL_get Y hjm] at hj
    injection hj with hj
    subst hj
    obtain ⟨b, o, h1, h2, h3⟩ := hy j hjm
    rw [e] at h1
    injection h1 with h1
    subst h1
    rw [add_plain]
    exact h3
  have hfc : (Builtin.firstCells 1 m (.slice A m c)).run Tryz.prog w = .ok (headsL m Y).toArray w := by
    cases A with
    | none =>
      have hm : m = 0 := by have := h0 rfl; omega
      subst hm
      exact run_firstCells_none w 1 0 0 c
    | some ad => exact run_firstCells_some (P := Tryz.prog) w 1 m ad m c (headsL m Y) (by rw [headsL_length, Nat.mul_one]) (hnews ad rfl)
  rcases h with ⟨rfl, rfl⟩ | ⟨g, cap, cur, fr, rfl, hg, hblk, hfr, h1, h2, h3, h4⟩
  · by_cases hm : m = 0
    · subst hm
      refine ⟨.slice none 0 0, w, ?_, .inl ⟨rfl, rfl⟩, World.grownBy.refl w _, .inl rfl⟩
      simp [Builtin.append_, run_underlying Tryz.underlying139, hsz, Builtin.lenOf, hfc]
    · obtain ⟨ad, rfl⟩ := hne (m - 1) (by omega)
      have hr := run_append_nil (P := Tryz.prog) w 139 ty 41 i0 (.slice none 0 0) Tryz.underlying139 hi hz0 ad m c (headsL m Y) (by rw [headsL_length, hz1, Nat.mul_one]) (hnews ad rfl) (by omega) (by omega) (by rw [hz2]; omega)
      have hgr := grow_rowS (w := w) (n := 0) (m := m) (cap := 0) (olds := []) (X := X) (Y := Y) rfl (by omega)
      simp only [Nat.zero_add] at hgr hr ⊢
      rw [show (([] : List Value).toArray ++ (headsL m Y).toArray) = (headsL m Y).toArray by simp] at hgr
      exact ⟨_, _, hr, hgr.base hb, ⟨rfl, rfl, rfl, by simp, fun k hk _ => Below.heap_alloc w.drew _ k hk⟩, .inr rfl⟩
  · by_cases hroom : n + m ≤ cap
    · obtain ⟨w', cur', e1, e2, e3, e4, e5, e6⟩ := store_run g n 41 fr (headsL m Y) 0 cur w hblk (by rw [h3]; exact hfr) (by rw [headsL_length]; omega) headsL_mem
      refine ⟨.slice (some ⟨g, 0, none⟩) (n + m) cap, w', ?_, .inr ⟨g, cap, cur', fr, rfl, hg, e2, hfr, hroom, h2, by omega, put_rowS h4 e4⟩, e5, .inl rfl⟩
      simp [Builtin.append_, run_underlying Tryz.underlying139, hsz, Builtin.lenOf, hroom, hfc, Addr.add_lit, e1]
    · obtain ⟨ad, rfl⟩ := hne (m - 1) (by omega)
      have holds : ∀ j u, (headsL n X)[j]? = some u → w.cell? ((⟨g, 0, none⟩ : Addr).add j) = some u := fun j u hj => by
        have hjn : j < n := by have := (List.getElem?_eq_some_iff.1 hj).1; rw [headsL_length] at this; exact this
        rw [headsL_get X hjn] at hj
        injection hj with hj
        subst hj
        rw [add_plain, Nat.zero_add, cell_of_row _ _ _ _ _ _ hblk]
        exact h4 j hjn
      have hr := run_append_grow (P := Tryz.prog) w 139 ty 41 i0 (.slice none 0 0) Tryz.underlying139 hi hz0 ⟨g, 0, none⟩ n cap (headsL n X) (by rw [headsL_length, hz1, Nat.mul_one]) holds ad m c (headsL m Y) (by rw [headsL_length, hz1, Nat.mul_one]) (hnews ad rfl) (by omega) (by omega) (by rw [hz2]; exact growslice_fits (by omega) (by omega))
      exact ⟨_, _, hr, (grow_rowS (w := w) (cap := cap) (Y := Y) rfl hl).base hb, ⟨rfl, rfl, rfl, by simp, fun k hk _ => Below.heap_alloc w.drew _ k hk⟩, .inr rfl⟩
end Go.Proofs.YtkbndlnmbbbohaaGreatDoor
