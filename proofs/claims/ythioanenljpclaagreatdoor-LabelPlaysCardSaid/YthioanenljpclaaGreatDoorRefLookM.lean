/-
  'label.Slots' by a contract. Conditions: the rack is one.
-/
import Derived.Test.YthioanenljpclaaGreatDoorLawIntsM
import Derived.Test.YthioanenljpclaaGreatDoorRackLoseM
import Derived.Test.YthioanenljpclaaGreatDoorRackRot
import Derived.Test.YthioanenljpclaaGreatDoorLabLookM
import Derived.Laws.OwnMore
import Derived.Test.YthioanenljpclaaGreatDoorRackReadM
namespace Go.Proofs.YthioanenljpclaaGreatDoor
open Go Go.RowKit refRack
set_option maxRecDepth 100000
set_option linter.unusedVariables false
namespace Lab
def intR (n : Nat) (F : Nat → Int) : Array Value := Array.ofFn (n := n) fun c => .int .i64 (F c.val)
theorem intR_get {n c : Nat} {F : Nat → Int} (h : c < n) : (intR n F)[c]? = some (.int .i64 (F c)) := by simp [intR, h]
theorem intR_size (n : Nat) (F : Nat → Int) : (intR n F).size = n := by simp [intR]
theorem intR_congr {n : Nat} {F G : Nat → Int} (h : ∀ c, c < n → F c = G c) : intR n F = intR n G := by
  unfold intR
  congr 1
  funext c
  rw [h c.val c.isLt]
theorem intR_set {n c : Nat} {F : Nat → Int} {v : Int} (h : c < n) : (intR n F).setIfInBounds c (.int .i64 v) = intR n (fun j => if j = c then v else F j) := by
  apply Array.ext_getElem?
  intro j
  rw [Array.getElem?_setIfInBounds, intR_size]
  by_cases hj : j < n
  · rw [intR_get hj, intR_get hj]
    by_cases e : c = j
    · rw [if_pos e, if_pos h, if_pos e.symm]
    · rw [if_neg e, if_neg (fun x => e x.symm)]
  · rw [if_neg (by omega), Array.getElem?_eq_none (by rw [intR_size]; omega), Array.getElem?_eq_none (by rw [intR_size]; omega)]
theorem make_ints8 (w : World) : (Instr.makeSlice 32 (.int .i64 8) (.int .i64 8)).run Tryz.prog w = .ok (.slice (some ⟨w.heap.size, 0, none⟩) 8 8) (w.alloc (.cells (intR 8 fun _ => 0) 3)) := by
  obtain ⟨i0, hi, hz0, hz1, hz2⟩ := info_parts info_int
  have h := run_make (P := Tryz.prog) (w := w) 32 3 i0 (.int .i64 0) Tryz.underlying32 hi hz0 .i64 .i64 8 8 (by omega) (by omega) (by rw [hz2]; omega) (by omega)
  have hr : Array.replicate 8 (Value.int .i64 0) = intR 8 fun _ => 0 := by
    apply Array.ext_getElem?
    intro i
    by_cases h : i < 8
    · rw [intR_get h]; simp [h]
    · rw [Array.getElem?_eq_none (by simp; omega), Array.getElem?_eq_none (by rw [intR_size]; omega)]
  rw [h, hz1, show (Value.int .i64 0).cells = #[.int .i64 0] from rfl, madeCells_one, ← hr]
  rfl
theorem deny_ind {s : RS} {d a : Nat} (ha : a < s.ns) (h0 : 0 < s.ns) : s.deny (d : Int) (a : Int) = s.deny (d : Int) 0 := by
  have hp : s.isP (d : Int) (a : Int) = s.isP (d : Int) 0 := by
    unfold RS.isP
    have h1 : decide (0 ≤ (a : Int)) = true := by simp
    have h2 : decide ((a : Int) < (s.ns : Int)) = true := by simpa using ha
    have h3 : decide ((0 : Int) ≤ 0) = true := rfl
    have h4 : decide ((0 : Int) < (s.ns : Int)) = true := by simpa using h0
    rw [h1, h2, h3, h4]
  unfold RS.deny RS.why
  rw [hp]
theorem deny_vals (s : RS) (D A : Int) : s.deny D A = 0 ∨ s.deny D A = 1 ∨ s.deny D A = 3 ∨ s.deny D A = 16 := by
  unfold RS.deny RS.why
  cases s.off <;> cases s.isP D A <;> cases s.gone D.toNat <;> simp
/-- what a slot tells -/
noncomputable def slotI (s : RS) (d a : Nat) : Int := if (found s d a).isSome = true then (lookU s d a).t else -1
section
variable {B : Nat}
set_option maxHeartbeats 3200000 in
theorem slots_yes (w : World) (r : Nat) (s : RS) (d : Nat) (h : RackAt B w r s) (hl : Laid w) (hB : 0 < B) (h8 : 8 < s.ns) (hy : s.deny (d : Int) 0 = 0) :
    Calls Tryz.prog 28 #[.pointer (some ⟨r, 0, none⟩), .int .i64 (d : Int)] w fun e w' => (∃ g, e = .returned (.tuple #[.slice (some ⟨g, 0, none⟩) 8 8, .int .i64 0]) ∧ w.heap.size ≤ g ∧ Blk w' g 3 (intR 8 (slotI s d))) ∧ RackAt B w' r s ∧ Keep B w w' := by
  have HF := Lib.hid (fits_any w r s h)
  rw [show decide (8 < s.ns) = true by simpa using h8] at HF
  have HE : Hid (∀ a, a < 8 → lookE s d a = if (found s d a).isSome = true then 0 else 7) := Lib.hid fun a ha => by
    unfold lookE
    exact if_pos ((deny_ind (d := d) (a := a) (by omega) (by omega)).trans hy)
  have hle := h.le
  have R1 := Lib.hid (h.alloc (.cells (intR 8 fun _ => 0) 3))
  have K1 := Lib.hid ((Keep.refl B w).alloc h.le (.cells (intR 8 fun _ => 0) 3))
  have X1 := Lib.hid (Blk.new w 3 (intR 8 fun _ => 0))
  have HLD := Lib.hid hl
  have hmk := make_ints8 w
  clear h hl h8 hy
  go_enter Tryz.func28, Tryz.ntmps28
  go_wp2_with fail
  refine HF.out.mono ?_
  rintro e w' ⟨rfl, rfl⟩
  go_wp2_with fail
  clear hmk HF
  obtain ⟨gl, hgl⟩ : ∃ gl, gl = w.heap.size := ⟨_, rfl⟩
  rw [← hgl] at X1 ⊢
  have HGL := Lib.hid hgl
  clear hgl
  go_loopw [7, 8, 9, 16] (fun _ _ _ x wr => ∃ (a : Nat) (F : Nat → Int), a ≤ 8 ∧ x = .int .i64 a ∧ Hid (RackAt B wr r s) ∧ Hid (Keep B w wr) ∧ Hid (Blk wr gl 3 (intR 8 F)) ∧ Hid (∀ j, j < a → F j = slotI s d j)) (fun _ _ _ x _ => 8 - (intOf x).toNat)
  case atStart => exact ⟨0, _, by omega, rfl, R1, K1, X1, Lib.hid (fun j hj => absurd hj (Nat.not_lt_zero _))⟩
  case round =>
    obtain ⟨a, F, ha, rfl, R3, K3, X3, S3⟩ := hrel
    clear R1 K1 X1
    by_cases ha8 : a < 8
    · have t1 : decide ((a : Int) < 8) = true := by simp; omega
      have HLK := Lib.hid (look_any wr r s d a R3.out (HLD.out.below K3.out.below hB) hB)
      rw [HE.out a ha8] at HLK
      have HSI : Hid (slotI s d a = if (found s d a).isSome = true then (lookU s d a).t else -1) := Lib.hid rfl
      obtain ⟨u, hu⟩ : ∃ u, u = lookU s d a := ⟨_, rfl⟩
      obtain ⟨bb, hbb⟩ : ∃ bb, bb = (found s d a).isSome := ⟨_, rfl⟩
      rw [← hu, ← hbb] at HSI
      rw [← hu, ← hbb] at HLK
      clear hu hbb
      obtain ⟨ut, ⟨ua, uz, ub, us⟩⟩ := u
      simp only [uA] at HLK
      cases bb with
      | true =>
        rw [if_pos rfl] at HLK HSI
        dsimp only at HSI
        go_wp2_with fail
        refine HLK.out.mono ?_
        rintro e w5 ⟨rfl, h5, k5⟩
        have bV : Below w5.heap.size w5 (w5.alloc (.cells #[.int .i64 ut, .int .i64 ua, .int .i64 uz, .int .i64 ub, .string us] 41)) := (Below.refl _ _).alloc (Nat.le_refl _) _
        have Y5 := (k5.block X3.out rfl).new_ bV
        have c0 : (w5.alloc (.cells #[.int .i64 ut, .int .i64 ua, .int .i64 uz, .int .i64 ub, .string us] 41)).cell? ⟨gl, a, none⟩ = some (.int .i64 (F a)) := (Y5.cell a).trans (intR_get ha8)
        have f0 := Y5.frozen a
        have R6 := Lib.hid ((h5.below bV).far (p := ⟨gl, a, none⟩) (x := .int .i64 ut) Y5 rfl rfl)
        have hBw : B ≤ (w5.alloc (.cells #[.int .i64 ut, .int .i64 ua, .int .i64 uz, .int .i64 ub, .string us] 41)).heap.size := (h5.below bV).le
        have K6 := Lib.hid (((K3.out.trans k5).new bV h5.le).grownNew (g := gl) (grown_set _ gl a (.int .i64 ut)) (by rw [HGL.out]; exact hle) hBw (by rw [HGL.out]; exact Nat.le_refl _))
        have X6 : Hid (Blk ((w5.alloc (.cells #[.int .i64 ut, .int .i64 ua, .int .i64 uz, .int .i64 ub, .string us] 41)).setCell ⟨gl, a, none⟩ (.int .i64 ut)) gl 3 (intR 8 fun j => if j = a then ut else F j)) := Lib.hid (by
          have h := Y5.set_ a (.int .i64 ut)
          rw [intR_set ha8] at h
          exact h)
        have S6 : Hid (∀ j, j < a + 1 → (if j = a then ut else F j) = slotI s d j) := Lib.hid fun j hj => by
          by_cases e : j = a
          · rw [if_pos e, e, HSI.out]
          · rw [if_neg e]; exact S3.out j (by omega)
        clear h5 k5 bV Y5 hBw HLK R3 K3 X3 S3 HSI t1
        go_wp2_with fail
        go_roundw
        case rel => exact ⟨a + 1, _, by omega, by go_num, R6, K6, X6, S6⟩
        case measure => simp [intOf]; omega
      | false =>
        rw [if_neg (by simp)] at HLK HSI
        go_wp2_with fail
        refine HLK.out.mono ?_
        rintro e w5 ⟨rfl, h5, k5⟩
        have bV : Below w5.heap.size w5 (w5.alloc (.cells #[.int .i64 ut, .int .i64 ua, .int .i64 uz, .int .i64 ub, .string us] 41)) := (Below.refl _ _).alloc (Nat.le_refl _) _
        have Y5 := (k5.block X3.out rfl).new_ bV
        have c0 : (w5.alloc (.cells #[.int .i64 ut, .int .i64 ua, .int .i64 uz, .int .i64 ub, .string us] 41)).cell? ⟨gl, a, none⟩ = some (.int .i64 (F a)) := (Y5.cell a).trans (intR_get ha8)
        have f0 := Y5.frozen a
        have R6 := Lib.hid ((h5.below bV).far (p := ⟨gl, a, none⟩) (x := .int .i64 (-1)) Y5 rfl rfl)
        have hBw : B ≤ (w5.alloc (.cells #[.int .i64 ut, .int .i64 ua, .int .i64 uz, .int .i64 ub, .string us] 41)).heap.size := (h5.below bV).le
        have K6 := Lib.hid (((K3.out.trans k5).new bV h5.le).grownNew (g := gl) (grown_set _ gl a (.int .i64 (-1))) (by rw [HGL.out]; exact hle) hBw (by rw [HGL.out]; exact Nat.le_refl _))
        have X6 : Hid (Blk ((w5.alloc (.cells #[.int .i64 ut, .int .i64 ua, .int .i64 uz, .int .i64 ub, .string us] 41)).setCell ⟨gl, a, none⟩ (.int .i64 (-1))) gl 3 (intR 8 fun j => if j = a then -1 else F j)) := Lib.hid (by
          have h := Y5.set_ a (.int .i64 (-1))
          rw [intR_set ha8] at h
          exact h)
        have S6 : Hid (∀ j, j < a + 1 → (if j = a then -1 else F j) = slotI s d j) := Lib.hid fun j hj => by
          by_cases e : j = a
          · rw [if_pos e, e, HSI.out]
          · rw [if_neg e]; exact S3.out j (by omega)
        clear h5 k5 bV Y5 hBw HLK R3 K3 X3 S3 HSI t1
        go_wp2_with fail
        go_roundw
        case rel => exact ⟨a + 1, _, by omega, by go_num, R6, K6, X6, S6⟩
        case measure => simp [intOf]; omega
    · have t1 : decide ((a : Int) < 8) = false := by simp; omega
      have ea : a = 8 := by omega
      have X4 : Hid (Blk wr gl 3 (intR 8 (slotI s d))) := Lib.hid (by
        have h := X3.out
        rw [intR_congr (fun c hc => S3.out c (by omega))] at h
        exact h)
      clear X3 S3 ea
      go_wp2_with fail
      go_ret2
      exact ⟨⟨gl, rfl, by rw [HGL.out]; exact Nat.le_refl _, X4.out⟩, R3.out, K3.out⟩
end
end Lab
end Go.Proofs.YthioanenljpclaaGreatDoor
namespace Go.Proofs.YthioanenljpclaaGreatDoor
open Go Go.RowKit
set_option maxRecDepth 100000
set_option linter.unusedVariables false
namespace refRack
def textV (x : Nat → Nat) : Value := .string (strB 128 x)
def textL (n : Nat) (X : Nat → Nat → Nat) : List Value := (List.range n).map fun a => textV (X a)
def headL (n : Nat) (H C : Nat → Nat) (m : Nat) : List Value := (List.range n).map fun d => .slice (some ⟨H d, 0, none⟩) m (C d)
def boolL (n : Nat) (G : Nat → Bool) : List Value := (List.range n).map fun d => .bool (G d)
def waitV (v : Wt) : List Value := [.int .i64 (v.d : Int), .int .i64 (v.a : Int), textV v.x]
def waitL (W : Nat → Wt) : Nat → List Value
  | 0 => []
  | n + 1 => waitL W n ++ waitV (W n)
theorem textL_get {n a : Nat} (X : Nat → Nat → Nat) (h : a < n) : (textL n X)[a]? = some (textV (X a)) := by simp [textL, h]
theorem headL_get {n d m : Nat} (H C : Nat → Nat) (h : d < n) : (headL n H C m)[d]? = some (.slice (some ⟨H d, 0, none⟩) m (C d)) := by simp [headL, h]
theorem boolL_get {n d : Nat} (G : Nat → Bool) (h : d < n) : (boolL n G)[d]? = some (.bool (G d)) := by simp [boolL, h]
theorem waitL_length (W : Nat → Wt) : ∀ n, (waitL W n).length = n * 3
  | 0 => rfl
  | n + 1 => by
    unfold waitL
    rw [List.length_append, waitL_length W n]
    show n * 3 + 3 = _
    omega
theorem waitL_get (W : Nat → Wt) {j : Nat} (hj : j < 3) : ∀ {n i : Nat}, i < n → (waitL W n)[i * 3 + j]? = (waitV (W i))[j]?
  | 0, i, h => absurd h (Nat.not_lt_zero _)
  | n + 1, i, h => by
    unfold waitL
    by_cases e : i = n
    · subst e
      rw [List.getElem?_append_right (by rw [waitL_length]; omega), waitL_length, show i * 3 + j - i * 3 = j by omega]
    · rw [List.getElem?_append_left (by rw [waitL_length]; omega)]
      exact waitL_get W hj (by omega)
theorem waitL_congr {W V : Nat → Wt} : ∀ {n : Nat}, (∀ i, i < n → W i = V i) → waitL W n = waitL V n
  | 0, _ => rfl
  | n + 1, h => by
    unfold waitL
    rw [waitL_congr fun i hi => h i (by omega), h n (by omega)]
theorem own_keep {w w' : World} {B n c : Nat} {e : TypeId} {v : Value} {xs : List Value} (h : w.ownsRow B e c v n xs) (hk : ∀ g, v.ownBlock = some g → w'.heap[g]? = w.heap[g]?) : w'.ownsRow B e c v n xs := by
  refine ⟨h.1, ?_⟩
  rcases h.2 with h2 | ⟨g, cap, cur, rfl, h2, h3, h4⟩
  · exact .inl h2
  · exact .inr ⟨g, cap, cur, rfl, h2, (hk g rfl).trans h3, h4⟩
theorem own_type {w : World} {B B' n n' c c' : Nat} {e e' : TypeId} {v v' : Value} {xs xs' : List Value} (h : w.ownsRow B e c v n xs) (h' : w.ownsRow B' e' c' v' n' xs') (hne : (e == e') = false) {g : Nat} (hg : v.ownBlock = some g) : v'.ownBlock ≠ some g := fun hg' => by
  rcases h.2 with ⟨rfl, _⟩ | ⟨g1, cap, cur, rfl, _, h3, _⟩
  · cases hg
  · rcases h'.2 with ⟨rfl, _⟩ | ⟨g2, cap2, cur2, rfl, _, h3', _⟩
    · cases hg'
    · simp [Value.ownBlock] at hg hg'
      subst hg
      subst hg'
      rw [h3] at h3'
      injection h3' with h3'
      injection h3' with _ h3' _
      rw [h3'] at hne
      simp at hne
theorem own_not_blk {w : World} {B n c g : Nat} {e t : TypeId} {v : Value} {xs : List Value} {cs : Array Value} (h : w.ownsRow B e c v n xs) (hb : Blk w g t cs) (hne : (e == t) = false) : v.ownBlock ≠ some g := fun hg => by
  rcases h.2 with ⟨rfl, _⟩ | ⟨g1, cap, cur, rfl, _, h3, _⟩
  · cases hg
  · simp [Value.ownBlock] at hg
    subst hg
    unfold Blk at hb
    rw [hb] at h3
    injection h3 with h3
    injection h3 with _ h3 _
    rw [h3] at hne
    simp at hne
theorem own_lt {w : World} {B n c g : Nat} {e : TypeId} {v : Value} {xs : List Value} (h : w.ownsRow B e c v n xs) (hg : v.ownBlock = some g) : g < w.heap.size ∧ B ≤ g := by
  rcases h.2 with ⟨rfl, _⟩ | ⟨g1, cap, cur, rfl, h2, h3, _⟩
  · cases hg
  · simp [Value.ownBlock] at hg
    subst hg
    exact ⟨(Array.getElem?_eq_some_iff.1 h3).1, h2⟩
/-- its power: how many writes are left, -1 where it isn't armed -/
def armI (s : RS) : Int := if s.armed then (s.left : Int) else -1
def cells (s : RS) (vL vG vW : Value) : Array Value := #[vL, vG, vW, .bool s.off, .int .i64 (armI s)]
/-- The document's rack at block g. -/
structure TK (B : Nat) (w : World) (g : Nat) (s : RS) (vL vG vW : Value) (H C : Nat → Nat) : Prop where
  blk : Blk w g 74 (cells s vL vG vW)
  hg : B ≤ g
  heads : w.ownsRow B 75 1 vL s.nd (headL s.nd H C s.ns)
  rows : ∀ d, d < s.nd → w.ownsRow B 9 1 (.slice (some ⟨H d, 0, none⟩) s.ns (C d)) s.ns (textL s.ns (s.last d))
  apart : ∀ d d', d < s.nd → d' < s.nd → d ≠ d' → H d ≠ H d'
  lost : w.ownsRow B 4 1 vG s.nd (boolL s.nd s.gone)
  waits : w.ownsRow B 92 3 vW s.nw (waitL s.W s.nw)
def TAt (B : Nat) (w : World) (g : Nat) (s : RS) : Prop := ∃ vL vG vW H C, TK B w g s vL vG vW H C
section
variable {B : Nat} {w w' : World} {g : Nat} {s : RS} {vL vG vW : Value} {H C : Nat → Nat}
/-- other memory may change -/
theorem TK.keep (h : TK B w g s vL vG vW H C) (hk : ∀ k, B ≤ k → k < w.heap.size → w'.heap[k]? = w.heap[k]?) : TK B w' g s vL vG vW H C := by
  have ok : ∀ {n c : Nat} {e : TypeId} {v : Value} {xs : List Value}, w.ownsRow B e c v n xs → w'.ownsRow B e c v n xs := fun h1 => own_keep h1 fun k hk1 => hk k (own_lt h1 hk1).2 (own_lt h1 hk1).1
  refine ⟨?_, h.hg, ok h.heads, fun d hd => ok (h.rows d hd), h.apart, ok h.lost, ok h.waits⟩
  have hb := h.blk
  have hl := hb.lt
  unfold Blk at hb ⊢
  exact (hk g h.hg hl).trans hb
theorem TK.below (h : TK B w g s vL vG vW H C) (hb : Below w.heap.size w w') : TK B w' g s vL vG vW H C := h.keep fun k _ hk => hb.block k hk
theorem TAt.below (h : TAt B w g s) (hb : Below w.heap.size w w') : TAt B w' g s := by
  obtain ⟨vL, vG, vW, H, C, h⟩ := h
  exact ⟨vL, vG, vW, H, C, h.below hb⟩
theorem TK.c0 (h : TK B w g s vL vG vW H C) : w.cell? ⟨g, 0, none⟩ = some vL := h.blk.cell 0
theorem TK.c1 (h : TK B w g s vL vG vW H C) : w.cell? ⟨g, 1, none⟩ = some vG := h.blk.cell 1
theorem TK.c2 (h : TK B w g s vL vG vW H C) : w.cell? ⟨g, 2, none⟩ = some vW := h.blk.cell 2
theorem TK.c3 (h : TK B w g s vL vG vW H C) : w.cell? ⟨g, 3, none⟩ = some (.bool s.off) := h.blk.cell 3
theorem TK.c4 (h : TK B w g s vL vG vW H C) : w.cell? ⟨g, 4, none⟩ = some (.int .i64 (armI s)) := h.blk.cell 4
theorem TK.shapeL (h : TK B w g s vL vG vW H C) (hn : 0 < s.nd) : ∃ l c, vL = .slice (some ⟨l, 0, none⟩) s.nd c := by
  rcases h.heads.2 with ⟨_, e⟩ | ⟨l, cap, cur, e, _⟩
  · omega
  · exact ⟨l, cap, e⟩
theorem TK.shapeG (h : TK B w g s vL vG vW H C) (hn : 0 < s.nd) : ∃ l c, vG = .slice (some ⟨l, 0, none⟩) s.nd c := by
  rcases h.lost.2 with ⟨_, e⟩ | ⟨l, cap, cur, e, _⟩
  · omega
  · exact ⟨l, cap, e⟩
theorem TK.shapeW (h : TK B w g s vL vG vW H C) : ∃ A c, vW = .slice A s.nw c ∧ (0 < s.nw → ∃ l, A = some ⟨l, 0, none⟩) := by
  rcases h.waits.2 with ⟨e, e2⟩ | ⟨l, cap, cur, e, _⟩
  · exact ⟨none, 0, by rw [e, e2], fun h => by omega⟩
  · exact ⟨_, cap, e, fun _ => ⟨l, rfl⟩⟩
end
end refRack
end Go.Proofs.YthioanenljpclaaGreatDoor
namespace Go.Proofs.YthioanenljpclaaGreatDoor
open Go Go.RowKit
set_option maxRecDepth 100000
set_option linter.unusedVariables false
namespace refRack
def idx (o : Option Nat) : Int := match o with | some i => (i : Int) | none => -1
section
variable {B : Nat} {w w' : World} {g : Nat} {s : RS} {vL vG vW : Value} {H C : Nat → Nat}
theorem TK.shapeL' (h : TK B w g s vL vG vW H C) : ∃ A c, vL = .slice A s.nd c := by
  rcases h.heads.2 with ⟨e, e2⟩ | ⟨l, cap, cur, e, _⟩
  · exact ⟨none, 0, by rw [e, e2]⟩
  · exact ⟨_, cap, e⟩
theorem TK.head (h : TK B w g s vL vG vW H C) {d : Nat} (hd : d < s.nd) : ∃ l c, vL = .slice (some ⟨l, 0, none⟩) s.nd c ∧ w.cell? ⟨l, d, none⟩ = some (.slice (some ⟨H d, 0, none⟩) s.ns (C d)) ∧ w.frozen? ⟨l, d, none⟩ = false := by
  obtain ⟨l, c, rfl⟩ := h.shapeL (by omega)
  exact ⟨l, c, rfl, by rw [h.heads.cellAt d (by omega), headL_get _ _ hd], h.heads.frozenAt d⟩
theorem TK.text (h : TK B w g s vL vG vW H C) {d a : Nat} (hd : d < s.nd) (ha : a < s.ns) : w.cell? ⟨H d, a, none⟩ = some (textV (s.last d a)) ∧ w.frozen? ⟨H d, a, none⟩ = false := by
  exact ⟨by rw [(h.rows d hd).cellAt a (by omega), textL_get _ ha], (h.rows d hd).frozenAt a⟩
theorem TK.gone (h : TK B w g s vL vG vW H C) {d : Nat} (hd : d < s.nd) : ∃ l c, vG = .slice (some ⟨l, 0, none⟩) s.nd c ∧ w.cell? ⟨l, d, none⟩ = some (.bool (s.gone d)) ∧ w.frozen? ⟨l, d, none⟩ = false := by
  obtain ⟨l, c, rfl⟩ := h.shapeG (by omega)
  exact ⟨l, c, rfl, by rw [h.lost.cellAt d (by omega), boolL_get _ hd], h.lost.frozenAt d⟩
theorem TK.wait (h : TK B w g s vL vG vW H C) {i : Nat} (hi : i < s.nw) : ∃ l c, vW = .slice (some ⟨l, 0, none⟩) s.nw c ∧ w.cell? ⟨l, i * 3, none⟩ = some (.int .i64 ((s.W i).d : Int)) ∧ w.cell? ⟨l, i * 3 + 1, none⟩ = some (.int .i64 ((s.W i).a : Int)) ∧ w.cell? ⟨l, i * 3 + 2, none⟩ = some (textV (s.W i).x) := by
  obtain ⟨A, c, rfl, hA⟩ := h.shapeW
  obtain ⟨l, rfl⟩ := hA (by omega)
  refine ⟨l, c, rfl, ?_, ?_, ?_⟩
  · rw [h.waits.cellAt (i * 3) (by omega)]
    exact waitL_get s.W (j := 0) (by omega) hi
  · rw [h.waits.cellAt (i * 3 + 1) (by omega)]
    exact waitL_get s.W (j := 1) (by omega) hi
  · rw [h.waits.cellAt (i * 3 + 2) (by omega)]
    exact waitL_get s.W (j := 2) (by omega) hi
theorem TK.nw_le (h : TK B w g s vL vG vW H C) : s.nw ≤ maxLen := by
  rcases h.waits.2 with ⟨_, e⟩ | ⟨l, cap, cur, e, _, _, h1, h2, _⟩
  · omega
  · omega
theorem is_k (w : World) (g : Nat) (s : RS) (D : Int) (h : TK B w g s vL vG vW H C) :
    Calls Tryz.prog 42 #[.pointer (some ⟨g, 0, none⟩), .int .i64 D] w fun e w' => e = .returned (.bool (s.isD D)) ∧ w' = w := by
  obtain ⟨A, c, rfl⟩ := h.shapeL'
  have c0 := h.c0
  clear h
  by_cases h1 : 0 ≤ D
  · have t1 : decide (0 ≤ D) = true := by simpa using h1
    go_enter Tryz.func42, Tryz.ntmps42
    go_wp2_with fail
    go_ret
    simp [RS.isD, h1]
  · have t1 : decide (0 ≤ D) = false := by simpa using h1
    go_enter Tryz.func42, Tryz.ntmps42
    go_wp2_with fail
    go_ret
    simp [RS.isD, h1]
    intro q
    omega
theorem in_k (w : World) (g : Nat) (s : RS) (D E : Int) (h : TK B w g s vL vG vW H C) :
    Calls Tryz.prog 47 #[.pointer (some ⟨g, 0, none⟩), .int .i64 D, .int .i64 E] w fun e w' => e = .returned (.bool (s.isP D E)) ∧ w' = w := by
  have hi := is_k w g s D h
  by_cases h1 : s.isD D = true
  · rw [h1] at hi
    have HI := Lib.hid hi
    have hn : 0 < s.nd := by simp [RS.isD] at h1; omega
    obtain ⟨l, c, rfl, c1, _⟩ := h.head hn
    have c0 := h.c0
    by_cases h2 : 0 ≤ E
    · have t2 : decide (0 ≤ E) = true := by simpa using h2
      have z1 : (0 : Int) < (s.nd : Int) := by omega
      clear h hi
      go_enter Tryz.func47, Tryz.ntmps47
      go_wp2_with fail
      refine HI.out.mono ?_
      rintro e w' ⟨rfl, rfl⟩
      go_wp2_with fail
      go_ret
      simp [RS.isP, h1, h2]
    · have t2 : decide (0 ≤ E) = false := by simpa using h2
      clear h hi
      go_enter Tryz.func47, Tryz.ntmps47
      go_wp2_with fail
      refine HI.out.mono ?_
      rintro e w' ⟨rfl, rfl⟩
      go_wp2_with fail
      go_ret
      simp [RS.isP, h1, h2]
      intro q
      omega
  · have h1' : s.isD D = false := by simpa using h1
    rw [h1'] at hi
    have HI := Lib.hid hi
    clear h hi
    go_enter Tryz.func47, Tryz.ntmps47
    go_wp2_with fail
    refine HI.out.mono ?_
    rintro e w' ⟨rfl, rfl⟩
    go_wp2_with fail
    go_ret
    simp [RS.isP, h1']
set_option maxHeartbeats 1600000 in
theorem newest_k (w : World) (g : Nat) (s : RS) (d a : Nat) (h : TK B w g s vL vG vW H C) :
    Calls Tryz.prog 48 #[.pointer (some ⟨g, 0, none⟩), .int .i64 (d : Int), .int .i64 (a : Int)] w fun e w' => e = .returned (.int .i64 (idx (newIn s.W d a s.nw))) ∧ w' = w := by
  have HK := Lib.hid h
  have hm := h.nw_le
  unfold maxLen at hm
  obtain ⟨A, c, rfl, _⟩ := h.shapeW
  have c2 := h.c2
  clear h
  obtain ⟨m, hmn⟩ : ∃ m, m = s.nw := ⟨_, rfl⟩
  rw [← hmn] at hm c2 ⊢
  have HM := Lib.hid hmn
  clear hmn
  go_enter Tryz.func48, Tryz.ntmps48
  go_wp2_with fail
  go_loopw [7, 8] (fun o x wr => ∃ i : Nat, i ≤ m ∧ x = .int .i64 i ∧ o = .int .i64 (idx (newIn s.W d a i)) ∧ wr = w) (fun _ x _ => m - (intOf x).toNat)
  case atStart => exact ⟨0, by omega, rfl, rfl, rfl⟩
  case round =>
    obtain ⟨i, hi, rfl, rfl, rfl⟩ := hrel
    by_cases hlt : i < m
    rotate_left
    · obtain rfl : m = i := by omega
      clear hlt
      go_wp2_with fail
      go_ret
      exact ⟨rfl, rfl⟩
    have i1 : (i : Int) < (m : Int) := by omega
    have i0 : (0 : Int) ≤ (i : Int) := by omega
    obtain ⟨l, c', e, k0, k1, _⟩ := HK.out.wait (i := i) (by have := HM.out; omega)
    rw [← HM.out] at e
    injection e with e _ e2
    subst e
    have hsucc := newIn_succ s.W d a i
    obtain ⟨wd, hwd⟩ : ∃ wd, wd = (s.W i).d := ⟨_, rfl⟩
    obtain ⟨wa, hwa⟩ : ∃ wa, wa = (s.W i).a := ⟨_, rfl⟩
    rw [← hwd, ← hwa] at hsucc
    rw [← hwd] at k0
    rw [← hwa] at k1
    clear hwd hwa e2
    by_cases h1 : wd = d
    · have t1 : ((wd : Int) == (d : Int)) = true := by simp; omega
      by_cases h2 : wa = a
      · have t2 : ((wa : Int) == (a : Int)) = true := by simp; omega
        rw [if_pos ⟨h1, h2⟩] at hsucc
        have HSU := Lib.hid hsucc
        clear hsucc h1 h2
        go_wp2_with fail
        go_roundw
        case rel => exact ⟨i + 1, by omega, by go_num, by rw [HSU.out]; rfl, trivial⟩
        case measure => simp [intOf]; omega
      · have t2 : ((wa : Int) == (a : Int)) = false := by simp; omega
        rw [if_neg (fun x => h2 x.2)] at hsucc
        have HSU := Lib.hid hsucc
        clear hsucc h1 h2
        go_wp2_with fail
        go_roundw
        case rel => exact ⟨i + 1, by omega, by go_num, by rw [HSU.out], trivial⟩
        case measure => simp [intOf]; omega
    · have t1 : ((wd : Int) == (d : Int)) = false := by simp; omega
      rw [if_neg (fun x => h1 x.1)] at hsucc
      have HSU := Lib.hid hsucc
      clear hsucc h1
      go_wp2_with fail
      go_roundw
      case rel => exact ⟨i + 1, by omega, by go_num, by rw [HSU.out], trivial⟩
      case measure => simp [intOf]; omega
end
end refRack
end Go.Proofs.YthioanenljpclaaGreatDoor
