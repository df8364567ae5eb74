/-
  'append([]int{}, picks...)': the ints again, in new memory. Conditions: what the reading of an argument gives; the ints take less than 2^47 bytes.
-/
import Derived.Test.YtjnnmeolonbedaaDoorLawArgsM
import Derived.Maps.AppendAt
import Derived.Laws.OwnMore
import Derived.SizedLaws
namespace Go.Proofs.YtjnnmeolonbedaaDoor
set_option maxRecDepth 100000
open Go Go.RowKit Go.ChangeShapes Go.WideShapes Go.ChangeAt
set_option linter.unusedVariables false

theorem info_int : (Tryd.prog.info? 3).map (fun i => (i.zero, i.size, i.bytes)) = some (some (.int .i64 0), 1, 8) := by kernel_rfl
def intL (n : Nat) (x : Nat → Int) : List Value := (List.range n).map fun j => Value.int .i64 (x j)
theorem intL_length (n : Nat) (x : Nat → Int) : (intL n x).length = n := by simp [intL]
theorem intL_get {n j : Nat} (x : Nat → Int) (h : j < n) : (intL n x)[j]? = some (.int .i64 (x j)) := by simp [intL, h]

theorem run_append_ints {w0 : World} {B : Nat} {A : Option Addr} {n c : Nat} {x : Nat → Int} (ty : TypeId) (hr : RdI w0 B A n x) (hB : B ≤ w0.heap.size) (h8 : n * 8 ≤ 140737488355328) (h0 : A = none → c = 0) (hnc : n ≤ c) :
    ∃ A' c' w', (Builtin.append_ #[40, 40] ty #[.slice (some ⟨w0.heap.size, 0, none⟩) 0 0, .slice A n c]).run Tryd.prog (w0.alloc (.cells #[] 3)) = .ok (.slice A' n c') w' ∧ Ints w' A' n x ∧ Below w0.heap.size w0 w' := by
  obtain ⟨i0, hi, hz0, hz1, hz2⟩ := info_parts info_int
  have hown : (w0.alloc (.cells #[] 3)).ownsRow w0.heap.size 3 1 (.slice (some ⟨w0.heap.size, 0, none⟩) 0 0) 0 [] :=
    ⟨rfl, .inr ⟨w0.heap.size, 0, #[], rfl, Nat.le_refl _, (Blk.new w0 3 #[]), Nat.le_refl _, by simp [maxLen], rfl, rfl⟩⟩
  have b0 : Below w0.heap.size w0 (w0.alloc (.cells #[] 3)) := (Below.refl _ _).alloc (Nat.le_refl _) _
  cases A with
  | none =>
    have hc := h0 rfl
    subst hc
    obtain rfl : n = 0 := by omega
    have h := run_append_owned_none (P := Tryd.prog) (w0.alloc (.cells #[] 3)) w0.heap.size 40 ty 3 i0 1 Tryd.underlying40 hi _ _ _ hown
    exact ⟨_, _, _, h, ⟨fun i hi => absurd hi (Nat.not_lt_zero _), by simp [maxLen], .inl rfl⟩, b0⟩
  | some ad =>
    obtain ⟨v', w', e1, e2, e3, e4, e5⟩ := run_append_own_at (P := Tryd.prog) (w0.alloc (.cells #[] 3)) w0.heap.size 40 ty 3 i0 (.int .i64 0) 1 8 Tryd.underlying40 hi hz0 hz1 hz2 rfl (by decide) _ 0 [] hown ad n c (intL n x) (by rw [intL_length, Nat.mul_one])
      (fun j u hj => by
        have hjn : j < n := by have := (List.getElem?_eq_some_iff.1 hj).1; rw [intL_length] at this; exact this
        rw [intL_get x hjn] at hj
        injection hj with hj
        subst hj
        obtain ⟨b, o, h1, h2, h3, _⟩ := hr j hjn
        injection h1 with h1
        subst h1
        rw [add_plain]
        exact (b0.cell (p := ⟨b, o + j, none⟩) (show b < w0.heap.size by omega)).trans h3)
      (fun u hu => by
        simp only [intL, List.mem_map] at hu
        obtain ⟨j, _, rfl⟩ := hu
        rfl) (by simp only [maxLen]; omega) (by omega) (by simp)
    have hbel : Below w0.heap.size w0 w' := b0.trans ⟨e3.os, e3.tape, e3.output, e3.size, fun k hk => e3.block k (by simp; omega) (fun e => by simp [Value.ownBlock] at e; omega)⟩
    rw [Nat.zero_add, List.nil_append] at e2
    have hbd : ∀ i, i < n → -9223372036854775808 ≤ x i ∧ x i ≤ 9223372036854775807 := fun i hi => by obtain ⟨_, _, _, _, _, h4⟩ := hr i hi; exact h4
    have hml : n ≤ maxLen := by simp only [maxLen]; omega
    rcases e2.2 with ⟨rfl, hn0⟩ | ⟨g, cap, cur, rfl, f1, f2, f3, f4, f5, f6⟩
    · exact ⟨_, _, _, by rw [hn0]; rw [hn0] at e1; exact e1, ⟨hbd, hml, .inl hn0⟩, hbel⟩
    · refine ⟨_, _, _, e1, ⟨hbd, hml, .inr ⟨g, 0, _, cur, rfl, f2, rfl, fun i hi => ?_⟩⟩, hbel⟩
      have h1 := intL_get x hi
      rw [← f6, List.getElem?_take_of_lt (by omega), Array.getElem?_toList] at h1
      rw [Nat.zero_add]
      exact h1
section
variable {H : Type} {enc : TypeId × Value → H} {P : Program} {W : World} {base : Nat} {held : Bool}
theorem rdi_of_trod2 {t e : TypeId} {fuel len cap : Nat} {a : Option Addr} {x : DataW H × List MemPlace} (ht : P.underlying t = some (.slice e)) (he : P.underlying e = some (.int .i64)) (hc : P.cellsOf e = 1)
    (h : DataW.trod enc P W base (fun _ => true) held fuel t (Value.slice a len cap).cells.toList = some x) : ∃ y, RdI W W.heap.size a len y ∧ len ≤ cap ∧ cap ≤ maxLen ∧ (a = none → cap = 0) ∧ (cap = 0 ∨ ∃ es sp, x.1 = .slice es sp ∧ es.length + sp.length = cap) := by
  rcases open_ints ht he hc h with ⟨hcs, _⟩ | ⟨x, l, c, zs, hcs, _, hl, hm, hz, hx, hcell, hwz⟩
  · simp [Value.cells] at hcs
    obtain ⟨rfl, rfl, rfl⟩ := hcs
    exact ⟨fun _ => 0, fun j hj => absurd hj (by omega), by omega, by omega, fun _ => rfl, .inl rfl⟩
  · simp [Value.cells] at hcs
    obtain ⟨rfl, rfl, rfl⟩ := hcs
    simp at hz
    refine ⟨_, rdi_of_cells (by omega) hcell hwz, hl, hm, fun e => (by cases e), .inr ⟨_, _, by rw [hx], ?_⟩⟩
    simp [lits, hz]
    omega
theorem reach_ints {ts : List TypeId} {ds : List (DataW H)} {j : Nat} {t e : TypeId} {d : DataW H} {cap : Nat} (hsz : (DataW.weightsEach P ts ds).all (· ≤ reachBytes) = true) (ht : ts[j]? = some t) (hd : ds[j]? = some d) (hu : P.underlying t = some (.slice e)) (hb : P.bytesOf e = 8)
    (hor : cap = 0 ∨ ∃ es sp, d = .slice es sp ∧ es.length + sp.length = cap) : cap * 8 ≤ 140737488351232 := by
  rcases hor with rfl | ⟨es, sp, rfl, rfl⟩
  · omega
  · have := sized_slice hsz ht hd hu
    rw [hb] at this
    simpa [reachBytes] using this
end
theorem wpList_append_ints {w0 : World} {ops : Array Oper} {rest : List Oper} {o : Oper} {a : Act} {Q : Exit → Act → World → Prop} (hgd : o.guard = none) (s x : Operand)
    (ho : o.op = .call { callee := .builtin .append, args := #[s, x], argTypes := #[40, 40] }) {B : Nat} {A : Option Addr} {n c : Nat} {y : Nat → Int} (hs : a.eval s = .slice (some ⟨w0.heap.size, 0, none⟩) 0 0) (hx : a.eval x = .slice A n c)
    (hr : RdI w0 B A n y) (hB : B ≤ w0.heap.size) (h8 : n * 8 ≤ 140737488355328) (h0 : A = none → c = 0) (hnc : n ≤ c)
    (h : ∀ A' c' w', Ints w' A' n y → Below w0.heap.size w0 w' → wpList Tryd.prog ops Q rest (a.put o.dst (.slice A' n c')) w') : wpList Tryd.prog ops Q (o :: rest) a (w0.alloc (.cells #[] 3)) := by
  refine wpList_plain hgd fun K hK => ?_
  obtain ⟨A', c', w', hrun, h1, h2⟩ := run_append_ints (c := c) o.type hr hB h8 h0 hnc
  unfold Oper.wp execOp
  simp only [ho, resolve, invoke, builtin, Sem.run_bind, Sem.run_pure, Result.andThen_ok, List.map_toArray, List.map_cons, List.map_nil, hs, hx, hrun]
  exact hK _ _ (h A' c' w' h1 h2)
end Go.Proofs.YtjnnmeolonbedaaDoor
namespace Go.Proofs.YtjnnmeolonbedaaDoor
open Go Go.RowKit refRack
set_option maxRecDepth 100000
set_option linter.unusedVariables false
namespace Lab
def intR (n : Nat) (F : Nat → Int) : Array Value := Array.ofFn (n := n) fun c => .int .i64 (F c.val)
theorem intR_get {n c : Nat} {F : Nat → Int} (h : c < n) : (intR n F)[c]? = some (.int .i64 (F c)) := by simp [intR, h]
theorem intR_size (n : Nat) (F : Nat → Int) : (intR n F).size = n := by simp [intR]
theorem intR_congr {n : Nat} {F G : Nat → Int} (h : ∀ c, c < n → F c = G c) : intR n F = intR n G := by
  unfold intR
  congr 1
  funext c
  rw [h c.val c.isLt]
theorem intR_set {n c : Nat} {F : Nat → Int} {v : Int} (h : c < n) : (intR n F).setIfInBounds c (.int .i64 v) = intR n (fun j => if j = c then v else F j) := by
  apply Array.ext_getElem?
  intro j
  rw [Array.getElem?_setIfInBounds, intR_size]
  by_cases hj : j < n
  · rw [intR_get hj, intR_get hj]
    by_cases e : c = j
    · rw [if_pos e, if_pos h, if_pos e.symm]
    · rw [if_neg e, if_neg (fun x => e x.symm)]
  · rw [if_neg (by omega), Array.getElem?_eq_none (by rw [intR_size]; omega), Array.getElem?_eq_none (by rw [intR_size]; omega)]
theorem make_ints8 (w : World) : (Instr.makeSlice 40 (.int .i64 8) (.int .i64 8)).run Tryd.prog w = .ok (.slice (some ⟨w.heap.size, 0, none⟩) 8 8) (w.alloc (.cells (intR 8 fun _ => 0) 3)) := by
  obtain ⟨i0, hi, hz0, hz1, hz2⟩ := info_parts info_int
  have h := run_make (P := Tryd.prog) (w := w) 40 3 i0 (.int .i64 0) Tryd.underlying40 hi hz0 .i64 .i64 8 8 (by omega) (by omega) (by rw [hz2]; omega) (by omega)
  have hr : Array.replicate 8 (Value.int .i64 0) = intR 8 fun _ => 0 := by
    apply Array.ext_getElem?
    intro i
    by_cases h : i < 8
    · rw [intR_get h]; simp [h]
    · rw [Array.getElem?_eq_none (by simp; omega), Array.getElem?_eq_none (by rw [intR_size]; omega)]
  rw [h, hz1, show (Value.int .i64 0).cells = #[.int .i64 0] from rfl, madeCells_one, ← hr]
  rfl
theorem deny_ind {s : RS} {d a : Nat} (ha : a < s.ns) (h0 : 0 < s.ns) : s.deny (d : Int) (a : Int) = s.deny (d : Int) 0 := by
  have hp : s.isP (d : Int) (a : Int) = s.isP (d : Int) 0 := by
    unfold RS.isP
    have h1 : decide (0 ≤ (a : Int)) = true := by simp
    have h2 : decide ((a : Int) < (s.ns : Int)) = true := by simpa using ha
    have h3 : decide ((0 : Int) ≤ 0) = true := rfl
    have h4 : decide ((0 : Int) < (s.ns : Int)) = true := by simpa using h0
    rw [h1, h2, h3, h4]
  unfold RS.deny RS.why
  rw [hp]
theorem deny_vals (s : RS) (D A : Int) : s.deny D A = 0 ∨ s.deny D A = 1 ∨ s.deny D A = 3 ∨ s.deny D A = 16 := by
  unfold RS.deny RS.why
  cases s.off <;> cases s.isP D A <;> cases s.gone D.toNat <;> simp
/-- what a slot tells -/
noncomputable def slotI (s : RS) (d a : Nat) : Int := if (found s d a).isSome = true then (lookU s d a).t else -1
section
variable {B : Nat}
set_option maxHeartbeats 3200000 in
theorem slots_no (w : World) (r : Nat) (s : RS) (d : Nat) (h : RackAt B w r s) (hl : Laid w) (hB : 0 < B) (h8 : 8 < s.ns) (hy : s.deny (d : Int) 0 ≠ 0) :
    Calls Tryd.prog 22 #[.pointer (some ⟨r, 0, none⟩), .int .i64 (d : Int)] w fun e w' => e = .returned (.tuple #[.slice none 0 0, .int .i64 (s.deny (d : Int) 0)]) ∧ RackAt B w' r s ∧ Keep B w w' := by
  have HF := Lib.hid (fits_any w r s h)
  rw [show decide (8 < s.ns) = true by simpa using h8] at HF
  have hE : lookE s d 0 = s.deny (d : Int) 0 := by unfold lookE; exact if_neg hy
  have R1 := Lib.hid (h.alloc (.cells (intR 8 fun _ => 0) 3))
  have K1 := Lib.hid ((Keep.refl B w).alloc h.le (.cells (intR 8 fun _ => 0) 3))
  have HLK := Lib.hid (look_any _ r s d 0 R1.out (hl.alloc _) hB)
  rw [hE] at HLK
  have hv := deny_vals s (d : Int) 0
  obtain ⟨y, hyy⟩ : ∃ y, y = s.deny (d : Int) 0 := ⟨_, rfl⟩
  rw [← hyy] at hy HLK hv ⊢
  have t0 : (y == 0) = false := by simpa using hy
  have t7 : (y == 7) = false := by simp; omega
  have hmk := make_ints8 w
  obtain ⟨u, hu⟩ : ∃ u, u = lookU s d 0 := ⟨_, rfl⟩
  rw [← hu] at HLK
  clear h hl h8 hE hv hyy hy hu
  obtain ⟨ut, ⟨ua, uz, ub, us⟩⟩ := u
  simp only [uA] at HLK
  go_enter Tryd.func22, Tryd.ntmps22
  go_wp2_with fail
  refine HF.out.mono ?_
  rintro e w' ⟨rfl, rfl⟩
  go_wp2_with fail
  clear hmk
  go_loopw [16] (fun x wr => x = .int .i64 0 ∧ wr = w.alloc (.cells (intR 8 fun _ => 0) 3)) (fun _ _ => 0)
  case atStart => exact ⟨rfl, rfl⟩
  case round =>
    obtain ⟨rfl, rfl⟩ := hrel
    go_wp2_with fail
    refine HLK.out.mono ?_
    rintro e w5 ⟨rfl, h5, k5⟩
    have bV : Below w5.heap.size w5 (w5.alloc (.cells #[.int .i64 ut, .int .i64 ua, .int .i64 uz, .int .i64 ub, .string us] 25)) := (Below.refl _ _).alloc (Nat.le_refl _) _
    have R5 := Lib.hid (h5.below bV)
    have K5 := Lib.hid ((K1.out.trans k5).new bV h5.le)
    clear h5 k5 bV HLK R1 K1
    go_wp2_with fail
    go_ret2
    exact ⟨rfl, R5.out, K5.out⟩
set_option maxHeartbeats 3200000 in
theorem slots_yes (w : World) (r : Nat) (s : RS) (d : Nat) (h : RackAt B w r s) (hl : Laid w) (hB : 0 < B) (h8 : 8 < s.ns) (hy : s.deny (d : Int) 0 = 0) :
    Calls Tryd.prog 22 #[.pointer (some ⟨r, 0, none⟩), .int .i64 (d : Int)] w fun e w' => (∃ g, e = .returned (.tuple #[.slice (some ⟨g, 0, none⟩) 8 8, .int .i64 0]) ∧ w.heap.size ≤ g ∧ Blk w' g 3 (intR 8 (slotI s d))) ∧ RackAt B w' r s ∧ Keep B w w' := by
  have HF := Lib.hid (fits_any w r s h)
  rw [show decide (8 < s.ns) = true by simpa using h8] at HF
  have HE : Hid (∀ a, a < 8 → lookE s d a = if (found s d a).isSome = true then 0 else 7) := Lib.hid fun a ha => by
    unfold lookE
    exact if_pos ((deny_ind (d := d) (a := a) (by omega) (by omega)).trans hy)
  have hle := h.le
  have R1 := Lib.hid (h.alloc (.cells (intR 8 fun _ => 0) 3))
  have K1 := Lib.hid ((Keep.refl B w).alloc h.le (.cells (intR 8 fun _ => 0) 3))
  have X1 := Lib.hid (Blk.new w 3 (intR 8 fun _ => 0))
  have HLD := Lib.hid hl
  have hmk := make_ints8 w
  clear h hl h8 hy
  go_enter Tryd.func22, Tryd.ntmps22
  go_wp2_with fail
  refine HF.out.mono ?_
  rintro e w' ⟨rfl, rfl⟩
  go_wp2_with fail
  clear hmk HF
  obtain ⟨gl, hgl⟩ : ∃ gl, gl = w.heap.size := ⟨_, rfl⟩
  rw [← hgl] at X1 ⊢
  have HGL := Lib.hid hgl
  clear hgl
  go_loopw [7, 8, 9, 16] (fun _ _ _ x wr => ∃ (a : Nat) (F : Nat → Int), a ≤ 8 ∧ x = .int .i64 a ∧ Hid (RackAt B wr r s) ∧ Hid (Keep B w wr) ∧ Hid (Blk wr gl 3 (intR 8 F)) ∧ Hid (∀ j, j < a → F j = slotI s d j)) (fun _ _ _ x _ => 8 - (intOf x).toNat)
  case atStart => exact ⟨0, _, by omega, rfl, R1, K1, X1, Lib.hid (fun j hj => absurd hj (Nat.not_lt_zero _))⟩
  case round =>
    obtain ⟨a, F, ha, rfl, R3, K3, X3, S3⟩ := hrel
    clear R1 K1 X1
    by_cases ha8 : a < 8
    · have t1 : decide ((a : Int) < 8) = true := by simp; omega
      have HLK := Lib.hid (look_any wr r s d a R3.out (HLD.out.below K3.out.below hB) hB)
      rw [HE.out a ha8] at HLK
      have HSI : Hid (slotI s d a = if (found s d a).isSome = true then (lookU s d a).t else -1) := Lib.hid rfl
      obtain ⟨u, hu⟩ : ∃ u, u = lookU s d a := ⟨_, rfl⟩
      obtain ⟨bb, hbb⟩ : ∃ bb, bb = (found s d a).isSome := ⟨_, rfl⟩
      rw [← hu, ← hbb] at HSI
      rw [← hu, ← hbb] at HLK
      clear hu hbb
      obtain ⟨ut, ⟨ua, uz, ub, us⟩⟩ := u
      simp only [uA] at HLK
      cases bb with
      | true =>
        rw [if_pos rfl] at HLK HSI
        dsimp only at HSI
        go_wp2_with fail
        refine HLK.out.mono ?_
        rintro e w5 ⟨rfl, h5, k5⟩
        have bV : Below w5.heap.size w5 (w5.alloc (.cells #[.int .i64 ut, .int .i64 ua, .int .i64 uz, .int .i64 ub, .string us] 25)) := (Below.refl _ _).alloc (Nat.le_refl _) _
        have Y5 := (k5.block X3.out rfl).new_ bV
        have c0 : (w5.alloc (.cells #[.int .i64 ut, .int .i64 ua, .int .i64 uz, .int .i64 ub, .string us] 25)).cell? ⟨gl, a, none⟩ = some (.int .i64 (F a)) := (Y5.cell a).trans (intR_get ha8)
        have f0 := Y5.frozen a
        have R6 := Lib.hid ((h5.below bV).far (p := ⟨gl, a, none⟩) (x := .int .i64 ut) Y5 rfl rfl)
        have hBw : B ≤ (w5.alloc (.cells #[.int .i64 ut, .int .i64 ua, .int .i64 uz, .int .i64 ub, .string us] 25)).heap.size := (h5.below bV).le
        have K6 := Lib.hid (((K3.out.trans k5).new bV h5.le).grownNew (g := gl) (grown_set _ gl a (.int .i64 ut)) (by rw [HGL.out]; exact hle) hBw (by rw [HGL.out]; exact Nat.le_refl _))
        have X6 : Hid (Blk ((w5.alloc (.cells #[.int .i64 ut, .int .i64 ua, .int .i64 uz, .int .i64 ub, .string us] 25)).setCell ⟨gl, a, none⟩ (.int .i64 ut)) gl 3 (intR 8 fun j => if j = a then ut else F j)) := Lib.hid (by
          have h := Y5.set_ a (.int .i64 ut)
          rw [intR_set ha8] at h
          exact h)
        have S6 : Hid (∀ j, j < a + 1 → (if j = a then ut else F j) = slotI s d j) := Lib.hid fun j hj => by
          by_cases e : j = a
          · rw [if_pos e, e, HSI.out]
          · rw [if_neg e]; exact S3.out j (by omega)
        clear h5 k5 bV Y5 hBw HLK R3 K3 X3 S3 HSI t1
        go_wp2_with fail
        go_roundw
        case rel => exact ⟨a + 1, _, by omega, by go_num, R6, K6, X6, S6⟩
        case measure => simp [intOf]; omega
      | false =>
        rw [if_neg (by simp)] at HLK HSI
        go_wp2_with fail
        refine HLK.out.mono ?_
        rintro e w5 ⟨rfl, h5, k5⟩
        have bV : Below w5.heap.size w5 (w5.alloc (.cells #[.int .i64 ut, .int .i64 ua, .int .i64 uz, .int .i64 ub, .string us] 25)) := (Below.refl _ _).alloc (Nat.le_refl _) _
        have Y5 := (k5.block X3.out rfl).new_ bV
        have c0 : (w5.alloc (.cells #[.int .i64 ut, .int .i64 ua, .int .i64 uz, .int .i64 ub, .string us] 25)).cell? ⟨gl, a, none⟩ = some (.int .i64 (F a)) := (Y5.cell a).trans (intR_get ha8)
        have f0 := Y5.frozen a
        have R6 := Lib.hid ((h5.below bV).far (p := ⟨gl, a, none⟩) (x := .int .i64 (-1)) Y5 rfl rfl)
        have hBw : B ≤ (w5.alloc (.cells #[.int .i64 ut, .int .i64 ua, .int .i64 uz, .int .i64 ub, .string us] 25)).heap.size := (h5.below bV).le
        have K6 := Lib.hid (((K3.out.trans k5).new bV h5.le).grownNew (g := gl) (grown_set _ gl a (.int .i64 (-1))) (by rw [HGL.out]; exact hle) hBw (by rw [HGL.out]; exact Nat.le_refl _))
        have X6 : Hid (Blk ((w5.alloc (.cells #[.int .i64 ut, .int .i64 ua, .int .i64 uz, .int .i64 ub, .string us] 25)).setCell ⟨gl, a, none⟩ (.int .i64 (-1))) gl 3 (intR 8 fun j => if j = a then -1 else F j)) := Lib.hid (by
          have h := Y5.set_ a (.int .i64 (-1))
          rw [intR_set ha8] at h
          exact h)
        have S6 : Hid (∀ j, j < a + 1 → (if j = a then -1 else F j) = slotI s d j) := Lib.hid fun j hj => by
          by_cases e : j = a
          · rw [if_pos e, e, HSI.out]
          · rw [if_neg e]; exact S3.out j (by omega)
        clear h5 k5 bV Y5 hBw HLK R3 K3 X3 S3 HSI t1
        go_wp2_with fail
        go_roundw
        case rel => exact ⟨a + 1, _, by omega, by go_num, R6, K6, X6, S6⟩
        case measure => simp [intOf]; omega
    · have t1 : decide ((a : Int) < 8) = false := by simp; omega
      have ea : a = 8 := by omega
      have X4 : Hid (Blk wr gl 3 (intR 8 (slotI s d))) := Lib.hid (by
        have h := X3.out
        rw [intR_congr (fun c hc => S3.out c (by omega))] at h
        exact h)
      clear X3 S3 ea
      go_wp2_with fail
      go_ret2
      exact ⟨⟨gl, rfl, by rw [HGL.out]; exact Nat.le_refl _, X4.out⟩, R3.out, K3.out⟩
end
end Lab
end Go.Proofs.YtjnnmeolonbedaaDoor
