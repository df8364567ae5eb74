/-
  The program's own reading of a line: ahead, last, behind, ContainsFunc. No conditions beyond those that each theorem types.
-/
import Derived.Test.YtefgofoocabkkaaDeadReadM
namespace Go.Proofs.Ytefgofoocabkkaa
open Go Go.RowKit
set_option maxRecDepth 100000
set_option linter.unusedVariables false
namespace Dd
theorem ahead_at (w : World) (L : Ln) (A A' : Option Addr) (c c' n m i : Nat) (hn : n = L.snaps.length) (hi : i ≤ n) (hs : RdS w A L.snaps) (hnb : n ≤ big) :
    Calls Try.prog 15 #[.agg #[.int .i64 L.base, .slice A n c, .slice A' m c'], .int .i64 (i : Int)] w fun e w' => e = .returned (.int .i64 (aheadL L i)) ∧ Below w.heap.size w w' := by
  obtain ⟨W, hW⟩ : ∃ W, W = w.alloc (.cells #[.int .i64 L.base, .slice A n c, .slice A' m c'] 28) := ⟨_, rfl⟩
  have hb : Below w.heap.size w W := by rw [hW]; exact (Below.refl _ _).alloc (Nat.le_refl _) _
  have X : Blk W w.heap.size 28 #[.int .i64 L.base, .slice A n c, .slice A' m c'] := by rw [hW]; exact Blk.new _ _ _
  have hs2 := hs.below hb
  obtain ⟨ro, hro⟩ : ∃ ro, ro = w.heap.size := ⟨_, rfl⟩
  have HRO := Lib.hid hro
  rw [← hro] at X
  have d0 : W.cell? ⟨ro, 0, none⟩ = some (.int .i64 L.base) := X.cell 0
  have d1 : W.cell? ⟨ro, 1, none⟩ = some (.slice A n c) := X.cell 1
  have L1 := Lib.hid hb
  cases i with
  | zero =>
    clear hs hs2 hb X hi hn
    go_enter Try.func15, Try.ntmps15
    go_upto_region 1 with (fail)
    rw [← hW, ← HRO.out]
    clear hW hro
    go_wp2_with fail
    go_ret
    exact ⟨rfl, L1.out⟩
  | succ j =>
    have hj : j < L.snaps.length := by omega
    obtain ⟨s, hse⟩ : ∃ s, s = L.snaps[j] := ⟨_, rfl⟩
    have hsj : L.snaps[j]? = some s := by rw [hse]; exact List.getElem?_eq_getElem hj
    have hah : aheadL L (j + 1) = s.txg := by
      show (match L.snaps[j]? with | some s => s.txg | none => 0) = _
      rw [hsj]
    obtain ⟨g, o, A2, c2, hA, hgb, k0, k1, _⟩ := hs2 j s hsj
    rw [hah]
    obtain ⟨t, ht⟩ : ∃ t, t = s.txg := ⟨_, rfl⟩
    rw [← ht] at k0 ⊢
    subst hA
    have hjn : j < n := by omega
    unfold big at hnb
    have hwr : IntKind.i64.wrap (((j + 1 : Nat) : Int) - 1) = (j : Int) := by rw [IntWalk.i64_in _ (by omega)]; omega
    have hz : (((j + 1 : Nat) : Int) == 0) = false := by simp; omega
    have j1 : (0 : Int) ≤ (j : Int) := by omega
    have j2 : (j : Int) < (n : Int) := by omega
    clear hs hs2 hb X hi hn hse hsj hah hgb k1 ht hj
    go_enter Try.func15, Try.ntmps15
    go_upto_region 1 with (fail)
    rw [← hW, ← HRO.out]
    clear hW hro
    go_wp2_with fail
    go_ret
    exact ⟨rfl, L1.out⟩
theorem load_ln {w : World} {g : Nat} {x u v : Value} (h : Blk w g 28 #[x, u, v]) : (Instr.loadAt 28 (.pointer (some ⟨g, 0, none⟩))).run Try.prog w = .ok (.agg #[x, u, v]) w := by
  have := run_loadAt_mid (P := Try.prog) w g 0 28 [x, u, v] _ (fun j v hj => by rw [Nat.zero_add, h.cell]; simpa using hj) Try.underlying28 rfl (by kernel_rfl)
  exact this
theorem index_sn (b o n c i : Nat) (h : i < n) (w : World) : (Instr.indexAt 25 (.slice (some ⟨b, o, none⟩) n c) (.int .i64 (i : Int))).run Try.prog w = .ok (.pointer (some ⟨b, o + i * 2, none⟩)) w :=
  Gr.index_gen Try.underlying25 (by kernel_rfl) b o n c i h w
theorem last_at (w : World) (L : Ln) (A A' : Option Addr) (c c' n m : Nat) (hn : n = L.snaps.length) (hs : RdS w A L.snaps) (hnb : n ≤ big) :
    Calls Try.prog 13 #[.agg #[.int .i64 L.base, .slice A n c, .slice A' m c']] w fun e w' => e = .returned (.int .i64 (aheadL L n)) ∧ Below w.heap.size w w' := by
  obtain ⟨W, hW⟩ : ∃ W, W = w.alloc (.cells #[.int .i64 L.base, .slice A n c, .slice A' m c'] 28) := ⟨_, rfl⟩
  have hb : Below w.heap.size w W := by rw [hW]; exact (Below.refl _ _).alloc (Nat.le_refl _) _
  have X : Blk W w.heap.size 28 #[.int .i64 L.base, .slice A n c, .slice A' m c'] := by rw [hW]; exact Blk.new _ _ _
  have HC := Lib.hid (ahead_at W L A A' c c' n m n hn (Nat.le_refl _) (hs.below hb) hnb)
  obtain ⟨ro, hro⟩ : ∃ ro, ro = w.heap.size := ⟨_, rfl⟩
  have HRO := Lib.hid hro
  rw [← hro] at X
  have d0 : W.cell? ⟨ro, 0, none⟩ = some (.int .i64 L.base) := X.cell 0
  have d1 : W.cell? ⟨ro, 1, none⟩ = some (.slice A n c) := X.cell 1
  have d2 : W.cell? ⟨ro, 2, none⟩ = some (.slice A' m c') := X.cell 2
  have hld := load_ln X
  have L1 := Lib.hid hb
  clear hn hs hnb hb X
  go_enter Try.func13, Try.ntmps13
  go_upto_region 1 with (fail)
  rw [← hW, ← HRO.out]
  clear hW hro
  go_wp2_with fail
  refine HC.out.mono ?_
  rintro e w2 ⟨rfl, b2⟩
  have L2 : Hid (Below w.heap.size w w2) := Lib.hid (L1.out.trans (b2.mono L1.out.size))
  clear b2
  go_wp2_with fail
  go_ret
  exact ⟨rfl, L2.out⟩
def fnB (b : Nat) : Value := .func (.func 22) #[] #[.pointer (some ⟨b, 0, none⟩)]
def MadeB (w : World) (t : Int) (e : Ending) (w' : World) : Prop := ∃ b, e = .returned (.func (.func 22) #[] #[.pointer (some ⟨b, 0, none⟩)]) ∧ Blk w' b 3 #[.int .i64 t] ∧ Below w.heap.size w w'
theorem behind_at (w : World) (t : Int) : Calls Try.prog 18 #[.int .i64 t] w fun e w' => MadeB w t e w' := by
  obtain ⟨W, hW⟩ : ∃ W, W = w.alloc (.cells #[.int .i64 t] 3) := ⟨_, rfl⟩
  have hb : Below w.heap.size w W := by rw [hW]; exact (Below.refl _ _).alloc (Nat.le_refl _) _
  have X : Blk W w.heap.size 3 #[.int .i64 t] := by rw [hW]; exact Blk.new _ _ _
  have HX := Lib.hid (⟨X, hb⟩ : _ ∧ _)
  clear hb X
  go_enter Try.func18, Try.ntmps18
  go_upto_region 1 with (fail)
  rw [← hW]
  clear hW
  go_wp2_with fail
  go_ret
  exact ⟨w.heap.size, rfl, HX.out.1, HX.out.2⟩
theorem later_at (w : World) (b : Nat) (t : Int) (p : Pt) (h : w.cell? ⟨b, 0, none⟩ = some (.int .i64 t)) (hlt : b < w.heap.size) :
    Calls Try.prog 22 #[.agg #[.int .i64 p.addr, .int .i64 p.size, .int .i64 p.birth, .string p.sum], .pointer (some ⟨b, 0, none⟩)] w fun e w' => e = .returned (.bool (decide (t < p.birth))) ∧ Below w.heap.size w w' := by
  obtain ⟨W, hW⟩ : ∃ W, W = w.alloc (.cells #[.int .i64 p.addr, .int .i64 p.size, .int .i64 p.birth, .string p.sum] 36) := ⟨_, rfl⟩
  have hb : Below w.heap.size w W := by rw [hW]; exact (Below.refl _ _).alloc (Nat.le_refl _) _
  have X : Blk W w.heap.size 36 #[.int .i64 p.addr, .int .i64 p.size, .int .i64 p.birth, .string p.sum] := by rw [hW]; exact Blk.new _ _ _
  obtain ⟨ro, hro⟩ : ∃ ro, ro = w.heap.size := ⟨_, rfl⟩
  have HRO := Lib.hid hro
  rw [← hro] at X
  have d2 : W.cell? ⟨ro, 2, none⟩ = some (.int .i64 p.birth) := X.cell 2
  have d0 : W.cell? ⟨b, 0, none⟩ = some (.int .i64 t) := (hb.cell (p := ⟨b, 0, none⟩) hlt).trans h
  have L1 := Lib.hid hb
  clear hb X h
  go_enter Try.func22, Try.ntmps22
  go_upto_region 1 with (fail)
  rw [← hW, ← HRO.out]
  clear hW hro
  go_wp2_with fail
  go_ret
  exact ⟨rfl, L1.out⟩
def FoundB (w : World) (t : Int) (D : List Pt) (e : Ending) (w' : World) : Prop := ∃ r : Int, e = .returned (.int .i64 r) ∧ decide (0 ≤ r) = !youngL t D ∧ Below w.heap.size w w'
set_option maxHeartbeats 800000 in
theorem indexfunc_at (w : World) (D : List Pt) (A : Option Addr) (c b : Nat) (t : Int) (hl : D.length ≤ big) (hrd : RdP w A D) (hbk : Blk w b 3 #[.int .i64 t]) :
    Calls Try.prog 21 #[.slice A D.length c, .func (.func 22) #[] #[.pointer (some ⟨b, 0, none⟩)]] w fun e w' => FoundB w t D e w' := by
  obtain ⟨n, hn⟩ : ∃ n, n = D.length := ⟨_, rfl⟩
  have HN := Lib.hid hn
  have HRD := Lib.hid hrd
  have HBK := Lib.hid hbk
  have L0 : Hid (Below w.heap.size w w) := Lib.hid (Below.refl _ _)
  have Y0 : Hid (youngL t (D.take 0) = true) := Lib.hid rfl
  rw [← hn] at hl ⊢
  unfold big at hl
  clear hn hrd hbk
  go_enter Try.func21, Try.ntmps21
  go_wp2_with fail
  go_loopw [8] (fun y wr => ∃ i : Nat, i ≤ n ∧ y = .int .i64 (i : Int) ∧ Hid (youngL t (D.take i) = true) ∧ Hid (Below w.heap.size w wr)) (fun y _ => n - (intOf y).toNat)
  case atStart => exact ⟨0, by omega, rfl, Y0, L0⟩
  case round =>
    clear L0 Y0
    obtain ⟨i, hi, rfl, Y0, L0⟩ := hrel
    by_cases hlt : i < n
    · have i1 : (i : Int) < (n : Int) := by omega
      have hil : i < D.length := by have := HN.out; omega
      obtain ⟨p, hp⟩ : ∃ p, p = D[i] := ⟨_, rfl⟩
      have hpi : D[i]? = some p := by rw [hp]; exact List.getElem?_eq_getElem hil
      obtain ⟨g, o, hA, hgb, kk⟩ := (HRD.out.below L0.out) i p hpi
      have k0 := kk 0 (.int .i64 p.addr) rfl
      have k1 := kk 1 (.int .i64 p.size) rfl
      have k2 := kk 2 (.int .i64 p.birth) rfl
      have k3 := kk 3 (.string p.sum) rfl
      rw [Nat.add_zero] at k0
      have HL := Lib.hid (later_at wr b t p ((HBK.out.below L0.out HBK.out.lt).cell 0) (HBK.out.below L0.out HBK.out.lt).lt)
      obtain ⟨x, hx⟩ : ∃ x, x = p.birth := ⟨_, rfl⟩
      subst hA
      by_cases hz : t < p.birth
      · have HQ : Hid (youngL t D = false) := Lib.hid (youngL_no hpi hz)
        rw [decide_eq_true hz] at HL
        clear hpi hp hil kk hx hgb Y0 hz
        go_wp2_with fail
        refine HL.out.mono ?_
        rintro e w2 ⟨rfl, b2⟩
        have L2 : Hid (Below w.heap.size w w2) := Lib.hid (L0.out.trans (b2.mono L0.out.size))
        clear b2
        go_wp2_with fail
        go_ret
        exact ⟨_, rfl, by rw [HQ.out]; simp, L2.out⟩
      · have Y1 := Lib.hid (youngL_take Y0.out hpi (by omega))
        rw [decide_eq_false hz] at HL
        clear hpi hp hil kk hx hgb Y0 hz
        go_wp2_with fail
        refine HL.out.mono ?_
        rintro e w2 ⟨rfl, b2⟩
        have L2 : Hid (Below w.heap.size w w2) := Lib.hid (L0.out.trans (b2.mono L0.out.size))
        clear b2 k0 k1 k2 k3
        go_wp2_with fail
        go_roundw
        case rel => exact ⟨i + 1, by omega, by go_num, Y1, L2⟩
        case measure => simp [intOf]; omega
    · have i1 : ¬ ((i : Int) < (n : Int)) := by omega
      have HQ : Hid (youngL t D = true) := Lib.hid (by
        have := Y0.out
        rw [List.take_of_length_le (by have := HN.out; omega)] at this
        exact this)
      clear hlt
      go_wp2_with fail
      go_ret
      exact ⟨_, rfl, by rw [HQ.out]; rfl, L0.out⟩
theorem contains_at (w : World) (D : List Pt) (A : Option Addr) (c b m : Nat) (t : Int) (hm : m = D.length) (hl : m ≤ big) (hrd : RdP w A D) (hbk : Blk w b 3 #[.int .i64 t]) :
    Calls Try.prog 17 #[.slice A m c, .func (.func 22) #[] #[.pointer (some ⟨b, 0, none⟩)]] w fun e w' => e = .returned (.bool (!youngL t D)) ∧ Below w.heap.size w w' := by
  subst hm
  have HI := Lib.hid (indexfunc_at w D A c b t hl hrd hbk)
  obtain ⟨n, hn⟩ : ∃ n, n = D.length := ⟨_, rfl⟩
  rw [← hn] at HI ⊢
  clear hl hrd hbk hn
  go_enter Try.func17, Try.ntmps17
  go_wp2_with fail
  refine HI.out.mono ?_
  rintro e w2 ⟨r, rfl, h1, h2⟩
  have H := Lib.hid (⟨h1, h2⟩ : _ ∧ _)
  clear h1 h2
  go_wp2_with fail
  go_ret
  rw [← H.out.1]
  exact ⟨rfl, H.out.2⟩
end Dd
end Go.Proofs.Ytefgofoocabkkaa
