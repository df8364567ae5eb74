/-
  The document's rack by contracts: Write that goes on, forget, Lose. Conditions: the rack is one; fewer than two million writes wait.
-/
import Derived.Test.YtlbmeaioiiflkaaRefWrite
namespace Go.Proofs.Ytlbmeaioiiflkaa
open Go Go.RowKit
set_option maxRecDepth 100000
set_option linter.unusedVariables false
namespace refRack
theorem own_shape {w : World} {B n c : Nat} {e : TypeId} {v : Value} {xs : List Value} (h : w.ownsRow B e c v n xs) : ∃ A c', v = .slice A n c' := by
  rcases h.2 with ⟨e1, e2⟩ | ⟨l, cap, cur, e, _⟩
  · exact ⟨none, 0, by rw [e1, e2]⟩
  · exact ⟨_, cap, e⟩
theorem strB_dataR (n : Nat) (X : Nat → Nat) : (strB n X).data.toList = (List.range n).map fun j => UInt8.ofNat (X j) := by rw [← strB_list, ByteArray.toList_eq]
theorem strB_sizeR (n : Nat) (X : Nat → Nat) : (strB n X).size = n := by
  have h := congrArg List.length (strB_dataR n X)
  rw [List.length_map, List.length_range, Array.length_toList] at h
  exact h
section
variable {B : Nat} {w w' : World} {g : Nat} {s : RS} {vL vG vW : Value} {H C : Nat → Nat}
theorem TK.cost (h : TK B w g s vL vG vW H C) (c : Nat) : TK B w g { s with cost := c } vL vG vW H C := ⟨h.blk, h.hg, h.heads, h.rows, h.apart, h.lost, h.waits⟩
set_option maxHeartbeats 1600000 in
theorem write_go_k (w : World) (g : Nat) (s : RS) (d a : Nat) (X : Nat → Nat) (hl : s.left ≤ 9223372036854775807) (hd : d < s.nd) (ha : a < s.ns) (hg : s.gone d = false) (hn : s.nw + 1 ≤ 2000000) (h : TK B w g s vL vG vW H C) :
    Calls Try.prog 26 #[.pointer (some ⟨g, 0, none⟩), .int .i64 (d : Int), .int .i64 (a : Int), .string (strB 128 X)] w fun e w' => e = .returned (.int .i64 (if s.pow then 0 else 16)) ∧ TAt B w' g (if s.pow then s.spent.wrote d a X else s.spent) ∧ KeepR B w w' := by
  have HI := Lib.hid (in_k w g s (d : Int) (a : Int) h)
  rw [show s.isP (d : Int) (a : Int) = true by simp [RS.isP, RS.isD]; omega] at HI
  have t2 : (((strB 128 X).size : Int) != 128) = false := by rw [strB_sizeR]; rfl
  have HS := Lib.hid (spend_k w g s hl h)
  have c1 := h.c1
  obtain ⟨l, c, rfl, k1, _⟩ := h.gone hd
  rw [hg] at k1
  have i0 : (0 : Int) ≤ (d : Int) := by omega
  have i1 : (d : Int) < (s.nd : Int) := by omega
  obtain ⟨q1, q2, q3, q4, q5, q6, q7⟩ := spent_same s
  have HN : Hid (s.spent.nw + 1 ≤ 2000000) := Lib.hid (by rw [q3]; exact hn)
  clear h hg hl q1 q2 q3 q4 q5 q6 q7 hn
  generalize hsz : (strB 128 X).size = z at t2
  generalize s.spent = s1 at *
  obtain ⟨T, hT⟩ : ∃ T, T = strB 128 X := ⟨_, rfl⟩
  rw [← hT] at hsz ⊢
  have HTX := Lib.hid hT
  clear hT
  cases hpow : s.pow with
  | false =>
    rw [hpow] at HS
    clear hpow
    go_enter Try.func26, Try.ntmps26
    go_wp2_with fail
    refine HI.out.mono ?_
    rintro e w1 ⟨rfl, rfl⟩
    go_wp2_with fail
    refine HS.out.mono ?_
    rintro e w2 ⟨rfl, h2, k2⟩
    have H2 := Lib.hid h2
    have K2 := Lib.hid k2
    clear h2 k2 HS HI
    go_wp2_with fail
    go_ret
    exact ⟨rfl, ⟨_, _, _, _, _, H2.out⟩, K2.out⟩
  | true =>
    rw [hpow] at HS
    clear hpow
    go_enter Try.func26, Try.ntmps26
    go_wp2_with fail
    refine HI.out.mono ?_
    rintro e w1 ⟨rfl, rfl⟩
    go_wp2_with fail
    refine HS.out.mono ?_
    rintro e w2 ⟨rfl, h2, k2⟩
    have bA : Below w2.heap.size w2 (w2.alloc (.cells #[.int .i64 (d : Int), .int .i64 (a : Int), .string T] 75)) := (Below.refl _ _).alloc (Nat.le_refl _) _
    have hA := h2.below bA
    have HA := Lib.hid hA
    have KA := Lib.hid (k2.new bA h2.le)
    have c2 := h2.c2
    have cA := hA.c2
    have hnews := wait_new w2 ⟨d, a, X⟩
    have HW : Hid (∀ j u, (waitV ⟨d, a, X⟩)[j]? = some u → (w2.alloc (.cells #[.int .i64 (d : Int), .int .i64 (a : Int), .string T] 75)).cell? ((⟨w2.heap.size, 0, none⟩ : Addr).add j) = some u) := Lib.hid (by rw [HTX.out]; exact hnews)
    have HB : Hid (B ≤ (w2.alloc (.cells #[.int .i64 (d : Int), .int .i64 (a : Int), .string T] 75)).heap.size) := Lib.hid hA.le
    have hbd : ∀ W, (Instr.build 75 #[(0, .int .i64 (d : Int)), (1, .int .i64 (a : Int)), (2, .string T)]).run Try.prog W = .ok (.agg #[.int .i64 (d : Int), .int .i64 (a : Int), .string T]) W := fun W => by kernel_rfl
    clear h2 k2 HS HI bA hA hnews
    go_wp2_with ((with_reducible refine wpList_append_waitR (y := ⟨d, a, X⟩) rfl (.tmp 33) (.tmp 38) rfl rfl rfl HA.out.waits HW.out HN.out HB.out ?_); intro v' w3 hw3 hg3; refine of_hid ?_)
    refine Lib.hid ?_
    rw [waitL_push] at hw3
    obtain ⟨A3, c3, rfl⟩ := own_shape hw3
    obtain ⟨hp1, hp2, hp3, hp4⟩ := HA.out.pushW hg3 hw3
    have H4 := Lib.hid (hp1.cost (s1.cost + 1))
    have K4 := Lib.hid (KA.out.trans hp2)
    clear hp1 hp2 hw3 hg3 HA KA HW HB hbd c2 cA
    go_wp2_with fail
    go_ret
    exact ⟨rfl, ⟨_, _, _, _, _, H4.out⟩, K4.out⟩
/-- behind the loss of what waits for drive d -/
def forgot (s : RS) (d : Nat) : RS := { s with nw := (keptL s.W d s.nw).length, W := fun i => (keptL s.W d s.nw).getD i ⟨0, 0, zeros⟩ }
def waitLL (l : List Wt) : List Value := l.flatMap waitV
theorem waitLL_snoc (l : List Wt) (y : Wt) : waitLL (l ++ [y]) = waitLL l ++ waitV y := by simp [waitLL]
theorem waitL_take (l : List Wt) (z : Wt) : ∀ k, k ≤ l.length → waitL (fun i => l.getD i z) k = waitLL (l.take k)
  | 0, _ => by rw [List.take_zero]; rfl
  | k + 1, h => by
    have hk : k < l.length := by omega
    have e : l.getD k z = l[k] := by simp [List.getD_eq_getElem?_getD, hk]
    show waitL (fun i => l.getD i z) k ++ waitV (l.getD k z) = _
    rw [waitL_take l z k (by omega), e, List.take_succ_eq_append_getElem hk, waitLL_snoc]
theorem waitL_list (l : List Wt) (z : Wt) : waitL (fun i => l.getD i z) l.length = waitLL l := by rw [waitL_take l z l.length (Nat.le_refl _), List.take_length]
set_option maxHeartbeats 1600000 in
theorem forget_k (w : World) (g : Nat) (s : RS) (d : Nat) (hn : s.nw ≤ 1000000) (h : TK B w g s vL vG vW H C) :
    Calls Try.prog 45 #[.pointer (some ⟨g, 0, none⟩), .int .i64 (d : Int)] w fun e w' => e = .returned (.tuple #[]) ∧ (∃ vW', TK B w' g (forgot s d) vL vG vW' H C) ∧ KeepR B w w' := by
  have HK := Lib.hid h
  have c2 := h.c2
  obtain ⟨A, c, rfl, _⟩ := h.shapeW
  have hle := h.le
  clear h
  obtain ⟨m, hmn⟩ : ∃ m, m = s.nw := ⟨_, rfl⟩
  rw [← hmn] at hn c2
  have HM := Lib.hid hmn
  have hz := hmn
  clear hmn hz
  have c2w := Lib.hid c2
  have N0 : Hid (w.ownsRow w.heap.size 75 3 (.slice none 0 0) (keptL s.W d 0).length (waitLL (keptL s.W d 0))) := Lib.hid ⟨rfl, .inl ⟨rfl, rfl⟩⟩
  have L0 := Lib.hid (Below.refl w.heap.size w)
  clear c2
  go_enter Try.func45, Try.ntmps45
  go_wp2_with fail
  go_loopw [4, 5] (fun o x wr => ∃ i : Nat, i ≤ m ∧ x = .int .i64 i ∧ Hid (wr.ownsRow w.heap.size 75 3 o (keptL s.W d i).length (waitLL (keptL s.W d i))) ∧ Hid (Below w.heap.size w wr)) (fun _ x _ => m - (intOf x).toNat)
  case atStart => exact ⟨0, by omega, rfl, N0, L0⟩
  case round =>
    obtain ⟨i, hi, rfl, N1, L1⟩ := hrel
    clear N0 L0
    have H1 := Lib.hid (HK.out.below L1.out)
    have c2 := H1.out.c2
    rw [← HM.out] at c2
    by_cases hlt : i < m
    · have i1 : (i : Int) < (m : Int) := by omega
      have i0 : (0 : Int) ≤ (i : Int) := by omega
      obtain ⟨l, c', e, k0, k1, k2⟩ := H1.out.wait (i := i) (by rw [← HM.out]; exact hlt)
      injection e with e _ e2
      subst e
      obtain ⟨wd, hwd⟩ : ∃ wd, wd = (s.W i).d := ⟨_, rfl⟩
      rw [← hwd] at k0
      by_cases hd : wd = d
      · have t1 : ((wd : Int) != (d : Int)) = false := by simp; omega
        have N2 : Hid (wr.ownsRow w.heap.size 75 3 u4 (keptL s.W d (i + 1)).length (waitLL (keptL s.W d (i + 1)))) := Lib.hid (by
          rw [show keptL s.W d (i + 1) = keptL s.W d i from if_pos (hwd.symm.trans hd)]
          exact N1.out)
        clear hwd hd e2 H1 N1
        go_wp2_with fail
        go_roundw
        case rel => exact ⟨i + 1, by omega, by go_num, N2, L1⟩
        case measure => simp [intOf]; omega
      · have t1 : ((wd : Int) != (d : Int)) = true := by simp; omega
        have hkl : keptL s.W d (i + 1) = keptL s.W d i ++ [s.W i] := if_neg (fun q => hd (hwd.trans q))
        have HKL := Lib.hid hkl
        have hlen := keptL_le s.W d i
        obtain ⟨y, hy⟩ : ∃ y, y = s.W i := ⟨_, rfl⟩
        rw [hwd, ← hy] at k0
        rw [hwd, ← hy] at t1
        rw [← hy] at k1 k2
        have HY := Lib.hid hy
        have bA : Below wr.heap.size wr (wr.alloc (.cells #[.int .i64 (y.d : Int), .int .i64 (y.a : Int), textV y.x] 75)) := (Below.refl _ _).alloc (Nat.le_refl _) _
        have NA := Lib.hid (own_keep N1.out (w' := wr.alloc (.cells #[.int .i64 (y.d : Int), .int .i64 (y.a : Int), textV y.x] 75)) fun g1 hg1 => bA.block g1 (own_lt N1.out hg1).1)
        have LA := Lib.hid (L1.out.trans (bA.mono L1.out.size))
        have HW := Lib.hid (wait_new wr y)
        have HB : Hid (w.heap.size ≤ (wr.alloc (.cells #[.int .i64 (y.d : Int), .int .i64 (y.a : Int), textV y.x] 75)).heap.size) := Lib.hid LA.out.size
        have HN : Hid ((keptL s.W d i).length + 1 ≤ 2000000) := Lib.hid (by omega)
        clear hwd hd hy e2 hkl H1 N1 L1 bA hlen
        go_wp2_with ((with_reducible refine wpList_append_waitR (y := y) rfl (.tmp 25) (.tmp 33) rfl rfl rfl NA.out HW.out HN.out HB.out ?_); intro v' w3 hw3 hg3; refine of_hid ?_)
        refine Lib.hid ?_
        have N2 : Hid (w3.ownsRow w.heap.size 75 3 v' (keptL s.W d (i + 1)).length (waitLL (keptL s.W d (i + 1)))) := Lib.hid (by
          rw [HKL.out, waitLL_snoc, List.length_append, ← HY.out]
          exact hw3)
        have L2 : Hid (Below w.heap.size w w3) := Lib.hid (LA.out.trans ⟨hg3.os, hg3.tape, hg3.output, hg3.size, fun k hk => hg3.block k (by have := HB.out; omega) (fun e => by have := (own_lt NA.out e.symm).2; omega)⟩)
        obtain ⟨A3, c3, rfl⟩ := own_shape hw3
        clear hw3 hg3 NA LA HW HB HN k0 k1 k2 c2 t1
        go_wp2_with fail
        go_roundw
        case rel => exact ⟨i + 1, by omega, by go_num, N2, L2⟩
        case measure => simp [intOf]; omega
    · obtain rfl : m = i := by omega
      have f2 := H1.out.frozen 2
      obtain ⟨A3, c3, e3⟩ := own_shape N1.out
      have hrow : wr.ownsRow B 75 3 u4 (keptL s.W d m).length (waitL (fun i => (keptL s.W d m).getD i ⟨0, 0, zeros⟩) (keptL s.W d m).length) := by
        rw [waitL_list]
        exact own_base N1.out hle
      have hset : (wr.setCell ⟨g, 2, none⟩ u4).ownsRow B 75 3 u4 (keptL s.W d m).length (waitL (fun i => (keptL s.W d m).getD i ⟨0, 0, zeros⟩) (keptL s.W d m).length) := own_keep hrow fun g1 hg1 => Below.heap_setCell wr ⟨g, 2, none⟩ u4 g1 (fun e => own_not_blk hrow H1.out.blk rfl (by rw [hg1]; exact congrArg some e))
      have hT := H1.out.setW hset
      have K3 := Lib.hid (((KeepR.refl B w).new L1.out hle).put H1.out 2 u4)
      rw [HM.out] at hT
      have HT : Hid (TK B (wr.setCell ⟨g, 2, none⟩ u4) g (forgot s d) vL vG u4 H C) := Lib.hid hT
      subst e3
      clear hlt hi hrow hset hT N1 H1 L1
      go_wp2_with fail
      go_end0
      exact ⟨rfl, ⟨_, HT.out⟩, K3.out⟩
end
end refRack
end Go.Proofs.Ytlbmeaioiiflkaa
