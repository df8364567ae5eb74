/-
  The document's rack by contracts: Rotten. No conditions beyond those that the theorem types.
-/
import Derived.Test.YtlbmeaioiiflkaaRefRead
import Derived.Test.YtlbmeaioiiflkaaRefWrote
import Derived.Test.YtlbmeaioiiflkaaRackRot
import Derived.Lib.ConvBytes
namespace Go.Proofs.Ytlbmeaioiiflkaa
open Go Go.RowKit
set_option maxRecDepth 100000
set_option linter.unusedVariables false
namespace refRack
def freeF (fr : Nat × Nat) (m : Nat) : Prop := fr.2 ≤ fr.1 ∨ m ≤ fr.1
/-- n bytes at the head of block g -/
def RowF (w : World) (g n : Nat) (X : Nat → Nat) : Prop := ∃ cs fr, w.heap[g]? = some (.cells cs 5 fr) ∧ freeF fr cs.size ∧ ∀ j, j < n → cs[j]? = some (.int .u8 ((X j : Nat) : Int))
section
variable {w w' : World} {g n : Nat} {X : Nat → Nat}
theorem RowF.cell (h : RowF w g n X) {j : Nat} (hj : j < n) : w.cell? ⟨g, j, none⟩ = some (.int .u8 ((X j : Nat) : Int)) := by
  obtain ⟨cs, fr, hb, _, hc⟩ := h
  rw [cell_of_row _ _ _ _ _ _ hb]
  exact hc j hj
theorem RowF.frozen (h : RowF w g n X) {j : Nat} (hj : j < n) : w.frozen? ⟨g, j, none⟩ = false := by
  obtain ⟨cs, fr, hb, hf, hc⟩ := h
  have hlt := (Array.getElem?_eq_some_iff.1 (hc j hj)).1
  unfold freeF at hf
  simp only [World.frozen?, hb]
  simp
  omega
theorem RowF.set (h : RowF w g n X) {k v : Nat} (hk : k < n) : RowF (w.setCell ⟨g, k, none⟩ (.int .u8 ((v : Nat) : Int))) g n (fun j => if j = k then v else X j) := by
  obtain ⟨cs, fr, hb, hf, hc⟩ := h
  refine ⟨cs.setIfInBounds k (.int .u8 ((v : Nat) : Int)), fr, ?_, by simpa using hf, fun j hj => ?_⟩
  · rw [setCell_eq_setRow w g k cs _ fr _ hb]
    exact setRow_heap w g cs _ _ fr hb
  have hk' := (Array.getElem?_eq_some_iff.1 (hc k hk)).1
  rw [Array.getElem?_setIfInBounds]
  by_cases e : k = j
  · subst e
    rw [if_pos rfl, if_pos hk']
    show _ = some (Value.int .u8 (((if k = k then v else X k) : Nat) : Int))
    rw [if_pos rfl]
  · rw [if_neg e]
    show _ = some (Value.int .u8 (((if j = k then v else X j) : Nat) : Int))
    rw [if_neg (fun x : j = k => e x.symm)]
    exact hc j hj
theorem RowF.conv (h : RowF w g n X) (c : Nat) : (convert 43 9 (.slice (some ⟨g, 0, none⟩) n c)).run Try.prog w = .ok (.string (strB n X)) w :=
  run_convert_bytes_arg w 43 5 Try.underlying43 Try.underlying5 g 0 n c _ (by simp) (fun i hi => by
    rw [Nat.zero_add, h.cell hi]
    simp [List.getD_eq_getElem?_getD, hi]) 9 Try.underlying9
end
theorem conv_strR (n : Nat) (X : Nat → Nat) (w : World) (hX : ∀ j, j < n → X j < 256) (hn : n ≤ maxLen) : ∃ c w', (convert 9 43 (.string (strB n X))).run Try.prog w = .ok (.slice (some ⟨w.heap.size, 0, none⟩) n c) w' ∧ RowF w' w.heap.size n X ∧ Below w.heap.size w w' := by
  have hr := Lib.run_convert_string_bytes (P := Try.prog) w 9 43 5 (strB n X) Try.underlying9 Try.underlying43 Try.underlying5
  have hss := strB_sizeR n X
  rw [hss] at hr
  have hs2 : (strB n X).data.size = n := hss
  have hge := grownCap_ge w n 0 5
  have hsz : (Lib.bytesCells w 5 (strB n X)).size = grownCap w n 0 5 := by
    unfold Lib.bytesCells
    simp [hs2, hss]
    omega
  refine ⟨_, _, hr, ⟨_, _, Lib.bytesWorld_at_new w 5 (strB n X), .inr (Nat.le_refl _), fun j hj => ?_⟩, ⟨rfl, rfl, rfl, by rw [Lib.bytesWorld_size]; omega, fun k hk => Lib.bytesWorld_at_old w 5 (strB n X) k hk⟩⟩
  have h1 := Lib.bytesWorld_cell w 5 (strB n X) j (by rw [hss]; exact hj)
  rw [cell_of_row _ _ _ _ _ _ (Lib.bytesWorld_at_new w 5 (strB n X))] at h1
  rw [h1, strB_dataR]
  have := hX j hj
  simp [List.getD_eq_getElem?_getD, hj, UInt8.toNat_ofNat']
  omega
theorem wpList_conv_strR {w : World} {ops : Array Oper} {rest : List Oper} {o : Oper} {a : Act} {Q : Exit → Act → World → Prop} (hgd : o.guard = none) (x : Operand) (ho : o.op = .convert 9 43 x) {n : Nat} {X : Nat → Nat} {T : ByteArray} (hx : a.eval x = .string T) (hT : T = strB n X) (hX : ∀ j, j < n → X j < 256) (hn : n ≤ maxLen)
    (h : ∀ c w', RowF w' w.heap.size n X → Below w.heap.size w w' → wpList Try.prog ops Q rest (a.put o.dst (.slice (some ⟨w.heap.size, 0, none⟩) n c)) w') : wpList Try.prog ops Q (o :: rest) a w := by
  subst hT
  obtain ⟨c, w', hr, h1, h2⟩ := conv_strR n X w hX hn
  refine wpList_plain hgd fun K hK => ?_
  unfold Oper.wp execOp
  simp only [ho, hx, hr, Sem.run_bind, Sem.run_pure, Result.andThen_ok]
  exact hK _ _ (h c w' h1 h2)
set_option maxHeartbeats 800000 in
theorem rotten_k (w : World) (X : Nat → Nat) (n : Nat) (hX : ∀ j, j < 128 → X j < 256) (hn : n ≤ 9223372036854775807) :
    Calls Try.prog 47 #[textV X, .int .i64 (n : Int)] w fun e w' => e = .returned (textV (rotF X n)) ∧ Below w.heap.size w w' := by
  obtain ⟨k, hk⟩ : ∃ k, k = n % 128 := ⟨_, rfl⟩
  obtain ⟨q, hq⟩ : ∃ q, q = n / 128 % 255 := ⟨_, rfl⟩
  have hk1 : k < 128 := by omega
  have hq1 : q < 255 := by omega
  have hrot : (fun j => if j = k then X k ^^^ (1 + q) else X j) = rotF X n := by
    funext j
    unfold rotF
    rw [← hk, ← hq]
    by_cases e : j = k
    · rw [if_pos e, if_pos e, e]
    · rw [if_neg e, if_neg e]
  have m5 : bits .xor .u8 ((X k : Nat) : Int) (1 + (q : Int)) = ((X k ^^^ (1 + q) : Nat) : Int) := by
    have h := u8_xor_nat (X k) (1 + q) (hX k hk1) (by omega)
    rw [show ((1 + q : Nat) : Int) = 1 + (q : Int) by omega] at h
    exact h
  have m1 : (n : Int) % 128 = (k : Int) := by omega
  have m2 : 1 + (n : Int) / 128 % 255 = ((1 + q : Nat) : Int) := by omega
  have n0 : (0 : Int) ≤ (n : Int) := by omega
  have n1 : (n : Int) ≤ 9223372036854775807 := by omega
  have HX := Lib.hid hX
  have HROT := Lib.hid hrot
  have HM : Hid (128 ≤ maxLen) := Lib.hid (by unfold maxLen; omega)
  clear hk hq hrot hX
  unfold textV
  obtain ⟨T, hT⟩ : ∃ T, T = strB 128 X := ⟨_, rfl⟩
  rw [← hT]
  have HT := Lib.hid hT
  have i0 : (0 : Int) ≤ (k : Int) := by omega
  have i1 : (k : Int) < 128 := by omega
  clear hT
  go_enter Try.func47, Try.ntmps47
  go_wp2_with ((with_reducible refine wpList_conv_strR (n := 128) (X := X) rfl (.tmp 6) rfl rfl HT.out HX.out HM.out ?_); intro c w1 hr hb1; refine of_hid ?_)
  refine Lib.hid ?_
  have c1 := hr.cell hk1
  have f1 := hr.frozen hk1
  have HR := Lib.hid (hr.set (v := X k ^^^ (1 + q)) hk1)
  have L1 := Lib.hid (hb1.setCell (p := ⟨w.heap.size, k, none⟩) (Nat.le_refl _) (.int .u8 ((X k ^^^ (1 + q) : Nat) : Int)))
  have c2 := HR.out.conv c
  rw [HROT.out] at c2
  clear hr hb1
  go_wp2_with fail
  go_ret
  exact ⟨rfl, L1.out⟩
end refRack
end Go.Proofs.Ytlbmeaioiiflkaa
