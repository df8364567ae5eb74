/-
  Rows of bytes that a call has made: appends of bytes that came in, and of texts. Conditions: lengths below 2^46.
-/
import Derived.Test.YtkbndlnmbbbohaaGreatDoorStoKM
import Derived.Maps.AppendAt
import Derived.Lib.AppendStr
import Derived.Lib.ConvBytes
import Derived.Test.YtkbndlnmbbbohaaGreatDoorArrMathM
import Derived.Test.YtkbndlnmbbbohaaGreatDoorFieldU8M
import Derived.Test.YtkbndlnmbbbohaaGreatDoorSpcPartM
import Derived.Test.YtkbndlnmbbbohaaGreatDoorRackPowerM
import Derived.Laws.CopyOwn
import Derived.Laws.MakeOwn
namespace Go.Proofs.YtkbndlnmbbbohaaGreatDoor
open Go Go.RowKit Go.Lib
set_option maxRecDepth 100000
set_option linter.unusedVariables false

/-- X, and Y behind -/
def cat (n : Nat) (X Y : Nat → Nat) (j : Nat) : Nat := if j < n then X j else Y (j - n)
/-- no cell of a block of m cells is marked -/
def freeTail (fr : Nat × Nat) (m : Nat) : Prop := fr.2 ≤ fr.1 ∨ m ≤ fr.1
/-- the call's own row of n bytes -/
def Own8 (w : World) (base : Nat) (v : Value) (n : Nat) (X : Nat → Nat) : Prop :=
  (v = .slice none 0 0 ∧ n = 0) ∨ ∃ g cap cur fr, v = .slice (some ⟨g, 0, none⟩) n cap ∧ base ≤ g ∧ w.heap[g]? = some (.cells cur 5 fr) ∧ freeTail fr cap ∧ n ≤ cap ∧ cap ≤ maxLen ∧ cur.size = cap ∧ ∀ j, j < n → cur[j]? = some (.int .u8 ((X j : Nat) : Int))
theorem lt_of_heap {w : World} {g : Nat} {o : Obj} (h : w.heap[g]? = some o) : g < w.heap.size := (Array.getElem?_eq_some_iff.1 h).1
theorem Own8.nil (w : World) (base : Nat) (X : Nat → Nat) : Own8 w base (.slice none 0 0) 0 X := .inl ⟨rfl, rfl⟩
theorem Own8.shape {w : World} {base n : Nat} {v : Value} {X : Nat → Nat} (h : Own8 w base v n X) (hX : ∀ j, j < n → X j < 256) :
    ∃ A c, v = .slice A n c ∧ RdB w w.heap.size A n X ∧ n ≤ c ∧ c ≤ maxLen ∧ (∀ g o, A = some ⟨g, o, none⟩ → base ≤ g) ∧ (A = none → c = 0) := by
  rcases h with ⟨rfl, rfl⟩ | ⟨g, cap, cur, fr, rfl, hg, hb, h0, h1, h2, h3, h4⟩
  · exact ⟨none, 0, rfl, fun j hj => absurd hj (by omega), by omega, by simp [maxLen], fun g o e => (by cases e), fun _ => rfl⟩
  · exact ⟨_, _, rfl, fun j hj => ⟨g, 0, rfl, lt_of_heap hb, by rw [Nat.zero_add, cell_of_row _ _ _ _ _ _ hb]; exact h4 j hj, hX j hj⟩, h1, h2, fun g' o e => by injection e with e; injection e with e _; omega, fun e => (by cases e)⟩
theorem Own8.of_blk {w : World} {base g n c : Nat} {X : Nat → Nat} (h : Blk w g 5 (rowArr c X)) (hb : base ≤ g) (hn : n ≤ c) (hc : c ≤ maxLen) : Own8 w base (.slice (some ⟨g, 0, none⟩) n c) n X :=
  .inr ⟨g, c, rowArr c X, (0, 0), rfl, hb, h, .inl (Nat.le_refl _), hn, hc, rowArr_size c X, fun j hj => rowArr_get (by omega)⟩
theorem Own8.congr {w : World} {base n : Nat} {v : Value} {X Y : Nat → Nat} (h : Own8 w base v n X) (e : ∀ j, j < n → X j = Y j) : Own8 w base v n Y := by
  rcases h with h | ⟨g, cap, cur, fr, rfl, hg, hb, h0, h1, h2, h3, h4⟩
  · exact .inl h
  · exact .inr ⟨g, cap, cur, fr, rfl, hg, hb, h0, h1, h2, h3, fun j hj => by rw [← e j hj]; exact h4 j hj⟩
theorem Own8.keep {w w' : World} {base n : Nat} {v : Value} {X : Nat → Nat} (h : Own8 w base v n X) (hk : ∀ g, v.ownBlock = some g → w'.heap[g]? = w.heap[g]?) : Own8 w' base v n X := by
  rcases h with h | ⟨g, cap, cur, fr, rfl, hg, hb, h3⟩
  · exact .inl h
  · exact .inr ⟨g, cap, cur, fr, rfl, hg, (hk g rfl).trans hb, h3⟩
theorem Own8.lt {w : World} {base n g : Nat} {v : Value} {X : Nat → Nat} (h : Own8 w base v n X) (hg : v.ownBlock = some g) : g < w.heap.size ∧ base ≤ g := by
  rcases h with ⟨rfl, _⟩ | ⟨g', cap, cur, fr, rfl, hb, hblk, _⟩
  · simp [Value.ownBlock] at hg
  · simp [Value.ownBlock] at hg
    subst hg
    exact ⟨lt_of_heap hblk, hb⟩
theorem Own8.below {w w' : World} {base n B : Nat} {v : Value} {X : Nat → Nat} (h : Own8 w base v n X) (hk : Below B w w') (hB : w.heap.size ≤ B) : Own8 w' base v n X :=
  h.keep fun g hg => hk.block g (by have := (h.lt hg).1; omega)
theorem Own8.base {w : World} {base base' n : Nat} {v : Value} {X : Nat → Nat} (h : Own8 w base v n X) (hb : base' ≤ base) : Own8 w base' v n X := by
  rcases h with h | ⟨g, cap, cur, fr, rfl, hg, h3⟩
  · exact .inl h
  · exact .inr ⟨g, cap, cur, fr, rfl, Nat.le_trans hb hg, h3⟩
/-- cells stored one behind the other -/
theorem store_run (g o : Nat) (t : TypeId) (fr : Nat × Nat) : ∀ (vs : List Value) (i : Nat) (cur : Array Value) (w : World), w.heap[g]? = some (.cells cur t fr) → freeTail fr cur.size → o + i + vs.length ≤ cur.size → (∀ v ∈ vs, v.oneCell' = true) →
    ∃ w' cur', (storeCells ⟨g, o, none⟩ vs i).run Tryz.prog w = .ok () w' ∧ w'.heap[g]? = some (.cells cur' t fr) ∧ cur'.size = cur.size ∧ (∀ j, cur'[j]? = if o + i ≤ j ∧ j < o + i + vs.length then vs[j - (o + i)]? else cur[j]?) ∧ Only g w w' ∧ w'.heap.size = w.heap.size
  | [], i, cur, w, hg, _, _, _ => ⟨w, cur, rfl, hg, rfl, fun j => by rw [if_neg (by simp)], Only.refl _ _, rfl⟩
  | v :: rest, i, cur, w, hg, hf, hl, h1 => by
    have hi : o + i < cur.size := by simp at hl; omega
    have hcell : w.cell? ⟨g, o + i, none⟩ = some cur[o + i] := by rw [cell_of_row _ _ _ _ _ _ hg]; simp [hi]
    have hfro : w.frozen? ⟨g, o + i, none⟩ = false := by
      unfold freeTail at hf
      simp only [World.frozen?, hg]
      simp
      omega
    have hst : (store ((⟨g, o, none⟩ : Addr).add i) v).run Tryz.prog w = .ok () (w.setRow g (cur.setIfInBounds (o + i) v)) := by
      rw [add_plain, run_store _ w _ v _ (h1 v (by simp)), hcell]
      simp [hfro, setCell_eq_setRow w g (o + i) cur t fr v hg]
    have hg1 := setRow_heap w g cur (cur.setIfInBounds (o + i) v) t fr hg
    obtain ⟨w', cur', e1, e2, e3, e4, e5, e6⟩ := store_run g o t fr rest (i + 1) (cur.setIfInBounds (o + i) v) _ hg1 (by simpa using hf) (by simp at hl ⊢; omega) (fun x hx => h1 x (by simp [hx]))
    have o1 : Only g w (w.setRow g (cur.setIfInBounds (o + i) v)) := ⟨rfl, rfl, rfl, by simp, fun k hk hne => setRow_other w g k _ (fun e => hne (by rw [e]))⟩
    refine ⟨w', cur', ?_, e2, by rw [e3]; simp, fun j => ?_, o1.trans e5, by rw [e6]; simp⟩
    · simp only [storeCells, Sem.run_bind, hst, Result.andThen_ok, e1]
    · rw [e4, Array.getElem?_setIfInBounds]
      simp only [List.length_cons]
      by_cases ha : o + i = j
      · rw [if_neg (by omega), if_pos ha, if_pos hi, if_pos (by omega), show j - (o + i) = 0 by omega]
        rfl
      · by_cases hb : o + (i + 1) ≤ j ∧ j < o + (i + 1) + rest.length
        · rw [if_pos hb, if_pos (by omega), show j - (o + i) = (j - (o + (i + 1))) + 1 by omega]
          rfl
        · rw [if_neg hb, if_neg ha, if_neg (by omega)]
theorem strB_data (n : Nat) (X : Nat → Nat) : (strB n X).data.toList = (List.range n).map fun j => UInt8.ofNat (X j) := by rw [← strB_list, ByteArray.toList_eq]
theorem strB_size (n : Nat) (X : Nat → Nat) : (strB n X).size = n := by
  have h := congrArg List.length (strB_data n X)
  rw [List.length_map, List.length_range, Array.length_toList] at h
  exact h
/-- n bytes at the head of block g -/
def RowG (w : World) (g n : Nat) (X : Nat → Nat) : Prop := ∃ cs fr, w.heap[g]? = some (.cells cs 5 fr) ∧ freeTail fr cs.size ∧ ∀ j, j < n → cs[j]? = some (.int .u8 ((X j : Nat) : Int))
def upd (X : Nat → Nat) (k v : Nat) (j : Nat) : Nat := if j = k then v else X j
section
variable {w w' : World} {g n : Nat} {X : Nat → Nat}
theorem RowG.lt (h : RowG w g n X) : g < w.heap.size := by obtain ⟨cs, fr, hb, _⟩ := h; exact lt_of_heap hb
theorem RowG.cell (h : RowG w g n X) {j : Nat} (hj : j < n) : w.cell? ⟨g, j, none⟩ = some (.int .u8 ((X j : Nat) : Int)) := by
  obtain ⟨cs, fr, hb, _, hc⟩ := h
  rw [cell_of_row _ _ _ _ _ _ hb]
  exact hc j hj
theorem RowG.frozen (h : RowG w g n X) {j : Nat} (hj : j < n) : w.frozen? ⟨g, j, none⟩ = false := by
  obtain ⟨cs, fr, hb, hf, hc⟩ := h
  have hlt := (Array.getElem?_eq_some_iff.1 (hc j hj)).1
  unfold freeTail at hf
  simp only [World.frozen?, hb]
  simp
  omega
theorem RowG.rdb (h : RowG w g n X) (hX : ∀ j, j < n → X j < 256) {B : Nat} (hB : g < B) : RdB w B (some ⟨g, 0, none⟩) n X := fun j hj => ⟨g, 0, rfl, hB, by rw [Nat.zero_add]; exact h.cell hj, hX j hj⟩
theorem RowG.heap (h : RowG w g n X) (e : w'.heap[g]? = w.heap[g]?) : RowG w' g n X := by
  obtain ⟨cs, fr, hb, hc⟩ := h
  exact ⟨cs, fr, e.trans hb, hc⟩
theorem RowG.set (h : RowG w g n X) {k v : Nat} (hk : k < n) : RowG (w.setCell ⟨g, k, none⟩ (.int .u8 ((v : Nat) : Int))) g n (upd X k v) := by
  obtain ⟨cs, fr, hb, hf, hc⟩ := h
  refine ⟨cs.setIfInBounds k (.int .u8 ((v : Nat) : Int)), fr, ?_, by simpa using hf, fun j hj => ?_⟩
  · rw [setCell_eq_setRow w g k cs _ fr _ hb]
    exact setRow_heap w g cs _ _ fr hb
  have hk' := (Array.getElem?_eq_some_iff.1 (hc k hk)).1
  rw [Array.getElem?_setIfInBounds]
  unfold upd
  by_cases e : k = j
  · rw [if_pos e, if_pos hk', if_pos e.symm]
  · rw [if_neg e, if_neg (fun x => e x.symm)]
    exact hc j hj
theorem RowG.congr {Y : Nat → Nat} (h : RowG w g n X) (e : ∀ j, j < n → X j = Y j) : RowG w g n Y := by
  obtain ⟨cs, fr, hb, hf, hc⟩ := h
  exact ⟨cs, fr, hb, hf, fun j hj => by rw [← e j hj]; exact hc j hj⟩
theorem RowG.part {m : Nat} (h : RowG w g n X) (hm : m ≤ n) : RowG w g m X := by
  obtain ⟨cs, fr, hb, hf, hc⟩ := h
  exact ⟨cs, fr, hb, hf, fun j hj => hc j (by omega)⟩
theorem RowG.below {B : Nat} (h : RowG w g n X) (hb : Below B w w') (hg : g < B) : RowG w' g n X := h.heap (hb.block g hg)
theorem RowG.new_ (h : RowG w g n X) (hb : Below w.heap.size w w') : RowG w' g n X := h.below hb h.lt
theorem RowG.far (h : RowG w g n X) {p : Addr} (hp : g ≠ p.block) (u : Value) : RowG (w.setCell p u) g n X := h.heap (Below.heap_setCell w p u g hp)
theorem RowG.drewN (h : RowG w g n X) (k : Nat) : RowG (w.drewN k) g n X := h
theorem RowG.alloc (h : RowG w g n X) (o : Obj) : RowG (w.alloc o) g n X := h.heap (Below.heap_alloc w o g h.lt)
theorem RowG.of_blk {c : Nat} (h : Blk w g 5 (rowArr c X)) (hn : n ≤ c) : RowG w g n X := ⟨_, (0, 0), h, .inl (Nat.le_refl _), fun j hj => rowArr_get (by omega)⟩
theorem RowG.conv (h : RowG w g n X) (hX : ∀ j, j < n → X j < 256) (c : Nat) : (convert 41 9 (.slice (some ⟨g, 0, none⟩) n c)).run Tryz.prog w = .ok (.string (strB n X)) w := conv_rd (h.rdb hX (Nat.lt_succ_self g))
end
theorem Own8.row {w : World} {base n : Nat} {v : Value} {X : Nat → Nat} (h : Own8 w base v n X) (hn : 0 < n) : ∃ g c, v = .slice (some ⟨g, 0, none⟩) n c ∧ base ≤ g ∧ RowG w g n X ∧ n ≤ c ∧ c ≤ maxLen := by
  rcases h with ⟨rfl, rfl⟩ | ⟨g, cap, cur, fr, rfl, hg, hb, h0, h1, h2, h3, h4⟩
  · omega
  · exact ⟨g, cap, rfl, hg, ⟨cur, fr, hb, by rw [h3]; exact h0, h4⟩, h1, h2⟩
end Go.Proofs.YtkbndlnmbbbohaaGreatDoor
namespace Go.Proofs.YtkbndlnmbbbohaaGreatDoor
open Go.RowKit
set_option maxRecDepth 100000
set_option linter.unusedVariables false

namespace M
theorem mixR_lt {T X : Nat → Nat} (hT : ∀ j, T j < 256) (c k j : Nat) : mixR T X c k j < 256 := by
  unfold mixR
  split
  · exact xor_lt (hT j) (gmul_lt _ _)
  · exact hT j
end M

/-- Two blocks alone may have turned, others may be new. -/
structure Only2 (g h : Nat) (a w : World) : Prop where
  os : w.os = a.os
  tape : w.tape = a.tape
  output : w.output = a.output
  size : a.heap.size ≤ w.heap.size
  block : ∀ i, i < a.heap.size → i ≠ g → i ≠ h → w.heap[i]? = a.heap[i]?
section
variable {a b w : World} {g h : Nat}
theorem Only2.refl (g h : Nat) (w : World) : Only2 g h w w := ⟨rfl, rfl, rfl, Nat.le_refl _, fun _ _ _ _ => rfl⟩
theorem Only2.trans (k : Only2 g h a b) (l : Only2 g h b w) : Only2 g h a w :=
  ⟨l.os.trans k.os, l.tape.trans k.tape, l.output.trans k.output, Nat.le_trans k.size l.size, fun i hi h1 h2 => (l.block i (Nat.lt_of_lt_of_le hi k.size) h1 h2).trans (k.block i hi h1 h2)⟩
theorem Only2.only (k : Only2 g h a b) (l : Only g b w) : Only2 g h a w :=
  k.trans ⟨l.os, l.tape, l.output, l.size, fun i hi h1 _ => l.block i hi (by simpa using h1)⟩
theorem Only2.setCell (k : Only2 g h a w) (i : Nat) (u : Value) : Only2 g h a (w.setCell ⟨h, i, none⟩ u) :=
  k.trans ⟨rfl, rfl, rfl, by simp [World.setCell], fun j _ _ hj => Below.heap_setCell w ⟨h, i, none⟩ u j hj⟩
theorem Only2.drewN (k : Only2 g h a w) (n : Nat) : Only2 g h a (w.drewN n) := ⟨k.os, k.tape, k.output, k.size, k.block⟩
theorem Only2.drew (k : Only2 g h a w) : Only2 g h a w.drew := ⟨k.os, k.tape, k.output, k.size, k.block⟩
theorem Only2.below (k : Only2 g h a w) {B : Nat} (hg : B ≤ g) (hh : B ≤ h) (hs : B ≤ a.heap.size) : Below B a w :=
  ⟨k.os, k.tape, k.output, k.size, fun i hi => k.block i (by omega) (by omega) (by omega)⟩
theorem RowG.only {f n : Nat} {X : Nat → Nat} (k : RowG a f n X) (l : Only g a w) (hne : f ≠ g) : RowG w f n X := k.heap (l.block f k.lt (by simpa using hne))
end
theorem index_zero (g n c k : Nat) (hlt : k < n) (w : World) : (Instr.indexAt 41 (.slice (some ⟨g, 0, none⟩) n c) (.int .i64 (k : Int))).run Tryz.prog w = .ok (.pointer (some ⟨g, k, none⟩)) w := by
  have h := index_slice (P := Tryz.prog) (t := 41) (e := 5) Tryz.underlying41 size_u8 g 0 n c k hlt w
  rw [Nat.zero_add] at h
  exact h
theorem u8_xor_run (a b : Nat) (ha : a < 256) (hb : b < 256) (w : World) : (binOp .xor 5 (.int .u8 (a : Int)) (.int .u8 (b : Int))).run Tryz.prog w = .ok (.int .u8 ((a ^^^ b : Nat) : Int)) w := by
  rw [← u8_xor_nat a b ha hb]
  kernel_rfl


set_option maxHeartbeats 400000 in
theorem factor_any (b j i : Nat) (w : World) (hj : j < 3) (hi : i < 64) (hb : Fld w b) :
    Calls Tryz.prog 179 #[.pointer (some ⟨b, 0, none⟩), .int .i64 (j : Int), .int .i64 (i : Int)] w fun e w' => e = .returned (.int .u8 ((M.pw (i * j) : Nat) : Int)) ∧ Fld w' b ∧ Only b w w' := by
  have HB := Lib.hid hb
  clear hb
  have hm : i * j ≤ 64 * 3 := Nat.mul_le_mul (by omega) (by omega)
  have e1 : IntKind.i64.wrap ((i : Int) * (j : Int)) = ((i * j : Nat) : Int) := by rw [← Int.natCast_mul, IntKind.wrap_i64]; omega
  generalize i * j = m at *
  go_enter Tryz.func179, Tryz.ntmps179
  go_wp2_with fail
  refine (pow_at (x := 2) (r := M.pw m) (n := (m : Int)) (by omega) (by rw [Int.toNat_natCast, M.gpow_two]) (by omega) (by omega) HB.out).mono ?_
  rintro e w1 ⟨rfl, hf1, ho1⟩
  have HF := Lib.hid hf1
  have HO := Lib.hid ho1
  clear hf1 ho1 HB
  go_wp2_with fail
  go_ret
  exact ⟨rfl, HF.out, HO.out⟩

set_option maxHeartbeats 1600000 in
theorem addTimes_any (b g c n cg cx B : Nat) (A : Option Addr) (T X : Nat → Nat) (w : World) (hb : Fld w b) (hg : RowG w g n T) (hx : RdB w B A n X) (hT : ∀ j, T j < 256) (hc : c < 256) (hgb : B ≤ g) (hbb : B ≤ b) (hne : g ≠ b) (hn : n ≤ 4096) (hB : B ≤ w.heap.size) :
    Calls Tryz.prog 178 #[.pointer (some ⟨b, 0, none⟩), .slice (some ⟨g, 0, none⟩) n cg, .int .u8 (c : Int), .slice A n cx] w fun e w' => e = .returned (.tuple #[]) ∧ Fld w' b ∧ RowG w' g n (fun j => T j ^^^ M.gmul c (X j)) ∧ Only2 b g w w' := by
  have HX := Lib.hid hx
  have HNE := Lib.hid hne
  have F0 := Lib.hid hb
  have G0 : Hid (RowG w g n (M.mixR T X c 0)) := hg.congr fun j _ => by unfold M.mixR; rw [if_neg (by omega)]
  have HBD : Hid (B ≤ g ∧ B ≤ b ∧ B ≤ w.heap.size) := ⟨hgb, hbb, hB⟩
  clear hx hne hb hg hgb hbb hB
  go_enter Tryz.func178, Tryz.ntmps178
  go_wp2_with fail
  go_loopw [12] (fun x wr => ∃ k : Nat, k ≤ n ∧ x = .int .i64 k ∧ Hid (Fld wr b) ∧ Hid (RowG wr g n (M.mixR T X c k)) ∧ Hid (Only2 b g w wr)) (fun x _ => n - (intOf x).toNat)
  case atStart => exact ⟨0, by omega, rfl, F0, G0, Only2.refl _ _ _⟩
  case round =>
    obtain ⟨k, hk, rfl, F1, G1, O1⟩ := hrel
    clear F0 G0
    by_cases hlt : k < n
    · obtain ⟨bx, ox, rfl, hbx, hcx, hxk⟩ := (HX.out.below (O1.out.below HBD.out.2.1 HBD.out.1 HBD.out.2.2) (Nat.le_refl _)) k hlt
      have HC := Lib.hid (show M.mixR T X c k k = T k by unfold M.mixR; rw [if_neg (by omega)])
      generalize hxe : X k = xk at *
      have HXE := Lib.hid hxe
      clear hxe
      go_wp2_with fail
      have HS := Lib.hid (G1.out.cell hlt)
      clear hcx hbx
      refine region_anyZ (fun W : World => W.cell? ⟨g, k, none⟩ = some (.int .u8 ((M.mixR T X c k k : Nat) : Int))) 10 (by kernel_rfl) ?_
      refine takeG 0 (.move (.tmp 1)) (some 17) none (.slice (some ⟨g, 0, none⟩) n cg) (by kernel_rfl) (by kernel_rfl) (by kernel_rfl) (fun _ _ _ h => h) (fun o w e hS => exec_move w e (by kernel_rfl)) HS.out ?_
      refine takeG 1 (.move (.tmp 8)) (some 18) none (.int .i64 (k : Int)) (by kernel_rfl) (by kernel_rfl) (by kernel_rfl) (fun _ _ _ h => h) (fun o w e hS => exec_move w e (by kernel_rfl)) HS.out ?_
      refine takeG 2 (.indexAddr 41 (.tmp 17) (.tmp 18)) (some 19) none (.pointer (some ⟨g, k, none⟩)) (by kernel_rfl) (by kernel_rfl) (by kernel_rfl) (fun _ _ _ h => h) (fun o w e hS => exec_index (u1 := .slice (some ⟨g, 0, none⟩) n cg) (u2 := .int .i64 (k : Int)) w e (by kernel_rfl) (by kernel_rfl) (index_zero g n cg k hlt _)) HS.out ?_
      refine takeG 3 (.load 5 (.tmp 19)) (some 20) none (.int .u8 ((M.mixR T X c k k : Nat) : Int)) (by kernel_rfl) (by kernel_rfl) (by kernel_rfl) (fun _ _ _ h => h) (fun o w e hS => exec_load (x := (.tmp 19)) e (by kernel_rfl) (load_one Tryz.underlying5 (by kernel_rfl) hS)) HS.out ?_
      refine takeG 4 (.move (.tmp 0)) (some 21) none (.pointer (some ⟨b, 0, none⟩)) (by kernel_rfl) (by kernel_rfl) (by kernel_rfl) (fun _ _ _ h => h) (fun o w e hS => exec_move w e (by kernel_rfl)) HS.out ?_
      refine takeG 5 (.move (.tmp 2)) (some 22) none (.int .u8 (c : Int)) (by kernel_rfl) (by kernel_rfl) (by kernel_rfl) (fun _ _ _ h => h) (fun o w e hS => exec_move w e (by kernel_rfl)) HS.out ?_
      refine takeG 6 (.move (.tmp 9)) (some 23) none (.int .u8 (xk : Int)) (by kernel_rfl) (by kernel_rfl) (by kernel_rfl) (fun _ _ _ h => h) (fun o w e hS => exec_move w e (by kernel_rfl)) HS.out ?_
      refine loneG 7 (.call ⟨.value (.func 185), #[(.tmp 21), (.tmp 22), (.tmp 23)], #[228, 5, 5]⟩) (some 24) none (by kernel_rfl) (by kernel_rfl) (by kernel_rfl) ?_
      intro o ho hod
      refine wp_callC (f := 185) (args := #[.pointer (some ⟨b, 0, none⟩), .int .u8 (c : Int), .int .u8 (xk : Int)]) (by cases o; cases ho; kernel_rfl) (mul_some hc hxk F1.out) ?_
      rintro e w2 ⟨rfl, hf2, ho2⟩
      refine ⟨.int .u8 ((M.gmul c xk : Nat) : Int), rfl, ?_⟩
      rw [hod]
      clear hod ho
      have F2 := Lib.hid hf2
      have G2 := Lib.hid (RowG.only (show RowG wr.drew g n (M.mixR T X c k) from G1.out) ho2 HNE.out)
      have O2 := Lib.hid (O1.out.drew.only ho2)
      clear hf2 ho2
      have hc2 := G2.out.cell hlt
      have hz2 := G2.out.frozen hlt
      have HS2 := Lib.hid hc2
      refine ⟨fun _ => HS2.out, ?_⟩
      refine takeG 8 (.binOp .xor 5 (.tmp 20) (.tmp 24) 5) (some 25) none (.int .u8 ((M.mixR T X c k k ^^^ M.gmul c xk : Nat) : Int)) (by kernel_rfl) (by kernel_rfl) (by kernel_rfl) (fun _ _ _ h => h) (fun o w e hS => exec_bin (u1 := .int .u8 ((M.mixR T X c k k : Nat) : Int)) (u2 := .int .u8 ((M.gmul c xk : Nat) : Int)) w e (by kernel_rfl) (by kernel_rfl) (eqG_int ..) (u8_xor_run _ _ (M.mixR_lt hT c k k) (M.gmul_lt c xk) _)) HS2.out ?_
      refine takeG 9 (.indexAddr 41 (.tmp 17) (.tmp 18)) (some 26) none (.pointer (some ⟨g, k, none⟩)) (by kernel_rfl) (by kernel_rfl) (by kernel_rfl) (fun _ _ _ h => h) (fun o w e hS => exec_index (u1 := .slice (some ⟨g, 0, none⟩) n cg) (u2 := .int .i64 (k : Int)) w e (by kernel_rfl) (by kernel_rfl) (index_zero g n cg k hlt _)) HS2.out ?_
      refine lastStore 10 5 (.tmp 26) (.tmp 25) (.pointer (some ⟨g, k, none⟩)) (.int .u8 ((M.mixR T X c k k ^^^ M.gmul c xk : Nat) : Int)) _ (by kernel_rfl) (by kernel_rfl) (by kernel_rfl) rfl (by kernel_rfl) (by kernel_rfl) (store_one size_u8 rfl rfl (by rw [hc2]; rfl) hz2 (by rw [add_plain]; rfl)) ?_
      have F3 := Lib.hid (F2.out.far (p := ⟨g, k, none⟩) (fun e => HNE.out e.symm) (.int .u8 ((M.mixR T X c k k ^^^ M.gmul c xk : Nat) : Int)))
      have G3 : Hid (RowG (w2.setCell ⟨g, k, none⟩ (.int .u8 ((M.mixR T X c k k ^^^ M.gmul c xk : Nat) : Int))) g n (M.mixR T X c (k + 1))) := (G2.out.set hlt).congr fun j _ => by
        unfold upd
        by_cases e : j = k
        · subst e; rw [if_pos rfl, HC.out, ← HXE.out]; unfold M.mixR; rw [if_pos (by omega)]
        · rw [if_neg e]; unfold M.mixR
          by_cases e2 : j < k
          · rw [if_pos e2, if_pos (by omega)]
          · rw [if_neg e2, if_neg (by omega)]
      have O3 := Lib.hid (O2.out.setCell k (.int .u8 ((M.mixR T X c k k ^^^ M.gmul c xk : Nat) : Int)))
      clear F2 G2 O2 F1 G1 O1 HS HS2 hc2 hz2
      simp only [put_some, put_none, List.setIfInBounds_toArray, List.set_cons_succ, List.set_cons_zero]
      go_wp2_with fail
      go_roundw
      case rel => exact ⟨k + 1, by omega, by go_num, F3, G3, O3⟩
      case measure => simp [intOf]; omega
    · have G2 : Hid (RowG wr g n (fun j => T j ^^^ M.gmul c (X j))) := G1.out.congr fun j hj => by unfold M.mixR; rw [if_pos (by omega)]
      clear G1
      go_wp2_with fail
      go_end0
      exact ⟨rfl, F1.out, G2.out, O1.out⟩
end Go.Proofs.YtkbndlnmbbbohaaGreatDoor
namespace Go.Proofs.YtkbndlnmbbbohaaGreatDoor
open Go.RowKit
set_option maxRecDepth 100000
set_option linter.unusedVariables false

/-- n rows of bytes that lie below block B. -/
def RdR (w : World) (B : Nat) (A : Option Addr) (n : Nat) (ra : Nat → Option Addr) (rl rc : Nat → Nat) (x : Nat → Nat → Nat) : Prop :=
  ∀ i, i < n → ∃ b o, A = some ⟨b, o, none⟩ ∧ b < B ∧ w.cell? ⟨b, o + i, none⟩ = some (.slice (ra i) (rl i) (rc i)) ∧ RdB w B (ra i) (rl i) (x i)
theorem RdR.below {w w' : World} {B B' : Nat} {A : Option Addr} {n : Nat} {ra : Nat → Option Addr} {rl rc : Nat → Nat} {x : Nat → Nat → Nat} (h : RdR w B A n ra rl rc x) (hb : Below B' w w') (hB : B ≤ B') : RdR w' B A n ra rl rc x := by
  intro i hi
  obtain ⟨b, o, h1, h2, h3, h4⟩ := h i hi
  exact ⟨b, o, h1, h2, (hb.cell (p := ⟨b, o + i, none⟩) (by show b < B'; omega)).trans h3, h4.below hb hB⟩

end Go.Proofs.YtkbndlnmbbbohaaGreatDoor
namespace Go.Proofs.YtkbndlnmbbbohaaGreatDoor
open Go.RowKit
set_option maxRecDepth 100000
set_option linter.unusedVariables false

set_option maxHeartbeats 1600000 in
theorem addData_any (b g j n k cg cd B : Nat) (A : Option Addr) (ra : Nat → Option Addr) (rl rc : Nat → Nat) (x : Nat → Nat → Nat) (T : Nat → Nat) (w : World) (hb : Fld w b) (hg : RowG w g n T) (hr : RdR w B A k ra rl rc x) (hl : ∀ i, i < k → rl i = n)
    (hT : ∀ v, T v < 256) (hj : j < 3) (hk : k ≤ 60) (hgb : B ≤ g) (hbb : B ≤ b) (hne : g ≠ b) (hn : n ≤ 4096) (hB : B ≤ w.heap.size) :
    Calls Tryz.prog 164 #[.pointer (some ⟨b, 0, none⟩), .slice (some ⟨g, 0, none⟩) n cg, .int .i64 (j : Int), .slice A k cd] w fun e w' => e = .returned (.tuple #[]) ∧ Fld w' b ∧ RowG w' g n (fun v => T v ^^^ M.par k j x v) ∧ Only2 b g w w' := by
  have HR := Lib.hid hr
  have HL := Lib.hid hl
  have HT := Lib.hid hT
  have HNE := Lib.hid hne
  have F0 := Lib.hid hb
  have G0 : Hid (RowG w g n (fun v => T v ^^^ M.par 0 j x v)) := hg.congr fun v _ => (Nat.xor_zero _).symm
  have HBD : Hid (B ≤ g ∧ B ≤ b ∧ B ≤ w.heap.size) := ⟨hgb, hbb, hB⟩
  clear hr hl hT hne hb hg hgb hbb hB
  go_enter Tryz.func164, Tryz.ntmps164
  go_wp2_with fail
  go_loopw [12] (fun u wr => ∃ i : Nat, i ≤ k ∧ u = .int .i64 i ∧ Hid (Fld wr b) ∧ Hid (RowG wr g n (fun v => T v ^^^ M.par i j x v)) ∧ Hid (Only2 b g w wr)) (fun u _ => k - (intOf u).toNat)
  case atStart => exact ⟨0, by omega, rfl, F0, G0, Only2.refl _ _ _⟩
  case round =>
    obtain ⟨i, hi, rfl, F1, G1, O1⟩ := hrel
    clear F0 G0
    by_cases hlt : i < k
    · have BL := Lib.hid (O1.out.below HBD.out.2.1 HBD.out.1 HBD.out.2.2)
      obtain ⟨bx, ox, rfl, hbx, hcx, hrx⟩ := (HR.out.below BL.out (Nat.le_refl _)) i hlt
      rw [HL.out i hlt] at hcx hrx
      have HRX := Lib.hid hrx
      clear hrx hbx
      generalize hra : ra i = r1 at *
      generalize hrc : rc i = c1 at *
      clear hra hrc
      go_wp2_with fail
      refine (factor_any b j i _ hj (by omega) F1.out).mono ?_
      rintro e w2 ⟨rfl, hf2, ho2⟩
      have sz := Nat.le_trans HBD.out.2.2 O1.out.size
      have F2 := Lib.hid hf2
      have G2 := Lib.hid (G1.out.only ho2 HNE.out)
      have O2 := Lib.hid (O1.out.only ho2)
      have X2 := Lib.hid (HRX.out.below (ho2.below HBD.out.2.1 sz) (Nat.le_refl _))
      have s2 := Nat.le_trans sz ho2.size
      clear hf2 ho2 F1 G1 O1 HRX BL
      have hp := M.pw_any_lt (i * j)
      generalize hpe : M.pw (i * j) = p at *
      have HPE := Lib.hid hpe
      clear hpe
      go_wp2_with fail
      refine (addTimes_any b g p n cg c1 B r1 (fun v => T v ^^^ M.par i j x v) (x i) _ F2.out G2.out X2.out (fun v => M.xor_lt (HT.out v) (M.par_lt _ _ _ _)) hp HBD.out.1 HBD.out.2.1 HNE.out hn s2).mono ?_
      rintro e w3 ⟨rfl, hf3, hg3, ho3⟩
      have F3 := Lib.hid hf3
      have G3 : Hid (RowG w3 g n (fun v => T v ^^^ M.par (i + 1) j x v)) := hg3.congr fun v _ => by
        rw [M.par_succ, HPE.out, Nat.xor_assoc]
      have O3 := Lib.hid (O2.out.trans ho3)
      clear hf3 hg3 ho3 F2 G2 O2 X2
      go_wp2_with fail
      go_roundw
      case rel => exact ⟨i + 1, by omega, by go_num, F3, G3, O3⟩
      case measure => simp [intOf]; omega
    · obtain rfl : i = k := by omega
      go_wp2_with fail
      go_end0
      exact ⟨rfl, F1.out, G1.out, O1.out⟩
end Go.Proofs.YtkbndlnmbbbohaaGreatDoor
namespace Go.Proofs.YtkbndlnmbbbohaaGreatDoor
open Go.RowKit
set_option maxRecDepth 100000
set_option linter.unusedVariables false

def hdArr (n m : Nat) (R : Nat → Nat) : Array Value := Array.ofFn (n := n) fun i => .slice (some ⟨R i.val, 0, none⟩) m m
/-- The matrix: block bo holds the rows' heads, block 'R i' row i. -/
structure Mat (w : World) (bo n : Nat) (R : Nat → Nat) (m : Nat → Nat → Nat) : Prop where
  head : Blk w bo 41 (hdArr n (n + 1) R)
  row : ∀ i, i < n → Blk w (R i) 5 (rowArr (n + 1) (m i))
  inj : ∀ i j, i < n → j < n → R i = R j → i = j

section
variable {w w' : World} {bo n : Nat} {R : Nat → Nat} {m : Nat → Nat → Nat}
theorem Mat.cell (h : Mat w bo n R m) {i j : Nat} (hi : i < n) (hj : j ≤ n) : w.cell? ⟨R i, j, none⟩ = some (.int .u8 ((m i j : Nat) : Int)) := ((h.row i hi).cell j).trans (rowArr_get (by omega))
theorem Mat.frozen (h : Mat w bo n R m) {i : Nat} (hi : i < n) (j : Nat) : w.frozen? ⟨R i, j, none⟩ = false := (h.row i hi).frozen j
theorem Mat.drewN (h : Mat w bo n R m) (k : Nat) : Mat (w.drewN k) bo n R m := ⟨h.head, h.row, h.inj⟩
theorem Mat.drew (h : Mat w bo n R m) : Mat w.drew bo n R m := ⟨h.head, h.row, h.inj⟩
theorem Mat.ne_ (h : Mat w bo n R m) {i : Nat} (hi : i < n) : bo ≠ R i := Blk.ne_ h.head (h.row i hi) (by decide)
theorem Mat.set_ (h : Mat w bo n R m) {i j v : Nat} (hi : i < n) (hj : j ≤ n) : Mat (w.setCell ⟨R i, j, none⟩ (.int .u8 ((v : Nat) : Int))) bo n R (fun a b => if a = i ∧ b = j then v else m a b) := by
  refine ⟨h.head.far (h.ne_ hi) _, fun a ha => ?_, h.inj⟩
  by_cases e : a = i
  · subst e
    have h1 := (h.row a ha).set_ j (.int .u8 ((v : Nat) : Int))
    rw [rowArr_set (by omega)] at h1
    have h2 : rowArr (n + 1) (fun b => if b = j then v else m a b) = rowArr (n + 1) (fun b => if a = a ∧ b = j then v else m a b) := rowArr_congr fun c _ => by simp
    rw [h2] at h1
    exact h1
  · have h1 := (h.row a ha).far (p := ⟨R i, j, none⟩) (fun x => e (h.inj a i ha hi x)) (.int .u8 ((v : Nat) : Int))
    have h2 : rowArr (n + 1) (m a) = rowArr (n + 1) (fun b => if a = i ∧ b = j then v else m a b) := rowArr_congr fun c _ => by rw [if_neg (fun x => e x.1)]
    rw [h2] at h1
    exact h1
theorem Mat.congr {m' : Nat → Nat → Nat} (h : Mat w bo n R m) (hm : ∀ i, i < n → ∀ j, j ≤ n → m i j = m' i j) : Mat w bo n R m' :=
  ⟨h.head, fun i hi => by rw [← rowArr_congr (fun c hc => hm i hi c (by omega))]; exact h.row i hi, h.inj⟩
end

/-- Only the rows have turned. -/
structure OnlyR (n : Nat) (R : Nat → Nat) (a w : World) : Prop where
  os : w.os = a.os
  tape : w.tape = a.tape
  output : w.output = a.output
  size : w.heap.size = a.heap.size
  block : ∀ q, (∀ i, i < n → q ≠ R i) → w.heap[q]? = a.heap[q]?
section
variable {a b c w : World} {n : Nat} {R : Nat → Nat}
theorem OnlyR.refl (n : Nat) (R : Nat → Nat) (w : World) : OnlyR n R w w := ⟨rfl, rfl, rfl, rfl, fun _ _ => rfl⟩
theorem OnlyR.trans (h : OnlyR n R a b) (k : OnlyR n R b c) : OnlyR n R a c :=
  ⟨k.os.trans h.os, k.tape.trans h.tape, k.output.trans h.output, k.size.trans h.size, fun q hq => (k.block q hq).trans (h.block q hq)⟩
theorem OnlyR.drewN (h : OnlyR n R a w) (k : Nat) : OnlyR n R a (w.drewN k) := ⟨h.os, h.tape, h.output, h.size, h.block⟩
theorem OnlyR.drew (h : OnlyR n R a w) : OnlyR n R a w.drew := ⟨h.os, h.tape, h.output, h.size, h.block⟩
theorem OnlyR.set_ (h : OnlyR n R a w) {i : Nat} (hi : i < n) (j : Nat) (u : Value) : OnlyR n R a (w.setCell ⟨R i, j, none⟩ u) :=
  ⟨h.os, h.tape, h.output, by simpa [World.setCell] using h.size, fun q hq => (Below.heap_setCell w ⟨R i, j, none⟩ u q (hq i hi)).trans (h.block q hq)⟩
theorem OnlyR.blk (h : OnlyR n R a w) {g : Nat} {t : TypeId} {cs : Array Value} (hg : Blk a g t cs) (hne : ∀ i, i < n → g ≠ R i) : Blk w g t cs := (h.block g hne).trans hg
theorem OnlyR.below (h : OnlyR n R a w) {B : Nat} (hB : ∀ i, i < n → B ≤ R i) : Below B a w :=
  ⟨h.os, h.tape, h.output, Nat.le_of_eq h.size.symm, fun k hk => h.block k fun i hi e => by have := hB i hi; omega⟩
end

end Go.Proofs.YtkbndlnmbbbohaaGreatDoor
namespace Go.Proofs.YtkbndlnmbbbohaaGreatDoor
open Go.RowKit
set_option maxRecDepth 100000
set_option linter.unusedVariables false

end Go.Proofs.YtkbndlnmbbbohaaGreatDoor
namespace Go.Proofs.YtkbndlnmbbbohaaGreatDoor
open Go.RowKit
set_option maxRecDepth 100000
set_option linter.unusedVariables false

/-- rows' heads, of which the first i are there -/
def hdP (n m i : Nat) (R : Nat → Nat) : Array Value := Array.ofFn (n := n) fun j => if j.val < i then .slice (some ⟨R j.val, 0, none⟩) m m else .slice none 0 0
theorem hdP_get {n m i : Nat} {R : Nat → Nat} {j : Nat} (h : j < n) : (hdP n m i R)[j]? = some (if j < i then .slice (some ⟨R j, 0, none⟩) m m else .slice none 0 0) := by simp [hdP, h]
theorem replicate_hd (n m : Nat) (R : Nat → Nat) : Array.replicate n (Value.slice none 0 0) = hdP n m 0 R := by
  apply Array.ext_getElem?
  intro i
  by_cases h : i < n
  · rw [hdP_get h]; simp [h]
  · rw [Array.getElem?_eq_none (by simp; omega), Array.getElem?_eq_none (by simp [hdP]; omega)]
theorem hdP_set {n m i : Nat} {R : Nat → Nat} (h : i < n) : (hdP n m i R).setIfInBounds i (.slice (some ⟨R i, 0, none⟩) m m) = hdP n m (i + 1) R := by
  apply Array.ext_getElem?
  intro j
  rw [Array.getElem?_setIfInBounds]
  have hs : (hdP n m i R).size = n := by simp [hdP]
  rw [hs]
  by_cases hj : j < n
  · rw [hdP_get hj, hdP_get hj]
    by_cases e : i = j
    · subst e
      rw [if_pos rfl, if_pos h, if_pos (by omega)]
    · rw [if_neg e]
      by_cases e2 : j < i
      · rw [if_pos e2, if_pos (by omega)]
      · rw [if_neg e2, if_neg (by omega)]
  · rw [if_neg (by omega), Array.getElem?_eq_none (by rw [hs]; omega), Array.getElem?_eq_none (by simp [hdP]; omega)]
theorem info_bytes : (Tryz.prog.info? 41).map (fun i => (i.zero, i.size, i.bytes)) = some (some (.slice none 0 0), 1, 24) := by kernel_rfl
theorem make_rows (n m : Nat) (R : Nat → Nat) (hn : n ≤ 70000) (w : World) :
    (Instr.makeSlice 139 (.int .i64 (n : Int)) (.int .i64 (n : Int))).run Tryz.prog w = .ok (.slice (some ⟨w.heap.size, 0, none⟩) n n) (w.alloc (.cells (hdP n m 0 R) 41)) := by
  obtain ⟨i0, hi, hz0, hz1, hz2⟩ := info_parts info_bytes
  have h := run_make (P := Tryz.prog) (w := w) 139 41 i0 (.slice none 0 0) Tryz.underlying139 hi hz0 .i64 .i64 (n : Int) (n : Int) (by omega) (by omega) (by rw [hz2]; omega) (by omega)
  rw [h, hz1, Int.toNat_natCast, Nat.mul_one]
  show _ = _
  rw [show (Value.slice none 0 0).cells = #[.slice none 0 0] from rfl, madeCells_one, replicate_hd n m R]

/-- the matrix of a system -/
def joinM (n : Nat) (x : Nat → Nat → Nat) (y : Nat → Nat) (i j : Nat) : Nat := if j < n then x i j else y i

/-- behind i rows of 'join' -/
structure JoinAt (w0 w : World) (n i : Nat) (x : Nat → Nat → Nat) (y : Nat → Nat) : Prop where
  head : Blk w w0.heap.size 41 (hdP n (n + 1) i (fun j => w0.heap.size + 1 + j))
  row : ∀ j, j < i → Blk w (w0.heap.size + 1 + j) 5 (rowArr (n + 1) (joinM n x y j))
  size : w.heap.size = w0.heap.size + 1 + i
  below : Below w0.heap.size w0 w

end Go.Proofs.YtkbndlnmbbbohaaGreatDoor
