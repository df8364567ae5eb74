/-
 Bytes as numbers: their bounds and their sums. No conditions beyond those that each theorem types.
-/
import Derived.Test.YtgbehfkimchglaaGreatDoorArrMathM
import Derived.WalkKit
import Derived.Laws.BitsLemmas
import Derived.OpenShut
import Derived.Test.YtgbehfkimchglaaGreatDoorStoKM
import Derived.Maps.AppendAt
import Derived.Lib.AppendStr
import Derived.Lib.ConvBytes
import Derived.Test.YtgbehfkimchglaaGreatDoorFieldMulM
import Derived.Test.YtgbehfkimchglaaGreatDoorSpcPartM
namespace Go.Proofs.YtgbehfkimchglaaGreatDoor
set_option maxRecDepth 100000
open Go.RowKit
theorem ofInt_i8 (a : Nat) (ha : a < 256) : (BitVec.ofInt 8 (a : Int)).toNat = a := by
 rw [BitVec.ofInt_natCast, BitVec.toNat_ofNat]; exact Nat.mod_eq_of_lt (by omega)
theorem u8_xor_nat (a b : Nat) (ha : a < 256) (hb : b < 256) : bits .xor .u8 (a : Int) (b : Int) = ((a ^^^ b : Nat) : Int) := by
 have hx := M.xor_lt ha hb
 show IntKind.u8.wrap ((BitVec.ofInt 8 (a : Int) ^^^ BitVec.ofInt 8 (b : Int)).toNat : Int) = _
 rw [BitVec.toNat_xor, ofInt_i8 a ha, ofInt_i8 b hb, IntKind.wrap_u8]
 omega
end Go.Proofs.YtgbehfkimchglaaGreatDoor
namespace Go.Proofs.YtgbehfkimchglaaGreatDoor
open Go Go.RowKit Go.Lib
set_option maxRecDepth 100000
set_option linter.unusedVariables false
def freeTail (fr : Nat × Nat) (m : Nat) : Prop := fr.2 ≤ fr.1 ∨ m ≤ fr.1
def Own8 (w : World) (base : Nat) (v : Value) (n : Nat) (X : Nat → Nat) : Prop :=
 (v = .slice none 0 0 ∧ n = 0) ∨ ∃ g cap cur fr, v = .slice (some ⟨g, 0, none⟩) n cap ∧ base ≤ g ∧ w.heap[g]? = some (.cells cur 5 fr) ∧ freeTail fr cap ∧ n ≤ cap ∧ cap ≤ maxLen ∧ cur.size = cap ∧ ∀ j, j < n → cur[j]? = some (.int .u8 ((X j : Nat) : Int))
theorem lt_of_heap {w : World} {g : Nat} {o : Obj} (h : w.heap[g]? = some o) : g < w.heap.size := (Array.getElem?_eq_some_iff.1 h).1
theorem store_run (g o : Nat) (t : TypeId) (fr : Nat × Nat) : ∀ (vs : List Value) (i : Nat) (cur : Array Value) (w : World), w.heap[g]? = some (.cells cur t fr) → freeTail fr cur.size → o + i + vs.length ≤ cur.size → (∀ v ∈ vs, v.oneCell' = true) →
  ∃ w' cur', (storeCells ⟨g, o, none⟩ vs i).run Tryz.prog w = .ok () w' ∧ w'.heap[g]? = some (.cells cur' t fr) ∧ cur'.size = cur.size ∧ (∀ j, cur'[j]? = if o + i ≤ j ∧ j < o + i + vs.length then vs[j - (o + i)]? else cur[j]?) ∧ Only g w w' ∧ w'.heap.size = w.heap.size
 | [], i, cur, w, hg, _, _, _ => ⟨w, cur, rfl, hg, rfl, fun j => by rw [if_neg (by simp)], Only.refl _ _, rfl⟩
 | v :: rest, i, cur, w, hg, hf, hl, h1 => by
  have hi : o + i < cur.size := by simp at hl; omega
  have hcell : w.cell? ⟨g, o + i, none⟩ = some cur[o + i] := by rw [cell_of_row _ _ _ _ _ _ hg]; simp [hi]
  have hfro : w.frozen? ⟨g, o + i, none⟩ = false := by
   unfold freeTail at hf
   simp only [World.frozen?, hg]
   simp
   omega
  have hst : (store ((⟨g, o, none⟩ : Addr).add i) v).run Tryz.prog w = .ok () (w.setRow g (cur.setIfInBounds (o + i) v)) := by
   rw [add_plain, run_store _ w _ v _ (h1 v (by simp)), hcell]
   simp [hfro, setCell_eq_setRow w g (o + i) cur t fr v hg]
  have hg1 := setRow_heap w g cur (cur.setIfInBounds (o + i) v) t fr hg
  obtain ⟨w', cur', e1, e2, e3, e4, e5, e6⟩ := store_run g o t fr rest (i + 1) (cur.setIfInBounds (o + i) v) _ hg1 (by simpa using hf) (by simp at hl ⊢; omega) (fun x hx => h1 x (by simp [hx]))
  have o1 : Only g w (w.setRow g (cur.setIfInBounds (o + i) v)) := ⟨rfl, rfl, rfl, by simp, fun k hk hne => setRow_other w g k _ (fun e => hne (by rw [e]))⟩
  refine ⟨w', cur', ?_, e2, by rw [e3]; simp, fun j => ?_, o1.trans e5, by rw [e6]; simp⟩
  ·simp only [storeCells, Sem.run_bind, hst, Result.andThen_ok, e1]
  ·rw [e4, Array.getElem?_setIfInBounds]
   simp only [List.length_cons]
   by_cases ha : o + i = j
   ·rw [if_neg (by omega), if_pos ha, if_pos hi, if_pos (by omega), show j - (o + i) = 0 by omega]
    rfl
   ·by_cases hb : o + (i + 1) ≤ j ∧ j < o + (i + 1) + rest.length
    ·rw [if_pos hb, if_pos (by omega), show j - (o + i) = (j - (o + (i + 1))) + 1 by omega]
     rfl
    ·rw [if_neg hb, if_neg ha, if_neg (by omega)]
theorem strB_data (n : Nat) (X : Nat → Nat) : (strB n X).data.toList = (List.range n).map fun j => UInt8.ofNat (X j) := by rw [← strB_list, ByteArray.toList_eq]
theorem strB_size (n : Nat) (X : Nat → Nat) : (strB n X).size = n := by
 have h := congrArg List.length (strB_data n X)
 rw [List.length_map, List.length_range, Array.length_toList] at h
 exact h
def RowG (w : World) (g n : Nat) (X : Nat → Nat) : Prop := ∃ cs fr, w.heap[g]? = some (.cells cs 5 fr) ∧ freeTail fr cs.size ∧ ∀ j, j < n → cs[j]? = some (.int .u8 ((X j : Nat) : Int))
def upd (X : Nat → Nat) (k v : Nat) (j : Nat) : Nat := if j = k then v else X j
section
variable {w w' : World} {g n : Nat} {X : Nat → Nat}
theorem RowG.lt (h : RowG w g n X) : g < w.heap.size := by obtain ⟨cs, fr, hb, _⟩ := h; exact lt_of_heap hb
theorem RowG.cell (h : RowG w g n X) {j : Nat} (hj : j < n) : w.cell? ⟨g, j, none⟩ = some (.int .u8 ((X j : Nat) : Int)) := by
 obtain ⟨cs, fr, hb, _, hc⟩ := h
 rw [cell_of_row _ _ _ _ _ _ hb]
 exact hc j hj
theorem RowG.frozen (h : RowG w g n X) {j : Nat} (hj : j < n) : w.frozen? ⟨g, j, none⟩ = false := by
 obtain ⟨cs, fr, hb, hf, hc⟩ := h
 have hlt := (Array.getElem?_eq_some_iff.1 (hc j hj)).1
 unfold freeTail at hf
 simp only [World.frozen?, hb]
 simp
 omega
theorem RowG.heap (h : RowG w g n X) (e : w'.heap[g]? = w.heap[g]?) : RowG w' g n X := by
 obtain ⟨cs, fr, hb, hc⟩ := h
 exact ⟨cs, fr, e.trans hb, hc⟩
theorem RowG.set (h : RowG w g n X) {k v : Nat} (hk : k < n) : RowG (w.setCell ⟨g, k, none⟩ (.int .u8 ((v : Nat) : Int))) g n (upd X k v) := by
 obtain ⟨cs, fr, hb, hf, hc⟩ := h
 refine ⟨cs.setIfInBounds k (.int .u8 ((v : Nat) : Int)), fr, ?_, by simpa using hf, fun j hj => ?_⟩
 ·rw [setCell_eq_setRow w g k cs _ fr _ hb]
  exact setRow_heap w g cs _ _ fr hb
 have hk' := (Array.getElem?_eq_some_iff.1 (hc k hk)).1
 rw [Array.getElem?_setIfInBounds]
 unfold upd
 by_cases e : k = j
 ·rw [if_pos e, if_pos hk', if_pos e.symm]
 ·rw [if_neg e, if_neg (fun x => e x.symm)]
  exact hc j hj
theorem RowG.congr {Y : Nat → Nat} (h : RowG w g n X) (e : ∀ j, j < n → X j = Y j) : RowG w g n Y := by
 obtain ⟨cs, fr, hb, hf, hc⟩ := h
 exact ⟨cs, fr, hb, hf, fun j hj => by rw [← e j hj]; exact hc j hj⟩
theorem RowG.below {B : Nat} (h : RowG w g n X) (hb : Below B w w') (hg : g < B) : RowG w' g n X := h.heap (hb.block g hg)
theorem RowG.far (h : RowG w g n X) {p : Addr} (hp : g ≠ p.block) (u : Value) : RowG (w.setCell p u) g n X := h.heap (Below.heap_setCell w p u g hp)
theorem RowG.drewN (h : RowG w g n X) (k : Nat) : RowG (w.drewN k) g n X := h
theorem RowG.alloc (h : RowG w g n X) (o : Obj) : RowG (w.alloc o) g n X := h.heap (Below.heap_alloc w o g h.lt)
theorem RowG.of_blk {c : Nat} (h : Blk w g 5 (rowArr c X)) (hn : n ≤ c) : RowG w g n X := ⟨_, (0, 0), h, .inl (Nat.le_refl _), fun j hj => rowArr_get (by omega)⟩
end
end Go.Proofs.YtgbehfkimchglaaGreatDoor
namespace Go.Proofs.YtgbehfkimchglaaGreatDoor
open Go.RowKit
set_option maxRecDepth 100000
set_option linter.unusedVariables false
namespace M
theorem mixR_lt {T X : Nat → Nat} (hT : ∀ j, T j < 256) (c k j : Nat) : mixR T X c k j < 256 := by
 unfold mixR
 split
 ·exact xor_lt (hT j) (gmul_lt _ _)
 ·exact hT j
end M
structure Only2 (g h : Nat) (a w : World) : Prop where
 os : w.os = a.os
 tape : w.tape = a.tape
 output : w.output = a.output
 size : a.heap.size ≤ w.heap.size
 block : ∀ i, i < a.heap.size → i ≠ g → i ≠ h → w.heap[i]? = a.heap[i]?
section
variable {a b w : World} {g h : Nat}
theorem Only2.refl (g h : Nat) (w : World) : Only2 g h w w := ⟨rfl, rfl, rfl, Nat.le_refl _, fun _ _ _ _ => rfl⟩
theorem Only2.trans (k : Only2 g h a b) (l : Only2 g h b w) : Only2 g h a w :=
 ⟨l.os.trans k.os, l.tape.trans k.tape, l.output.trans k.output, Nat.le_trans k.size l.size, fun i hi h1 h2 => (l.block i (Nat.lt_of_lt_of_le hi k.size) h1 h2).trans (k.block i hi h1 h2)⟩
theorem Only2.only (k : Only2 g h a b) (l : Only g b w) : Only2 g h a w :=
 k.trans ⟨l.os, l.tape, l.output, l.size, fun i hi h1 _ => l.block i hi (by simpa using h1)⟩
theorem Only2.setCell (k : Only2 g h a w) (i : Nat) (u : Value) : Only2 g h a (w.setCell ⟨h, i, none⟩ u) :=
 k.trans ⟨rfl, rfl, rfl, by simp [World.setCell], fun j _ _ hj => Below.heap_setCell w ⟨h, i, none⟩ u j hj⟩
theorem Only2.drew (k : Only2 g h a w) : Only2 g h a w.drew := ⟨k.os, k.tape, k.output, k.size, k.block⟩
theorem Only2.below (k : Only2 g h a w) {B : Nat} (hg : B ≤ g) (hh : B ≤ h) (hs : B ≤ a.heap.size) : Below B a w :=
 ⟨k.os, k.tape, k.output, k.size, fun i hi => k.block i (by omega) (by omega) (by omega)⟩
theorem RowG.only {f n : Nat} {X : Nat → Nat} (k : RowG a f n X) (l : Only g a w) (hne : f ≠ g) : RowG w f n X := k.heap (l.block f k.lt (by simpa using hne))
end
theorem index_zero (g n c k : Nat) (hlt : k < n) (w : World) : (Instr.indexAt 76 (.slice (some ⟨g, 0, none⟩) n c) (.int .i64 (k : Int))).run Tryz.prog w = .ok (.pointer (some ⟨g, k, none⟩)) w := by
 have h := index_slice (P := Tryz.prog) (t := 76) (e := 5) Tryz.underlying76 size_u8 g 0 n c k hlt w
 rw [Nat.zero_add] at h
 exact h
theorem u8_xor_run (a b : Nat) (ha : a < 256) (hb : b < 256) (w : World) : (binOp .xor 5 (.int .u8 (a : Int)) (.int .u8 (b : Int))).run Tryz.prog w = .ok (.int .u8 ((a ^^^ b : Nat) : Int)) w := by
 rw [← u8_xor_nat a b ha hb]
 kernel_rfl
set_option maxHeartbeats 400000 in
theorem factor_any (b j i : Nat) (w : World) (hj : j < 3) (hi : i < 64) (hb : Fld w b) :
  Calls Tryz.prog 258 #[.pointer (some ⟨b, 0, none⟩), .int .i64 (j : Int), .int .i64 (i : Int)] w fun e w' => e = .returned (.int .u8 ((M.pw (i * j) : Nat) : Int)) ∧ Fld w' b ∧ Only b w w' := by
 have HB := Lib.hid hb
 clear hb
 have hm : i * j ≤ 64 * 3 := Nat.mul_le_mul (by omega) (by omega)
 have e1 : IntKind.i64.wrap ((i : Int) * (j : Int)) = ((i * j : Nat) : Int) := by rw [← Int.natCast_mul, IntKind.wrap_i64]; omega
 generalize i * j = m at *
 go_enter Tryz.func258, Tryz.ntmps258
 go_wp2_with fail
 refine (pow_at (x := 2) (r := M.pw m) (n := (m : Int)) (by omega) (by rw [Int.toNat_natCast, M.gpow_two]) (by omega) (by omega) HB.out).mono ?_
 rintro e w1 ⟨rfl, hf1, ho1⟩
 have HF := Lib.hid hf1
 have HO := Lib.hid ho1
 clear hf1 ho1 HB
 go_wp2_with fail
 go_ret
 exact ⟨rfl, HF.out, HO.out⟩
set_option maxHeartbeats 1600000 in
theorem addTimes_any (b g c n cg cx B : Nat) (A : Option Addr) (T X : Nat → Nat) (w : World) (hb : Fld w b) (hg : RowG w g n T) (hx : RdB w B A n X) (hT : ∀ j, T j < 256) (hc : c < 256) (hgb : B ≤ g) (hbb : B ≤ b) (hne : g ≠ b) (hn : n ≤ 4096) (hB : B ≤ w.heap.size) :
  Calls Tryz.prog 257 #[.pointer (some ⟨b, 0, none⟩), .slice (some ⟨g, 0, none⟩) n cg, .int .u8 (c : Int), .slice A n cx] w fun e w' => e = .returned (.tuple #[]) ∧ Fld w' b ∧ RowG w' g n (fun j => T j ^^^ M.gmul c (X j)) ∧ Only2 b g w w' := by
 have HX := Lib.hid hx
 have HNE := Lib.hid hne
 have F0 := Lib.hid hb
 have G0 : Hid (RowG w g n (M.mixR T X c 0)) := hg.congr fun j _ => by unfold M.mixR; rw [if_neg (by omega)]
 have HBD : Hid (B ≤ g ∧ B ≤ b ∧ B ≤ w.heap.size) := ⟨hgb, hbb, hB⟩
 clear hx hne hb hg hgb hbb hB
 go_enter Tryz.func257, Tryz.ntmps257
 go_wp2_with fail
 go_loopw [12] (fun x wr => ∃ k : Nat, k ≤ n ∧ x = .int .i64 k ∧ Hid (Fld wr b) ∧ Hid (RowG wr g n (M.mixR T X c k)) ∧ Hid (Only2 b g w wr)) (fun x _ => n - (intOf x).toNat)
 case atStart => exact ⟨0, by omega, rfl, F0, G0, Only2.refl _ _ _⟩
 case round =>
  obtain ⟨k, hk, rfl, F1, G1, O1⟩ := hrel
  clear F0 G0
  by_cases hlt : k < n
  ·obtain ⟨bx, ox, rfl, hbx, hcx, hxk⟩ := (HX.out.below (O1.out.below HBD.out.2.1 HBD.out.1 HBD.out.2.2) (Nat.le_refl _)) k hlt
   have HC := Lib.hid (show M.mixR T X c k k = T k by unfold M.mixR; rw [if_neg (by omega)])
   generalize hxe : X k = xk at *
   have HXE := Lib.hid hxe
   clear hxe
   go_wp2_with fail
   have HS := Lib.hid (G1.out.cell hlt)
   clear hcx hbx
   refine region_anyZ (fun W : World => W.cell? ⟨g, k, none⟩ = some (.int .u8 ((M.mixR T X c k k : Nat) : Int))) 10 (by kernel_rfl) ?_
   refine takeG 0 (.move (.tmp 1)) (some 17) none (.slice (some ⟨g, 0, none⟩) n cg) (by kernel_rfl) (by kernel_rfl) (by kernel_rfl) (fun _ _ _ h => h) (fun o w e hS => exec_move w e (by kernel_rfl)) HS.out ?_
   refine takeG 1 (.move (.tmp 8)) (some 18) none (.int .i64 (k : Int)) (by kernel_rfl) (by kernel_rfl) (by kernel_rfl) (fun _ _ _ h => h) (fun o w e hS => exec_move w e (by kernel_rfl)) HS.out ?_
   refine takeG 2 (.indexAddr 76 (.tmp 17) (.tmp 18)) (some 19) none (.pointer (some ⟨g, k, none⟩)) (by kernel_rfl) (by kernel_rfl) (by kernel_rfl) (fun _ _ _ h => h) (fun o w e hS => exec_index (u1 := .slice (some ⟨g, 0, none⟩) n cg) (u2 := .int .i64 (k : Int)) w e (by kernel_rfl) (by kernel_rfl) (index_zero g n cg k hlt _)) HS.out ?_
   refine takeG 3 (.load 5 (.tmp 19)) (some 20) none (.int .u8 ((M.mixR T X c k k : Nat) : Int)) (by kernel_rfl) (by kernel_rfl) (by kernel_rfl) (fun _ _ _ h => h) (fun o w e hS => exec_load (x := (.tmp 19)) e (by kernel_rfl) (load_one Tryz.underlying5 (by kernel_rfl) hS)) HS.out ?_
   refine takeG 4 (.move (.tmp 0)) (some 21) none (.pointer (some ⟨b, 0, none⟩)) (by kernel_rfl) (by kernel_rfl) (by kernel_rfl) (fun _ _ _ h => h) (fun o w e hS => exec_move w e (by kernel_rfl)) HS.out ?_
   refine takeG 5 (.move (.tmp 2)) (some 22) none (.int .u8 (c : Int)) (by kernel_rfl) (by kernel_rfl) (by kernel_rfl) (fun _ _ _ h => h) (fun o w e hS => exec_move w e (by kernel_rfl)) HS.out ?_
   refine takeG 6 (.move (.tmp 9)) (some 23) none (.int .u8 (xk : Int)) (by kernel_rfl) (by kernel_rfl) (by kernel_rfl) (fun _ _ _ h => h) (fun o w e hS => exec_move w e (by kernel_rfl)) HS.out ?_
   refine loneG 7 (.call ⟨.value (.func 264), #[(.tmp 21), (.tmp 22), (.tmp 23)], #[276, 5, 5]⟩) (some 24) none (by kernel_rfl) (by kernel_rfl) (by kernel_rfl) ?_
   intro o ho hod
   refine wp_callC (f := 264) (args := #[.pointer (some ⟨b, 0, none⟩), .int .u8 (c : Int), .int .u8 (xk : Int)]) (by cases o; cases ho; kernel_rfl) (mul_some hc hxk F1.out) ?_
   rintro e w2 ⟨rfl, hf2, ho2⟩
   refine ⟨.int .u8 ((M.gmul c xk : Nat) : Int), rfl, ?_⟩
   rw [hod]
   clear hod ho
   have F2 := Lib.hid hf2
   have G2 := Lib.hid (RowG.only (show RowG wr.drew g n (M.mixR T X c k) from G1.out) ho2 HNE.out)
   have O2 := Lib.hid (O1.out.drew.only ho2)
   clear hf2 ho2
   have hc2 := G2.out.cell hlt
   have hz2 := G2.out.frozen hlt
   have HS2 := Lib.hid hc2
   refine ⟨fun _ => HS2.out, ?_⟩
   refine takeG 8 (.binOp .xor 5 (.tmp 20) (.tmp 24) 5) (some 25) none (.int .u8 ((M.mixR T X c k k ^^^ M.gmul c xk : Nat) : Int)) (by kernel_rfl) (by kernel_rfl) (by kernel_rfl) (fun _ _ _ h => h) (fun o w e hS => exec_bin (u1 := .int .u8 ((M.mixR T X c k k : Nat) : Int)) (u2 := .int .u8 ((M.gmul c xk : Nat) : Int)) w e (by kernel_rfl) (by kernel_rfl) (eqG_int ..) (u8_xor_run _ _ (M.mixR_lt hT c k k) (M.gmul_lt c xk) _)) HS2.out ?_
   refine takeG 9 (.indexAddr 76 (.tmp 17) (.tmp 18)) (some 26) none (.pointer (some ⟨g, k, none⟩)) (by kernel_rfl) (by kernel_rfl) (by kernel_rfl) (fun _ _ _ h => h) (fun o w e hS => exec_index (u1 := .slice (some ⟨g, 0, none⟩) n cg) (u2 := .int .i64 (k : Int)) w e (by kernel_rfl) (by kernel_rfl) (index_zero g n cg k hlt _)) HS2.out ?_
   refine lastStore 10 5 (.tmp 26) (.tmp 25) (.pointer (some ⟨g, k, none⟩)) (.int .u8 ((M.mixR T X c k k ^^^ M.gmul c xk : Nat) : Int)) _ (by kernel_rfl) (by kernel_rfl) (by kernel_rfl) rfl (by kernel_rfl) (by kernel_rfl) (store_one size_u8 rfl rfl (by rw [hc2]; rfl) hz2 (by rw [add_plain]; rfl)) ?_
   have F3 := Lib.hid (F2.out.far (p := ⟨g, k, none⟩) (fun e => HNE.out e.symm) (.int .u8 ((M.mixR T X c k k ^^^ M.gmul c xk : Nat) : Int)))
   have G3 : Hid (RowG (w2.setCell ⟨g, k, none⟩ (.int .u8 ((M.mixR T X c k k ^^^ M.gmul c xk : Nat) : Int))) g n (M.mixR T X c (k + 1))) := (G2.out.set hlt).congr fun j _ => by
    unfold upd
    by_cases e : j = k
    ·subst e; rw [if_pos rfl, HC.out, ← HXE.out]; unfold M.mixR; rw [if_pos (by omega)]
    ·rw [if_neg e]; unfold M.mixR
     by_cases e2 : j < k
     ·rw [if_pos e2, if_pos (by omega)]
     ·rw [if_neg e2, if_neg (by omega)]
   have O3 := Lib.hid (O2.out.setCell k (.int .u8 ((M.mixR T X c k k ^^^ M.gmul c xk : Nat) : Int)))
   clear F2 G2 O2 F1 G1 O1 HS HS2 hc2 hz2
   simp only [put_some, put_none, List.setIfInBounds_toArray, List.set_cons_succ, List.set_cons_zero]
   go_wp2_with fail
   go_roundw
   case rel => exact ⟨k + 1, by omega, by go_num, F3, G3, O3⟩
   case measure => simp [intOf]; omega
  ·have G2 : Hid (RowG wr g n (fun j => T j ^^^ M.gmul c (X j))) := G1.out.congr fun j hj => by unfold M.mixR; rw [if_pos (by omega)]
   clear G1
   go_wp2_with fail
   go_end0
   exact ⟨rfl, F1.out, G2.out, O1.out⟩
end Go.Proofs.YtgbehfkimchglaaGreatDoor
