/-
  Two chains of two operations each that come up in any order (a region that draws its order): one walk for the six orders. No conditions beyond those that each theorem types.
-/
import Derived.Test.YthioanenljpclaaGreatDoorDrawSeqM
import Derived.Test.YthioanenljpclaaGreatDoorPackSecM
import Derived.Test.YthioanenljpclaaGreatDoorShaRefOpen
namespace Go.Proofs.YthioanenljpclaaGreatDoor
open Go Go.RowKit
set_option maxRecDepth 100000
set_option linter.unusedVariables false

section
variable {P : Program} {md : Region.Mode} {ops : Array Oper} {Q : Exit → Act → World → Prop} {S : World → Prop} {z : Nat}
/-- one of two may come up -/
theorem AnyZ.two {i j n : Nat} {listed : Array Bool} {a : Act} {w : World} (hr : Region.ready md ops listed = [i, j])
    (h1 : wpOp P ops Q i (fun a' w' => (i ≠ z → S w') ∧ AnyZ P md ops Q S z n (listed.setIfInBounds i true) a' w') a w)
    (h2 : wpOp P ops Q j (fun a' w' => (j ≠ z → S w') ∧ AnyZ P md ops Q S z n (listed.setIfInBounds j true) a' w') a w) : AnyZ P md ops Q S z (n + 1) listed a w :=
  ⟨fun h0 => (by rw [hr] at h0; cases h0), fun k hk => by
    rw [hr] at hk
    simp at hk
    rcases hk with rfl | rfl
    · exact h1
    · exact h2⟩
def putO (d : Tmp) (a : Act) : Option Value → Act
  | none => a
  | some v => a.put (some d) v
def fr (d1 d2 e1 e2 : Tmp) (a : Act) (x1 x2 y1 y2 : Option Value) : Act := putO e2 (putO e1 (putO d2 (putO d1 a x1) x2) y1) y2
end
end Go.Proofs.YthioanenljpclaaGreatDoor
namespace Go.Proofs.YthioanenljpclaaGreatDoor
open Go Go.RowKit
set_option maxRecDepth 100000
set_option linter.unusedVariables false
section
variable {P : Program} {md : Region.Mode} {ops : Array Oper} {Q : Exit → Act → World → Prop} {S S' : World → Prop} {z : Nat}
theorem AnyZ.more (hS : ∀ w, S' w → S w) : ∀ (n : Nat) (listed : Array Bool) (a : Act) (w : World), AnyZ P md ops Q S' z n listed a w → AnyZ P md ops Q S z n listed a w
  | 0, _, _, _, h => h
  | n + 1, _, _, _, h => ⟨h.1, fun i hi => wpOp_mono (fun a' w' h' => ⟨fun hz => hS _ (h'.1 hz), AnyZ.more hS n _ a' w' h'.2⟩) (h.2 i hi)⟩
theorem twoG {i j n : Nat} {op1 op2 : Op} {d1 d2 : Option Tmp} {listed : Array Bool} {a : Act} {w : World} (ho1 : isOp ops i = some (op1, d1, none)) (ho2 : isOp ops j = some (op2, d2, none)) (hr : Region.ready md ops listed = [i, j])
    (h1 : ∀ o : Oper, o.op = op1 → o.dst = d1 → o.wp P a w (fun a' w' => (i ≠ z → S w') ∧ AnyZ P md ops Q S z n (listed.setIfInBounds i true) a' w') Q)
    (h2 : ∀ o : Oper, o.op = op2 → o.dst = d2 → o.wp P a w (fun a' w' => (j ≠ z → S w') ∧ AnyZ P md ops Q S z n (listed.setIfInBounds j true) a' w') Q) : AnyZ P md ops Q S z (n + 1) listed a w := by
  obtain ⟨o1, a1, a2, a3, a4⟩ := isOp_spec ho1
  obtain ⟨o2, b1, b2, b3, b4⟩ := isOp_spec ho2
  exact AnyZ.two hr (wpOp_op a1 a4 (h1 o1 a2 a3)) (wpOp_op b1 b4 (h2 o2 b2 b3))
end
end Go.Proofs.YthioanenljpclaaGreatDoor
namespace Go.Proofs.YthioanenljpclaaGreatDoor
open Go Go.RowKit
set_option maxRecDepth 100000
set_option linter.unusedVariables false
theorem txt_app (L R : List Nat) : K.txt L ++ K.txt R = K.txt (L ++ R) := by
  unfold K.txt
  rw [List.map_append]
  apply ByteArray.ext
  rw [ByteArray.data_append]
  apply Array.toList_inj.1
  rw [Array.toList_append]
theorem len_txt (R : List Nat) (N : Nat) (h : R.length = N) (ty : TypeId) (w : World) : (Builtin.len_ #[9] ty #[.string (K.txt R)]).run Tryz.prog w = .ok (.int .i64 (N : Int)) w := by
  have hs := K.txt_size R
  rw [h] at hs
  simp [Builtin.len_, Builtin.lenOf, goInt, hs]
theorem conv_u8 (N : Nat) (h : N ≤ 127) (w : World) : (convert 3 5 (.int .i64 (N : Int))).run Tryz.prog w = .ok (.int .u8 ((N : Nat) : Int)) w := by
  have hw : IntKind.u8.wrap (N : Int) = (N : Int) := by rw [IntKind.wrap_u8]; omega
  simp [convert, run_underlying Tryz.underlying3, run_underlying Tryz.underlying5, go_sem, hw]
theorem sub_int (a b : Nat) (h : b ≤ a ∧ a ≤ 1000) (w : World) : (binOp .sub 3 (.int .i64 (a : Int)) (.int .i64 (b : Int))).run Tryz.prog w = .ok (.int .i64 ((a - b : Nat) : Int)) w := by
  have e : IntKind.i64.wrap ((a : Int) - (b : Int)) = ((a - b : Nat) : Int) := by rw [IntKind.wrap_i64]; omega
  have h : (binOp .sub 3 (.int .i64 (a : Int)) (.int .i64 (b : Int))).run Tryz.prog w = .ok (.int .i64 (IntKind.i64.wrap ((a : Int) - (b : Int)))) w := by kernel_rfl
  rw [h, e]
theorem add_txt (L R : List Nat) (h : L.length + R.length ≤ 100000) (w : World) : (binOp .add 9 (.string (K.txt L)) (.string (K.txt R))).run Tryz.prog w = .ok (.string (K.txt (L ++ R))) w := by
  have s1 := K.txt_size L
  have s2 := K.txt_size R
  have k := txt_app L R
  simp [binOp, Op.stringOp, k, s1, s2]
  omega
theorem conv_oneD (N : Nat) (hN : N < 256) {w : World} {g : Nat} (h : Blk w g 5 #[.int .u8 ((N : Nat) : Int)]) : (convert 51 9 (.slice (some ⟨g, 0, none⟩) 1 1)).run Tryz.prog w = .ok (.string (K.txt [N])) w := by
  have hr : RdB w (g + 1) (some ⟨g, 0, none⟩) [N].length (lst [N]) := fun j hj => by
    have hj' : j < 1 := hj
    obtain rfl : j = 0 := by omega
    exact ⟨g, 0, rfl, by omega, by rw [Nat.zero_add, h.cell]; rfl, hN⟩
  exact conv_lst (L := [N]) (c := 1) hr
theorem conv_zerosD {w : World} {g M : Nat} (h : Blk w g 5 (rowArr M fun _ => 0)) : (convert 51 9 (.slice (some ⟨g, 0, none⟩) M M)).run Tryz.prog w = .ok (.string (K.txt (List.replicate M 0))) w := by
  have hz : ∀ j, lst (List.replicate M 0) j = 0 := fun j => by
    unfold lst
    rw [List.getD_eq_getElem?_getD, List.getElem?_replicate]
    split <;> rfl
  have hl : (List.replicate M 0).length = M := List.length_replicate
  have hr : RdB w (g + 1) (some ⟨g, 0, none⟩) (List.replicate M 0).length (lst (List.replicate M 0)) := fun j hj => by
    rw [hl] at hj
    exact ⟨g, 0, rfl, by omega, by rw [Nat.zero_add, h.cell, rowArr_get hj, hz], by rw [hz]; omega⟩
  have k := conv_lst (L := List.replicate M 0) (c := M) hr
  rw [hl] at k
  exact k

set_option maxHeartbeats 3200000 in
/-- the tail: a text, its count ahead, noughts behind -/
theorem doc_tail (A : Option Addr) (l : List K.It) (c B : Nat) (E : List Nat) (w : World) (hx : RdT w B A l) (hB : B ≤ w.heap.size) (hg : ∀ x ∈ l, Good x) (hlc : l.length ≤ c) (hcm : c ≤ maxLen) (hf : K.fault l = 0) (hE : K.encs l = E) (hb : E.length ≤ 95) (hEL : ∀ b ∈ E, b < 256) :
    Calls Tryz.prog 51 #[.slice A l.length c] w fun e w' => e = .returned (.tuple #[.string (K.txt (secB E)), .int .i64 0]) ∧ Below w.heap.size w w' := by
  have HX := Lib.hid hx
  have HG := Lib.hid hg
  have HBB := Lib.hid hB
  have HCM := Lib.hid hcm
  have HF := Lib.hid hf
  have HEE := Lib.hid hE
  have HOS : Hid (outS l = K.txt E) := Lib.hid (by unfold outS; rw [if_pos hf, hE])
  have HEL := Lib.hid hEL
  have hcm' := hcm
  unfold maxLen at hcm'
  have hts : (K.txt E).size = E.length := K.txt_size E
  clear hx hg hB hcm hE hf hEL
  go_enter Tryz.func51, Tryz.ntmps51
  go_wp2_with fail
  refine (docEncode_any A l c B w HX.out HBB.out HG.out hlc HCM.out).mono ?_
  rintro e w1 ⟨rfl, hl1⟩
  rw [HOS.out, HF.out]
  have L1 := Lib.hid hl1
  clear hl1
  go_wp2_with fail
  have hrs := rsum_any E.length (lst E) w1 (lst_lt HEL.out) (by omega)
  rw [strB_lst, strB_sum] at hrs
  refine hrs.mono ?_
  rintro e w2 ⟨rfl, hl2⟩
  have L2 := Lib.hid (L1.out.trans (hl2.mono L1.out.size))
  clear hl2 hrs L1
  have hta : K.txt E ++ K.txt (sumL E) = K.txt (E ++ sumL E) := txt_app E (sumL E)
  have hss : (K.txt (sumL E)).size = 32 := by rw [K.txt_size, sumL_length]
  go_wp2_with fail
  clear hta hts hss
  have HRN : Hid ((E ++ sumL E).length = E.length + 32) := Lib.hid (by rw [List.length_append, sumL_length])
  obtain ⟨N, hNe⟩ : ∃ N, N = E.length + 32 := ⟨_, rfl⟩
  have hN : N ≤ 127 := by omega
  have hN127 : N ≤ 127 ∧ 127 ≤ 1000 := ⟨hN, by omega⟩
  have hN256 : N < 256 := by omega
  obtain ⟨R, hR⟩ : ∃ R, R = E ++ sumL E := ⟨_, rfl⟩
  have HSEC : Hid (secB E = N :: R ++ List.replicate (127 - N) 0) := Lib.hid (by
    unfold secB
    rw [hR, hNe, show 127 - (E.length + 32) = 95 - E.length by omega])
  rw [← hNe, ← hR] at HRN
  rw [← hR]
  have HSZ : Hid ([N].length + R.length ≤ 100000) := Lib.hid (by have := HRN.out; simp; omega)
  have HSZ2 : Hid ((N :: R).length + (List.replicate (127 - N) 0).length ≤ 100000) := Lib.hid (by have := HRN.out; simp; omega)
  have HT : Hid True := Lib.hid trivial
  rename World => w
  clear hR hNe
  refine region_anyZ (fun _ : World => True) 15 (by kernel_rfl) ?_
  refine takeG 0 (.move (.tmp 4)) (some 23) none (.string (K.txt R)) (by kernel_rfl) (by kernel_rfl) (by kernel_rfl) (fun _ _ _ h => h) (fun o wq e hS => exec_move wq e (by kernel_rfl)) HT.out ?_
  refine takeG 1 (.call ⟨.builtin .len, #[(.tmp 23)], #[9]⟩) (some 24) none (.int .i64 (N : Int)) (by kernel_rfl) (by kernel_rfl) (by kernel_rfl) (fun _ _ _ h => h) (fun o wq e hS => exec_len (u := .string (K.txt R)) wq e (by kernel_rfl) (len_txt R N HRN.out _ _)) HT.out ?_
  refine takeG 2 (.convert 3 5 (.tmp 24)) (some 25) none (.int .u8 ((N : Nat) : Int)) (by kernel_rfl) (by kernel_rfl) (by kernel_rfl) (fun _ _ _ h => h) (fun o wq e hS => exec_conv (u := .int .i64 (N : Int)) wq e (by kernel_rfl) (conv_u8 N hN _)) HT.out ?_
  refine takeG 5 (.move (.tmp 4)) (some 28) none (.string (K.txt R)) (by kernel_rfl) (by kernel_rfl) (by kernel_rfl) (fun _ _ _ h => h) (fun o wq e hS => exec_move wq e (by kernel_rfl)) HT.out ?_
  refine takeG 7 (.move (.tmp 4)) (some 30) none (.string (K.txt R)) (by kernel_rfl) (by kernel_rfl) (by kernel_rfl) (fun _ _ _ h => h) (fun o wq e hS => exec_move wq e (by kernel_rfl)) HT.out ?_
  refine takeG 8 (.call ⟨.builtin .len, #[(.tmp 30)], #[9]⟩) (some 31) none (.int .i64 (N : Int)) (by kernel_rfl) (by kernel_rfl) (by kernel_rfl) (fun _ _ _ h => h) (fun o wq e hS => exec_len (u := .string (K.txt R)) wq e (by kernel_rfl) (len_txt R N HRN.out _ _)) HT.out ?_
  refine takeG 9 (.binOp .sub 3 (.const (.int .i64 127)) (.tmp 31) 3) (some 32) none (.int .i64 ((127 - N : Nat) : Int)) (by kernel_rfl) (by kernel_rfl) (by kernel_rfl) (fun _ _ _ h => h) (fun o wq e hS => exec_bin (u1 := (.int .i64 127)) (u2 := .int .i64 (N : Int)) wq e (by kernel_rfl) (by kernel_rfl) (eqG_int ..) (sub_int 127 N hN127 _)) HT.out ?_
  have L3 : Hid (Below _ _ w.drew) := Lib.hid L2.out.drew
  refine twoG (i := 3) (j := 10) (op1 := (.buildSlice 51 1 #[(0, (.tmp 25))])) (op2 := (.makeSlice 51 (.tmp 32) (.tmp 32))) (d1 := some 26) (d2 := some 33) (by kernel_rfl) (by kernel_rfl) (by kernel_rfl) ?A ?B
  case A =>
    intro o ho hod
    refine wp_val (exec_buildSlice1 ho (u := .int .u8 ((N : Nat) : Int)) (by kernel_rfl) (bs_byte _ _)) ?_
    rw [hod]
    clear hod ho
    have HA := Lib.hid (Blk.new w.drew 5 #[.int .u8 ((N : Nat) : Int)])
    have LA := Lib.hid ((Below.refl w.drew.heap.size w.drew).alloc (Nat.le_refl _) (.cells #[.int .u8 ((N : Nat) : Int)] 5))
    refine ⟨fun _ => trivial, ?_⟩
    refine AnyZ.more (S' := fun W => Blk W w.drew.heap.size 5 #[.int .u8 ((N : Nat) : Int)]) (fun _ _ => trivial) _ _ _ _ ?_
    refine takeG 4 (.convert 51 9 (.tmp 26)) (some 27) none (.string (K.txt [N])) (by kernel_rfl) (by kernel_rfl) (by kernel_rfl) (fun _ _ _ h => h) (fun o wq e hS => exec_conv (u := .slice (some ⟨w.drew.heap.size, 0, none⟩) 1 1) wq e (by kernel_rfl) (conv_oneD N hN256 hS)) HA.out ?_
    refine takeG 6 (.binOp .add 9 (.tmp 27) (.tmp 28) 9) (some 29) none (.string (K.txt (N :: R))) (by kernel_rfl) (by kernel_rfl) (by kernel_rfl) (fun _ _ _ h => h) (fun o wq e hS => exec_bin (u1 := .string (K.txt [N])) (u2 := .string (K.txt R)) wq e (by kernel_rfl) (by kernel_rfl) (eqG_str ..) (add_txt [N] R HSZ.out _)) HA.out ?_
    refine loneG 10 (.makeSlice 51 (.tmp 32) (.tmp 32)) (some 33) none (by kernel_rfl) (by kernel_rfl) (by kernel_rfl) ?_
    intro o ho hod
    refine wp_val (exec_make (u1 := .int .i64 ((127 - N : Nat) : Int)) (u2 := .int .i64 ((127 - N : Nat) : Int)) ho (by kernel_rfl) (by kernel_rfl) (make_long (127 - N) (by omega) _ _ rfl)) ?_
    rw [hod]
    clear hod ho
    have HA2 := Lib.hid (HA.out.alloc (.cells (rowArr (127 - N) fun _ => 0) 5))
    have LA2 := Lib.hid (LA.out.alloc (by simp) (.cells (rowArr (127 - N) fun _ => 0) 5))
    have BZ := Lib.hid (Blk.new (w.drew.alloc (.cells #[.int .u8 ((N : Nat) : Int)] 5)) 5 (rowArr (127 - N) fun _ => 0))
    refine ⟨fun _ => HA2.out, ?_⟩
    refine loneG 11 (.convert 51 9 (.tmp 33)) (some 34) none (by kernel_rfl) (by kernel_rfl) (by kernel_rfl) ?_
    intro o ho hod
    refine wp_val (exec_conv (u := .slice (some ⟨(w.drew.alloc (.cells #[.int .u8 ((N : Nat) : Int)] 5)).heap.size, 0, none⟩) (127 - N) (127 - N)) _ ho (by kernel_rfl) (conv_zerosD BZ.out)) ?_
    rw [hod]
    clear hod ho
    refine ⟨fun _ => HA2.out, ?_⟩
    refine takeG 12 (.binOp .add 9 (.tmp 29) (.tmp 34) 9) (some 35) none (.string (K.txt (N :: R ++ List.replicate (127 - N) 0))) (by kernel_rfl) (by kernel_rfl) (by kernel_rfl) (fun _ _ _ h => h) (fun o wq e hS => exec_bin (u1 := .string (K.txt (N :: R))) (u2 := .string (K.txt (List.replicate (127 - N) 0))) wq e (by kernel_rfl) (by kernel_rfl) (eqG_str ..) (add_txt (N :: R) (List.replicate (127 - N) 0) HSZ2.out _)) HA2.out ?_
    refine takeG 13 (.assign (.tmp 35)) (some 2) none (.string (K.txt (N :: R ++ List.replicate (127 - N) 0))) (by kernel_rfl) (by kernel_rfl) (by kernel_rfl) (fun _ _ _ h => h) (fun o wq e hS => exec_assign wq e (by kernel_rfl)) HA2.out ?_
    refine lastS 14 (.assign (.const (.int .i64 0))) (some 3) ((.int .i64 0)) (by kernel_rfl) (by kernel_rfl) (by kernel_rfl) HA2.out (fun o e => exec_assign _ e (by kernel_rfl)) ?_
    simp only [put_some, put_none, List.setIfInBounds_toArray, List.set_cons_succ, List.set_cons_zero]
    have LF := Lib.hid (L3.out.trans (LA2.out.mono L3.out.size))
    clear HA HA2 LA LA2 BZ
    rw [← HSEC.out]
    go_wp2_with fail
    go_ret2
    exact ⟨rfl, LF.out⟩
  case B =>
    intro o ho hod
    refine wp_val (exec_make (u1 := .int .i64 ((127 - N : Nat) : Int)) (u2 := .int .i64 ((127 - N : Nat) : Int)) ho (by kernel_rfl) (by kernel_rfl) (make_long (127 - N) (by omega) _ _ rfl)) ?_
    rw [hod]
    clear hod ho
    have HZ := Lib.hid (Blk.new w.drew 5 (rowArr (127 - N) fun _ => 0))
    have LZ := Lib.hid ((Below.refl w.drew.heap.size w.drew).alloc (Nat.le_refl _) (.cells (rowArr (127 - N) fun _ => 0) 5))
    refine ⟨fun _ => trivial, ?_⟩
    refine AnyZ.more (S' := fun W => Blk W w.drew.heap.size 5 (rowArr (127 - N) fun _ => 0)) (fun _ _ => trivial) _ _ _ _ ?_
    refine takeG 11 (.convert 51 9 (.tmp 33)) (some 34) none (.string (K.txt (List.replicate (127 - N) 0))) (by kernel_rfl) (by kernel_rfl) (by kernel_rfl) (fun _ _ _ h => h) (fun o wq e hS => exec_conv (u := .slice (some ⟨w.drew.heap.size, 0, none⟩) (127 - N) (127 - N)) wq e (by kernel_rfl) (conv_zerosD hS)) HZ.out ?_
    refine loneG 3 (.buildSlice 51 1 #[(0, (.tmp 25))]) (some 26) none (by kernel_rfl) (by kernel_rfl) (by kernel_rfl) ?_
    intro o ho hod
    refine wp_val (exec_buildSlice1 ho (u := .int .u8 ((N : Nat) : Int)) (by kernel_rfl) (bs_byte _ _)) ?_
    rw [hod]
    clear hod ho
    have HZ2 := Lib.hid (HZ.out.alloc (.cells #[.int .u8 ((N : Nat) : Int)] 5))
    have LZ2 := Lib.hid (LZ.out.alloc (by simp) (.cells #[.int .u8 ((N : Nat) : Int)] 5))
    have BN := Lib.hid (Blk.new (w.drew.alloc (.cells (rowArr (127 - N) fun _ => 0) 5)) 5 #[.int .u8 ((N : Nat) : Int)])
    refine ⟨fun _ => HZ2.out, ?_⟩
    refine loneG 4 (.convert 51 9 (.tmp 26)) (some 27) none (by kernel_rfl) (by kernel_rfl) (by kernel_rfl) ?_
    intro o ho hod
    refine wp_val (exec_conv (u := .slice (some ⟨(w.drew.alloc (.cells (rowArr (127 - N) fun _ => 0) 5)).heap.size, 0, none⟩) 1 1) _ ho (by kernel_rfl) (conv_oneD N hN256 BN.out)) ?_
    rw [hod]
    clear hod ho
    refine ⟨fun _ => HZ2.out, ?_⟩
    refine takeG 6 (.binOp .add 9 (.tmp 27) (.tmp 28) 9) (some 29) none (.string (K.txt (N :: R))) (by kernel_rfl) (by kernel_rfl) (by kernel_rfl) (fun _ _ _ h => h) (fun o wq e hS => exec_bin (u1 := .string (K.txt [N])) (u2 := .string (K.txt R)) wq e (by kernel_rfl) (by kernel_rfl) (eqG_str ..) (add_txt [N] R HSZ.out _)) HZ2.out ?_
    refine takeG 12 (.binOp .add 9 (.tmp 29) (.tmp 34) 9) (some 35) none (.string (K.txt (N :: R ++ List.replicate (127 - N) 0))) (by kernel_rfl) (by kernel_rfl) (by kernel_rfl) (fun _ _ _ h => h) (fun o wq e hS => exec_bin (u1 := .string (K.txt (N :: R))) (u2 := .string (K.txt (List.replicate (127 - N) 0))) wq e (by kernel_rfl) (by kernel_rfl) (eqG_str ..) (add_txt (N :: R) (List.replicate (127 - N) 0) HSZ2.out _)) HZ2.out ?_
    refine takeG 13 (.assign (.tmp 35)) (some 2) none (.string (K.txt (N :: R ++ List.replicate (127 - N) 0))) (by kernel_rfl) (by kernel_rfl) (by kernel_rfl) (fun _ _ _ h => h) (fun o wq e hS => exec_assign wq e (by kernel_rfl)) HZ2.out ?_
    refine lastS 14 (.assign (.const (.int .i64 0))) (some 3) ((.int .i64 0)) (by kernel_rfl) (by kernel_rfl) (by kernel_rfl) HZ2.out (fun o e => exec_assign _ e (by kernel_rfl)) ?_
    simp only [put_some, put_none, List.setIfInBounds_toArray, List.set_cons_succ, List.set_cons_zero]
    have LF := Lib.hid (L3.out.trans (LZ2.out.mono L3.out.size))
    clear HZ HZ2 LZ LZ2 BN
    rw [← HSEC.out]
    go_wp2_with fail
    go_ret2
    exact ⟨rfl, LF.out⟩

theorem docSector_any (A : Option Addr) (l : List K.It) (c B : Nat) (w : World) (hx : RdT w B A l) (hB : B ≤ w.heap.size) (hg : ∀ x ∈ l, Good x) (hlc : l.length ≤ c) (hcm : c ≤ maxLen) :
    Calls Tryz.prog 51 #[.slice A l.length c] w fun e w' => e = .returned (.tuple #[.string (K.txt (secL l)), .int .i64 (secE l)]) ∧ Below w.heap.size w w' := by
  by_cases hz : secE l = 0
  · obtain ⟨h1, h2⟩ := secE_zero hz
    have e : secL l = secB (K.encs l) := by unfold secL; rw [if_pos hz]
    rw [e, hz]
    exact doc_tail A l c B (K.encs l) w hx hB hg hlc hcm h1 rfl h2 (K.encs_lt l)
  · have e : secL l = [] := by unfold secL; rw [if_neg hz]
    have HX := Lib.hid hx
    have HG := Lib.hid hg
    have HBB := Lib.hid hB
    have HCM := Lib.hid hcm
    rw [e, show K.txt [] = ⟨#[]⟩ from rfl]
    by_cases hf : K.fault l = 0
    · have h95 : 95 < (K.encs l).length := by
        rcases Nat.lt_or_ge 95 (K.encs l).length with h | h
        · exact h
        · exact absurd (secE_ok hf h) hz
      have hse : secE l = 14 := by unfold secE; rw [if_neg (fun q => q hf), if_pos h95]
      have HOS : Hid (outS l = K.txt (K.encs l)) := Lib.hid (by unfold outS; rw [if_pos hf])
      have hts : (K.txt (K.encs l)).size = (K.encs l).length := K.txt_size _
      have hlen := (K.encs_length_le (l := l) (K.fault_ok hf).2 (fun x hx => (hg x hx).1))
      have hl2 := (K.fault_ok hf).1
      have h8 : (K.encs l).length ≤ 8022000 := by omega
      have HF := Lib.hid hf
      rw [hse]
      clear hse hz e hx hg hB hcm hf hlen hl2
      generalize (K.encs l) = E at *
      have t1 : (128 : Int) < (E.length : Int) + 32 + 1 := by omega
      go_enter Tryz.func51, Tryz.ntmps51
      go_wp2_with fail
      refine (docEncode_any A l c B w HX.out HBB.out HG.out hlc HCM.out).mono ?_
      rintro e w1 ⟨rfl, hl1⟩
      rw [HOS.out, HF.out]
      have L1 := Lib.hid hl1
      clear hl1
      go_wp2_with fail
      go_ret2
      exact ⟨rfl, L1.out⟩
    · have hse : secE l = K.fault l := by unfold secE; rw [if_pos hf]
      have HOS : Hid (outS l = ⟨#[]⟩) := Lib.hid (by unfold outS; rw [if_neg hf])
      obtain ⟨fe, hfe⟩ : ∃ fe, fe = K.fault l := ⟨_, rfl⟩
      rw [hse, ← hfe]
      have HFE := Lib.hid hfe
      rw [← hfe] at hf
      have hne : (fe != 0) = true := by simpa using hf
      clear hse hz e hx hg hB hcm hf hfe
      go_enter Tryz.func51, Tryz.ntmps51
      go_wp2_with fail
      refine (docEncode_any A l c B w HX.out HBB.out HG.out hlc HCM.out).mono ?_
      rintro e w1 ⟨rfl, hl1⟩
      rw [HOS.out, ← HFE.out]
      have L1 := Lib.hid hl1
      clear hl1
      go_wp2_with fail
      go_ret2
      exact ⟨rfl, L1.out⟩
end Go.Proofs.YthioanenljpclaaGreatDoor
