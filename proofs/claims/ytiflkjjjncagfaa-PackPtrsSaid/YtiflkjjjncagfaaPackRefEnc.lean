/-
  'hoardref05.Encode' by contract. Conditions: a list of right items.
-/
import Derived.Test.YtiflkjjjncagfaaPackRefCount
import Derived.Test.YtiflkjjjncagfaaDrawSeq
namespace Go.Proofs.Ytiflkjjjncagfaa
open Go Go.RowKit
set_option linter.unusedVariables false

theorem size_item : ∀ w, (sizeOf 43).run Try.prog w = .ok 3 w := by
  intro w
  obtain ⟨i0, hi, _, hz1, _⟩ := info_parts3 info_item
  unfold sizeOf typeInfo
  simp [Sem.run_bind, hi, hz1]
theorem index_item (b o n c i : Nat) (hlt : i < n) (w : World) : (Instr.indexAt 22 (.slice (some ⟨b, o, none⟩) n c) (.int .i64 (i : Int))).run Try.prog w = .ok (.pointer (some ⟨b, o + i * 3, none⟩)) w := by
  have h1 : (i : Int) < (n : Int) := by omega
  simp [Instr.indexAt, run_underlying Try.underlying22, asIntOf, Sem.run_bind, h1, hlt, size_item, add_plain]
theorem field_item1 (b o : Nat) (w : World) : (Instr.fieldAt 43 (.pointer (some ⟨b, o, none⟩)) 1).run Try.prog w = .ok (.pointer (some ⟨b, o + 1, none⟩)) w := by kernel_rfl
theorem field_item2 (b o : Nat) (w : World) : (Instr.fieldAt 43 (.pointer (some ⟨b, o, none⟩)) 2).run Try.prog w = .ok (.pointer (some ⟨b, o + 2, none⟩)) w := by kernel_rfl
theorem bs_byte (x : Int) (w : World) : (Instr.buildSlice 23 1 #[(0, .int .u8 x)]).run Try.prog w = .ok (.slice (some ⟨w.heap.size, 0, none⟩) 1 1) (w.alloc (.cells #[.int .u8 x] 5)) := by kernel_rfl
theorem len_str (s : ByteArray) (w : World) (ty : TypeId) : (Builtin.len_ #[9] ty #[.string s]).run Try.prog w = .ok (.int .i64 (s.size : Int)) w := by
  simp [Builtin.len_, Builtin.lenOf, goInt]
theorem conv_size (n : Nat) (h : n ≤ 4000) (w : World) : (convert 3 44 (.int .i64 (n : Int))).run Try.prog w = .ok (.int .u64 (n : Int)) w := by
  have hw : IntKind.u64.wrap (n : Int) = (n : Int) := wraps_u64 _ (by omega) (by omega)
  simp [convert, run_underlying Try.underlying3, run_underlying Try.underlying44, go_sem, hw]
set_option maxRecDepth 100000 in
set_option maxHeartbeats 3200000 in
theorem refEncode_any (A : Option Addr) (l : List K.It) (c B : Nat) (w : World) (hx : RdI w B A l) (hB : B ≤ w.heap.size) (hg : ∀ x ∈ l, Good x) (hlc : l.length ≤ c) (hcm : c ≤ maxLen) (hf : K.fault l = 0) :
    Calls Try.prog 19 #[.slice A l.length c] w fun e w' => e = .returned (.string (K.txt (K.encs l))) ∧ Below w.heap.size w w' := by
  have hok := K.fault_ok hf
  have hll := hok.1
  have HR := Lib.hid hok.2
  clear hf hok
  obtain ⟨n, hn⟩ : ∃ n, n = l.length := ⟨_, rfl⟩
  rw [← hn] at hlc hll ⊢
  have HN := Lib.hid hn
  have HX := Lib.hid hx
  have HG := Lib.hid hg
  have HB := Lib.hid hB
  unfold maxLen at hcm
  clear hn hx hg hB
  go_enter Try.func19, Try.ntmps19
  go_wp2_with fail
  go_loopw [3, 4] (fun y x wr => ∃ (k : Nat), x = .int .i64 k ∧ k ≤ n ∧ Hid (OwnL wr w.heap.size y (K.encs (l.take k))) ∧ Hid (Below w.heap.size w wr)) (fun _ x _ => n - (intOf x).toNat)
  case atStart => exact ⟨0, rfl, by omega, Lib.hid (OwnL.nil _ _), Lib.hid (Below.refl _ _)⟩
  case round =>
    obtain ⟨k, rfl, hk, O1, L1⟩ := hrel
    have hbr := L1.out.size
    by_cases hlt : k < n
    · obtain ⟨x, hxk⟩ : ∃ x, l[k]? = some x := ⟨_, List.getElem?_eq_getElem (by rw [← HN.out]; exact hlt)⟩
      have hmem := List.mem_of_getElem? hxk
      have HXK := Lib.hid (encs_snoc l k x hxk)
      have hgx := HG.out x hmem
      have hrx := (HR.out x hmem).cases
      obtain ⟨b, o, hA, hb, c0, c1, c2⟩ := HX.out k x hxk
      have hbw : b < w.heap.size := by have := HB.out; omega
      subst hA
      have hft := Lib.hid hgx.1
      have hel : (K.encs (l.take k)).length ≤ 16044000 := by
        have := K.encs_length_le (l := l.take k) (fun y hy => HR.out y (List.mem_of_mem_take hy)) (fun y hy => (HG.out y (List.mem_of_mem_take hy)).1)
        have h2 : (l.take k).length ≤ 2000 := by rw [List.length_take]; omega
        omega
      have L0 : Hid (Below w.heap.size w wr.drew) := Lib.hid ⟨L1.out.os, L1.out.tape, L1.out.output, L1.out.size, L1.out.block⟩
      have hcell0 := fun (W : World) (h : Below w.heap.size w W) => (h.cell (p := ⟨b, o + k * 3, none⟩) hbw).trans c0
      have hcell1' := fun (W : World) (h : Below w.heap.size w W) => (h.cell (p := ⟨b, o + k * 3 + 1, none⟩) hbw).trans c1
      have hcell2' := fun (W : World) (h : Below w.heap.size w W) => (h.cell (p := ⟨b, o + k * 3 + 2, none⟩) hbw).trans c2
      have d0 := hcell0 _ L1.out
      clear hxk c0 c1 c2 hmem hcell0
      have hgs := hgx.2
      obtain ⟨xk, xn, xs⟩ := x
      dsimp only at hrx d0 hgs hcell1' hcell2'
      have i2 : (k : Int) < (n : Int) := by omega
      obtain ⟨E, hE⟩ : ∃ E, E = K.encs (l.take k) := ⟨_, rfl⟩
      rw [← hE] at O1 HXK hel
      have HEE := Lib.hid hE
      clear hE
      rcases hrx with ⟨h1, h2⟩ | ⟨h1, h2, h3⟩
      · subst h1; subst h2
        have hcell1 := Lib.hid hcell1'
        have hfl := K.fold_lt hft.out.1 hft.out.2
        have hcl := K.cnt_length_le (K.fold xn) hfl
        clear hcell2' hcell1' hgx hgs
        go_wp2_with fail
        have HS := Lib.hid (hcell1.out _ L0.out)
        refine region_anyZ (fun W => W.cell? ⟨b, o + k * 3 + 1, none⟩ = some (.int .i64 xn)) 12 (by kernel_rfl) ?_
        refine takeG 0 (.move (.tmp 3)) (some 17) none (u3) (by kernel_rfl) (by kernel_rfl) (by kernel_rfl) (fun _ _ _ h => h) (fun oq w e hS => exec_move w e (by kernel_rfl)) HS.out ?_
        refine takeG 3 (.move (.tmp 0)) (some 20) none (.slice (some ⟨b, o, none⟩) n c) (by kernel_rfl) (by kernel_rfl) (by kernel_rfl) (fun _ _ _ h => h) (fun oq w e hS => exec_move w e (by kernel_rfl)) HS.out ?_
        refine takeG 4 (.move (.tmp 4)) (some 21) none (.int .i64 (k : Int)) (by kernel_rfl) (by kernel_rfl) (by kernel_rfl) (fun _ _ _ h => h) (fun oq w e hS => exec_move w e (by kernel_rfl)) HS.out ?_
        refine takeG 5 (.indexAddr 22 (.tmp 20) (.tmp 21)) (some 22) none (.pointer (some ⟨b, o + k * 3, none⟩)) (by kernel_rfl) (by kernel_rfl) (by kernel_rfl) (fun _ _ _ h => h) (fun oq w e hS => exec_index w e (by kernel_rfl) (by kernel_rfl) (index_item b o n c k hlt w)) HS.out ?_
        refine takeG 6 (.fieldAddr 43 (.tmp 22) 1) (some 23) none (.pointer (some ⟨b, o + k * 3 + 1, none⟩)) (by kernel_rfl) (by kernel_rfl) (by kernel_rfl) (fun _ _ _ h => h) (fun oq w e hS => exec_field w e (by kernel_rfl) (field_item1 b (o + k * 3) w)) HS.out ?_
        refine takeG 7 (.load 3 (.tmp 23)) (some 24) none (.int .i64 xn) (by kernel_rfl) (by kernel_rfl) (by kernel_rfl) (fun _ _ _ h => h) (fun oq w e hS => exec_load e (by kernel_rfl) (load_one Try.underlying3 (by kernel_rfl) hS)) HS.out ?_
        refine loneG 1 (.buildSlice 23 1 #[(0, .const (.int .u8 1))]) (some 18) none (by kernel_rfl) (by kernel_rfl) (by kernel_rfl) ?_
        intro o' ho hod
        refine wp_val (exec_buildSlice1 ho (by kernel_rfl) (bs_byte 1 _)) ?_
        rw [hod]
        clear hod ho
        have LA : Hid (Below w.heap.size w (wr.drew.alloc (.cells #[.int .u8 1] 5))) := Lib.hid (L0.out.alloc hbr _)
        have R2 := Lib.hid (rdb_one wr.drew 1 (by omega))
        rw [show ((1 : Nat) : Int) = 1 from rfl] at R2
        have O2 : Hid (Own8 (wr.drew.alloc (.cells #[.int .u8 1] 5)) w.heap.size u3 E.length (lst E)) := Lib.hid (O1.out.keep fun g hg => Below.heap_alloc wr.drew _ g (O1.out.lt hg).1)
        refine ⟨fun _ => (hcell1.out _ LA.out), ?_⟩
        refine loneG 2 (.call ⟨.builtin .append, #[(.tmp 17), (.tmp 18)], #[23, 23]⟩) (some 19) none (by kernel_rfl) (by kernel_rfl) (by kernel_rfl) ?_
        intro o' ho hod
        refine wp_append_rd (.tmp 17) (.tmp 18) ho (by kernel_rfl) (by kernel_rfl) O2.out R2.out (fun e => by cases e) (Nat.le_refl _) (by omega) (by simp; omega) ?_
        intro v2 w2 ho2 hg2
        rw [hod]
        clear hod ho
        have L2 := Lib.hid (own_row LA.out O2.out hg2 (by simp; omega))
        have O3 := Lib.hid (OwnL.app (M := [1]) ho2)
        have s2 := L2.out.size
        clear ho2 hg2 O2 R2 LA
        refine ⟨fun _ => (hcell1.out _ L2.out), ?_⟩
        refine loneG 8 (.call ⟨.value (.func 29), #[(.tmp 24)], #[3]⟩) (some 25) none (by kernel_rfl) (by kernel_rfl) (by kernel_rfl) ?_
        intro o' ho hod
        refine wp_callC (f := 29) (args := #[.int .i64 xn]) (by cases o'; cases ho; kernel_rfl) (told_any xn _ hft.out.1 hft.out.2) ?_
        rintro e w' ⟨rfl, rfl⟩
        refine ⟨.int .u64 (K.fold xn : Nat), rfl, ?_⟩
        rw [hod]
        clear hod ho
        refine ⟨fun _ => (hcell1.out _ L2.out), ?_⟩
        refine loneG 9 (.call ⟨.value (.func 28), #[(.tmp 25)], #[44]⟩) (some 26) none (by kernel_rfl) (by kernel_rfl) (by kernel_rfl) ?_
        intro o' ho hod
        refine wp_callC (f := 28) (args := #[.int .u64 (K.fold xn : Nat)]) (by cases o'; cases ho; kernel_rfl) (count_any (K.fold xn) _ hfl) ?_
        rintro e w5 ⟨rfl, hl5⟩
        refine ⟨.string (K.txt (K.cnt (K.fold xn))), rfl, ?_⟩
        rw [hod]
        clear hod ho
        have L5 := Lib.hid (L2.out.trans (hl5.mono s2))
        have O5 := Lib.hid (OwnL.below O3.out hl5 (Nat.le_refl _))
        have s5 := L5.out.size
        clear hl5 O3
        refine ⟨fun _ => (hcell1.out _ L5.out), ?_⟩
        refine loneG 10 (.call ⟨.builtin .append, #[(.tmp 19), (.tmp 26)], #[23, 9]⟩) (some 27) none (by kernel_rfl) (by kernel_rfl) (by kernel_rfl) ?_
        intro o' ho hod
        refine wp_append_str (t := K.txt (K.cnt (K.fold xn))) (.tmp 19) (.tmp 26) ho (by kernel_rfl) (by kernel_rfl) O5.out (by rw [K.txt_size, List.length_append]; simp; omega) s5 ?_
        intro v6 w6 ho6 hg6
        rw [hod]
        clear hod ho
        have L6 := Lib.hid (own_row L5.out O5.out hg6 s5)
        rw [K.sb_txt (K.cnt_lt _)] at ho6
        have O6 := Lib.hid ho6
        clear ho6 hg6 O5
        refine ⟨fun _ => (hcell1.out _ L6.out), ?_⟩
        refine lastS 11 (.assign (.tmp 27)) (some 3) v6 (by kernel_rfl) (by kernel_rfl) (by kernel_rfl) (hcell1.out _ L6.out) (fun oq e => exec_assign _ e (by kernel_rfl)) ?_
        simp only [put_some, put_none, List.setIfInBounds_toArray, List.set_cons_succ, List.set_cons_zero]
        clear HS
        go_wp2_with fail
        go_roundw
        case rel => exact ⟨k + 1, by go_num, by omega, by rw [HXK.out]; rw [List.append_assoc] at O6; exact O6, L6⟩
        case measure => simp [intOf]; omega
      · subst h1; subst h2
        have hcell2 := Lib.hid hcell2'
        have hz2 : xs.size ≤ 4000 := h3
        have hcl := K.cnt_length_le xs.size (by omega)
        clear hcell2' hcell1' hgx hgs
        go_wp2_with fail
        have HS := Lib.hid (hcell2.out _ L0.out)
        refine region_anyZ (fun W => W.cell? ⟨b, o + k * 3 + 2, none⟩ = some (.string xs)) 19 (by kernel_rfl) ?_
        refine takeG 0 (.move (.tmp 3)) (some 28) none (u3) (by kernel_rfl) (by kernel_rfl) (by kernel_rfl) (fun _ _ _ h => h) (fun oq w e hS => exec_move w e (by kernel_rfl)) HS.out ?_
        refine takeG 3 (.move (.tmp 0)) (some 31) none (.slice (some ⟨b, o, none⟩) n c) (by kernel_rfl) (by kernel_rfl) (by kernel_rfl) (fun _ _ _ h => h) (fun oq w e hS => exec_move w e (by kernel_rfl)) HS.out ?_
        refine takeG 4 (.move (.tmp 4)) (some 32) none (.int .i64 (k : Int)) (by kernel_rfl) (by kernel_rfl) (by kernel_rfl) (fun _ _ _ h => h) (fun oq w e hS => exec_move w e (by kernel_rfl)) HS.out ?_
        refine takeG 5 (.indexAddr 22 (.tmp 31) (.tmp 32)) (some 33) none (.pointer (some ⟨b, o + k * 3, none⟩)) (by kernel_rfl) (by kernel_rfl) (by kernel_rfl) (fun _ _ _ h => h) (fun oq w e hS => exec_index w e (by kernel_rfl) (by kernel_rfl) (index_item b o n c k hlt w)) HS.out ?_
        refine takeG 6 (.fieldAddr 43 (.tmp 33) 2) (some 34) none (.pointer (some ⟨b, o + k * 3 + 2, none⟩)) (by kernel_rfl) (by kernel_rfl) (by kernel_rfl) (fun _ _ _ h => h) (fun oq w e hS => exec_field w e (by kernel_rfl) (field_item2 b (o + k * 3) w)) HS.out ?_
        refine takeG 7 (.load 9 (.tmp 34)) (some 35) none (.string xs) (by kernel_rfl) (by kernel_rfl) (by kernel_rfl) (fun _ _ _ h => h) (fun oq w e hS => exec_load e (by kernel_rfl) (load_one Try.underlying9 (by kernel_rfl) hS)) HS.out ?_
        refine takeG 8 (.call ⟨.builtin .len, #[(.tmp 35)], #[9]⟩) (some 36) none (.int .i64 (xs.size : Int)) (by kernel_rfl) (by kernel_rfl) (by kernel_rfl) (fun _ _ _ h => h) (fun oq w e hS => exec_len (u := .string xs) w e (by kernel_rfl) (len_str xs w _)) HS.out ?_
        refine takeG 9 (.convert 3 44 (.tmp 36)) (some 37) none (.int .u64 (xs.size : Int)) (by kernel_rfl) (by kernel_rfl) (by kernel_rfl) (fun _ _ _ h => h) (fun oq w e hS => exec_conv w e (by kernel_rfl) (conv_size xs.size hz2 w)) HS.out ?_
        refine takeG 12 (.move (.tmp 0)) (some 40) none (.slice (some ⟨b, o, none⟩) n c) (by kernel_rfl) (by kernel_rfl) (by kernel_rfl) (fun _ _ _ h => h) (fun oq w e hS => exec_move w e (by kernel_rfl)) HS.out ?_
        refine takeG 13 (.move (.tmp 4)) (some 41) none (.int .i64 (k : Int)) (by kernel_rfl) (by kernel_rfl) (by kernel_rfl) (fun _ _ _ h => h) (fun oq w e hS => exec_move w e (by kernel_rfl)) HS.out ?_
        refine takeG 14 (.indexAddr 22 (.tmp 40) (.tmp 41)) (some 42) none (.pointer (some ⟨b, o + k * 3, none⟩)) (by kernel_rfl) (by kernel_rfl) (by kernel_rfl) (fun _ _ _ h => h) (fun oq w e hS => exec_index w e (by kernel_rfl) (by kernel_rfl) (index_item b o n c k hlt w)) HS.out ?_
        refine takeG 15 (.fieldAddr 43 (.tmp 42) 2) (some 43) none (.pointer (some ⟨b, o + k * 3 + 2, none⟩)) (by kernel_rfl) (by kernel_rfl) (by kernel_rfl) (fun _ _ _ h => h) (fun oq w e hS => exec_field w e (by kernel_rfl) (field_item2 b (o + k * 3) w)) HS.out ?_
        refine takeG 16 (.load 9 (.tmp 43)) (some 44) none (.string xs) (by kernel_rfl) (by kernel_rfl) (by kernel_rfl) (fun _ _ _ h => h) (fun oq w e hS => exec_load e (by kernel_rfl) (load_one Try.underlying9 (by kernel_rfl) hS)) HS.out ?_
        refine loneG 1 (.buildSlice 23 1 #[(0, .const (.int .u8 2))]) (some 29) none (by kernel_rfl) (by kernel_rfl) (by kernel_rfl) ?_
        intro o' ho hod
        refine wp_val (exec_buildSlice1 ho (by kernel_rfl) (bs_byte 2 _)) ?_
        rw [hod]
        clear hod ho
        have LA : Hid (Below w.heap.size w (wr.drew.alloc (.cells #[.int .u8 2] 5))) := Lib.hid (L0.out.alloc hbr _)
        have R2 := Lib.hid (rdb_one wr.drew 2 (by omega))
        rw [show ((2 : Nat) : Int) = 2 from rfl] at R2
        have O2 : Hid (Own8 (wr.drew.alloc (.cells #[.int .u8 2] 5)) w.heap.size u3 E.length (lst E)) := Lib.hid (O1.out.keep fun g hg => Below.heap_alloc wr.drew _ g (O1.out.lt hg).1)
        refine ⟨fun _ => (hcell2.out _ LA.out), ?_⟩
        refine loneG 2 (.call ⟨.builtin .append, #[(.tmp 28), (.tmp 29)], #[23, 23]⟩) (some 30) none (by kernel_rfl) (by kernel_rfl) (by kernel_rfl) ?_
        intro o' ho hod
        refine wp_append_rd (.tmp 28) (.tmp 29) ho (by kernel_rfl) (by kernel_rfl) O2.out R2.out (fun e => by cases e) (Nat.le_refl _) (by omega) (by simp; omega) ?_
        intro v2 w2 ho2 hg2
        rw [hod]
        clear hod ho
        have L2 := Lib.hid (own_row LA.out O2.out hg2 (by simp; omega))
        have O3 := Lib.hid (OwnL.app (M := [2]) ho2)
        have s2 := L2.out.size
        clear ho2 hg2 O2 R2 LA
        refine ⟨fun _ => (hcell2.out _ L2.out), ?_⟩
        refine loneG 10 (.call ⟨.value (.func 28), #[(.tmp 37)], #[44]⟩) (some 38) none (by kernel_rfl) (by kernel_rfl) (by kernel_rfl) ?_
        intro o' ho hod
        refine wp_callC (f := 28) (args := #[.int .u64 (xs.size : Int)]) (by cases o'; cases ho; kernel_rfl) (count_any xs.size _ (by omega)) ?_
        rintro e w5 ⟨rfl, hl5⟩
        refine ⟨.string (K.txt (K.cnt xs.size)), rfl, ?_⟩
        rw [hod]
        clear hod ho
        have L5 := Lib.hid (L2.out.trans (hl5.mono s2))
        have O5 := Lib.hid (OwnL.below O3.out hl5 (Nat.le_refl _))
        have s5 := L5.out.size
        clear hl5 O3
        refine ⟨fun _ => (hcell2.out _ L5.out), ?_⟩
        refine loneG 11 (.call ⟨.builtin .append, #[(.tmp 30), (.tmp 38)], #[23, 9]⟩) (some 39) none (by kernel_rfl) (by kernel_rfl) (by kernel_rfl) ?_
        intro o' ho hod
        refine wp_append_str (t := K.txt (K.cnt xs.size)) (.tmp 30) (.tmp 38) ho (by kernel_rfl) (by kernel_rfl) O5.out (by rw [K.txt_size, List.length_append]; simp; omega) s5 ?_
        intro v6 w6 ho6 hg6
        rw [hod]
        clear hod ho
        have L6 := Lib.hid (own_row L5.out O5.out hg6 s5)
        have s6 := L6.out.size
        rw [K.sb_txt (K.cnt_lt _)] at ho6
        have O6 := Lib.hid ho6
        clear ho6 hg6 O5
        refine ⟨fun _ => (hcell2.out _ L6.out), ?_⟩
        refine loneG 17 (.call ⟨.builtin .append, #[(.tmp 39), (.tmp 44)], #[23, 9]⟩) (some 45) none (by kernel_rfl) (by kernel_rfl) (by kernel_rfl) ?_
        intro o' ho hod
        refine wp_append_str (t := xs) (.tmp 39) (.tmp 44) ho (by kernel_rfl) (by kernel_rfl) O6.out (by rw [List.length_append, List.length_append]; simp; omega) s6 ?_
        intro v7 w7 ho7 hg7
        rw [hod]
        clear hod ho
        have L7 := Lib.hid (own_row L6.out O6.out hg7 s6)
        have O7 := Lib.hid ho7
        clear ho7 hg7 O6
        refine ⟨fun _ => (hcell2.out _ L7.out), ?_⟩
        refine lastS 18 (.assign (.tmp 45)) (some 3) v7 (by kernel_rfl) (by kernel_rfl) (by kernel_rfl) (hcell2.out _ L7.out) (fun oq e => exec_assign _ e (by kernel_rfl)) ?_
        simp only [put_some, put_none, List.setIfInBounds_toArray, List.set_cons_succ, List.set_cons_zero]
        clear HS
        go_wp2_with fail
        go_roundw
        case rel => exact ⟨k + 1, by go_num, by omega, by rw [HXK.out]; rw [List.append_assoc, List.append_assoc] at O7; exact O7, L7⟩
        case measure => simp [intOf]; omega
    · have i2 : (n : Int) ≤ (k : Int) := by omega
      have E2 : l.take k = l := List.take_of_length_le (by rw [← HN.out]; omega)
      rw [E2] at O1
      obtain ⟨A3, c3, h3, r3, lc3, cm3, _, _⟩ := O1.out.shape (K.encs_lt _)
      subst h3
      have SC := conv_lst (c := c3) r3
      unfold maxLen at cm3
      clear E2 r3
      go_wp2_with fail
      go_ret
      exact ⟨rfl, L1.out⟩
end Go.Proofs.Ytiflkjjjncagfaa
