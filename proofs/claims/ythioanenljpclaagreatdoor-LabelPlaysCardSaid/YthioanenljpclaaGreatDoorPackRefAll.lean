/-
  'hoardref05.told' and 'hoardref05.count' by contracts. Conditions: numbers of their types.
-/
import Derived.Test.YthioanenljpclaaGreatDoorDrawSeqM
namespace Go.Proofs.YthioanenljpclaaGreatDoor
set_option maxRecDepth 100000
open Go Go.RowKit
set_option linter.unusedVariables false

set_option maxHeartbeats 400000 in
theorem told_any (n : Int) (w : World) (h1 : -9223372036854775808 ≤ n) (h2 : n ≤ 9223372036854775807) :
    Calls Tryz.prog 72 #[.int .i64 n] w fun e w' => e = .returned (.int .u64 (K.fold n : Nat)) ∧ w = w' := by
  by_cases h : 0 ≤ n
  · go_enter Tryz.func72, Tryz.ntmps72
    go_wp2
    go_ret
    exact ⟨ret_u64P (by unfold K.fold; rw [if_pos h]; simp [IntKind.wrap, IntKind.bits, IntKind.signed]; omega), rfl⟩
  · have h : n < 0 := by omega
    go_enter Tryz.func72, Tryz.ntmps72
    go_wp2
    go_ret
    exact ⟨ret_u64P (by unfold K.fold; rw [if_neg (by omega)]; simp [IntKind.wrap, IntKind.bits, IntKind.signed]; omega), rfl⟩
set_option maxRecDepth 100000 in
set_option maxHeartbeats 1600000 in
theorem count_any (c : Nat) (w : World) (hc : c < 18446744073709551616) :
    Calls Tryz.prog 71 #[.int .u64 c] w fun e w' => e = .returned (.string (K.txt (K.cnt c))) ∧ Below w.heap.size w w' := by
  have H10 := K.cnt_length_le c hc
  have HC := Lib.hid (K.cnt_lt c)
  go_enter Tryz.func71, Tryz.ntmps71
  go_wp2_with fail
  go_loopw [0, 3] (fun x b wr => ∃ (d : Nat) (M : List Nat), x = .int .u64 d ∧ d < 18446744073709551616 ∧ Hid (OwnL wr w.heap.size b M) ∧ Hid (Below w.heap.size w wr) ∧ Hid (M ++ K.cnt d = K.cnt c)) (fun x _ _ => (intOf x).toNat)
  case atStart => exact ⟨c, [], rfl, hc, Lib.hid (OwnL.nil _ _), Lib.hid (Below.refl _ _), Lib.hid rfl⟩
  case round =>
    obtain ⟨d, M, rfl, hd, O1, L1, E1⟩ := hrel
    have HM : M.length ≤ 10 := by have := congrArg List.length E1.out; rw [List.length_append] at this; omega
    have hbr := L1.out.size
    by_cases hlt : 128 ≤ d
    · have i1 : (128 : Int) ≤ (d : Int) := by omega
      have HO : (128 : Int) + (d : Int) % 128 = ((128 + d % 128 : Nat) : Int) := by omega
      have R1 := Lib.hid (rdb_one wr (128 + d % 128) (by omega))
      have O2 : Hid (Own8 (wr.alloc (.cells #[.int .u8 ((128 + d % 128 : Nat) : Int)] 5)) w.heap.size u3 M.length (lst M)) := Lib.hid (O1.out.keep fun g hg => Below.heap_alloc _ _ g (O1.out.lt hg).1)
      have L2 : Hid (Below w.heap.size w (wr.alloc (.cells #[.int .u8 ((128 + d % 128 : Nat) : Int)] 5))) := Lib.hid (L1.out.alloc hbr _)
      obtain ⟨y, hy⟩ : ∃ y, y = 128 + d % 128 := ⟨_, rfl⟩
      rw [← hy] at HO R1 O2 L2
      have hy1 : y < 256 := by omega
      have HY := Lib.hid hy
      clear hy
      go_wp2_with ((with_reducible refine wpList_append_rd rfl (.tmp 6) (.tmp 11) rfl rfl rfl O2.out R1.out (fun e => by cases e) (Nat.le_refl _) (by omega) (by simp; omega) ?_); intro v2 w2 ho2 hg2 he2; refine of_hid ?_)
      refine Lib.hid ?_
      have O3 := Lib.hid (OwnL.app (M := [y]) ho2)
      have L3 := Lib.hid (own_row L2.out O2.out hg2 (by simp; omega))
      clear ho2 hg2 he2 O2 R1 L2 HO O1
      go_wp2_with fail
      go_roundw
      case rel => exact ⟨d / 128, M ++ [y], by go_num, by omega, O3, L3, Lib.hid (by rw [← E1.out, K.cnt_big hlt, HY.out, List.append_assoc]; rfl)⟩
      case measure => simp [intOf]; omega
    · have i1 : (d : Int) < 128 := by omega
      have i2 : (d : Int) < 256 := by omega
      have R1 := Lib.hid (rdb_one wr d (by omega))
      have O2 : Hid (Own8 (wr.alloc (.cells #[.int .u8 (d : Int)] 5)) w.heap.size u3 M.length (lst M)) := Lib.hid (O1.out.keep fun g hg => Below.heap_alloc _ _ g (O1.out.lt hg).1)
      have L2 : Hid (Below w.heap.size w (wr.alloc (.cells #[.int .u8 (d : Int)] 5))) := Lib.hid (L1.out.alloc hbr _)
      go_wp2_with ((with_reducible refine wpList_append_rd rfl (.tmp 15) (.tmp 18) rfl rfl rfl O2.out R1.out (fun e => by cases e) (Nat.le_refl _) (by omega) (by simp; omega) ?_); intro v2 w2 ho2 hg2 he2; refine of_hid ?_)
      refine Lib.hid ?_
      have O3 := OwnL.app (M := [d]) ho2
      have L3 := Lib.hid (own_row L2.out O2.out hg2 (by simp; omega))
      have E3 : M ++ [d] = K.cnt c := by rw [← E1.out, K.cnt_small (by omega)]
      rw [E3] at O3
      obtain ⟨A3, c3, rfl, r3, lc3, cm3, _, _⟩ := O3.shape (K.cnt_lt c)
      have SC := conv_lst (c := c3) r3
      unfold maxLen at cm3
      clear ho2 hg2 he2 O2 R1 L2 O1 O3 r3 E3
      go_wp2_with fail
      go_ret
      exact ⟨rfl, L3.out⟩
theorem wp_append_rd {w : World} {o : Oper} {a : Act} {K : Act → World → Prop} {Q : Exit → Act → World → Prop} (s x : Operand)
    (ho : o.op = .call { callee := .builtin .append, args := #[s, x], argTypes := #[51, 51] }) {base n B m c : Nat} {v : Value} {A : Option Addr} {X Y : Nat → Nat} (hs : a.eval s = v) (hx : a.eval x = .slice A m c)
    (hown : Own8 w base v n X) (hy : RdB w B A m Y) (h0 : A = none → c = 0) (hmc : m ≤ c) (hl : n + m ≤ 70368744177664) (hb : base ≤ w.heap.size)
    (h : ∀ v' w', Own8 w' base v' (n + m) (cat n X Y) → w.grownBy w' v.ownBlock → K (a.put o.dst v') w') : o.wp Tryz.prog a w K Q := by
  obtain ⟨v', w', hrun, h1, h2, h3⟩ := run_append_rd o.type hown hy h0 hmc hl hb
  unfold Oper.wp execOp
  simp only [ho, resolve, invoke, builtin, Sem.run_bind, Sem.run_pure, Result.andThen_ok, List.map_toArray, List.map_cons, List.map_nil, hs, hx, hrun]
  exact h v' w' h1 h2
theorem wp_append_str {w : World} {o : Oper} {a : Act} {Kk : Act → World → Prop} {Q : Exit → Act → World → Prop} (s x : Operand)
    (ho : o.op = .call { callee := .builtin .append, args := #[s, x], argTypes := #[51, 9] }) {base : Nat} {v : Value} {L : List Nat} {t : ByteArray} (hs : a.eval s = v) (hx : a.eval x = .string t)
    (hown : OwnL w base v L) (hl : L.length + t.size ≤ 70368744177664) (hb : base ≤ w.heap.size)
    (h : ∀ v' w', OwnL w' base v' (L ++ K.sb t) → w.grownBy w' v.ownBlock → Kk (a.put o.dst v') w') : o.wp Tryz.prog a w Kk Q := by
  have hx2 : a.eval x = .string (strB t.size (lst (K.sb t))) := by rw [str_is]; exact hx
  obtain ⟨v', w', hrun, h1, h2⟩ := run_append_txt o.type hown (fun j _ => lst_lt (K.sb_lt t) j) hl hb
  unfold Oper.wp execOp
  simp only [ho, resolve, invoke, builtin, Sem.run_bind, Sem.run_pure, Result.andThen_ok, List.map_toArray, List.map_cons, List.map_nil, hs, hx2, hrun]
  refine h v' w' (OwnL.app ?_) h2
  rw [K.sb_length]
  exact h1
end Go.Proofs.YthioanenljpclaaGreatDoor
namespace Go.Proofs.YthioanenljpclaaGreatDoor
open Go Go.RowKit
set_option linter.unusedVariables false

theorem size_item : ∀ w, (sizeOf 104).run Tryz.prog w = .ok 3 w := by
  intro w
  obtain ⟨i0, hi, _, hz1, _⟩ := info_parts3 info_item
  unfold sizeOf typeInfo
  simp [Sem.run_bind, hi, hz1]
theorem index_item (b o n c i : Nat) (hlt : i < n) (w : World) : (Instr.indexAt 105 (.slice (some ⟨b, o, none⟩) n c) (.int .i64 (i : Int))).run Tryz.prog w = .ok (.pointer (some ⟨b, o + i * 3, none⟩)) w := by
  have h1 : (i : Int) < (n : Int) := by omega
  simp [Instr.indexAt, run_underlying Tryz.underlying105, asIntOf, Sem.run_bind, h1, hlt, size_item, add_plain]
theorem field_item1 (b o : Nat) (w : World) : (Instr.fieldAt 104 (.pointer (some ⟨b, o, none⟩)) 1).run Tryz.prog w = .ok (.pointer (some ⟨b, o + 1, none⟩)) w := by kernel_rfl
theorem field_item2 (b o : Nat) (w : World) : (Instr.fieldAt 104 (.pointer (some ⟨b, o, none⟩)) 2).run Tryz.prog w = .ok (.pointer (some ⟨b, o + 2, none⟩)) w := by kernel_rfl
theorem bs_byte (x : Int) (w : World) : (Instr.buildSlice 51 1 #[(0, .int .u8 x)]).run Tryz.prog w = .ok (.slice (some ⟨w.heap.size, 0, none⟩) 1 1) (w.alloc (.cells #[.int .u8 x] 5)) := by kernel_rfl
theorem len_str (s : ByteArray) (w : World) (ty : TypeId) : (Builtin.len_ #[9] ty #[.string s]).run Tryz.prog w = .ok (.int .i64 (s.size : Int)) w := by
  simp [Builtin.len_, Builtin.lenOf, goInt]
theorem conv_size (n : Nat) (h : n ≤ 4000) (w : World) : (convert 3 24 (.int .i64 (n : Int))).run Tryz.prog w = .ok (.int .u64 (n : Int)) w := by
  have hw : IntKind.u64.wrap (n : Int) = (n : Int) := wraps_u64 _ (by omega) (by omega)
  simp [convert, run_underlying Tryz.underlying3, run_underlying Tryz.underlying24, go_sem, hw]
set_option maxRecDepth 100000 in
set_option maxHeartbeats 3200000 in
theorem refEncode_any (A : Option Addr) (l : List K.It) (c B : Nat) (w : World) (hx : RdT w B A l) (hB : B ≤ w.heap.size) (hg : ∀ x ∈ l, Good x) (hlc : l.length ≤ c) (hcm : c ≤ maxLen) (hf : K.fault l = 0) :
    Calls Tryz.prog 60 #[.slice A l.length c] w fun e w' => e = .returned (.string (K.txt (K.encs l))) ∧ Below w.heap.size w w' := by
  have hok := K.fault_ok hf
  have hll := hok.1
  have HR := Lib.hid hok.2
  clear hf hok
  obtain ⟨n, hn⟩ : ∃ n, n = l.length := ⟨_, rfl⟩
  rw [← hn] at hlc hll ⊢
  have HN := Lib.hid hn
  have HX := Lib.hid hx
  have HG := Lib.hid hg
  have HB := Lib.hid hB
  unfold maxLen at hcm
  clear hn hx hg hB
  go_enter Tryz.func60, Tryz.ntmps60
  go_wp2_with fail
  go_loopw [3, 4] (fun y x wr => ∃ (k : Nat), x = .int .i64 k ∧ k ≤ n ∧ Hid (OwnL wr w.heap.size y (K.encs (l.take k))) ∧ Hid (Below w.heap.size w wr)) (fun _ x _ => n - (intOf x).toNat)
  case atStart => exact ⟨0, rfl, by omega, Lib.hid (OwnL.nil _ _), Lib.hid (Below.refl _ _)⟩
  case round =>
    obtain ⟨k, rfl, hk, O1, L1⟩ := hrel
    have hbr := L1.out.size
    by_cases hlt : k < n
    · obtain ⟨x, hxk⟩ : ∃ x, l[k]? = some x := ⟨_, List.getElem?_eq_getElem (by rw [← HN.out]; exact hlt)⟩
      have hmem := List.mem_of_getElem? hxk
      have HXK := Lib.hid (encs_snoc l k x hxk)
      have hgx := HG.out x hmem
      have hrx := (HR.out x hmem).cases
      obtain ⟨b, o, hA, hb, c0, c1, c2⟩ := HX.out k x hxk
      have hbw : b < w.heap.size := by have := HB.out; omega
      subst hA
      have hft := Lib.hid hgx.1
      have hel : (K.encs (l.take k)).length ≤ 16044000 := by
        have := K.encs_length_le (l := l.take k) (fun y hy => HR.out y (List.mem_of_mem_take hy)) (fun y hy => (HG.out y (List.mem_of_mem_take hy)).1)
        have h2 : (l.take k).length ≤ 2000 := by rw [List.length_take]; omega
        omega
      have L0 : Hid (Below w.heap.size w wr.drew) := Lib.hid ⟨L1.out.os, L1.out.tape, L1.out.output, L1.out.size, L1.out.block⟩
      have hcell0 := fun (W : World) (h : Below w.heap.size w W) => (h.cell (p := ⟨b, o + k * 3, none⟩) hbw).trans c0
      have hcell1' := fun (W : World) (h : Below w.heap.size w W) => (h.cell (p := ⟨b, o + k * 3 + 1, none⟩) hbw).trans c1
      have hcell2' := fun (W : World) (h : Below w.heap.size w W) => (h.cell (p := ⟨b, o + k * 3 + 2, none⟩) hbw).trans c2
      have d0 := hcell0 _ L1.out
      clear hxk c0 c1 c2 hmem hcell0
      have hgs := hgx.2
      obtain ⟨xk, xn, xs⟩ := x
      dsimp only at hrx d0 hgs hcell1' hcell2'
      have i2 : (k : Int) < (n : Int) := by omega
      obtain ⟨E, hE⟩ : ∃ E, E = K.encs (l.take k) := ⟨_, rfl⟩
      rw [← hE] at O1 HXK hel
      have HEE := Lib.hid hE
      clear hE
      rcases hrx with ⟨h1, h2⟩ | ⟨h1, h2, h3⟩
      · subst h1; subst h2
        have hcell1 := Lib.hid hcell1'
        have hfl := K.fold_lt hft.out.1 hft.out.2
        have hcl := K.cnt_length_le (K.fold xn) hfl
        clear hcell2' hcell1' hgx hgs
        go_wp2_with fail
        have HS := Lib.hid (hcell1.out _ L0.out)
        refine region_anyZ (fun W => W.cell? ⟨b, o + k * 3 + 1, none⟩ = some (.int .i64 xn)) 12 (by kernel_rfl) ?_
        refine takeG 0 (.move (.tmp 3)) (some 17) none (u3) (by kernel_rfl) (by kernel_rfl) (by kernel_rfl) (fun _ _ _ h => h) (fun oq w e hS => exec_move w e (by kernel_rfl)) HS.out ?_
        refine takeG 3 (.move (.tmp 0)) (some 20) none (.slice (some ⟨b, o, none⟩) n c) (by kernel_rfl) (by kernel_rfl) (by kernel_rfl) (fun _ _ _ h => h) (fun oq w e hS => exec_move w e (by kernel_rfl)) HS.out ?_
        refine takeG 4 (.move (.tmp 4)) (some 21) none (.int .i64 (k : Int)) (by kernel_rfl) (by kernel_rfl) (by kernel_rfl) (fun _ _ _ h => h) (fun oq w e hS => exec_move w e (by kernel_rfl)) HS.out ?_
        refine takeG 5 (.indexAddr 105 (.tmp 20) (.tmp 21)) (some 22) none (.pointer (some ⟨b, o + k * 3, none⟩)) (by kernel_rfl) (by kernel_rfl) (by kernel_rfl) (fun _ _ _ h => h) (fun oq w e hS => exec_index w e (by kernel_rfl) (by kernel_rfl) (index_item b o n c k hlt w)) HS.out ?_
        refine takeG 6 (.fieldAddr 104 (.tmp 22) 1) (some 23) none (.pointer (some ⟨b, o + k * 3 + 1, none⟩)) (by kernel_rfl) (by kernel_rfl) (by kernel_rfl) (fun _ _ _ h => h) (fun oq w e hS => exec_field w e (by kernel_rfl) (field_item1 b (o + k * 3) w)) HS.out ?_
        refine takeG 7 (.load 3 (.tmp 23)) (some 24) none (.int .i64 xn) (by kernel_rfl) (by kernel_rfl) (by kernel_rfl) (fun _ _ _ h => h) (fun oq w e hS => exec_load e (by kernel_rfl) (load_one Tryz.underlying3 (by kernel_rfl) hS)) HS.out ?_
        refine loneG 1 (.buildSlice 51 1 #[(0, .const (.int .u8 1))]) (some 18) none (by kernel_rfl) (by kernel_rfl) (by kernel_rfl) ?_
        intro o' ho hod
        refine wp_val (exec_buildSlice1 ho (by kernel_rfl) (bs_byte 1 _)) ?_
        rw [hod]
        clear hod ho
        have LA : Hid (Below w.heap.size w (wr.drew.alloc (.cells #[.int .u8 1] 5))) := Lib.hid (L0.out.alloc hbr _)
        have R2 := Lib.hid (rdb_one wr.drew 1 (by omega))
        rw [show ((1 : Nat) : Int) = 1 from rfl] at R2
        have O2 : Hid (Own8 (wr.drew.alloc (.cells #[.int .u8 1] 5)) w.heap.size u3 E.length (lst E)) := Lib.hid (O1.out.keep fun g hg => Below.heap_alloc wr.drew _ g (O1.out.lt hg).1)
        refine ⟨fun _ => (hcell1.out _ LA.out), ?_⟩
        refine loneG 2 (.call ⟨.builtin .append, #[(.tmp 17), (.tmp 18)], #[51, 51]⟩) (some 19) none (by kernel_rfl) (by kernel_rfl) (by kernel_rfl) ?_
        intro o' ho hod
        refine wp_append_rd (.tmp 17) (.tmp 18) ho (by kernel_rfl) (by kernel_rfl) O2.out R2.out (fun e => by cases e) (Nat.le_refl _) (by omega) (by simp; omega) ?_
        intro v2 w2 ho2 hg2
        rw [hod]
        clear hod ho
        have L2 := Lib.hid (own_row LA.out O2.out hg2 (by simp; omega))
        have O3 := Lib.hid (OwnL.app (M := [1]) ho2)
        have s2 := L2.out.size
        clear ho2 hg2 O2 R2 LA
        refine ⟨fun _ => (hcell1.out _ L2.out), ?_⟩
        refine loneG 8 (.call ⟨.value (.func 72), #[(.tmp 24)], #[3]⟩) (some 25) none (by kernel_rfl) (by kernel_rfl) (by kernel_rfl) ?_
        intro o' ho hod
        refine wp_callC (f := 72) (args := #[.int .i64 xn]) (by cases o'; cases ho; kernel_rfl) (told_any xn _ hft.out.1 hft.out.2) ?_
        rintro e w' ⟨rfl, rfl⟩
        refine ⟨.int .u64 (K.fold xn : Nat), rfl, ?_⟩
        rw [hod]
        clear hod ho
        refine ⟨fun _ => (hcell1.out _ L2.out), ?_⟩
        refine loneG 9 (.call ⟨.value (.func 71), #[(.tmp 25)], #[24]⟩) (some 26) none (by kernel_rfl) (by kernel_rfl) (by kernel_rfl) ?_
        intro o' ho hod
        refine wp_callC (f := 71) (args := #[.int .u64 (K.fold xn : Nat)]) (by cases o'; cases ho; kernel_rfl) (count_any (K.fold xn) _ hfl) ?_
        rintro e w5 ⟨rfl, hl5⟩
        refine ⟨.string (K.txt (K.cnt (K.fold xn))), rfl, ?_⟩
        rw [hod]
        clear hod ho
        have L5 := Lib.hid (L2.out.trans (hl5.mono s2))
        have O5 := Lib.hid (OwnL.below O3.out hl5 (Nat.le_refl _))
        have s5 := L5.out.size
        clear hl5 O3
        refine ⟨fun _ => (hcell1.out _ L5.out), ?_⟩
        refine loneG 10 (.call ⟨.builtin .append, #[(.tmp 19), (.tmp 26)], #[51, 9]⟩) (some 27) none (by kernel_rfl) (by kernel_rfl) (by kernel_rfl) ?_
        intro o' ho hod
        refine wp_append_str (t := K.txt (K.cnt (K.fold xn))) (.tmp 19) (.tmp 26) ho (by kernel_rfl) (by kernel_rfl) O5.out (by rw [K.txt_size, List.length_append]; simp; omega) s5 ?_
        intro v6 w6 ho6 hg6
        rw [hod]
        clear hod ho
        have L6 := Lib.hid (own_row L5.out O5.out hg6 s5)
        rw [K.sb_txt (K.cnt_lt _)] at ho6
        have O6 := Lib.hid ho6
        clear ho6 hg6 O5
        refine ⟨fun _ => (hcell1.out _ L6.out), ?_⟩
        refine lastS 11 (.assign (.tmp 27)) (some 3) v6 (by kernel_rfl) (by kernel_rfl) (by kernel_rfl) (hcell1.out _ L6.out) (fun oq e => exec_assign _ e (by kernel_rfl)) ?_
        simp only [put_some, put_none, List.setIfInBounds_toArray, List.set_cons_succ, List.set_cons_zero]
        clear HS
        go_wp2_with fail
        go_roundw
        case rel => exact ⟨k + 1, by go_num, by omega, by rw [HXK.out]; rw [List.append_assoc] at O6; exact O6, L6⟩
        case measure => simp [intOf]; omega
      · subst h1; subst h2
        have hcell2 := Lib.hid hcell2'
        have hz2 : xs.size ≤ 4000 := h3
        have hcl := K.cnt_length_le xs.size (by omega)
        clear hcell2' hcell1' hgx hgs
        go_wp2_with fail
        have HS := Lib.hid (hcell2.out _ L0.out)
        refine region_anyZ (fun W => W.cell? ⟨b, o + k * 3 + 2, none⟩ = some (.string xs)) 19 (by kernel_rfl) ?_
        refine takeG 0 (.move (.tmp 3)) (some 28) none (u3) (by kernel_rfl) (by kernel_rfl) (by kernel_rfl) (fun _ _ _ h => h) (fun oq w e hS => exec_move w e (by kernel_rfl)) HS.out ?_
        refine takeG 3 (.move (.tmp 0)) (some 31) none (.slice (some ⟨b, o, none⟩) n c) (by kernel_rfl) (by kernel_rfl) (by kernel_rfl) (fun _ _ _ h => h) (fun oq w e hS => exec_move w e (by kernel_rfl)) HS.out ?_
        refine takeG 4 (.move (.tmp 4)) (some 32) none (.int .i64 (k : Int)) (by kernel_rfl) (by kernel_rfl) (by kernel_rfl) (fun _ _ _ h => h) (fun oq w e hS => exec_move w e (by kernel_rfl)) HS.out ?_
        refine takeG 5 (.indexAddr 105 (.tmp 31) (.tmp 32)) (some 33) none (.pointer (some ⟨b, o + k * 3, none⟩)) (by kernel_rfl) (by kernel_rfl) (by kernel_rfl) (fun _ _ _ h => h) (fun oq w e hS => exec_index w e (by kernel_rfl) (by kernel_rfl) (index_item b o n c k hlt w)) HS.out ?_
        refine takeG 6 (.fieldAddr 104 (.tmp 33) 2) (some 34) none (.pointer (some ⟨b, o + k * 3 + 2, none⟩)) (by kernel_rfl) (by kernel_rfl) (by kernel_rfl) (fun _ _ _ h => h) (fun oq w e hS => exec_field w e (by kernel_rfl) (field_item2 b (o + k * 3) w)) HS.out ?_
        refine takeG 7 (.load 9 (.tmp 34)) (some 35) none (.string xs) (by kernel_rfl) (by kernel_rfl) (by kernel_rfl) (fun _ _ _ h => h) (fun oq w e hS => exec_load e (by kernel_rfl) (load_one Tryz.underlying9 (by kernel_rfl) hS)) HS.out ?_
        refine takeG 8 (.call ⟨.builtin .len, #[(.tmp 35)], #[9]⟩) (some 36) none (.int .i64 (xs.size : Int)) (by kernel_rfl) (by kernel_rfl) (by kernel_rfl) (fun _ _ _ h => h) (fun oq w e hS => exec_len (u := .string xs) w e (by kernel_rfl) (len_str xs w _)) HS.out ?_
        refine takeG 9 (.convert 3 24 (.tmp 36)) (some 37) none (.int .u64 (xs.size : Int)) (by kernel_rfl) (by kernel_rfl) (by kernel_rfl) (fun _ _ _ h => h) (fun oq w e hS => exec_conv w e (by kernel_rfl) (conv_size xs.size hz2 w)) HS.out ?_
        refine takeG 12 (.move (.tmp 0)) (some 40) none (.slice (some ⟨b, o, none⟩) n c) (by kernel_rfl) (by kernel_rfl) (by kernel_rfl) (fun _ _ _ h => h) (fun oq w e hS => exec_move w e (by kernel_rfl)) HS.out ?_
        refine takeG 13 (.move (.tmp 4)) (some 41) none (.int .i64 (k : Int)) (by kernel_rfl) (by kernel_rfl) (by kernel_rfl) (fun _ _ _ h => h) (fun oq w e hS => exec_move w e (by kernel_rfl)) HS.out ?_
        refine takeG 14 (.indexAddr 105 (.tmp 40) (.tmp 41)) (some 42) none (.pointer (some ⟨b, o + k * 3, none⟩)) (by kernel_rfl) (by kernel_rfl) (by kernel_rfl) (fun _ _ _ h => h) (fun oq w e hS => exec_index w e (by kernel_rfl) (by kernel_rfl) (index_item b o n c k hlt w)) HS.out ?_
        refine takeG 15 (.fieldAddr 104 (.tmp 42) 2) (some 43) none (.pointer (some ⟨b, o + k * 3 + 2, none⟩)) (by kernel_rfl) (by kernel_rfl) (by kernel_rfl) (fun _ _ _ h => h) (fun oq w e hS => exec_field w e (by kernel_rfl) (field_item2 b (o + k * 3) w)) HS.out ?_
        refine takeG 16 (.load 9 (.tmp 43)) (some 44) none (.string xs) (by kernel_rfl) (by kernel_rfl) (by kernel_rfl) (fun _ _ _ h => h) (fun oq w e hS => exec_load e (by kernel_rfl) (load_one Tryz.underlying9 (by kernel_rfl) hS)) HS.out ?_
        refine loneG 1 (.buildSlice 51 1 #[(0, .const (.int .u8 2))]) (some 29) none (by kernel_rfl) (by kernel_rfl) (by kernel_rfl) ?_
        intro o' ho hod
        refine wp_val (exec_buildSlice1 ho (by kernel_rfl) (bs_byte 2 _)) ?_
        rw [hod]
        clear hod ho
        have LA : Hid (Below w.heap.size w (wr.drew.alloc (.cells #[.int .u8 2] 5))) := Lib.hid (L0.out.alloc hbr _)
        have R2 := Lib.hid (rdb_one wr.drew 2 (by omega))
        rw [show ((2 : Nat) : Int) = 2 from rfl] at R2
        have O2 : Hid (Own8 (wr.drew.alloc (.cells #[.int .u8 2] 5)) w.heap.size u3 E.length (lst E)) := Lib.hid (O1.out.keep fun g hg => Below.heap_alloc wr.drew _ g (O1.out.lt hg).1)
        refine ⟨fun _ => (hcell2.out _ LA.out), ?_⟩
        refine loneG 2 (.call ⟨.builtin .append, #[(.tmp 28), (.tmp 29)], #[51, 51]⟩) (some 30) none (by kernel_rfl) (by kernel_rfl) (by kernel_rfl) ?_
        intro o' ho hod
        refine wp_append_rd (.tmp 28) (.tmp 29) ho (by kernel_rfl) (by kernel_rfl) O2.out R2.out (fun e => by cases e) (Nat.le_refl _) (by omega) (by simp; omega) ?_
        intro v2 w2 ho2 hg2
        rw [hod]
        clear hod ho
        have L2 := Lib.hid (own_row LA.out O2.out hg2 (by simp; omega))
        have O3 := Lib.hid (OwnL.app (M := [2]) ho2)
        have s2 := L2.out.size
        clear ho2 hg2 O2 R2 LA
        refine ⟨fun _ => (hcell2.out _ L2.out), ?_⟩
        refine loneG 10 (.call ⟨.value (.func 71), #[(.tmp 37)], #[24]⟩) (some 38) none (by kernel_rfl) (by kernel_rfl) (by kernel_rfl) ?_
        intro o' ho hod
        refine wp_callC (f := 71) (args := #[.int .u64 (xs.size : Int)]) (by cases o'; cases ho; kernel_rfl) (count_any xs.size _ (by omega)) ?_
        rintro e w5 ⟨rfl, hl5⟩
        refine ⟨.string (K.txt (K.cnt xs.size)), rfl, ?_⟩
        rw [hod]
        clear hod ho
        have L5 := Lib.hid (L2.out.trans (hl5.mono s2))
        have O5 := Lib.hid (OwnL.below O3.out hl5 (Nat.le_refl _))
        have s5 := L5.out.size
        clear hl5 O3
        refine ⟨fun _ => (hcell2.out _ L5.out), ?_⟩
        refine loneG 11 (.call ⟨.builtin .append, #[(.tmp 30), (.tmp 38)], #[51, 9]⟩) (some 39) none (by kernel_rfl) (by kernel_rfl) (by kernel_rfl) ?_
        intro o' ho hod
        refine wp_append_str (t := K.txt (K.cnt xs.size)) (.tmp 30) (.tmp 38) ho (by kernel_rfl) (by kernel_rfl) O5.out (by rw [K.txt_size, List.length_append]; simp; omega) s5 ?_
        intro v6 w6 ho6 hg6
        rw [hod]
        clear hod ho
        have L6 := Lib.hid (own_row L5.out O5.out hg6 s5)
        have s6 := L6.out.size
        rw [K.sb_txt (K.cnt_lt _)] at ho6
        have O6 := Lib.hid ho6
        clear ho6 hg6 O5
        refine ⟨fun _ => (hcell2.out _ L6.out), ?_⟩
        refine loneG 17 (.call ⟨.builtin .append, #[(.tmp 39), (.tmp 44)], #[51, 9]⟩) (some 45) none (by kernel_rfl) (by kernel_rfl) (by kernel_rfl) ?_
        intro o' ho hod
        refine wp_append_str (t := xs) (.tmp 39) (.tmp 44) ho (by kernel_rfl) (by kernel_rfl) O6.out (by rw [List.length_append, List.length_append]; simp; omega) s6 ?_
        intro v7 w7 ho7 hg7
        rw [hod]
        clear hod ho
        have L7 := Lib.hid (own_row L6.out O6.out hg7 s6)
        have O7 := Lib.hid ho7
        clear ho7 hg7 O6
        refine ⟨fun _ => (hcell2.out _ L7.out), ?_⟩
        refine lastS 18 (.assign (.tmp 45)) (some 3) v7 (by kernel_rfl) (by kernel_rfl) (by kernel_rfl) (hcell2.out _ L7.out) (fun oq e => exec_assign _ e (by kernel_rfl)) ?_
        simp only [put_some, put_none, List.setIfInBounds_toArray, List.set_cons_succ, List.set_cons_zero]
        clear HS
        go_wp2_with fail
        go_roundw
        case rel => exact ⟨k + 1, by go_num, by omega, by rw [HXK.out]; rw [List.append_assoc, List.append_assoc] at O7; exact O7, L7⟩
        case measure => simp [intOf]; omega
    · have i2 : (n : Int) ≤ (k : Int) := by omega
      have E2 : l.take k = l := List.take_of_length_le (by rw [← HN.out]; omega)
      rw [E2] at O1
      obtain ⟨A3, c3, h3, r3, lc3, cm3, _, _⟩ := O1.out.shape (K.encs_lt _)
      subst h3
      have SC := conv_lst (c := c3) r3
      unfold maxLen at cm3
      clear E2 r3
      go_wp2_with fail
      go_ret
      exact ⟨rfl, L1.out⟩
end Go.Proofs.YthioanenljpclaaGreatDoor
namespace Go.Proofs.YthioanenljpclaaGreatDoor
open Go Go.RowKit
set_option linter.unusedVariables false

theorem flt_mem_big : ∀ (r : Int) (l : List K.It) (x : K.It), x ∈ l → K.big x = true → K.flt r l = 14
  | r, [], x, h, _ => by simp at h
  | r, y :: l, x, h, hb => by
    unfold K.flt
    by_cases hy : K.big y = true
    · rw [if_pos hy]
    · rw [if_neg hy]
      rcases List.mem_cons.1 h with rfl | h
      · exact absurd hb hy
      · exact flt_mem_big _ l x h hb
theorem flt_two_eq : ∀ (l : List K.It), (∀ x ∈ l, K.big x = false) → K.flt 2 l = 2
  | [], _ => rfl
  | y :: l, h => by
    unfold K.flt
    rw [if_neg (by rw [h y (by simp)]; simp)]
    have := flt_two_eq l fun x hx => h x (by simp [hx])
    split <;> exact this
theorem flt_unformed : ∀ (l : List K.It), (∀ x ∈ l, K.big x = false) → (∃ x ∈ l, K.formed x = false) → K.flt 0 l = 2
  | [], _, h => by obtain ⟨x, hx, _⟩ := h; simp at hx
  | y :: l, h, ⟨x, hx, hf⟩ => by
    unfold K.flt
    rw [if_neg (by rw [h y (by simp)]; simp)]
    have hl : ∀ z ∈ l, K.big z = false := fun z hz => h z (by simp [hz])
    by_cases hy : K.formed y = true
    · rw [if_pos hy]
      rcases List.mem_cons.1 hx with rfl | hx
      · rw [hy] at hf; cases hf
      · exact flt_unformed l hl ⟨x, hx, hf⟩
    · rw [if_neg hy]
      exact flt_two_eq l hl

set_option maxRecDepth 100000 in
set_option maxHeartbeats 3200000 in
theorem check_any (A : Option Addr) (l : List K.It) (c B : Nat) (w : World) (hx : RdT w B A l) (hg : ∀ x ∈ l, Good x) (hlc : l.length ≤ c) (hcm : c ≤ maxLen) :
    Calls Tryz.prog 73 #[.slice A l.length c] w fun e w' => e = .returned (.int .i64 (K.fault l)) ∧ w = w' := by
  obtain ⟨n, hn⟩ : ∃ n, n = l.length := ⟨_, rfl⟩
  rw [← hn] at hlc ⊢
  have HN := Lib.hid hn
  have HX := Lib.hid hx
  have HG := Lib.hid hg
  unfold maxLen at hcm
  clear hn hx hg
  by_cases hbig : 2000 < n
  · have HF : K.fault l = 14 := by unfold K.fault; rw [if_pos (by rw [← HN.out]; exact hbig)]
    rw [HF]
    have t1 : (2000 : Int) < (n : Int) := by omega
    go_enter Tryz.func73, Tryz.ntmps73
    go_wp2
    go_ret
    exact ⟨rfl, rfl⟩
  have HF : Hid (K.fault l = K.flt 0 l) := Lib.hid (by unfold K.fault; rw [if_neg (by rw [← HN.out]; exact hbig)])
  have t1 : (n : Int) ≤ 2000 := by omega
  clear hbig
  rw [HF.out]
  go_enter Tryz.func73, Tryz.ntmps73
  go_wp2_with fail
  go_loop [3] (fun x => ∃ (k : Nat), x = .int .i64 k ∧ k ≤ n ∧ Hid (∀ j x, j < k → l[j]? = some x → K.big x = false)) (fun x => n - (intOf x).toNat)
  case atStart => exact ⟨0, rfl, by omega, Lib.hid (fun j x hj => absurd hj (by omega))⟩
  case round =>
    obtain ⟨k, rfl, hk, E1⟩ := hrel
    by_cases hlt : k < n
    · obtain ⟨x, hxk⟩ : ∃ x, l[k]? = some x := ⟨_, List.getElem?_eq_getElem (by rw [← HN.out]; exact hlt)⟩
      have HXK := Lib.hid hxk
      have HM := Lib.hid (List.mem_of_getElem? hxk)
      obtain ⟨b, o, hA, hb, c0, c1, c2⟩ := HX.out k x hxk
      have hz := (HG.out x HM.out).2
      subst hA
      unfold maxLen at hz
      clear hxk c1
      obtain ⟨xk, xn, xs⟩ := x
      dsimp only at c0 c2 hz
      have i2 : (k : Int) < (n : Int) := by omega
      by_cases hk2 : xk = 2
      · have t2 : (xk == 2) = true := by simpa using hk2
        by_cases hs : 4000 < xs.size
        · have i3 : (4000 : Int) < (xs.size : Int) := by omega
          have E2 : Hid (K.flt 0 l = 14) := Lib.hid (flt_mem_big 0 l _ HM.out (by simp [K.big, hk2, hs]))
          clear hk2 hs
          go_wp2_with fail
          go_ret
          exact ⟨by rw [E2.out]; rfl, rfl⟩
        · have i3 : (xs.size : Int) ≤ 4000 := by omega
          have E2 : Hid (K.big ⟨xk, xn, xs⟩ = false) := Lib.hid (by simp [K.big]; omega)
          clear hk2 hs
          go_wp2_with fail
          go_round
          case rel =>
            refine ⟨k + 1, by go_num, by omega, Lib.hid fun j y hj hy => ?_⟩
            by_cases e : j = k
            · rw [e, HXK.out] at hy; injection hy with hy; rw [← hy]; exact E2.out
            · exact E1.out j y (by omega) hy
          case measure => simp [intOf]; omega
      · have t2 : (xk == 2) = false := by simpa using hk2
        have E2 : Hid (K.big ⟨xk, xn, xs⟩ = false) := Lib.hid (by simp [K.big, hk2])
        clear hk2
        go_wp2_with fail
        go_round
        case rel =>
          refine ⟨k + 1, by go_num, by omega, Lib.hid fun j y hj hy => ?_⟩
          by_cases e : j = k
          · rw [e, HXK.out] at hy; injection hy with hy; rw [← hy]; exact E2.out
          · exact E1.out j y (by omega) hy
        case measure => simp [intOf]; omega
    · have i2 : (n : Int) ≤ (k : Int) := by omega
      have NB : Hid (∀ x ∈ l, K.big x = false) := Lib.hid fun x hx => by
        obtain ⟨j, hj⟩ := List.mem_iff_getElem?.1 hx
        exact E1.out j x (by have := (List.getElem?_eq_some_iff.1 hj).1; have := HN.out; omega) hj
      clear E1
      go_wp2_with fail
      go_loop [4] (fun x => ∃ (k : Nat), x = .int .i64 k ∧ k ≤ n ∧ Hid (∀ j x, j < k → l[j]? = some x → K.formed x = true)) (fun x => n - (intOf x).toNat)
      case atStart => exact ⟨0, rfl, by omega, Lib.hid (fun j x hj => absurd hj (by omega))⟩
      case round =>
        obtain ⟨k', rfl, hk', E1⟩ := hrel
        by_cases hlt' : k' < n
        · obtain ⟨x, hxk⟩ : ∃ x, l[k']? = some x := ⟨_, List.getElem?_eq_getElem (by rw [← HN.out]; exact hlt')⟩
          have HXK := Lib.hid hxk
          have HM := Lib.hid (List.mem_of_getElem? hxk)
          obtain ⟨b, o, hA, hb, c0, c1, c2⟩ := HX.out k' x hxk
          subst hA
          clear hxk
          obtain ⟨xk, xn, xs⟩ := x
          dsimp only at c0 c1 c2
          have i3 : (k' : Int) < (n : Int) := by omega
          have good : K.formed ⟨xk, xn, xs⟩ = true → Hid (∀ j x, j < k' + 1 → l[j]? = some x → K.formed x = true) := fun hf => Lib.hid fun j y hj hy => by
            by_cases e : j = k'
            · rw [e, HXK.out] at hy; injection hy with hy; rw [← hy]; exact hf
            · exact E1.out j y (by omega) hy
          have badf : K.formed ⟨xk, xn, xs⟩ = false → Hid (K.flt 0 l = 2) := fun hf => Lib.hid (flt_unformed l NB.out ⟨_, HM.out, hf⟩)
          have GOODF := Lib.hid good
          have BADF := Lib.hid badf
          clear good badf
          by_cases h1 : xk = 1
          · subst h1
            by_cases hs : xs = ⟨#[]⟩
            · subst hs
              have EF := GOODF.out (by simp [K.formed])
              go_wp2_with fail
              go_round
              case rel => exact ⟨k' + 1, by go_num, by omega, EF⟩
              case measure => simp [intOf]; omega
            · have hs1 := str_ne hs
              have hs2 : xs.toList.isEmpty = false := by simpa using hs1
              have hs3 : (!xs.toList.isEmpty) = true := by simpa using hs1
              have EF := BADF.out (by simp [K.formed, hs])
              clear hs
              go_wp2_with fail
              go_ret
              exact ⟨by rw [EF.out]; rfl, rfl⟩
          · have t1 : (xk == 1) = false := by simpa using h1
            have t2 : (xk != 1) = true := by simpa using h1
            by_cases h2 : xk = 2
            · subst h2
              by_cases hn0 : xn = 0
              · subst hn0
                have EF := GOODF.out (by simp [K.formed])
                clear h1
                go_wp2_with fail
                go_round
                case rel => exact ⟨k' + 1, by go_num, by omega, EF⟩
                case measure => simp [intOf]; omega
              · have t3 : (xn == 0) = false := by simpa using hn0
                have t4 : (xn != 0) = true := by simpa using hn0
                have EF := BADF.out (by simp [K.formed, hn0])
                clear hn0 h1
                go_wp2_with fail
                go_ret
                exact ⟨by rw [EF.out]; rfl, rfl⟩
            · have t3 : (xk == 2) = false := by simpa using h2
              have t4 : (xk != 2) = true := by simpa using h2
              have EF := BADF.out (by simp [K.formed, h1, h2])
              clear h1 h2
              go_wp2_with fail
              go_ret
              exact ⟨by rw [EF.out]; rfl, rfl⟩
        · have i3 : (n : Int) ≤ (k' : Int) := by omega
          have E2 : Hid (K.flt 0 l = 0) := Lib.hid (K.flt_right l fun x hx => ⟨by
            obtain ⟨j, hj⟩ := List.mem_iff_getElem?.1 hx
            exact E1.out j x (by have := (List.getElem?_eq_some_iff.1 hj).1; have := HN.out; omega) hj, NB.out x hx⟩)
          clear E1
          go_wp2_with fail
          go_ret
          exact ⟨by rw [E2.out]; rfl, rfl⟩
end Go.Proofs.YthioanenljpclaaGreatDoor
namespace Go.Proofs.YthioanenljpclaaGreatDoor
open Go Go.RowKit
set_option linter.unusedVariables false

set_option maxHeartbeats 400000 in
theorem docEncode_bad (A : Option Addr) (l : List K.It) (c B : Nat) (w : World) (hx : RdT w B A l) (hB : B ≤ w.heap.size) (hg : ∀ x ∈ l, Good x) (hlc : l.length ≤ c) (hcm : c ≤ maxLen) (hf : K.fault l ≠ 0) :
    Calls Tryz.prog 62 #[.slice A l.length c] w fun e w' => e = .returned (.tuple #[.string ⟨#[]⟩, .int .i64 (K.fault l)]) ∧ w = w' := by
  have HF := check_any A l c B w hx hg hlc hcm
  have hcm' := hcm
  unfold maxLen at hcm'
  obtain ⟨y, hy⟩ : ∃ y, y = K.fault l := ⟨_, rfl⟩
  rw [← hy] at hf HF ⊢
  have t1 : (y == 0) = false := by simpa using hf
  have t2 : (y != 0) = true := by simpa using hf
  have HFH := Lib.hid HF
  clear HF hy hx hg hf
  go_enter Tryz.func62, Tryz.ntmps62
  go_wp2_with fail
  refine HFH.out.mono ?_
  rintro e w' ⟨rfl, rfl⟩
  go_wp2_with fail
  go_ret2
  exact ⟨rfl, rfl⟩
set_option maxHeartbeats 400000 in
theorem docEncode_ok (A : Option Addr) (l : List K.It) (c B : Nat) (w : World) (hx : RdT w B A l) (hB : B ≤ w.heap.size) (hg : ∀ x ∈ l, Good x) (hlc : l.length ≤ c) (hcm : c ≤ maxLen) (hf : K.fault l = 0) :
    Calls Tryz.prog 62 #[.slice A l.length c] w fun e w' => e = .returned (.tuple #[.string (K.txt (K.encs l)), .int .i64 0]) ∧ Below w.heap.size w w' := by
  have HF := check_any A l c B w hx hg hlc hcm
  rw [hf] at HF
  have HE := Lib.hid (refEncode_any A l c B w hx hB hg hlc hcm hf)
  have hcm' := hcm
  unfold maxLen at hcm'
  have HFH := Lib.hid HF
  clear HF hx hg hf
  go_enter Tryz.func62, Tryz.ntmps62
  go_wp2_with fail
  refine HFH.out.mono ?_
  rintro e w' ⟨rfl, rfl⟩
  go_wp2_with fail
  refine HE.out.mono ?_
  rintro e w' ⟨rfl, hl⟩
  have L := Lib.hid hl
  clear hl
  go_wp2_with fail
  go_ret2
  exact ⟨rfl, L.out⟩

theorem sb_extract (s : ByteArray) (i j : Nat) (hij : i ≤ j) (h : j ≤ s.size) : s.extract i j = K.txt (((K.sb s).take j).drop i) := by
  apply K.sb_inj
  rw [K.sb_txt (fun x hx => K.sb_lt s x (List.mem_of_mem_take (List.mem_of_mem_drop hx)))]
  unfold K.sb
  rw [ByteArray.data_extract, Array.toList_extract]
  simp [List.map_drop, List.map_take, List.extract_eq_take_drop]
  rw [List.take_drop, show i + (j - i) = j by omega]
theorem index_sb (s : ByteArray) (k x : Nat) (h : (K.sb s)[k]? = some x) (W : World) : (Instr.index 9 (.string s) (.int .i64 (k : Int))).run Tryz.prog W = .ok (.int .u8 (x : Int)) W := by
  have hk : k < s.size := by have := (List.getElem?_eq_some_iff.1 h).1; rw [K.sb_length] at this; exact this
  have hx : (s[k]'hk).toNat = x := by
    unfold K.sb at h
    rw [List.getElem?_map] at h
    have h2 : s.data.toList[k]? = some (s[k]'hk) := by
      rw [Array.getElem?_toList]
      exact Array.getElem?_eq_getElem hk
    rw [h2] at h
    simpa using h
  simp [Instr.index, run_underlying Tryz.underlying9, asIntOf, Sem.run_bind, hk, hx]
theorem slice_strFrom (s : ByteArray) (k : Nat) (L : Int) (hL : L = (k : Int)) (h : k ≤ s.size) (W : World) : (Instr.sliceAt 9 (.string s) (some (.int .i64 L)) none none).run Tryz.prog W = .ok (.string (K.txt ((K.sb s).drop k))) W := by
  subst hL
  have e := sb_extract s k s.size h (Nat.le_refl _)
  rw [List.take_of_length_le (by rw [K.sb_length]; exact Nat.le_refl _)] at e
  rw [← e, run_sliceAt_string (P := Tryz.prog) (w := W) (h := Tryz.underlying9)]
  simp [go_sem]
  intro h2
  omega
theorem slice_strFromU (s : ByteArray) (k : Nat) (h : k ≤ s.size) (W : World) : (Instr.sliceAt 9 (.string s) (some (.int .u64 (k : Int))) none none).run Tryz.prog W = .ok (.string (K.txt ((K.sb s).drop k))) W := by
  have e := sb_extract s k s.size h (Nat.le_refl _)
  rw [List.take_of_length_le (by rw [K.sb_length]; exact Nat.le_refl _)] at e
  rw [← e, run_sliceAt_string (P := Tryz.prog) (w := W) (h := Tryz.underlying9)]
  simp [go_sem]
  intro h2
  omega
theorem slice_strToU (s : ByteArray) (k : Nat) (h : k ≤ s.size) (W : World) : (Instr.sliceAt 9 (.string s) none (some (.int .u64 (k : Int))) none).run Tryz.prog W = .ok (.string (K.txt ((K.sb s).take k))) W := by
  have e := sb_extract s 0 k (Nat.zero_le _) h
  rw [List.drop_zero] at e
  rw [← e, run_sliceAt_string (P := Tryz.prog) (w := W) (h := Tryz.underlying9)]
  simp [go_sem]
  intro h2
  omega
/-- what number answers -/
def NumOut (L : List Nat) (e : Ending) : Prop :=
  (K.tk 0 0 L = none ∧ e = .returned (.tuple #[.int .u64 0, .string ⟨#[]⟩, .bool false])) ∨
  ∃ v k, K.tk 0 0 L = some (v, L.drop k) ∧ v < 18446744073709551616 ∧ 0 < k ∧ k ≤ L.length ∧ e = .returned (.tuple #[.int .u64 v, .string (K.txt (L.drop k)), .bool true])
set_option maxRecDepth 100000 in
set_option maxHeartbeats 1600000 in
theorem refNumber_any (s : ByteArray) (w : World) (hs : s.size ≤ maxLen) :
    Calls Tryz.prog 100 #[.string s] w fun e w' => NumOut (K.sb s) e ∧ ∃ nq, w' = w.drewN nq := by
  obtain ⟨L, hL⟩ : ∃ L, L = K.sb s := ⟨_, rfl⟩
  obtain ⟨n, hn⟩ : ∃ n, n = s.size := ⟨_, rfl⟩
  have hnl : n = L.length := by rw [hL, K.sb_length, hn]
  have HN := Lib.hid hn
  have HNL := Lib.hid hnl
  have HLL := Lib.hid hL
  have H256 : Hid (∀ x ∈ L, x < 256) := Lib.hid (by rw [hL]; exact K.sb_lt s)
  rw [← hL]
  unfold maxLen at hs
  have hs' : n ≤ 9223372036854775807 := by omega
  have hszi : (s.size : Int) = (n : Int) := by omega
  clear hL hn hnl hs
  go_enter Tryz.func100, Tryz.ntmps100
  go_wp2_with fail
  go_loop [5, 6, 7] (fun y z x => ∃ (k v : Nat), x = .int .i64 k ∧ y = .int .u64 v ∧ z = .int .u64 ((128 ^ k : Nat) : Int) ∧ k ≤ n ∧ k ≤ 9 ∧ v < 128 ^ k ∧ Hid (K.tk k v (L.drop k) = K.tk 0 0 L)) (fun _ _ x => n - (intOf x).toNat)
  case atStart => exact ⟨0, 0, rfl, rfl, by simp, by omega, by omega, by simp, Lib.hid rfl⟩
  case round =>
    obtain ⟨k, v, rfl, rfl, rfl, hk, hk9, hv, E1⟩ := hrel
    have hp9 : 128 ^ k ≤ (128 : Nat) ^ 9 := Nat.pow_le_pow_right (by omega) hk9
    have hv2 : v < 9223372036854775808 := by omega
    obtain ⟨pk, hpk⟩ : ∃ pk, pk = 128 ^ k := ⟨_, rfl⟩
    rw [← hpk] at hp9 hv ⊢
    have HPK := Lib.hid hpk
    clear hpk
    have hpk9 : pk ≤ 9223372036854775808 := by omega
    have i0 : (k : Int) < 10 := by omega
    by_cases hlt : k < n
    · obtain ⟨x, hxk⟩ : ∃ x, L[k]? = some x := ⟨_, List.getElem?_eq_getElem (by rw [← HNL.out]; exact hlt)⟩
      have hx256 := H256.out x (List.mem_of_getElem? hxk)
      have hdc := drop_cons hxk
      have HI := index_sb s k x (by rw [← HLL.out]; exact hxk)
      have E2 : Hid ((if k = 9 ∧ 1 < x then none else if x = 0 ∧ 0 < k then none else if x < 128 then some (v + x * pk, L.drop (k + 1)) else K.tk (k + 1) (v + (x - 128) * pk) (L.drop (k + 1))) = K.tk 0 0 L) := Lib.hid (by rw [← E1.out, hdc, tk_cons, HPK.out])
      clear hdc hxk E1
      have i2 : (k : Int) < (n : Int) := by omega
      by_cases ha : k = 9 ∧ 1 < x
      · have i4 : (1 : Int) < (x : Int) := by omega
        have t9 : ((k : Int) == 9) = true := by simp; omega
        have E3 : Hid (K.tk 0 0 L = none) := Lib.hid (by rw [← E2.out, if_pos ha])
        clear E2 ha
        go_wp2_with fail
        go_ret3
        exact ⟨.inl ⟨E3.out, rfl⟩, 0, rfl⟩
      by_cases h0 : x = 0 ∧ 0 < k
      · have t0 : ((x : Int) == 0) = true := by simp; omega
        have i5 : (0 : Int) < (k : Int) := by omega
        have i6 : (x : Int) ≤ 1 := by omega
        have E3 : Hid (K.tk 0 0 L = none) := Lib.hid (by rw [← E2.out, if_neg ha, if_pos h0])
        clear E2 ha h0
        by_cases h9 : k = 9
        · have t9 : ((k : Int) == 9) = true := by simp; omega
          clear h9
          go_wp2_with fail
          go_ret3
          exact ⟨.inl ⟨E3.out, rfl⟩, 0, rfl⟩
        · have t9 : ((k : Int) == 9) = false := by simp; omega
          clear h9
          go_wp2_with fail
          go_ret3
          exact ⟨.inl ⟨E3.out, rfl⟩, 0, rfl⟩
      have hyp : v + x % 128 * pk < 18446744073709551616 := by
        by_cases h9 : k = 9
        · have h1 : x % 128 ≤ 1 := by omega
          have := Nat.mul_le_mul_right pk h1
          omega
        · have h8 : pk ≤ (128 : Nat) ^ 8 := by rw [HPK.out]; exact Nat.pow_le_pow_right (by omega) (by omega)
          have := Nat.mul_le_mul (show x % 128 ≤ 127 by omega) h8
          omega
      obtain ⟨mm, hmm⟩ : ∃ mm, mm = x % 128 * pk := ⟨_, rfl⟩
      have HMUL : (x : Int) % 128 * (pk : Int) = (mm : Int) := by rw [hmm, Int.natCast_mul]; rfl
      rw [← hmm] at hyp
      obtain ⟨v', hv'⟩ : ∃ v', v' = v + mm := ⟨_, rfl⟩
      have HV := Lib.hid hv'
      have HMM := Lib.hid hmm
      have HMW : IntKind.u64.wrap ((x : Int) % 128 * (pk : Int)) = (mm : Int) := by rw [HMUL]; exact wraps_u64 _ (by omega) (by omega)
      have HVW : (v : Int) + (mm : Int) = (v' : Int) := by omega
      have hv3 : v' < 18446744073709551616 := by omega
      have hm3 : mm < 18446744073709551616 := by omega
      have x1 : (0 : Int) ≤ (x : Int) := by omega
      have x2 : (x : Int) < 256 := by omega
      clear hv' hmm
      by_cases hs : x < 128
      · have i6 : (x : Int) < 128 := by omega
        by_cases h9 : k = 9
        · have t9 : ((k : Int) == 9) = true := by simp; omega
          have i7 : (x : Int) ≤ 1 := by omega
          have t0 : ((x : Int) == 0) = false := by simp; omega
          have i5 : (0 : Int) < (k : Int) := by omega
          have E3 : Hid (K.tk 0 0 L = some (v', L.drop (k + 1))) := Lib.hid (by rw [← E2.out, if_neg ha, if_neg h0, if_pos hs, HV.out, HMM.out, Nat.mod_eq_of_lt hs])
          have HS := slice_strFrom s (k + 1) ((k : Int) + 1) (by omega) (by have := HN.out; omega)
          rw [← HLL.out] at HS
          have W1 : IntKind.i64.wrap ((k : Int) + 1) = (k : Int) + 1 := IntWalk.i64_in _ (by omega)
          have W2 : (0 : Int) ≤ (k : Int) + 1 := by omega
          clear E2 ha h0 hs h9
          go_wp2_with fail
          go_quiet (fail)
          go_wp2_with fail
          go_ret3
          exact ⟨.inr ⟨v', k + 1, E3.out, hv3, by omega, by rw [← HNL.out]; omega, rfl⟩, nq, rfl⟩
        · have t9 : ((k : Int) == 9) = false := by simp; omega
          by_cases hk0 : 0 < k
          · have t0 : ((x : Int) == 0) = false := by simp; omega
            have i5 : (0 : Int) < (k : Int) := by omega
            have E3 : Hid (K.tk 0 0 L = some (v', L.drop (k + 1))) := Lib.hid (by rw [← E2.out, if_neg ha, if_neg h0, if_pos hs, HV.out, HMM.out, Nat.mod_eq_of_lt hs])
            have HS := slice_strFrom s (k + 1) ((k : Int) + 1) (by omega) (by have := HN.out; omega)
            rw [← HLL.out] at HS
            have W1 : IntKind.i64.wrap ((k : Int) + 1) = (k : Int) + 1 := IntWalk.i64_in _ (by omega)
            have W2 : (0 : Int) ≤ (k : Int) + 1 := by omega
            clear E2 ha h0 hs h9 hk0
            go_wp2_with fail
            go_quiet (fail)
            go_wp2_with fail
            go_ret3
            exact ⟨.inr ⟨v', k + 1, E3.out, hv3, by omega, by rw [← HNL.out]; omega, rfl⟩, nq, rfl⟩
          · have i5 : (k : Int) ≤ 0 := by omega
            have E3 : Hid (K.tk 0 0 L = some (v', L.drop (k + 1))) := Lib.hid (by rw [← E2.out, if_neg ha, if_neg h0, if_pos hs, HV.out, HMM.out, Nat.mod_eq_of_lt hs])
            have HS := slice_strFrom s (k + 1) ((k : Int) + 1) (by omega) (by have := HN.out; omega)
            rw [← HLL.out] at HS
            have W1 : IntKind.i64.wrap ((k : Int) + 1) = (k : Int) + 1 := IntWalk.i64_in _ (by omega)
            have W2 : (0 : Int) ≤ (k : Int) + 1 := by omega
            clear E2 ha h0 hs h9 hk0
            go_wp2_with fail
            go_quiet (fail)
            go_wp2_with fail
            go_ret3
            exact ⟨.inr ⟨v', k + 1, E3.out, hv3, by omega, by rw [← HNL.out]; omega, rfl⟩, nq, rfl⟩
      · have i6 : (128 : Int) ≤ (x : Int) := by omega
        have hk8 : k ≤ 8 := by omega
        have t9 : ((k : Int) == 9) = false := by simp; omega
        have t0 : ((x : Int) == 0) = false := by simp; omega
        have hyx : x % 128 = x - 128 := by omega
        have E3 : Hid (K.tk (k + 1) v' (L.drop (k + 1)) = K.tk 0 0 L) := Lib.hid (by rw [← E2.out, if_neg ha, if_neg h0, if_neg hs, HV.out, HMM.out, hyx])
        have hpk8 : pk ≤ 72057594037927936 := by
          have h8 : pk ≤ (128 : Nat) ^ 8 := by rw [HPK.out]; exact Nat.pow_le_pow_right (by omega) hk8
          exact Nat.le_trans h8 (by decide +kernel)
        have hv4 : v' < 128 ^ (k + 1) := by
          rw [Nat.pow_succ, ← HPK.out, HV.out, HMM.out]
          have := Nat.mul_le_mul_right pk (show x % 128 ≤ 127 by omega)
          omega
        clear hyx
        by_cases hk0 : 0 < k
        · have i5 : (0 : Int) < (k : Int) := by omega
          clear E2 ha h0 hs hk0
          go_wp2_with fail
          go_round
          case rel => exact ⟨k + 1, v', by go_num, rfl, by rw [Nat.pow_succ, ← HPK.out]; go_num, by omega, by omega, hv4, E3⟩
          case measure => simp [intOf]; omega
        · have i5 : (k : Int) ≤ 0 := by omega
          clear E2 ha h0 hs hk0
          go_wp2_with fail
          go_round
          case rel => exact ⟨k + 1, v', by go_num, rfl, by rw [Nat.pow_succ, ← HPK.out]; go_num, by omega, by omega, hv4, E3⟩
          case measure => simp [intOf]; omega
    · have i2 : (n : Int) ≤ (k : Int) := by omega
      have E3 : Hid (K.tk 0 0 L = none) := Lib.hid (by rw [← E1.out, List.drop_eq_nil_of_le (by rw [← HNL.out]; omega)]; rfl)
      clear E1
      go_wp2_with fail
      go_ret3
      exact ⟨.inl ⟨E3.out, rfl⟩, 0, rfl⟩
end Go.Proofs.YthioanenljpclaaGreatDoor
namespace Go.Proofs.YthioanenljpclaaGreatDoor
open Go Go.RowKit
set_option linter.unusedVariables false

theorem str_full {s : ByteArray} {b0 : Nat} {r : List Nat} (hs : K.sb s = b0 :: r) : s.toList ≠ [] ∧ s.toList.isEmpty = false ∧ (!s.toList.isEmpty) = true := by
  have h : s.toList ≠ [] := by
    intro e
    have h2 : s.data.toList = [] := by rw [← ByteArray.toList_eq]; exact e
    unfold K.sb at hs
    rw [h2] at hs
    cases hs
  exact ⟨h, by simpa using h, by simpa using h⟩
theorem below_drew2 {b : Nat} {w w' : World} (h : Below b w w') (n : Nat) : Below b w (w'.drewN n) := ⟨h.os, h.tape, h.output, h.size, h.block⟩
set_option maxRecDepth 100000 in
set_option maxHeartbeats 3200000 in
theorem docDecode_any (L : List Nat) (w : World) (hL : ∀ x ∈ L, x < 256) (hsz : L.length ≤ maxLen) :
    Calls Tryz.prog 92 #[.string (K.txt L)] w fun e w' => DecOut L w.heap.size e w' ∧ Below w.heap.size w w' := by
  have HL := Lib.hid hL
  have HSZ := Lib.hid hsz
  clear hL hsz
  go_enter Tryz.func92, Tryz.ntmps92
  go_wp2_with fail
  go_loopw [0, 4] (fun x y wr => ∃ (R : List Nat) (l : List K.It), x = .string (K.txt R) ∧ l.length ≤ 2000 ∧ Hid (R.length ≤ L.length) ∧ Hid (∀ b ∈ R, b < 256) ∧ Hid ((K.decs (2000 - l.length) R).map (l ++ ·) = K.decs 2000 L) ∧ Hid (OwnI wr w.heap.size y l) ∧ Hid (Below w.heap.size w wr)) (fun x _ _ => match x with | .string s => s.size | _ => 0)
  case atStart => exact ⟨L, [], rfl, by simp, Lib.hid (Nat.le_refl _), HL, Lib.hid (by simp), Lib.hid (OwnI.nil _ _), Lib.hid (Below.refl _ _)⟩
  case round =>
    obtain ⟨R, l, rfl, hl, HRL, HLR, E1, O1, L1⟩ := hrel
    have hs := L1.out.size
    obtain ⟨A4, c4, hv4, hc4, hm4, _⟩ := O1.out.shape
    subst hv4
    cases R with
    | nil =>
      have E2 : Hid (K.decs 2000 L = some l) := Lib.hid (by rw [← E1.out, decs_nil]; simp)
      clear E1
      rw [show K.txt [] = ⟨#[]⟩ from rfl]
      go_wp2_with fail
      go_ret2
      exact ⟨.inr ⟨l, _, E2.out, rfl, O1.out⟩, L1.out⟩
    | cons b0 r =>
      have hr256 : ∀ x ∈ r, x < 256 := fun x hx => HLR.out x (by simp [hx])
      have hb0 := HLR.out b0 (by simp)
      have hrl : r.length + 1 ≤ L.length := HRL.out
      have hNU := refNumber_any (K.txt r)
      rw [K.sb_txt hr256] at hNU
      have hzr : (K.txt r).size ≤ maxLen := by rw [K.txt_size]; have := HSZ.out; omega
      have NU := Lib.hid fun W => hNU W hzr
      obtain ⟨s, hS⟩ : ∃ s, s = K.txt (b0 :: r) := ⟨_, rfl⟩
      have hsb : K.sb s = b0 :: r := by rw [hS]; exact K.sb_txt HLR.out
      have hss : s.size = r.length + 1 := by rw [hS, K.txt_size]; rfl
      rw [← hS]
      obtain ⟨f1, f2, f3⟩ := str_full hsb
      have HI := index_sb s 0 b0 (by rw [hsb]; rfl)
      rw [show ((0 : Nat) : Int) = 0 from rfl] at HI
      have HS1 := slice_strFrom s 1 1 rfl (by omega)
      rw [hsb, show (b0 :: r).drop 1 = r from rfl] at HS1
      have HSB := Lib.hid hsb
      have HSS := Lib.hid hss
      have HR256 := Lib.hid hr256
      have i0 : (1 : Int) ≤ (s.size : Int) := by omega
      clear hS hsb hss hNU hzr hr256
      go_wp2_with fail
      refine (NU.out _).mono ?_
      rintro e w2 ⟨hnum, nq, hw2⟩
      have L2 : Hid (Below w.heap.size w w2) := Lib.hid (by rw [hw2]; exact below_drew2 L1.out nq)
      have O2 : Hid (OwnI w2 w.heap.size (.slice A4 l.length c4) l) := Lib.hid (by rw [hw2]; exact O1.out)
      have hs2 := L2.out.size
      clear hw2 O1 L1
      unfold NumOut at hnum
      have fail2 : K.takeI (b0 :: r) = none → Hid (K.decs 2000 L = none) := fun hq => Lib.hid (by rw [← E1.out, decs_none hq]; rfl)
      rcases hnum with ⟨hq, rfl⟩ | ⟨v, k, hq, hv, hk0, hk, he⟩
      · have E2 := fail2 (by rw [takeI_cons, hq]; rfl)
        clear E1 hq fail2
        go_wp2_with fail
        go_ret2
        exact ⟨.inl ⟨E2.out, rfl⟩, L2.out⟩
      · obtain ⟨r', hr'⟩ : ∃ r', r' = r.drop k := ⟨_, rfl⟩
        rw [← hr'] at hq he
        have hl' : r'.length = r.length - k := by rw [hr', List.length_drop]
        have HR' : Hid (∀ x ∈ r', x < 256) := Lib.hid (by rw [hr']; exact fun x hx => HR256.out x (List.mem_of_mem_drop hx))
        have HQ : Hid (K.takeI (b0 :: r) = K.pickI b0 (some (v, r'))) := Lib.hid (by rw [takeI_cons, hq])
        obtain ⟨st, hst⟩ : ∃ st, st = K.txt r' := ⟨_, rfl⟩
        rw [← hst] at he
        have HST := Lib.hid hst
        have hsq : st.size = r'.length := by rw [hst, K.txt_size]
        have HSQ := Lib.hid hsq
        have HL' := Lib.hid hl'
        have FAIL2 := Lib.hid fail2
        have hsm : st.size ≤ 9223372036854775807 := by have := HSZ.out; unfold maxLen at this; omega
        clear hq hr' hl' hst hsq fail2
        subst he
        by_cases hl20 : l.length = 2000
        · have E2 : Hid (K.decs 2000 L = none) := Lib.hid (by rw [← E1.out, hl20]; rfl)
          have t1 : ((l.length : Int) == 2000) = true := by simp; omega
          clear E1 hl20
          by_cases h1 : b0 = 1
          · subst h1
            go_wp2_with fail
            go_ret2
            exact ⟨.inl ⟨E2.out, rfl⟩, L2.out⟩
          · have u1 : ((b0 : Int) == 1) = false := by simp; omega
            have u2 : ((b0 : Int) != 1) = true := by simp; omega
            by_cases h2 : b0 = 2
            · subst h2
              clear h1
              go_wp2_with fail
              go_ret2
              exact ⟨.inl ⟨E2.out, rfl⟩, L2.out⟩
            · have u3 : ((b0 : Int) == 2) = false := by simp; omega
              have u4 : ((b0 : Int) != 2) = true := by simp; omega
              clear h1 h2
              go_wp2_with fail
              go_ret2
              exact ⟨.inl ⟨E2.out, rfl⟩, L2.out⟩
        have t1 : ((l.length : Int) == 2000) = false := by simp; omega
        have hll : l.length < 2000 := by omega
        clear hl20
        have step : ∀ (x : K.It) (R' : List Nat), K.takeI (b0 :: r) = some (x, R') → Hid ((K.decs (2000 - (l ++ [x]).length) R').map ((l ++ [x]) ++ ·) = K.decs 2000 L) := fun x R' hq => Lib.hid (by
          rw [← E1.out, show 2000 - l.length = (2000 - (l ++ [x]).length) + 1 by simp; omega, decs_some hq, Option.map_map]
          congr 1
          · funext t
            simp)
        have STEP := Lib.hid step
        clear step E1
        by_cases h1 : b0 = 1
        · subst h1
          by_cases hp : v % 2 = 0
          · have p1 : (v : Int) % 2 = 0 := by omega
            have HU : (v : Int) / 2 = K.unf v := by unfold K.unf; rw [if_pos hp]; omega
            have hux := K.unf_bounds hv
            obtain ⟨xn, hxn⟩ : ∃ xn, xn = K.unf v := ⟨_, rfl⟩
            rw [← hxn] at HU hux
            have HXN := Lib.hid hxn
            clear hxn hp
            have E5 := STEP.out ⟨1, xn, ⟨#[]⟩⟩ r' (by rw [HQ.out, K.pickI_some, if_pos rfl, ← HXN.out])
            have O3 : Hid (OwnI (w2.alloc (.cells #[.int .i64 1, .int .i64 xn, .string ⟨#[]⟩] 104)) w.heap.size (.slice A4 l.length c4) l) := Lib.hid (O2.out.alloc _)
            have N3 := Lib.hid (item_new w2 ⟨1, xn, ⟨#[]⟩⟩)
            have L3 : Hid (Below w.heap.size w (w2.alloc (.cells #[.int .i64 1, .int .i64 xn, .string ⟨#[]⟩] 104))) := Lib.hid (L2.out.alloc hs2 _)
            have hs3 : w.heap.size ≤ (w2.alloc (.cells #[.int .i64 1, .int .i64 xn, .string ⟨#[]⟩] 104)).heap.size := by simp; omega
            go_wp2_with ((refine wpList_append_item rfl (.tmp 47) (.tmp 50) rfl rfl rfl (m := [⟨1, xn, ⟨#[]⟩⟩]) rfl O3.out N3.out (by simp; omega) hs3 ?_); intro v4 w4 ho4 hg4 he4; refine of_hid ?_)
            refine Lib.hid ?_
            have L4 : Hid (Below w.heap.size w w4) := Lib.hid (L3.out.trans ⟨hg4.os, hg4.tape, hg4.output, hg4.size, fun k hk => hg4.block k (by omega) fun e => by have := (O3.out.lt _ e.symm).1; omega⟩)
            have O4 := Lib.hid ho4
            clear ho4 hg4 he4 O3 N3 L3
            go_wp2_with fail
            go_roundw
            case rel => exact ⟨r', l ++ [⟨1, xn, ⟨#[]⟩⟩], by first | rfl | rw [HST.out], by simp; omega, Lib.hid (by have := HL'.out; omega), HR', E5, O4, L4⟩
            case measure =>
              have h1 := HSS.out
              have h2 := HSQ.out
              have h3 := HL'.out
              simp [K.txt_size] at *
              omega
          · have p1 : (v : Int) % 2 = 1 := by omega
            have HU : -((v : Int) / 2) - 1 = K.unf v := by unfold K.unf; rw [if_neg hp]; omega
            have hux := K.unf_bounds hv
            obtain ⟨xn, hxn⟩ : ∃ xn, xn = K.unf v := ⟨_, rfl⟩
            rw [← hxn] at HU hux
            have HXN := Lib.hid hxn
            clear hxn hp
            have E5 := STEP.out ⟨1, xn, ⟨#[]⟩⟩ r' (by rw [HQ.out, K.pickI_some, if_pos rfl, ← HXN.out])
            have O3 : Hid (OwnI (w2.alloc (.cells #[.int .i64 1, .int .i64 xn, .string ⟨#[]⟩] 104)) w.heap.size (.slice A4 l.length c4) l) := Lib.hid (O2.out.alloc _)
            have N3 := Lib.hid (item_new w2 ⟨1, xn, ⟨#[]⟩⟩)
            have L3 : Hid (Below w.heap.size w (w2.alloc (.cells #[.int .i64 1, .int .i64 xn, .string ⟨#[]⟩] 104))) := Lib.hid (L2.out.alloc hs2 _)
            have hs3 : w.heap.size ≤ (w2.alloc (.cells #[.int .i64 1, .int .i64 xn, .string ⟨#[]⟩] 104)).heap.size := by simp; omega
            go_wp2_with ((refine wpList_append_item rfl (.tmp 47) (.tmp 50) rfl rfl rfl (m := [⟨1, xn, ⟨#[]⟩⟩]) rfl O3.out N3.out (by simp; omega) hs3 ?_); intro v4 w4 ho4 hg4 he4; refine of_hid ?_)
            refine Lib.hid ?_
            have L4 : Hid (Below w.heap.size w w4) := Lib.hid (L3.out.trans ⟨hg4.os, hg4.tape, hg4.output, hg4.size, fun k hk => hg4.block k (by omega) fun e => by have := (O3.out.lt _ e.symm).1; omega⟩)
            have O4 := Lib.hid ho4
            clear ho4 hg4 he4 O3 N3 L3
            go_wp2_with fail
            go_roundw
            case rel => exact ⟨r', l ++ [⟨1, xn, ⟨#[]⟩⟩], by first | rfl | rw [HST.out], by simp; omega, Lib.hid (by have := HL'.out; omega), HR', E5, O4, L4⟩
            case measure =>
              have h1 := HSS.out
              have h2 := HSQ.out
              have h3 := HL'.out
              simp [K.txt_size] at *
              omega
        · have u1 : ((b0 : Int) == 1) = false := by simp; omega
          have u2 : ((b0 : Int) != 1) = true := by simp; omega
          by_cases h2 : b0 = 2
          · subst h2
            by_cases h3 : v ≤ 4000
            · have j1 : (v : Int) ≤ 4000 := by omega
              by_cases h4 : v ≤ st.size
              · have j2 : (v : Int) ≤ (st.size : Int) := by omega
                have S2 := slice_strToU st v h4
                have S3 := slice_strFromU st v h4
                have hst2 : K.sb st = r' := by rw [HST.out]; exact K.sb_txt HR'.out
                rw [hst2] at S2 S3
                have hq5 : K.takeI (2 :: r) = some (⟨2, 0, K.txt (r'.take v)⟩, r'.drop v) := by rw [HQ.out, K.pickI_some, if_neg h1, if_pos ⟨rfl, h3, by rw [← HSQ.out]; exact h4⟩]
                obtain ⟨tt, htt⟩ : ∃ tt, tt = K.txt (r'.take v) := ⟨_, rfl⟩
                rw [← htt] at S2 hq5
                have HQ5 := Lib.hid hq5
                clear hst2 htt hq5 h1 h3
                have E5 := STEP.out ⟨2, 0, tt⟩ (r'.drop v) (by rw [HQ5.out])
                have O3 : Hid (OwnI (w2.alloc (.cells #[.int .i64 2, .int .i64 0, .string tt] 104)) w.heap.size (.slice A4 l.length c4) l) := Lib.hid (O2.out.alloc _)
                have N3 := Lib.hid (item_new w2 ⟨2, 0, tt⟩)
                have L3 : Hid (Below w.heap.size w (w2.alloc (.cells #[.int .i64 2, .int .i64 0, .string tt] 104))) := Lib.hid (L2.out.alloc hs2 _)
                have hs3 : w.heap.size ≤ (w2.alloc (.cells #[.int .i64 2, .int .i64 0, .string tt] 104)).heap.size := by simp; omega
                go_wp2_with ((refine wpList_append_item rfl (.tmp 62) (.tmp 67) rfl rfl rfl (m := [⟨2, 0, tt⟩]) rfl O3.out N3.out (by simp; omega) hs3 ?_); intro v4 w4 ho4 hg4 he4; refine of_hid ?_)
                refine Lib.hid ?_
                have L4 : Hid (Below w.heap.size w w4) := Lib.hid (L3.out.trans ⟨hg4.os, hg4.tape, hg4.output, hg4.size, fun k hk => hg4.block k (by omega) fun e => by have := (O3.out.lt _ e.symm).1; omega⟩)
                have O4 := Lib.hid ho4
                clear ho4 hg4 he4 O3 N3 L3
                go_wp2_with fail
                go_roundw
                case rel => exact ⟨(r'.drop v), l ++ [⟨2, 0, tt⟩], by first | rfl | rw [HST.out], by simp; omega, Lib.hid (by have := HL'.out; rw [List.length_drop]; omega), (Lib.hid fun x hx => HR'.out x (List.mem_of_mem_drop hx)), E5, O4, L4⟩
                case measure =>
                  have h1 := HSS.out
                  have h2 := HSQ.out
                  have h3 := HL'.out
                  simp [K.txt_size] at *
                  omega
              · have j2 : (st.size : Int) < (v : Int) := by omega
                have E2 := FAIL2.out (by rw [HQ.out, K.pickI_some, if_neg h1, if_neg (fun h => h4 (by have := h.2.2; rw [← HSQ.out] at this; exact this))])
                clear h1 h3
                go_wp2_with fail
                go_ret2
                exact ⟨.inl ⟨E2.out, rfl⟩, L2.out⟩
            · have j1 : (4000 : Int) < (v : Int) := by omega
              have E2 := FAIL2.out (by rw [HQ.out, K.pickI_some, if_neg h1, if_neg (fun h => h3 h.2.1)])
              clear h1 h3
              go_wp2_with fail
              go_ret2
              exact ⟨.inl ⟨E2.out, rfl⟩, L2.out⟩
          · have u3 : ((b0 : Int) == 2) = false := by simp; omega
            have u4 : ((b0 : Int) != 2) = true := by simp; omega
            have E2 := FAIL2.out (by rw [HQ.out, K.pickI_some, if_neg h1, if_neg (fun h => h2 h.1)])
            clear h1 h2
            go_wp2_with fail
            go_ret2
            exact ⟨.inl ⟨E2.out, rfl⟩, L2.out⟩
end Go.Proofs.YthioanenljpclaaGreatDoor
