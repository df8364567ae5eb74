/-
  'pack.Encode' by contracts. Conditions: a list that reads as items.
-/
import Derived.Test.YtikenhcglbfgpaaDoorPackEncM
namespace Go.Proofs.YtikenhcglbfgpaaDoor
set_option maxRecDepth 100000
open Go Go.RowKit
set_option linter.unusedVariables false

theorem strB_lst (L : List Nat) : strB L.length (lst L) = K.txt L := by
  have h : (strB L.length (lst L)).data.toList = (K.txt L).data.toList := by
    rw [strB_data]
    show _ = (L.map UInt8.ofNat).toArray.toList
    simp only [List.toList_toArray]
    apply List.ext_getElem?
    intro j
    by_cases hj : j < L.length
    · simp [lst, hj, List.getD_eq_getElem?_getD]
    · rw [List.getElem?_eq_none (by simp; omega), List.getElem?_eq_none (by simp; omega)]
  have h2 := Array.toList_inj.1 h
  cases hs : strB L.length (lst L)
  cases ht : K.txt L
  rw [hs, ht] at h2
  exact congrArg _ h2
theorem str_is (s : ByteArray) : strB s.size (lst (K.sb s)) = s := by
  have := strB_lst (K.sb s)
  rw [K.sb_length, K.txt_sb] at this
  exact this
theorem own_row {w0 w w' : World} {base n : Nat} {v : Value} {X : Nat → Nat} (hb : Below base w0 w) (ho : Own8 w base v n X) (hg : w.grownBy w' v.ownBlock) (hs : base ≤ w.heap.size) : Below base w0 w' :=
  hb.trans ⟨hg.os, hg.tape, hg.output, hg.size, fun k hk => hg.block k (by omega) (fun e => by have := (ho.lt e.symm).2; omega)⟩
theorem wpList_append_str {w : World} {ops : Array Oper} {rest : List Oper} {o : Oper} {a : Act} {Q : Exit → Act → World → Prop} (hgd : o.guard = none) (s x : Operand)
    (ho : o.op = .call { callee := .builtin .append, args := #[s, x], argTypes := #[38, 9] }) {base : Nat} {v : Value} {L : List Nat} {t : ByteArray} (hs : a.eval s = v) (hx : a.eval x = .string t)
    (hown : OwnL w base v L) (hl : L.length + t.size ≤ 70368744177664) (hb : base ≤ w.heap.size)
    (h : ∀ v' w', OwnL w' base v' (L ++ K.sb t) → w.grownBy w' v.ownBlock → wpList Tryd.prog ops Q rest (a.put o.dst v') w') : wpList Tryd.prog ops Q (o :: rest) a w := by
  have hx2 : a.eval x = .string (strB t.size (lst (K.sb t))) := by rw [str_is]; exact hx
  refine wpList_append_txt hgd s x ho hs hx2 hown (fun j _ => lst_lt (K.sb_lt t) j) hl hb fun v' w' h1 h2 => h v' w' (OwnL.app ?_) h2
  rw [K.sb_length]
  exact h1
theorem rdb_two (w : World) (o : Obj) (x : Nat) (hx : x < 256) : RdB ((w.alloc o).alloc (.cells #[.int .u8 ((x : Nat) : Int)] 5)) (w.heap.size + 1 + 1) (some ⟨w.heap.size + 1, 0, none⟩) 1 (lst [x]) := by
  have h := rdb_one (w.alloc o) x hx
  rw [show (w.alloc o).heap.size = w.heap.size + 1 by simp] at h
  exact h
/-- the row of the call, behind two new blocks and an append to it -/
theorem own_two {w w2 : World} {o o2 : Obj} {base n m : Nat} {v v2 : Value} {X Y : Nat → Nat} {g : Nat} {t : TypeId} {cs : Array Value} (ho : Own8 w base v n X) (hg : ((w.alloc o).alloc o2).grownBy w2 v.ownBlock) (hb : Blk ((w.alloc o).alloc o2) w.heap.size t cs) : Blk w2 w.heap.size t cs :=
  hb.grown hg fun e => by have := (ho.lt e.symm).1; omega
theorem encs_snoc (l : List K.It) (k : Nat) (x : K.It) (h : l[k]? = some x) : K.encs (l.take (k + 1)) = K.encs (l.take k) ++ K.encI x := by
  have hk := (List.getElem?_eq_some_iff.1 h).1
  have e : l.take (k + 1) = l.take k ++ [x] := by
    rw [List.take_add_one, h]
    rfl
  rw [e, K.encs_append]
  show _ ++ (K.encI x ++ []) = _
  rw [List.append_nil]

set_option maxHeartbeats 400000 in
theorem encode_bad (A : Option Addr) (l : List K.It) (c B : Nat) (w : World) (hx : RdT w B A l) (hB : B ≤ w.heap.size) (hg : ∀ x ∈ l, Good x) (hlc : l.length ≤ c) (hcm : c ≤ maxLen) (hf : K.fault l ≠ 0) :
    Calls Tryd.prog 39 #[.slice A l.length c] w fun e w' => e = .returned (.tuple #[.slice none 0 0, .int .i64 (K.fault l)]) ∧ Below w.heap.size w w' := by
  have HF := fault_any A l c B w hx hB hg hlc hcm
  have hcm' := hcm
  unfold maxLen at hcm'
  obtain ⟨y, hy⟩ : ∃ y, y = K.fault l := ⟨_, rfl⟩
  rw [← hy] at hf HF ⊢
  have t1 : (y == 0) = false := by simpa using hf
  have t2 : (y != 0) = true := by simpa using hf
  have HFH := Lib.hid HF
  clear HF hy hx hg hf
  go_enter Tryd.func39, Tryd.ntmps39
  go_wp2_with fail
  refine HFH.out.mono ?_
  rintro e w' ⟨rfl, hl⟩
  have L := Lib.hid hl
  clear hl
  go_wp2_with fail
  go_ret2
  exact ⟨rfl, L.out⟩

set_option maxRecDepth 100000 in
set_option maxHeartbeats 1600000 in
theorem encode_ok (A : Option Addr) (l : List K.It) (c B : Nat) (w : World) (hx : RdT w B A l) (hB : B ≤ w.heap.size) (hg : ∀ x ∈ l, Good x) (hlc : l.length ≤ c) (hcm : c ≤ maxLen) (hf : K.fault l = 0) :
    Calls Tryd.prog 39 #[.slice A l.length c] w fun e w' => ∃ v, e = .returned (.tuple #[v, .int .i64 0]) ∧ OwnL w' w.heap.size v (K.encs l) ∧ Below w.heap.size w w' := by
  have HF := fault_any A l c B w hx hB hg hlc hcm
  have hok := K.fault_ok hf
  rw [hf] at HF
  have HFH := Lib.hid HF
  have hll := hok.1
  have HR := Lib.hid hok.2
  clear HF hf hok
  obtain ⟨n, hn⟩ : ∃ n, n = l.length := ⟨_, rfl⟩
  rw [← hn] at hlc hll HFH ⊢
  have HN := Lib.hid hn
  have HX := Lib.hid hx
  have HG := Lib.hid hg
  have HB := Lib.hid hB
  unfold maxLen at hcm
  clear hn hx hg hB
  go_enter Tryd.func39, Tryd.ntmps39
  go_wp2_with fail
  refine HFH.out.mono ?_
  rintro e w1 ⟨rfl, hl1⟩
  have L0 := Lib.hid hl1
  clear hl1
  go_wp2_with fail
  go_loopw [5, 15] (fun b x wr => ∃ (k : Nat), x = .int .i64 k ∧ k ≤ n ∧ Hid (OwnL wr w.heap.size b (K.encs (l.take k))) ∧ Hid (Below w.heap.size w wr)) (fun _ x _ => n - (intOf x).toNat)
  case atStart => exact ⟨0, rfl, by omega, Lib.hid (OwnL.nil _ _), L0⟩
  case round =>
    obtain ⟨k, rfl, hk, O1, L1⟩ := hrel
    clear L0
    by_cases hlt : k < n
    · obtain ⟨x, hxk⟩ : ∃ x, l[k]? = some x := ⟨_, List.getElem?_eq_getElem (by rw [← HN.out]; exact hlt)⟩
      have hmem := List.mem_of_getElem? hxk
      have HXK := Lib.hid (encs_snoc l k x hxk)
      have hgx := HG.out x hmem
      have hrx := (HR.out x hmem).cases
      obtain ⟨b, o, hA, hb, c0, c1, c2⟩ := (HX.out.below L1.out HB.out) k x hxk
      subst hA
      have ld := load_item c0 c1 c2
      have hz := hgx.2
      have hft := Lib.hid hgx.1
      have hel : (K.encs (l.take k)).length ≤ 16044000 := by
        have := K.encs_length_le (l := l.take k) (fun y hy => HR.out y (List.mem_of_mem_take hy)) (fun y hy => (HG.out y (List.mem_of_mem_take hy)).1)
        have h2 : (l.take k).length ≤ 2000 := by rw [List.length_take]; omega
        omega
      clear hxk c0 c1 c2 hgx hmem
      obtain ⟨xk, xn, xs⟩ := x
      unfold itA at ld
      dsimp only at hrx hz ld
      have i2 : (k : Int) < (n : Int) := by omega
      have LD := Lib.hid ld
      clear ld
      have hs := L1.out.size
      obtain ⟨E, hE⟩ : ∃ E, E = K.encs (l.take k) := ⟨_, rfl⟩
      rw [← hE] at O1 HXK hel
      have HEE := Lib.hid hE
      clear hE
      rcases hrx with ⟨h1, h2⟩ | ⟨h1, h2, h3⟩
      · subst h1; subst h2
        have X1 : Hid (Blk ((wr.alloc (.cells #[.int .i64 1, .int .i64 xn, .string ⟨#[]⟩] 81)).alloc (.cells #[.int .u8 ((1 : Nat) : Int)] 5)) wr.heap.size 81 #[.int .i64 1, .int .i64 xn, .string ⟨#[]⟩]) := Lib.hid ((Blk.new wr _ _).alloc _)
        have L2 : Hid (Below w.heap.size w ((wr.alloc (.cells #[.int .i64 1, .int .i64 xn, .string ⟨#[]⟩] 81)).alloc (.cells #[.int .u8 ((1 : Nat) : Int)] 5))) := Lib.hid ((L1.out.alloc hs _).alloc (by simp; omega) _)
        have R2 := Lib.hid (rdb_two wr (.cells #[.int .i64 1, .int .i64 xn, .string ⟨#[]⟩] 81) 1 (by omega))
        have O2 : Hid (Own8 ((wr.alloc (.cells #[.int .i64 1, .int .i64 xn, .string ⟨#[]⟩] 81)).alloc (.cells #[.int .u8 ((1 : Nat) : Int)] 5)) w.heap.size u5 E.length (lst E)) := Lib.hid (O1.out.keep fun g hg => (Below.heap_alloc _ _ g (by have := (O1.out.lt hg).1; simp; omega)).trans (Below.heap_alloc _ _ g (O1.out.lt hg).1))
        rw [show ((1 : Nat) : Int) = 1 from rfl] at X1 L2 R2 O2
        have hs2 : w.heap.size ≤ ((wr.alloc (.cells #[.int .i64 1, .int .i64 xn, .string ⟨#[]⟩] 81)).alloc (.cells #[.int .u8 1] 5)).heap.size := by simp; omega
        go_wp2_with (refine wpList_loadX rfl 81 (.tmp 17) rfl _ _ rfl LD.out ?_; refine of_hid ?_)
        refine Lib.hid ?_
        go_wp2_with ((with_reducible refine wpList_append_rd rfl (.tmp 19) (.tmp 23) rfl rfl rfl O2.out R2.out (fun e => by cases e) (Nat.le_refl _) (by omega) hs2 ?_); intro v2 w2 ho2 hg2 he2; refine of_hid ?_)
        refine Lib.hid ?_
        have X2 := Lib.hid (own_two (m := 0) (v2 := v2) (Y := fun _ => 0) (g := 0) O1.out hg2 X1.out)
        have L3 := Lib.hid (own_row L2.out O2.out hg2 hs2)
        have O3 := Lib.hid (OwnL.app (M := [1]) ho2)
        have hs3 := L3.out.size
        have HB3 : Hid (∀ g, v2.ownBlock = some g → g ≠ wr.heap.size) := Lib.hid fun g hg => by
          rcases he2 with e | e
          · have := (O1.out.lt (e.symm.trans hg)).1; omega
          · rw [e] at hg; injection hg with hg; simp at hg; omega
        have c0 := X2.out.cell 0
        have c1 := X2.out.cell 1
        have c2 := X2.out.cell 2
        simp at c0 c1 c2
        have hE1 : (E ++ [1]).length ≤ 16044001 := by simp; omega
        clear ho2 hg2 he2 O2 L2 R2 X1 O1 L1 LD
        go_wp2_with fail
        refine (fold_any xn _ hft.out.1 hft.out.2).mono ?_
        rintro e w' ⟨rfl, rfl⟩
        go_wp2_with fail
        refine (addCount_any _ _ _ w.heap.size _ O3.out hs3 (K.fold_lt hft.out.1 hft.out.2) (by omega)).mono ?_
        rintro e w4 ⟨v4, rfl, ho4, hg4⟩
        have L4 := Lib.hid (L3.out.trans (hg4.below O3.out hs3))
        have O4 := Lib.hid ho4
        clear ho4 hg4 c0 c1 c2
        go_wp2_with fail
        go_roundw
        case rel => exact ⟨k + 1, by go_num, by omega, by rw [HXK.out]; rw [List.append_assoc] at O4; exact O4, L4⟩
        case measure => simp [intOf]; omega
      · subst h1; subst h2
        have X1 : Hid (Blk ((wr.alloc (.cells #[.int .i64 2, .int .i64 0, .string xs] 81)).alloc (.cells #[.int .u8 ((2 : Nat) : Int)] 5)) wr.heap.size 81 #[.int .i64 2, .int .i64 0, .string xs]) := Lib.hid ((Blk.new wr _ _).alloc _)
        have L2 : Hid (Below w.heap.size w ((wr.alloc (.cells #[.int .i64 2, .int .i64 0, .string xs] 81)).alloc (.cells #[.int .u8 ((2 : Nat) : Int)] 5))) := Lib.hid ((L1.out.alloc hs _).alloc (by simp; omega) _)
        have R2 := Lib.hid (rdb_two wr (.cells #[.int .i64 2, .int .i64 0, .string xs] 81) 2 (by omega))
        have O2 : Hid (Own8 ((wr.alloc (.cells #[.int .i64 2, .int .i64 0, .string xs] 81)).alloc (.cells #[.int .u8 ((2 : Nat) : Int)] 5)) w.heap.size u5 E.length (lst E)) := Lib.hid (O1.out.keep fun g hg => (Below.heap_alloc _ _ g (by have := (O1.out.lt hg).1; simp; omega)).trans (Below.heap_alloc _ _ g (O1.out.lt hg).1))
        rw [show ((2 : Nat) : Int) = 2 from rfl] at X1 L2 R2 O2
        have hs2 : w.heap.size ≤ ((wr.alloc (.cells #[.int .i64 2, .int .i64 0, .string xs] 81)).alloc (.cells #[.int .u8 2] 5)).heap.size := by simp; omega
        go_wp2_with (refine wpList_loadX rfl 81 (.tmp 17) rfl _ _ rfl LD.out ?_; refine of_hid ?_)
        refine Lib.hid ?_
        go_wp2_with ((with_reducible refine wpList_append_rd rfl (.tmp 19) (.tmp 23) rfl rfl rfl O2.out R2.out (fun e => by cases e) (Nat.le_refl _) (by omega) hs2 ?_); intro v2 w2 ho2 hg2 he2; refine of_hid ?_)
        refine Lib.hid ?_
        have X2 := Lib.hid (own_two (m := 0) (v2 := v2) (Y := fun _ => 0) (g := 0) O1.out hg2 X1.out)
        have L3 := Lib.hid (own_row L2.out O2.out hg2 hs2)
        have O3 := Lib.hid (OwnL.app (M := [2]) ho2)
        have hs3 := L3.out.size
        have HB3 : Hid (∀ g, v2.ownBlock = some g → g ≠ wr.heap.size) := Lib.hid fun g hg => by
          rcases he2 with e | e
          · have := (O1.out.lt (e.symm.trans hg)).1; omega
          · rw [e] at hg; injection hg with hg; simp at hg; omega
        have c0 := X2.out.cell 0
        have c1 := X2.out.cell 1
        have c2 := X2.out.cell 2
        simp at c0 c1 c2
        have hE1 : (E ++ [2]).length ≤ 16044001 := by simp; omega
        clear ho2 hg2 he2 O2 L2 R2 X1 O1 L1 LD
        have hz2 : (xs.size : Int) ≤ 4000 := by omega
        go_wp2_with fail
        refine (addCount_any _ _ xs.size w.heap.size _ O3.out hs3 (by omega) (by omega)).mono ?_
        rintro e w4 ⟨v4, rfl, ho4, hg4⟩
        have L4 := Lib.hid (L3.out.trans (hg4.below O3.out hs3))
        have O4 := Lib.hid ho4
        have X4 := X2.out.grown hg4.1 (fun e => HB3.out _ e.symm rfl)
        have c2 := X4.cell 2
        simp at c2
        have hs4 := L4.out.size
        have hE4 : (E ++ [2] ++ K.cnt xs.size).length ≤ 16044011 := by rw [List.length_append]; have := K.cnt_length_le xs.size (by omega); omega
        clear ho4 hg4 c0 c1 X4
        go_wp2_with (refine wpList_append_str rfl (.tmp 39) (.tmp 41) rfl rfl rfl O4.out (by omega) hs4 ?_; intro v5 w5 ho5 hg5; refine of_hid ?_)
        refine Lib.hid ?_
        have L5 := Lib.hid (own_row L4.out O4.out hg5 hs4)
        have O5 := Lib.hid ho5
        clear ho5 hg5 c2
        go_wp2_with fail
        go_roundw
        case rel => exact ⟨k + 1, by go_num, by omega, by rw [HXK.out]; rw [List.append_assoc, List.append_assoc] at O5; exact O5, L5⟩
        case measure => simp [intOf]; omega
    · have i2 : (n : Int) ≤ (k : Int) := by omega
      have E2 : l.take k = l := List.take_of_length_le (by rw [← HN.out]; omega)
      rw [E2] at O1
      clear E2
      go_wp2_with fail
      go_ret2
      exact ⟨_, rfl, O1.out, L1.out⟩
end Go.Proofs.YtikenhcglbfgpaaDoor
