/-
  'pack.Sector' by a contract: items, sealed, in a sector. Conditions: what is handed in reads as items.
-/
import Derived.Test.YtikenhcglbfgpaaDoorShaLaidM
namespace Go.Proofs.YtikenhcglbfgpaaDoor
open Go Go.RowKit
set_option maxRecDepth 100000
set_option linter.unusedVariables false

theorem slice_one (g : Nat) (W : World) : (Instr.sliceAt 38 (.slice (some ⟨g, 0, none⟩) 128 128) (some (.int .i64 1)) none none).run Tryd.prog W = .ok (.slice (some ⟨g, 1, none⟩) 127 127) W := by
  have h := slice_from (some ⟨g, 0, none⟩) 128 128 1 1 rfl (by omega) W
  rw [h]
  unfold subA
  rw [if_neg (by omega)]
  simp [add_plain]
theorem run_copy_sec (ty : TypeId) {w : World} {g m N off b o c dl dc : Nat} {F X : Nat → Nat} (hg : Blk w g 5 (rowArr N F)) (hx : ∀ j, j < m → w.cell? ⟨b, o + j, none⟩ = some (.int .u8 ((X j : Nat) : Int))) (hm : off + m ≤ N) (hd : m ≤ dl) :
    (Builtin.copy_ #[38, 38] ty #[.slice (some ⟨g, off, none⟩) dl dc, .slice (some ⟨b, o, none⟩) m c]).run Tryd.prog w = .ok (goInt m) (w.setRow g (rowArr N (put8 F X off m))) := by
  have hcp := run_copy_row (P := Tryd.prog) w 38 38 ty 5 g off dl dc ⟨b, o, none⟩ m c (rowArr N F) 5 (bytesL m X) Tryd.underlying38 size_u8 hg (by rw [bytesL_length]; exact (Nat.min_eq_left hd).symm)
    (fun j u hj => by
      have hjn : j < m := by have := (List.getElem?_eq_some_iff.1 hj).1; rw [bytesL_length] at this; exact this
      rw [bytesL_get X hjn] at hj
      injection hj with hj
      subst hj
      rw [add_plain]
      exact hx j hjn) (by rw [bytesL_length, rowArr_size]; exact hm) (fun u hu => bytesL_mem u hu)
  rw [bytesL_length] at hcp
  rw [hcp]
  congr 2
  apply Array.ext_getElem?
  intro j
  rw [List.getElem?_toArray]
  have hsz := rowArr_size N F
  by_cases h1 : j < off
  · rw [List.append_assoc, List.getElem?_append_left (by rw [List.length_take, Array.length_toList, hsz]; omega), List.getElem?_take_of_lt h1, Array.getElem?_toList, rowArr_get (by omega), rowArr_get (by omega)]
    unfold put8
    rw [if_neg (by omega)]
  · by_cases h2 : j < off + m
    · rw [List.append_assoc, List.getElem?_append_right (by rw [List.length_take, Array.length_toList, hsz]; omega), List.length_take, Array.length_toList, hsz, Nat.min_eq_left (by omega), List.getElem?_append_left (by rw [bytesL_length]; omega), bytesL_get X (by omega), rowArr_get (by omega)]
      unfold put8
      rw [if_pos ⟨by omega, h2⟩]
    · rw [List.getElem?_append_right (by rw [List.length_append, List.length_take, Array.length_toList, hsz, bytesL_length]; omega), List.length_append, List.length_take, Array.length_toList, hsz, bytesL_length, Nat.min_eq_left (by omega), List.getElem?_drop, Array.getElem?_toList, show off + m + (j - (off + m)) = j by omega]
      by_cases h3 : j < N
      · rw [rowArr_get h3, rowArr_get h3]
        unfold put8
        rw [if_neg (by omega)]
      · rw [Array.getElem?_eq_none (by rw [hsz]; omega), Array.getElem?_eq_none (by rw [rowArr_size]; omega)]
theorem wp_copy_ho {w w' : World} {o : Oper} {a : Act} {K : Act → World → Prop} {Q : Exit → Act → World → Prop} {d s : Operand} {u v r : Value} (ho : o.op = .call { callee := .builtin .copy, args := #[d, s], argTypes := #[38, 38] }) (hd : a.eval d = u) (hs : a.eval s = v)
    (hrun : (Builtin.copy_ #[38, 38] o.type #[u, v]).run Tryd.prog w = .ok r w') (h : K (a.put o.dst r) w') : o.wp Tryd.prog a w K Q := by
  unfold Oper.wp execOp
  simp only [ho, resolve, invoke, builtin, Sem.run_bind, Sem.run_pure, Result.andThen_ok, List.map_toArray, List.map_cons, List.map_nil, hd, hs, hrun]
  exact h
theorem RdB.drew_ {w : World} {B n : Nat} {A : Option Addr} {x : Nat → Nat} (h : RdB w B A n x) : RdB w.drew B A n x := h
theorem setRow_blk {w : World} {g : Nat} {t : TypeId} {cs cs' : Array Value} (h : Blk w g t cs) : Blk (w.setRow g cs') g t cs' := setRow_heap w g cs cs' t (0, 0) h
theorem setRow_below {B : Nat} {a w : World} (h : Below B a w) {g : Nat} (hg : B ≤ g) (cs : Array Value) : Below B a (w.setRow g cs) :=
  ⟨h.os, h.tape, h.output, by simpa [World.setRow] using h.size, fun k hk => (setRow_other w g k cs (by omega)).trans (h.block k hk)⟩
theorem lst_sec (L : List Nat) (h : L.length ≤ 95) (j : Nat) (hj : j < 128) : put8 (fun j => if j = 0 then L.length + 32 else 0) (cat L.length (lst L) (M.sum L.length (lst L))) 1 (L.length + 32) j = lst (secB L) j := by
  unfold secB
  rw [List.cons_append]
  unfold put8
  rcases j with _ | j
  · rw [if_neg (by omega)]; rfl
  · rw [show lst ((L.length + 32) :: (L ++ sumL L ++ List.replicate (95 - L.length) 0)) (j + 1) = lst (L ++ sumL L ++ List.replicate (95 - L.length) 0) j from rfl, lst_app]
    have hl : (L ++ sumL L).length = L.length + 32 := by simp [sumL_length]
    rw [hl]
    by_cases h1 : j < L.length + 32
    · rw [if_pos ⟨by omega, by omega⟩, if_pos h1, show j + 1 - 1 = j by omega, cat_sum L j h1]
    · rw [if_neg (by omega), if_neg h1]
      show (if j + 1 = 0 then _ else 0) = _
      rw [if_neg (by omega)]
      unfold lst
      rw [List.getD_eq_getElem?_getD, List.getElem?_replicate]
      split <;> rfl

/-- a sector that a call has made: none, or a block of its own that is known whole -/
def SecV (w : World) (base : Nat) (v : Value) (L : List Nat) : Prop :=
  (L = [] ∧ v = .slice none 0 0) ∨ (L.length = 128 ∧ ∃ g, v = .slice (some ⟨g, 0, none⟩) 128 128 ∧ base ≤ g ∧ Blk w g 5 (rowArr 128 (lst L)))
theorem SecV.own {w : World} {base : Nat} {v : Value} {L : List Nat} (h : SecV w base v L) : OwnL w base v L := by
  rcases h with ⟨rfl, rfl⟩ | ⟨h1, g, rfl, h2, h3⟩
  · exact Own8.nil _ _ _
  · show Own8 _ _ _ L.length (lst L)
    rw [h1]
    exact Own8.of_blk h3 h2 (Nat.le_refl 128) (by unfold maxLen; omega)
set_option maxHeartbeats 3200000 in
theorem sector_blk (A : Option Addr) (l : List K.It) (c B : Nat) (w : World) (hx : RdT w B A l) (hB : B ≤ w.heap.size) (hg : ∀ x ∈ l, Good x) (hlc : l.length ≤ c) (hcm : c ≤ maxLen) (hl : Laid w) :
    Calls Tryd.prog 35 #[.slice A l.length c] w fun e w' => (∃ v, e = .returned (.tuple #[v, .int .i64 (secE l)]) ∧ SecV w' w.heap.size v (secL l)) ∧ Below w.heap.size w w' := by
  have HL := Lib.hid hl
  have hpos := hl.pos
  have HX := Lib.hid hx
  have HG := Lib.hid hg
  have HBB := Lib.hid hB
  have HCM := Lib.hid hcm
  have hcm' := hcm
  unfold maxLen at hcm'
  clear hl hx hg hB hcm
  by_cases hf : K.fault l = 0
  · obtain ⟨E, hE⟩ : ∃ E, E = K.encs l := ⟨_, rfl⟩
    have hlen := (K.encs_length_le (l := l) (K.fault_ok hf).2 (fun x hx => (HG.out x hx).1))
    have hl2 := (K.fault_ok hf).1
    rw [← hE] at hlen
    have HEL : Hid (∀ b ∈ E, b < 256) := Lib.hid (by rw [hE]; exact K.encs_lt l)
    have hSE : secE l = if 95 < E.length then 14 else 0 := by unfold secE; rw [if_neg (fun q => q hf), hE]
    have hSL : secL l = if 95 < E.length then [] else secB E := by
      unfold secL
      rw [hSE]
      by_cases h : 95 < E.length
      · rw [if_pos h, if_pos h, if_neg (by omega)]
      · rw [if_neg h, if_neg h, if_pos rfl, hE]
    rw [hSE, hSL]
    have hE8 : E.length ≤ 8022000 := by omega
    have HE := Lib.hid hE
    have HF := Lib.hid hf
    clear hSE hSL hlen hl2 hE hf
    by_cases hb : 95 < E.length
    · have t1 : (128 : Int) < 1 + ((E.length : Int) + 32) := by omega
      rw [if_pos hb, if_pos hb]
      clear hb
      go_enter Tryd.func35, Tryd.ntmps35
      go_wp2_with fail
      refine (encode_ok A l c B w HX.out HBB.out HG.out hlc HCM.out HF.out).mono ?_
      rintro e w1 ⟨v1, rfl, ho1, hl1⟩
      rw [← HE.out] at ho1
      obtain ⟨A5, c5, rfl, hr5, lc5, cm5, _, h05⟩ := ho1.shape HEL.out
      have L1 := Lib.hid hl1
      have R1 := Lib.hid hr5
      have C5 := Lib.hid cm5
      clear ho1 hl1 hr5 cm5
      go_wp2_with fail
      go_ret2
      exact ⟨⟨_, rfl, .inl ⟨rfl, rfl⟩⟩, L1.out⟩
    rw [if_neg hb, if_neg hb]
    go_enter Tryd.func35, Tryd.ntmps35
    go_wp2_with fail
    refine (encode_ok A l c B w HX.out HBB.out HG.out hlc HCM.out HF.out).mono ?_
    rintro e w1 ⟨v1, rfl, ho1, hl1⟩
    rw [← HE.out] at ho1
    obtain ⟨A5, c5, rfl, hr5, lc5, cm5, _, h05⟩ := ho1.shape HEL.out
    have L1 := Lib.hid hl1
    have R1 := Lib.hid hr5
    have C5 := Lib.hid cm5
    clear ho1 hl1 hr5 cm5
    have t1 : 1 + ((E.length : Int) + 32) ≤ 128 := by omega
    have hb' : E.length ≤ 95 := by omega
    have hmk := make_long 128 (by omega) w1 128 rfl
    have xw : IntKind.u8.wrap ((E.length : Int) + 32) = (E.length : Int) + 32 := by rw [IntKind.wrap_u8]; omega
    have hs1 := L1.out.size
    have B2 := Lib.hid (Blk.new w1 5 ((rowArr 128 fun _ => 0).setIfInBounds 0 (.int .u8 ((E.length : Int) + 32))))
    have c0 : (w1.alloc (.cells (rowArr 128 fun _ => 0) 5)).cell? ⟨w1.heap.size, 0, none⟩ = some (.int .u8 0) := by rw [(Blk.new w1 5 (rowArr 128 fun _ => 0)).cell]; rfl
    have L2 := Lib.hid ((Below.refl w1.heap.size w1).alloc (Nat.le_refl _) (.cells ((rowArr 128 fun _ => 0).setIfInBounds 0 (.int .u8 ((E.length : Int) + 32))) 5))
    clear hb
    go_wp2_with fail
    clear c0 hmk xw
    generalize hgs : w1.heap.size = gs at *
    have R4' := Lib.hid (R1.out.below L2.out (Nat.le_refl gs))
    have L3 := Lib.hid (L1.out.trans (L2.out.mono hs1))
    clear L1 L2 R1
    have B4 : Hid (Blk (w1.alloc (.cells ((rowArr 128 fun _ => 0).setIfInBounds 0 (.int .u8 ((E.length : Int) + 32))) 5)) gs 5 (rowArr 128 fun j => if j = 0 then E.length + 32 else 0)) := Lib.hid (by
      have h := B2.out
      rw [show ((E.length : Int) + 32) = ((E.length + 32 : Nat) : Int) by omega, rowArr_set (by omega)] at h
      rw [show ((E.length : Int) + 32) = ((E.length + 32 : Nat) : Int) by omega]
      rw [rowArr_set (by omega)]
      exact h)
    clear B2
    generalize w1.alloc (.cells ((rowArr 128 fun _ => 0).setIfInBounds 0 (.int .u8 ((E.length : Int) + 32))) 5) = w4 at *
    have R4 := R4'
    have L4 : Hid (Below w.heap.size w w4.drew) := Lib.hid L3.out.drew
    have s4 : gs ≤ w4.drew.heap.size := Nat.le_of_lt B4.out.lt
    have QK9 : Hid (E.length ≤ 1099511627776) := Lib.hid (by omega)
    have HT : Hid True := Lib.hid trivial
    clear hgs R4' L3
    refine region_anyZ (fun _ : World => True) 5 (by kernel_rfl) ?_
    refine takeG 0 (.move (.tmp 7)) (some 27) none (.slice (some ⟨gs, 0, none⟩) 128 128) (by kernel_rfl) (by kernel_rfl) (by kernel_rfl) (fun _ _ _ h => h) (fun o w e hS => exec_move w e (by kernel_rfl)) HT.out ?_
    refine takeG 1 (.slice 38 (.tmp 27) (.some (.const (.int .i64 1))) .none .none) (some 28) none (.slice (some ⟨gs, 1, none⟩) 127 127) (by kernel_rfl) (by kernel_rfl) (by kernel_rfl) (fun _ _ _ h => h) (fun o w e hS => exec_slice (u := .slice (some ⟨gs, 0, none⟩) 128 128) w e (by kernel_rfl) (by kernel_rfl) (by kernel_rfl) (by kernel_rfl) (slice_one gs _)) HT.out ?_
    refine takeG 2 (.move (.tmp 4)) (some 29) none (.slice A5 E.length c5) (by kernel_rfl) (by kernel_rfl) (by kernel_rfl) (fun _ _ _ h => h) (fun o w e hS => exec_move w e (by kernel_rfl)) HT.out ?_
    refine loneG 3 (.call ⟨.value (.func 40), #[(.tmp 29)], #[38]⟩) (some 30) none (by kernel_rfl) (by kernel_rfl) (by kernel_rfl) ?_
    intro o ho hod
    refine wp_callC (f := 40) (args := #[.slice A5 E.length c5]) (by cases o; cases ho; kernel_rfl) (seal_any A5 E.length c5 gs (lst E) _ R4.out.drew_ (lst_lt HEL.out) s4 lc5 C5.out h05 QK9.out (HL.out.below L4.out hpos)) ?_
    rintro e w6 ⟨v6, rfl, ho6, hl6⟩
    obtain ⟨g6, c6, rfl, hg6, hr6, hc6, hc6m⟩ := ho6.row (by omega)
    refine ⟨.slice (some ⟨g6, 0, none⟩) (E.length + 32) c6, rfl, ?_⟩
    rw [hod]
    clear hod ho
    have L6 := Lib.hid (L4.out.trans (hl6.mono L4.out.size))
    have B6 : Hid (Blk w6 gs 5 (rowArr 128 fun j => if j = 0 then E.length + 32 else 0)) := Lib.hid ((show Blk w4.drew gs 5 _ from B4.out).below hl6 B4.out.lt)
    have R6 := Lib.hid hr6
    clear ho6 hl6 hr6
    refine ⟨fun _ => trivial, ?_⟩
    refine loneG 4 (.call ⟨.builtin .copy, #[(.tmp 28), (.tmp 30)], #[38, 38]⟩) (some 31) none (by kernel_rfl) (by kernel_rfl) (by kernel_rfl) ?_
    intro o ho hod
    refine wp_copy_ho (u := .slice (some ⟨gs, 1, none⟩) 127 127) (v := .slice (some ⟨g6, 0, none⟩) (E.length + 32) c6) (r := goInt (E.length + 32)) ho (by kernel_rfl) (by kernel_rfl) (run_copy_sec _ (m := E.length + 32) (N := 128) (off := 1) (o := 0) B6.out (fun j hj => by rw [Nat.zero_add]; exact R6.out.cell hj) (by omega) (by omega)) ?_
    rw [hod]
    clear hod ho
    refine ⟨fun _ => trivial, ?_⟩
    refine AnyZ.done (by kernel_rfl) ?_
    simp only [put_some, put_none, List.setIfInBounds_toArray, List.set_cons_succ, List.set_cons_zero]
    have LZ := Lib.hid (setRow_below L6.out (g := gs) hs1 (rowArr 128 (put8 (fun j => if j = 0 then E.length + 32 else 0) (cat E.length (lst E) (M.sum E.length (lst E))) 1 (E.length + 32))))
    have BZ : Hid (Blk (w6.setRow gs (rowArr 128 (put8 (fun j => if j = 0 then E.length + 32 else 0) (cat E.length (lst E) (M.sum E.length (lst E))) 1 (E.length + 32)))) gs 5 (rowArr 128 (put8 (fun j => if j = 0 then E.length + 32 else 0) (cat E.length (lst E) (M.sum E.length (lst E))) 1 (E.length + 32)))) := Lib.hid (setRow_blk B6.out)
    clear B6 L6 R6
    generalize w6.setRow gs (rowArr 128 (put8 (fun j => if j = 0 then E.length + 32 else 0) (cat E.length (lst E) (M.sum E.length (lst E))) 1 (E.length + 32))) = w7 at *
    go_wp2_with fail
    go_ret2
    refine ⟨⟨_, rfl, .inr ⟨secB_length hb', _, rfl, hs1, ?_⟩⟩, LZ.out⟩
    rw [← rowArr_congr (lst_sec E hb')]
    exact BZ.out
  · have hSE : secE l = K.fault l := by unfold secE; rw [if_pos hf]
    have hSL : secL l = [] := by unfold secL; rw [hSE, if_neg hf]
    obtain ⟨fe, hfe⟩ : ∃ fe, fe = K.fault l := ⟨_, rfl⟩
    have HF := Lib.hid hf
    have HFE := Lib.hid hfe
    rw [← hfe] at hSE hf
    have hne : (fe != 0) = true := by simpa using hf
    rw [hSE, hSL]
    clear hSE hSL hf hfe
    go_enter Tryd.func35, Tryd.ntmps35
    go_wp2_with fail
    refine (encode_bad A l c B w HX.out HBB.out HG.out hlc HCM.out HF.out).mono ?_
    rintro e w1 ⟨rfl, hl1⟩
    have L1 := Lib.hid hl1
    rw [← HFE.out]
    clear hl1
    go_wp2_with fail
    go_ret2
    exact ⟨⟨_, rfl, .inl ⟨rfl, rfl⟩⟩, L1.out⟩
theorem sector_any (A : Option Addr) (l : List K.It) (c B : Nat) (w : World) (hx : RdT w B A l) (hB : B ≤ w.heap.size) (hg : ∀ x ∈ l, Good x) (hlc : l.length ≤ c) (hcm : c ≤ maxLen) (hl : Laid w) :
    Calls Tryd.prog 35 #[.slice A l.length c] w fun e w' => (∃ v, e = .returned (.tuple #[v, .int .i64 (secE l)]) ∧ OwnL w' w.heap.size v (secL l)) ∧ Below w.heap.size w w' :=
  (sector_blk A l c B w hx hB hg hlc hcm hl).mono fun e w' ⟨⟨v, h1, h2⟩, h3⟩ => ⟨⟨v, h1, h2.own⟩, h3⟩
end Go.Proofs.YtikenhcglbfgpaaDoor
