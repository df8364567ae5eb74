/-
  '(*intent.Log).collect' by a contract. Conditions: the rack is one, its power is on, the log lies on it and holds nothing yet, the sums' table is laid.
-/
import Derived.Test.YtikenhcglbfgpaaDoorItnApp
namespace Go.Proofs.YtikenhcglbfgpaaDoor
open Go Go.RowKit refRack
set_option maxRecDepth 100000
set_option linter.unusedVariables false
namespace Itn
section
variable {B l : Nat} {a w w' : World} {r : Nat} {s : RS} {row : Option Nat}
theorem rack_objs (h : RackAt B w r s) (hz : w.heap.size ≤ w'.heap.size) (hk : ∀ (g : Nat) (o : Obj), w.heap[g]? = some o → rackObj o = true → w'.heap[g]? = some o) : RackAt B w' r s := by
  obtain ⟨h0, m1, m2, v, h⟩ := h
  refine ⟨h0, m1, m2, v, h.move (fun i hi hor => ?_) hz⟩
  rcases hor with e | e | e | e
  · subst e
    rw [show w.heap[i]? = _ from h.blk]
    exact hk _ _ h.blk rfl
  · subst e
    obtain ⟨n, F, _, h1, _⟩ := h.last
    obtain ⟨es, c, hm⟩ := h1.isMap
    rw [hm]
    exact hk _ _ hm rfl
  · subst e
    obtain ⟨es, c, hm⟩ := h.newest.isMap
    rw [hm]
    exact hk _ _ hm rfl
  · obtain ⟨_, cs, hb⟩ := own_blk h.row e
    rw [show w.heap[i]? = _ from hb]
    exact hk _ _ hb rfl
theorem rack_row (h : RackAt B w r s) (hg : w.grownBy w' row) (hr : ∀ g, row = some g → ∃ o, w.heap[g]? = some o ∧ rackObj o = false) : RackAt B w' r s :=
  rack_objs h hg.size fun g o h1 h2 => (hg.block g (Array.getElem?_eq_some_iff.1 h1).1 (fun e => by
    obtain ⟨o', e1, e2⟩ := hr g e.symm
    rw [h1] at e1
    injection e1 with e1
    rw [← e1, h2] at e2
    cases e2)).trans h1
theorem KL.grow (h : KL l B a w) (hg : w.grownBy w' row) (hr : ∀ g, row = some g → a.heap.size ≤ g) (hB : B ≤ a.heap.size) : KL l B a w' :=
  ⟨h.below.trans ⟨hg.os, hg.tape, hg.output, hg.size, fun k hk => hg.block k (by have := h.below.size; omega) (fun e => by have := hr k e.symm; omega)⟩, fun k o h1 h2 h3 => by
    have h4 := h.kept k o h1 h2 h3
    refine (hg.block k (Array.getElem?_eq_some_iff.1 h4).1 (fun e => ?_)).trans h4
    have h5 := hr k e.symm
    have := (Array.getElem?_eq_some_iff.1 h1).1
    omega⟩
theorem KL.keep (h : KL l B a w) (k : Keep B w w') : KL l B a w' := h.trans (KL.of_keep k)
end
section
variable {B base n : Nat} {w w' : World} {v v' : Value} {row : Option Nat}
theorem own8_obj {X : Nat → Nat} (h : Own8 w base v n X) {g : Nat} (hg : v.ownBlock = some g) : ∃ cur fr, w.heap[g]? = some (.cells cur 5 fr) := by
  rcases h with ⟨rfl, _⟩ | ⟨g', cap, cur, fr, rfl, _, hb, _⟩
  · cases hg
  · injection hg with hg
    subst hg
    exact ⟨cur, fr, hb⟩
theorem own8_row {X : Nat → Nat} (h : Own8 w base v n X) : ∀ g, v.ownBlock = some g → ∃ o, w.heap[g]? = some o ∧ rackObj o = false := fun g hg => by
  obtain ⟨cur, fr, e⟩ := own8_obj h hg
  exact ⟨_, e, rfl⟩
theorem own8_keep {X : Nat → Nat} (h : Own8 w base v n X) (k : Keep B w w') : Own8 w' base v n X := h.keep fun g hg => by
  obtain ⟨cur, fr, e⟩ := own8_obj h hg
  rw [e]
  exact k.kept g _ e rfl
theorem ownS_row {l : List ByteArray} (h : OwnS w base v l) : ∀ g, v.ownBlock = some g → ∃ o, w.heap[g]? = some o ∧ rackObj o = false := fun g hg => by
  obtain ⟨cur, e⟩ := Gr.OwnG.blk_of h hg
  exact ⟨_, e, rfl⟩
theorem ownS_keep {l : List ByteArray} (h : OwnS w base v l) (k : Keep B w w') : OwnS w' base v l := Gr.OwnG.keep h fun g hg => by
  obtain ⟨cur, e⟩ := Gr.OwnG.blk_of h hg
  rw [show w.heap[g]? = _ from e]
  exact k.kept g _ e rfl
theorem own_apart {X : Nat → Nat} {l : List ByteArray} {w : World} (h : Own8 w base v n X) (h' : OwnS w base v' l) {g : Nat} (hg : v'.ownBlock = some g) : some g ≠ v.ownBlock := fun e => by
  obtain ⟨cur, fr, e1⟩ := own8_obj h e.symm
  obtain ⟨cur', e2⟩ := Gr.OwnG.blk_of h' hg
  rw [show w.heap[g]? = _ from e2] at e1
  injection e1 with e1
  injection e1 with _ e3
  exact absurd e3 (by decide)
theorem rowg_grown (h : RowG v v' w w') (hb : Below base w w') : w.grownBy w' v.ownBlock := ⟨hb.os, hb.tape, hb.output, h.1, fun k hk hne => h.2.1 k hk (fun e => hne e.symm)⟩
end
theorem sb_app (x y : ByteArray) : K.sb (x ++ y) = K.sb x ++ K.sb y := by
  unfold K.sb
  rw [ByteArray.data_append, Array.toList_append, List.map_append]
theorem colF_none {s : RS} {first : Nat} {b : Int} {f k : Nat} {x : ByteArray} {out : List ByteArray} {used : Nat} (h : lookP s (first + k) b (k : Int) = none) : colF s first b (f + 1) k x out used = (out, used) := by
  unfold colF; rw [h]
theorem colF_last {s : RS} {first : Nat} {b : Int} {f k : Nat} {x y : ByteArray} {out : List ByteArray} {used : Nat} (h : lookP s (first + k) b (k : Int) = some ⟨true, y⟩) : colF s first b (f + 1) k x out used = colF s first b f (k + 1) ⟨#[]⟩ (out ++ [x ++ y]) (k + 1) := by
  conv => lhs; unfold colF
  rw [h]; rfl
theorem colF_more {s : RS} {first : Nat} {b : Int} {f k : Nat} {x y : ByteArray} {out : List ByteArray} {used : Nat} (h : lookP s (first + k) b (k : Int) = some ⟨false, y⟩) : colF s first b (f + 1) k x out used = colF s first b f (k + 1) (x ++ y) out used := by
  conv => lhs; unfold colF
  rw [h]; rfl
set_option maxHeartbeats 12800000 in
theorem collect_at {B : Nat} (w : World) (r l : Nat) (s : RS) (first count base : Nat) (h : RackAt B w r s) (hx : Blk w l 53 (logA r first count base 0)) (hl : Laid w) (hB : 0 < B) (hBl : B ≤ l) (ho : s.off = false) (hq : first + count ≤ s.ns) (hct : count ≤ 500) (hbs : base ≤ 1000000) (hfk : first + count ≤ 1000000) :
    Calls Tryd.prog 21 #[.pointer (some ⟨l, 0, none⟩)] w fun e w' => (∃ v, e = .returned (.tuple #[v, .int .i64 0]) ∧ OwnS w' w.heap.size v (colF s first (base : Int) count 0 ⟨#[]⟩ [] 0).1) ∧ RackAt B w' r s ∧ Blk w' l 53 (logA r first count base (colF s first (base : Int) count 0 ⟨#[]⟩ [] 0).2) ∧ KL l B w w' := by
  have hle := h.le
  have hlw := hx.lt
  have HLD := Lib.hid hl
  have HO := Lib.hid ho
  have HQ := Lib.hid hq
  have HFK := Lib.hid hfk
  have HBS := Lib.hid hbs
  have HBL := Lib.hid hBl
  have HLE : Hid (B ≤ w.heap.size ∧ l < w.heap.size) := Lib.hid ⟨hle, hlw⟩
  obtain ⟨fin, hfin⟩ : ∃ fin, fin = colF s first (base : Int) count 0 ⟨#[]⟩ [] 0 := ⟨_, rfl⟩
  rw [← hfin]
  have HF0 : Hid (colF s first (base : Int) (count - 0) 0 ⟨#[]⟩ [] 0 = fin) := Lib.hid hfin.symm
  have R0 := Lib.hid h
  have K0 : Hid (KL l B w w) := Lib.hid (KL.of_keep (Keep.refl B w))
  have X0 := Lib.hid hx
  have S0 : Hid (OwnS w w.heap.size (.slice none 0 0) []) := Lib.hid (Gr.OwnG.nil _ _)
  have L0 : Hid (OwnL w w.heap.size (.slice none 0 0) (K.sb ⟨#[]⟩)) := Lib.hid (OwnL.nil _ _)
  have c2 : w.cell? ⟨l, 2, none⟩ = some (.int .i64 (count : Int)) := hx.cell 2
  clear h hx hl ho hq hfk hbs hBl hfin hle hlw
  go_enter Tryd.func21, Tryd.ntmps21
  go_wp2_with fail
  clear c2
  go_loopw [13, 4, 5] (fun y y4 y5 wr => ∃ (k : Nat) (x : ByteArray) (out : List ByteArray) (used : Nat), k ≤ count ∧ y = .int .i64 (k : Int) ∧ out.length ≤ k ∧ x.size ≤ 56 * k ∧ Hid (colF s first (base : Int) (count - k) k x out used = fin) ∧ Hid (RackAt B wr r s) ∧ Hid (KL l B w wr) ∧ Hid (Blk wr l 53 (logA r first count base used)) ∧ Hid (OwnS wr w.heap.size y4 out) ∧ Hid (OwnL wr w.heap.size y5 (K.sb x))) (fun y _ _ _ => count - (intOf y).toNat)
  case atStart => exact ⟨0, ⟨#[]⟩, [], 0, by omega, rfl, Nat.le_refl _, Nat.le_refl _, HF0, R0, K0, X0, S0, L0⟩
  case round =>
    clear HF0 R0 K0 X0 S0 L0
    obtain ⟨k, x, out, used, hk, rfl, hol, hxs, HF, R, KK, X, SV, LV⟩ := hrel
    by_cases hlt : k < count
    · have i1 : (k : Int) < (count : Int) := by omega
      have HLK := Lib.hid (look_at wr r l s first count base used k R.out X.out (HLD.out.below KK.out.below hB) hB HO.out (by have := HQ.out; omega) HBS.out (by have := HFK.out; omega))
      have hf1 : count - k = (count - (k + 1)) + 1 := by omega
      go_wp2_with fail
      refine HLK.out.mono ?_
      rintro e W2 ⟨hle2, h2, k2⟩
      have R2 := Lib.hid h2
      have K2 : Hid (KL l B w W2) := Lib.hid (KK.out.keep k2)
      have X2 := Lib.hid (k2.block X.out rfl)
      have S2 := Lib.hid (ownS_keep SV.out k2)
      have L2 : Hid (OwnL W2 w.heap.size u5 (K.sb x)) := Lib.hid (own8_keep LV.out k2)
      clear h2 k2 R KK X SV LV HLK
      cases hlk : lookP s (first + k) (base : Int) (k : Int) with
      | none =>
        rw [hlk] at hle2
        obtain rfl : e = .returned (.tuple #[.agg #[.bool false, .string ⟨#[]⟩], .int .i64 7]) := hle2
        have hfn := HF.out
        rw [hf1, colF_none hlk] at hfn
        have HFN := Lib.hid hfn
        have HB3 : Hid (Below W2.heap.size W2 (W2.alloc (.cells #[.bool false, .string ⟨#[]⟩] 59))) := Lib.hid ((Below.refl _ _).alloc (Nat.le_refl _) _)
        clear hlk hfn HF
        go_wp2_with fail
        go_ret2
        rw [← HFN.out]
        exact ⟨⟨_, rfl, Gr.OwnG.below S2.out HB3.out (Nat.le_refl _)⟩, R2.out.alloc _, X2.out.alloc _, K2.out.keep ((Keep.refl B W2).alloc R2.out.le _)⟩
      | some p =>
        rw [hlk] at hle2
        obtain rfl : e = .returned (.tuple #[.agg #[.bool p.l, .string p.s], .int .i64 0]) := hle2
        have hpl := lookF_len _ _ hlk
        obtain ⟨pl, ps⟩ := p
        dsimp only at hpl
        have hfn := HF.out
        rw [hf1] at hfn
        obtain ⟨W3, hW3⟩ : ∃ W3, W3 = W2.alloc (.cells #[.bool pl, .string ps] 59) := ⟨_, rfl⟩
        obtain ⟨g7, hg7⟩ : ∃ g7, g7 = W2.heap.size := ⟨_, rfl⟩
        have hb3 : Below W2.heap.size W2 W3 := by rw [hW3]; exact (Below.refl _ _).alloc (Nat.le_refl _) _
        have R3 : Hid (RackAt B W3 r s) := Lib.hid (R2.out.below hb3)
        have K3 : Hid (KL l B w W3) := Lib.hid (K2.out.keep ((Keep.refl B W2).new hb3 R2.out.le))
        have X3 := Lib.hid (X2.out.new_ hb3)
        have S3 := Lib.hid (Gr.OwnG.below S2.out hb3 (Nat.le_refl _))
        have L3 : Hid (OwnL W3 w.heap.size u5 (K.sb x)) := Lib.hid (L2.out.below hb3 (Nat.le_refl _))
        have P3 : Hid (Blk W3 g7 59 #[.bool pl, .string ps]) := Lib.hid (by rw [hW3, hg7]; exact Blk.new _ _ _)
        have HX := Lib.hid (⟨hW3, hg7⟩ : _ ∧ _)
        have HPL := Lib.hid hpl
        have HZ : Hid ((K.sb x).length + ps.size ≤ 70368744177664 ∧ w.heap.size ≤ W3.heap.size) := Lib.hid ⟨by rw [K.sb_length]; omega, K3.out.below.size⟩
        clear hW3 hg7 hb3 R2 K2 X2 S2 L2 hpl HF
        go_upto_region 7 with (fail)
        rw [← HX.out.1, ← HX.out.2]
        clear HX
        have q1 : W3.cell? ⟨g7, 1, none⟩ = some (.string ps) := P3.out.cell 1
        go_wp2_with (at_builtin; refine wpList_append_str rfl (.tmp 27) (.tmp 29) rfl (base := w.heap.size) (v := u5) (L := K.sb x) (t := ps) rfl rfl L3.out HZ.out.1 HZ.out.2 ?_; intro v6 W4 o6 g6; refine of_hid ?_)
        refine Lib.hid ?_
        have o6' : OwnL W4 w.heap.size v6 (K.sb (x ++ ps)) := by rw [sb_app]; exact o6
        have L4 := Lib.hid o6'
        have R4 := Lib.hid (rack_row R3.out g6 (own8_row L3.out))
        have K4 := Lib.hid (K3.out.grow g6 (fun g hg => (Own8.lt L3.out hg).2) HLE.out.1)
        have X4 := Lib.hid (X3.out.grown g6 (fun e => by have := (Own8.lt L3.out e.symm).2; have := HLE.out.2; omega))
        have S4 := Lib.hid (Gr.OwnG.grown S3.out g6 (fun g hg => own_apart L3.out S3.out hg))
        have P4 := Lib.hid (P3.out.grown g6 (fun e => by
          obtain ⟨cur, fr, e1⟩ := own8_obj L3.out e.symm
          rw [show W3.heap[g7]? = _ from P3.out] at e1
          injection e1 with e1
          injection e1 with _ e3
          exact absurd e3 (by decide)))
        have q0 : W4.cell? ⟨g7, 0, none⟩ = some (.bool pl) := P4.out.cell 0
        clear q1 o6 o6' g6 L3 R3 K3 X3 S3 P3 HZ
        cases pl with
        | false =>
          rw [colF_more hlk] at hfn
          have HFN := Lib.hid hfn
          clear hlk hfn
          go_wp2_with fail
          go_roundw
          case rel => exact ⟨k + 1, x ++ ps, out, used, by omega, by go_num, by omega, by rw [ByteArray.size_append]; have := HPL.out; omega, HFN, R4, K4, X4, S4, L4⟩
          case measure => simp [intOf]; omega
        | true =>
          rw [colF_last hlk] at hfn
          have HFN := Lib.hid hfn
          obtain ⟨M, hM⟩ : ∃ M, M = K.sb (x ++ ps) := ⟨_, rfl⟩
          have HM := Lib.hid hM
          rw [← hM] at L4
          obtain ⟨A6, c6, hv6, hr6, _⟩ := OwnL.shape L4.out (by rw [hM]; exact K.sb_lt _)
          subst hv6
          have cv := fun (c : Nat) => conv_lst (c := c) hr6
          have ht : K.txt M = x ++ ps := by rw [hM, K.txt_sb]
          rw [ht] at cv
          have HZ : Hid (out.length ≤ 1000000 ∧ w.heap.size ≤ W4.heap.size) := Lib.hid ⟨by omega, K4.out.below.size⟩
          clear hlk hfn hM ht hr6
          go_wp2_with (at_builtin; refine wpList_app_g rfl 22 (.tmp 33) (.tmp 36) rfl rfl rfl (fun ty => appS S4.out (x ++ ps) HZ.out.1 HZ.out.2 ty) ?_; intro v7 W7 h7; refine of_hid ?_)
          refine Lib.hid ?_
          have hg7 := rowg_grown h7.2.2 h7.2.1
          have R7 := Lib.hid (rack_row R4.out hg7 (ownS_row S4.out))
          have K7 := Lib.hid (K4.out.grow hg7 (fun g hg => (Gr.OwnG.lt S4.out hg).2) HLE.out.1)
          have X7 := Lib.hid (X4.out.grown hg7 (fun e => by have := (Gr.OwnG.lt S4.out e.symm).2; have := HLE.out.2; omega))
          have S7 := Lib.hid h7.1
          have c4 : W7.cell? ⟨l, 4, none⟩ = some (.int .i64 (used : Int)) := X7.out.cell 4
          have f4 : W7.frozen? ⟨l, 4, none⟩ = false := X7.out.frozen 4
          clear h7 hg7 q0 cv
          go_wp2_with fail
          go_roundw
          case rel => exact ⟨k + 1, ⟨#[]⟩, out ++ [x ++ ps], k + 1, by omega, by go_num, by rw [List.length_append]; show out.length + 1 ≤ _; omega, by show 0 ≤ _; omega, HFN, Lib.hid (R7.out.far X7.out rfl rfl), Lib.hid (K7.out.setLog HBL.out 4 _), Lib.hid (X7.out.set_ 4 (.int .i64 ((k + 1 : Nat) : Int))), Lib.hid (Gr.OwnG.keep S7.out fun g hg => Below.heap_setCell W7 ⟨l, 4, none⟩ _ g (fun e => by have := (Gr.OwnG.lt S7.out hg).2; have := HLE.out.2; dsimp only at e; omega)), Lib.hid (OwnL.nil _ _)⟩
          case measure => simp [intOf]; omega
    · have i1 : ¬ ((k : Int) < (count : Int)) := by omega
      obtain rfl : count = k := by omega
      have hfn := HF.out
      rw [Nat.sub_self] at hfn
      have HFN : Hid ((out, used) = fin) := Lib.hid hfn
      clear hfn HF
      go_wp2_with fail
      go_ret2
      rw [← HFN.out]
      exact ⟨⟨_, rfl, SV.out⟩, R.out, X.out, KK.out⟩
end Itn
end Go.Proofs.YtikenhcglbfgpaaDoor
