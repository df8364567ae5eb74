/-
  Labels' records as lists: what a record's sector is, and which bytes are a record's. No conditions beyond those that each theorem types.
-/
import Derived.Test.YthioanenljpclaaGreatDoorPackPtrM
import Derived.Test.YthioanenljpclaaGreatDoorPackSecM
import Derived.Test.YthioanenljpclaaGreatDoorPackDocUnsM
import Derived.Test.YthioanenljpclaaGreatDoorPackDocSecM
namespace Go.Proofs.YthioanenljpclaaGreatDoor
set_option maxRecDepth 100000
open Go Go.RowKit
set_option linter.unusedVariables false
namespace Lab
/-- a record: its transaction, its root -/
structure U where
  t : Int
  p : K.Pt
def zeroU : U := ⟨0, K.zeroP⟩
def uA (u : U) : Array Value := #[.int .i64 u.t, .int .i64 u.p.a, .int .i64 u.p.z, .int .i64 u.p.b, .string u.p.s]
def FitU (u : U) : Prop := (-9223372036854775808 ≤ u.t ∧ u.t ≤ 9223372036854775807) ∧ K.FitP u.p
def itsU (u : U) : List K.It := [⟨1, 77, ⟨#[]⟩⟩, ⟨1, u.t, ⟨#[]⟩⟩, ⟨2, 0, K.ptrS u.p⟩]
def okU (u : U) : Bool := decide (1 ≤ u.t) && K.okP u.p
def Ok (u : U) : Prop := okU u = true ∧ FitU u
def encL (u : U) : List Nat := secB (K.encs (itsU u))
def encE (u : U) : Int := if okU u = true then 0 else 2
def outB (u : U) : List Nat := if okU u = true then encL u else []
theorem ok_t {u : U} (h : Ok u) : 1 ≤ u.t := by
  have h1 := h.1
  unfold okU at h1
  rw [Bool.and_eq_true] at h1
  exact of_decide_eq_true h1.1
theorem ok_p {u : U} (h : Ok u) : K.okP u.p = true := by
  have h1 := h.1
  unfold okU at h1
  rw [Bool.and_eq_true] at h1
  exact h1.2
theorem int_len (n : Int) (h1 : -9223372036854775808 ≤ n) (h2 : n ≤ 9223372036854775807) : (K.encI ⟨1, n, ⟨#[]⟩⟩).length ≤ 11 := by
  show (1 :: K.cnt (K.fold n)).length ≤ 11
  have := K.cnt_length_le (K.fold n) (K.fold_lt h1 h2)
  rw [List.length_cons]
  omega
theorem txt_len (s : ByteArray) (h : s.size < 128) : (K.encI ⟨2, 0, s⟩).length = 2 + s.size := by
  show (2 :: (K.cnt s.size ++ K.sb s)).length = _
  rw [K.cnt_small h, List.length_cons, List.length_append, K.sb_length]
  simp
  omega
theorem ptrS_eq {p : K.Pt} (h : K.okP p = true) : K.ptrS p = K.txt (K.encs (K.itsP p)) := by unfold K.ptrS; rw [if_pos h]
theorem ptrS_size {p : K.Pt} (h : K.okP p = true) (hf : K.FitP p) : (K.ptrS p).size ≤ 67 := by
  rw [ptrS_eq h, K.txt_size]
  have ho := of_decide_eq_true h
  have e1 := int_len p.a hf.1.1 hf.1.2
  have e2 := int_len p.z hf.2.1.1 hf.2.1.2
  have e3 := int_len p.b hf.2.2.1.1 hf.2.2.1.2
  have e4 := txt_len p.s (by omega)
  show (K.encI ⟨1, p.a, ⟨#[]⟩⟩ ++ (K.encI ⟨1, p.z, ⟨#[]⟩⟩ ++ (K.encI ⟨1, p.b, ⟨#[]⟩⟩ ++ (K.encI ⟨2, 0, p.s⟩ ++ [])))).length ≤ 67
  rw [List.length_append, List.length_append, List.length_append, List.length_append]
  simp only [List.length_nil]
  omega
theorem ptrS_pos {p : K.Pt} (h : K.okP p = true) : 0 < (K.ptrS p).size := by
  rw [ptrS_eq h, K.txt_size]
  show 0 < (K.encI ⟨1, p.a, ⟨#[]⟩⟩ ++ (K.encI ⟨1, p.z, ⟨#[]⟩⟩ ++ (K.encI ⟨1, p.b, ⟨#[]⟩⟩ ++ (K.encI ⟨2, 0, p.s⟩ ++ [])))).length
  rw [List.length_append]
  show 0 < (1 :: K.cnt (K.fold p.a)).length + _
  rw [List.length_cons]
  omega
theorem its_right {u : U} (h : K.okP u.p = true) (hf : K.FitP u.p) : ∀ x ∈ itsU u, K.Right x := fun x hx => by
  unfold itsU at hx
  simp only [List.mem_cons, List.not_mem_nil, or_false] at hx
  rcases hx with rfl | rfl | rfl
  · exact ⟨by unfold K.formed; simp, by unfold K.big; simp⟩
  · exact ⟨by unfold K.formed; simp, by unfold K.big; simp⟩
  · have := ptrS_size h hf
    refine ⟨by unfold K.formed; simp, ?_⟩
    show decide ((2 : Int) = 2 ∧ 4000 < (K.ptrS u.p).size) = false
    simp
    omega
theorem its_fits {u : U} (hf : FitU u) : ∀ x ∈ itsU u, K.Fits x := fun x hx => by
  unfold itsU at hx
  simp only [List.mem_cons, List.not_mem_nil, or_false] at hx
  rcases hx with rfl | rfl | rfl
  · exact ⟨by show (-9223372036854775808 : Int) ≤ 77; omega, by show (77 : Int) ≤ 9223372036854775807; omega⟩
  · exact hf.1
  · exact ⟨by show (-9223372036854775808 : Int) ≤ 0; omega, by show (0 : Int) ≤ 9223372036854775807; omega⟩
theorem its_fault {u : U} (h : K.okP u.p = true) (hf : K.FitP u.p) : K.fault (itsU u) = 0 := K.fault_right (by simp [itsU]) (its_right h hf)
theorem its_len {u : U} (h : K.okP u.p = true) (hf : FitU u) : (K.encs (itsU u)).length ≤ 95 := by
  have h1 := ptrS_size h hf.2
  have e2 := int_len u.t hf.1.1 hf.1.2
  have e4 := txt_len (K.ptrS u.p) (by omega)
  have e1 : (K.encI ⟨1, 77, ⟨#[]⟩⟩).length ≤ 3 := by
    show (1 :: K.cnt (K.fold 77)).length ≤ 3
    rw [show K.fold 77 = 154 by decide, K.cnt_big (by omega)]
    rw [show 154 / 128 = 1 by decide, K.cnt_small (by omega)]
    exact Nat.le_refl _
  show (K.encI ⟨1, 77, ⟨#[]⟩⟩ ++ (K.encI ⟨1, u.t, ⟨#[]⟩⟩ ++ (K.encI ⟨2, 0, K.ptrS u.p⟩ ++ []))).length ≤ 95
  rw [List.length_append, List.length_append, List.length_append]
  simp only [List.length_nil]
  omega
theorem secE_its {u : U} (h : K.okP u.p = true) (hf : FitU u) : secE (itsU u) = 0 := secE_ok (its_fault h hf.2) (its_len h hf)
theorem secL_its {u : U} (h : K.okP u.p = true) (hf : FitU u) : secL (itsU u) = encL u := by unfold secL; rw [if_pos (secE_its h hf)]; rfl
theorem encL_length {u : U} (h : K.okP u.p = true) (hf : FitU u) : (encL u).length = 128 := secB_length (its_len h hf)
theorem encL_lt {u : U} (h : K.okP u.p = true) (hf : FitU u) : ∀ b ∈ encL u, b < 256 := secB_lt (its_len h hf) (K.encs_lt _)
/-- these bytes are that record's -/
def Is (L : List Nat) (u : U) : Prop := Ok u ∧ L = encL u
theorem Is.back {L : List Nat} {u : U} (h : Is L u) : unsL L = itsU u ∧ unsE L = 0 := by
  have h1 := secL_back (secE_its (ok_p h.1) h.1.2) (its_fits h.1.2)
  rw [secL_its (ok_p h.1) h.1.2] at h1
  rw [h.2]
  exact h1
theorem unP_ptrS {p : K.Pt} (h : K.okP p = true) (hf : K.FitP p) : K.unP (K.sb (K.ptrS p)) = some p := by
  have hb := K.sb_txt (K.encs_lt (K.itsP p))
  rw [ptrS_eq h, hb]
  unfold K.unP
  have hr := (K.fault_ok (K.itsP_right h)).2
  rw [K.decs_enc 2000 (K.itsP p) (by show 4 ≤ 2000; omega) hr (fun x hx => (itsP_good hf x hx).1)]
  obtain ⟨a, z, b, s⟩ := p
  show K.ofIts [⟨1, a, ⟨#[]⟩⟩, ⟨1, z, ⟨#[]⟩⟩, ⟨1, b, ⟨#[]⟩⟩, ⟨2, 0, s⟩] = _
  exact if_pos ⟨rfl, rfl, h⟩
theorem unP_back {L : List Nat} {p : K.Pt} (hL : ∀ b ∈ L, b < 256) (h : K.unP L = some p) : K.okP p = true ∧ L = K.encs (K.itsP p) := by
  unfold K.unP at h
  cases hd : K.decs 2000 L with
  | none => rw [hd] at h; cases h
  | some l =>
    rw [hd] at h
    obtain ⟨h1, _, h3, _⟩ := K.decs_back 2000 L l hL hd
    replace h : K.ofIts l = some p := h
    match l, h with
    | [x0, x1, x2, x3], h =>
      replace h : (if x0.k = 1 ∧ x2.k = 1 ∧ K.okP ⟨x0.n, x1.n, x2.n, x3.s⟩ = true then some (⟨x0.n, x1.n, x2.n, x3.s⟩ : K.Pt) else none) = some p := h
      by_cases hc : x0.k = 1 ∧ x2.k = 1 ∧ K.okP ⟨x0.n, x1.n, x2.n, x3.s⟩ = true
      · rw [if_pos hc] at h
        injection h with h
        subst h
        refine ⟨hc.2.2, ?_⟩
        rw [(K.its_eq (h3 x0 (by simp)) (h3 x1 (by simp)) (h3 x2 (by simp)) (h3 x3 (by simp)) hc.2.2).2 ⟨hc.1, hc.2.1⟩]
        exact h1
      · rw [if_neg hc] at h; cases h
theorem uns_zero {L : List Nat} (hL : ∀ b ∈ L, b < 256) (h : unsE L = 0) : L = secB (K.encs (unsL L)) ∧ ∀ x ∈ unsL L, K.Right x := by
  cases hu : unsB L with
  | none => have := (uns_none hu).2; omega
  | some N =>
    obtain ⟨e1, e2⟩ := uns_some hu
    obtain ⟨h1, h2⟩ := unsB_back hu
    have hN : ∀ b ∈ N, b < 256 := fun b hb => hL b (by rw [h2]; unfold secB; simp [hb])
    rw [e2] at h
    unfold outE at h
    cases hd : K.decs 2000 N with
    | none => rw [hd] at h; simp at h
    | some l =>
      have e3 : unsL L = l := by rw [e1]; unfold outL; rw [hd]; rfl
      obtain ⟨g1, _, g3, _⟩ := K.decs_back 2000 N l hN hd
      rw [e3, ← g1]
      exact ⟨h2, g3⟩
theorem is_of {L : List Nat} (hL : ∀ b ∈ L, b < 256) (hE : unsE L = 0) {x0 x1 x2 : K.It} (hl : unsL L = [x0, x1, x2]) {p : K.Pt} (hp : K.unP (K.sb x2.s) = some p) (hf : K.FitP p) (h0 : x0 = ⟨1, 77, ⟨#[]⟩⟩) (h1 : 1 ≤ x1.n)
    (hx : x1.n ≤ 9223372036854775807) : Is L ⟨x1.n, p⟩ := by
  obtain ⟨e1, e2⟩ := uns_zero hL hE
  obtain ⟨ho, hb⟩ := unP_back (K.sb_lt x2.s) hp
  have es : x2.s = K.ptrS p := by
    rw [ptrS_eq ho, ← hb, K.txt_sb]
  have r1 := (e2 x1 (by rw [hl]; simp)).cases
  have r2 := (e2 x2 (by rw [hl]; simp)).cases
  have q1 : x1 = ⟨1, x1.n, ⟨#[]⟩⟩ := by
    rcases r1 with c | c
    · obtain ⟨k, n, s⟩ := x1
      dsimp only at c ⊢
      rw [c.1, c.2]
    · omega
  have q2 : x2 = ⟨2, 0, K.ptrS p⟩ := by
    rcases r2 with c | c
    · have hp := ptrS_pos ho
      rw [← es, c.2] at hp
      exact absurd hp (by decide)
    · obtain ⟨k, n, s⟩ := x2
      dsimp only at c es ⊢
      rw [c.1, c.2.1, es]
  refine ⟨⟨?_, ⟨by show -9223372036854775808 ≤ x1.n; omega, hx⟩, hf⟩, ?_⟩
  · unfold okU
    rw [Bool.and_eq_true]
    exact ⟨decide_eq_true h1, ho⟩
  · rw [e1, hl, h0, q2]
    show secB (K.encs [_, x1, _]) = secB (K.encs [_, ⟨1, x1.n, ⟨#[]⟩⟩, _])
    rw [← q1]
theorem encL_inj {u v : U} (hu : Ok u) (hv : Ok v) (h : encL u = encL v) : u = v := by
  have h1 := Is.back (L := encL u) ⟨hu, rfl⟩
  have h2 := Is.back (L := encL u) (u := v) ⟨hv, h⟩
  have e := h1.1.symm.trans h2.1
  unfold itsU at e
  injection e with _ e
  injection e with e1 e
  injection e with e2 _
  injection e1 with _ e1 _
  injection e2 with _ _ e2
  have e3 := unP_ptrS (ok_p hu) hu.2.2
  rw [e2, unP_ptrS (ok_p hv) hv.2.2] at e3
  obtain ⟨t, p⟩ := u
  obtain ⟨t', p'⟩ := v
  dsimp only at e1 e3
  injection e3 with e3
  rw [e1, e3]
theorem Is.one {L : List Nat} {u v : U} (hu : Is L u) (hv : Is L v) : u = v := encL_inj hu.1 hv.1 (hu.2.symm.trans hv.2)
end Lab
end Go.Proofs.YthioanenljpclaaGreatDoor
namespace Go.Proofs.YthioanenljpclaaGreatDoor
open Go Go.RowKit
set_option maxRecDepth 100000
set_option linter.unusedVariables false
namespace Lab
theorem its_good {u : U} (h : K.okP u.p = true) (hf : FitU u) : ∀ x ∈ itsU u, Good x := fun x hx => by
  refine ⟨its_fits hf x hx, ?_⟩
  have hp := ptrS_size h hf.2
  unfold itsU at hx
  simp only [List.mem_cons, List.not_mem_nil, or_false] at hx
  rcases hx with rfl | rfl | rfl
  · show 0 ≤ _
    exact Nat.zero_le _
  · show 0 ≤ _
    exact Nat.zero_le _
  · show (K.ptrS u.p).size ≤ _
    unfold maxLen
    omega
theorem its_cells (t : Int) (p : K.Pt) : (icells (itsU ⟨t, p⟩)).toArray = #[.int .i64 1, .int .i64 77, .string ⟨#[]⟩, .int .i64 1, .int .i64 t, .string ⟨#[]⟩, .int .i64 2, .int .i64 0, .string (K.ptrS p)] := rfl
set_option maxHeartbeats 1600000 in
theorem encode_lab (u : U) (w : World) (hf : FitU u) (hl : Laid w) :
    Calls Tryz.prog 33 #[.agg (uA u)] w fun e w' => (∃ v, e = .returned (.tuple #[v, .int .i64 (encE u)]) ∧ SecV w' w.heap.size v (outB u)) ∧ Below w.heap.size w w' := by
  have HLD := Lib.hid hl
  have hpos := hl.pos
  have HF := Lib.hid hf
  have HP := Lib.hid fun W => ptr_any u.p W hf.2
  have L1 : Hid (Below w.heap.size w (w.alloc (.cells (uA u) 41))) := Lib.hid ((Below.refl _ _).alloc (Nat.le_refl _) _)
  have X1 : Hid (Blk (w.alloc (.cells (uA u) 41)) w.heap.size 41 (uA u)) := Lib.hid (Blk.new _ _ _)
  clear hl hf
  by_cases hp : K.okP u.p = true
  · have HG := Lib.hid (its_good hp HF.out)
    have HS := Lib.hid (secE_its hp HF.out)
    have HSL := Lib.hid (secL_its hp HF.out)
    have HE : Hid (encE u = if 1 ≤ u.t then 0 else 2) := Lib.hid (by unfold encE okU; rw [hp]; simp)
    have HO : Hid (outB u = if 1 ≤ u.t then encL u else []) := Lib.hid (by unfold outB okU; rw [hp]; simp)
    have HPE : Hid (K.ptrE u.p = 0) := Lib.hid (by unfold K.ptrE; rw [if_pos hp])
    have RN := Lib.hid fun (W : World) => rdi_new W (itsU u)
    rw [HPE.out] at HP
    obtain ⟨t, ⟨a, z, b, s⟩⟩ := u
    simp only [its_cells] at RN
    unfold ptA at HP
    unfold uA at L1 X1 ⊢
    dsimp only at HP L1 X1 HE HO ⊢
    obtain ⟨PS, hPS⟩ : ∃ PS, PS = K.ptrS ⟨a, z, b, s⟩ := ⟨_, rfl⟩
    rw [← hPS] at HP RN
    have d0 := X1.out.cell 0
    have d1 := X1.out.cell 1
    have d2 := X1.out.cell 2
    have d3 := X1.out.cell 3
    have d4 := X1.out.cell 4
    simp only [List.getElem?_toArray, List.getElem?_cons_zero, List.getElem?_cons_succ] at d0 d1 d2 d3 d4
    clear hp HPE HF hPS
    by_cases ht : 1 ≤ t
    · have t1 : decide (t < 1) = false := by simp; omega
      rw [HE.out, HO.out, if_pos ht, if_pos ht]
      clear HE HO ht
      go_enter Tryz.func33, Tryz.ntmps33
      go_wp2_with fail
      refine (HP.out _).mono ?_
      rintro e w2 ⟨rfl, hl2⟩
      have L2 := Lib.hid (L1.out.trans (hl2.mono (by simp)))
      have X2 := Lib.hid (X1.out.below hl2 (by simp))
      have s2 := L2.out.size
      clear d0 d1 d2 d3 d4
      have d0 := X2.out.cell 0
      simp only [List.getElem?_toArray, List.getElem?_cons_zero, List.getElem?_cons_succ] at d0
      have R3 := Lib.hid (RN.out w2)
      have L3 : Hid (Below w.heap.size w (w2.alloc (.cells #[.int .i64 1, .int .i64 77, .string ⟨#[]⟩, .int .i64 1, .int .i64 t, .string ⟨#[]⟩, .int .i64 2, .int .i64 0, .string PS] 104))) := Lib.hid (L2.out.alloc s2 _)
      clear hl2 X1 L1 RN
      go_wp2_with fail
      refine (sector_blk (some ⟨w2.heap.size, 0, none⟩) (itsU ⟨t, ⟨a, z, b, s⟩⟩) 3 (w2.heap.size + 1) _ R3.out (by simp) HG.out (Nat.le_refl _) (by unfold maxLen; omega) (HLD.out.below L3.out hpos)).mono ?_
      rintro e w4 ⟨⟨v4, rfl, ho4⟩, hl4⟩
      have L4 := Lib.hid (L3.out.trans (hl4.mono L3.out.size))
      rw [HSL.out] at ho4
      have O4 : Hid (SecV w4 w.heap.size v4 (encL ⟨t, ⟨a, z, b, s⟩⟩)) := Lib.hid (by
        rcases ho4 with h | ⟨h1, g, h2, h3, h4⟩
        · exact .inl h
        · exact .inr ⟨h1, g, h2, by simp at h3; omega, h4⟩)
      rw [HS.out]
      clear ho4 hl4 d0 L3 R3
      go_wp2_with fail
      go_ret2
      exact ⟨⟨_, rfl, O4.out⟩, L4.out⟩
    · have t1 : decide (t < 1) = true := by simp; omega
      rw [HE.out, HO.out, if_neg ht, if_neg ht]
      clear HE HO ht
      go_enter Tryz.func33, Tryz.ntmps33
      go_wp2_with fail
      refine (HP.out _).mono ?_
      rintro e w2 ⟨rfl, hl2⟩
      have L2 := Lib.hid (L1.out.trans (hl2.mono (by simp)))
      have X2 := Lib.hid (X1.out.below hl2 (by simp))
      clear d0 d1 d2 d3 d4
      have d0 := X2.out.cell 0
      simp only [List.getElem?_toArray, List.getElem?_cons_zero, List.getElem?_cons_succ] at d0
      clear hl2 X1 L1 RN
      go_wp2_with fail
      go_ret2
      exact ⟨⟨_, rfl, .inl ⟨rfl, rfl⟩⟩, L2.out⟩
  · have hp' : K.okP u.p = false := by simpa using hp
    have HE : Hid (encE u = 2) := Lib.hid (by unfold encE okU; rw [hp']; simp)
    have HO : Hid (outB u = []) := Lib.hid (by unfold outB okU; rw [hp']; simp)
    have HPE : Hid (K.ptrE u.p = 2) := Lib.hid (by unfold K.ptrE; rw [if_neg hp])
    rw [HPE.out] at HP
    rw [HE.out, HO.out]
    obtain ⟨t, ⟨a, z, b, s⟩⟩ := u
    unfold ptA at HP
    unfold uA at L1 X1 ⊢
    dsimp only at HP L1 X1 ⊢
    obtain ⟨PS, hPS⟩ : ∃ PS, PS = K.ptrS ⟨a, z, b, s⟩ := ⟨_, rfl⟩
    rw [← hPS] at HP
    have d0 := X1.out.cell 0
    have d1 := X1.out.cell 1
    have d2 := X1.out.cell 2
    have d3 := X1.out.cell 3
    have d4 := X1.out.cell 4
    simp only [List.getElem?_toArray, List.getElem?_cons_zero, List.getElem?_cons_succ] at d0 d1 d2 d3 d4
    clear hp hp' HPE HF hPS HE HO
    by_cases ht : t < 1
    · have t1 : decide (t < 1) = true := by simpa using ht
      go_enter Tryz.func33, Tryz.ntmps33
      go_wp2_with fail
      refine (HP.out _).mono ?_
      rintro e w2 ⟨rfl, hl2⟩
      have L2 := Lib.hid (L1.out.trans (hl2.mono (by simp)))
      have X2 := Lib.hid (X1.out.below hl2 (by simp))
      clear d0 d1 d2 d3 d4
      have d0 := X2.out.cell 0
      simp only [List.getElem?_toArray, List.getElem?_cons_zero, List.getElem?_cons_succ] at d0
      clear hl2 X1 L1
      go_wp2_with fail
      go_ret2
      exact ⟨⟨_, rfl, .inl ⟨rfl, rfl⟩⟩, L2.out⟩
    · have t1 : decide (t < 1) = false := by simpa using ht
      go_enter Tryz.func33, Tryz.ntmps33
      go_wp2_with fail
      refine (HP.out _).mono ?_
      rintro e w2 ⟨rfl, hl2⟩
      have L2 := Lib.hid (L1.out.trans (hl2.mono (by simp)))
      have X2 := Lib.hid (X1.out.below hl2 (by simp))
      clear d0 d1 d2 d3 d4
      have d0 := X2.out.cell 0
      simp only [List.getElem?_toArray, List.getElem?_cons_zero, List.getElem?_cons_succ] at d0
      clear hl2 X1 L1
      go_wp2_with fail
      go_ret2
      exact ⟨⟨_, rfl, .inl ⟨rfl, rfl⟩⟩, L2.out⟩
end Lab
end Go.Proofs.YthioanenljpclaaGreatDoor
