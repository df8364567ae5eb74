/-
  'hoardref05.DocUnsector' by a contract: what the document tells of a sector's bytes. Conditions: bytes are bytes; a thousand at most.
-/
import Derived.Test.YtikenhcglbfgpaaDoorPackUnsM
import Derived.Test.YtikenhcglbfgpaaDoorShaLaidM
namespace Go.Proofs.YtikenhcglbfgpaaDoor
open Go Go.RowKit
set_option maxRecDepth 100000
set_option linter.unusedVariables false
theorem slice_strMid (s : ByteArray) (n0 : Nat) (h : 1 + n0 ≤ s.size) (W : World) : (Instr.slice 9 (.string s) (some (.int .i64 1)) (some (.int .i64 (1 + (n0 : Int)))) none).run Tryd.prog W = .ok (.string (K.txt (((K.sb s).take (1 + n0)).drop 1))) W := by
  have e := sb_extract s 1 (1 + n0) (by omega) h
  have e1 : (1 + (n0 : Int)).toNat = 1 + n0 := by omega
  have hu := Tryd.underlying9
  rw [← e]
  simp [Instr.slice, run_underlying hu, Instr.sliceBounds, run_sliceBound, go_sem, e1]
  rw [if_pos ⟨by omega, by omega⟩, if_pos (by omega)]
theorem uns_or {L : List Nat} (h128 : L.length = 128) (hn : lst L 0 ≤ 127) : unsB L = none ∨ unsB L = some ((bodyL L).take (lst L 0 - 32)) := by
  unfold unsB
  rw [bodyL_length h128 hn]
  split
  · exact .inr rfl
  · exact .inl rfl
theorem good_decs {N : List Nat} {l : List K.It} (hN : ∀ b ∈ N, b < 256) (h : K.decs 2000 N = some l) : (∀ x ∈ l, Good x) ∧ K.fault l = 0 ∧ K.encs l = N := by
  obtain ⟨h1, h2, h3, h4⟩ := K.decs_back 2000 N l hN h
  refine ⟨fun x hx => ⟨h4 x hx, ?_⟩, K.fault_right h2 h3, h1.symm⟩
  rcases (h3 x hx).cases with ⟨_, e⟩ | ⟨_, _, e⟩
  · rw [e]; unfold maxLen; show 0 ≤ _; omega
  · unfold maxLen; omega
theorem UnsOut.own {L N : List Nat} {l : List K.It} {A : Option Addr} {c : Nat} {w' : World} (hu : unsB L = some N) (hd : K.decs 2000 N = some l) (hr : RdT w' w'.heap.size A l) (hlc : l.length ≤ c) (hcm : c ≤ maxLen) : UnsOut L (.returned (.tuple #[.slice A l.length c, .int .i64 0])) w' := by
  obtain ⟨e1, e2⟩ := uns_some hu
  have e3 : outL N = l := by unfold outL; rw [hd]; rfl
  have e4 : outE N = 0 := by unfold outE; rw [hd]; rfl
  exact ⟨A, c, by rw [e1, e2, e3, e4], by rw [e1, e3]; exact hr, by rw [e1, e3]; exact hlc, hcm⟩
theorem UnsOut.dec_none {L N : List Nat} (hu : unsB L = none ∨ unsB L = some N) (hd : K.decs 2000 N = none) (w' : World) : UnsOut L (.returned (.tuple #[.slice none 0 0, .int .i64 2])) w' := by
  rcases hu with hu | hu
  · exact UnsOut.bad hu w'
  · exact DecOut.uns (base := 0) hu (.inl ⟨hd, rfl⟩)
theorem txt_ne {L R : List Nat} (hL : ∀ b ∈ L, b < 256) (hR : ∀ b ∈ R, b < 256) (h : L ≠ R) : ((K.txt L).toList == (K.txt R).toList) = false := by
  cases e : ((K.txt L).toList == (K.txt R).toList) with
  | false => rfl
  | true =>
    have e2 : (K.txt L).toList = (K.txt R).toList := by simpa using e
    have e3 := bytes_eq e2
    have e4 := congrArg K.sb e3
    rw [K.sb_txt hL, K.sb_txt hR] at e4
    exact absurd e4 h

end Go.Proofs.YtikenhcglbfgpaaDoor
namespace Go.Proofs.YtikenhcglbfgpaaDoor
set_option maxRecDepth 100000
open Go Go.RowKit
set_option linter.unusedVariables false
namespace Lab
/-- a record: its transaction, its root -/
structure U where
  t : Int
  p : K.Pt
def zeroU : U := ⟨0, K.zeroP⟩
def uA (u : U) : Array Value := #[.int .i64 u.t, .int .i64 u.p.a, .int .i64 u.p.z, .int .i64 u.p.b, .string u.p.s]
def FitU (u : U) : Prop := (-9223372036854775808 ≤ u.t ∧ u.t ≤ 9223372036854775807) ∧ K.FitP u.p
def itsU (u : U) : List K.It := [⟨1, 77, ⟨#[]⟩⟩, ⟨1, u.t, ⟨#[]⟩⟩, ⟨2, 0, K.ptrS u.p⟩]
def okU (u : U) : Bool := decide (1 ≤ u.t) && K.okP u.p
def Ok (u : U) : Prop := okU u = true ∧ FitU u
def encL (u : U) : List Nat := secB (K.encs (itsU u))
def encE (u : U) : Int := if okU u = true then 0 else 2
def outB (u : U) : List Nat := if okU u = true then encL u else []
theorem ok_t {u : U} (h : Ok u) : 1 ≤ u.t := by
  have h1 := h.1
  unfold okU at h1
  rw [Bool.and_eq_true] at h1
  exact of_decide_eq_true h1.1
theorem ok_p {u : U} (h : Ok u) : K.okP u.p = true := by
  have h1 := h.1
  unfold okU at h1
  rw [Bool.and_eq_true] at h1
  exact h1.2
theorem int_len (n : Int) (h1 : -9223372036854775808 ≤ n) (h2 : n ≤ 9223372036854775807) : (K.encI ⟨1, n, ⟨#[]⟩⟩).length ≤ 11 := by
  show (1 :: K.cnt (K.fold n)).length ≤ 11
  have := K.cnt_length_le (K.fold n) (K.fold_lt h1 h2)
  rw [List.length_cons]
  omega
theorem txt_len (s : ByteArray) (h : s.size < 128) : (K.encI ⟨2, 0, s⟩).length = 2 + s.size := by
  show (2 :: (K.cnt s.size ++ K.sb s)).length = _
  rw [K.cnt_small h, List.length_cons, List.length_append, K.sb_length]
  simp
  omega
theorem ptrS_eq {p : K.Pt} (h : K.okP p = true) : K.ptrS p = K.txt (K.encs (K.itsP p)) := by unfold K.ptrS; rw [if_pos h]
theorem ptrS_size {p : K.Pt} (h : K.okP p = true) (hf : K.FitP p) : (K.ptrS p).size ≤ 67 := by
  rw [ptrS_eq h, K.txt_size]
  have ho := of_decide_eq_true h
  have e1 := int_len p.a hf.1.1 hf.1.2
  have e2 := int_len p.z hf.2.1.1 hf.2.1.2
  have e3 := int_len p.b hf.2.2.1.1 hf.2.2.1.2
  have e4 := txt_len p.s (by omega)
  show (K.encI ⟨1, p.a, ⟨#[]⟩⟩ ++ (K.encI ⟨1, p.z, ⟨#[]⟩⟩ ++ (K.encI ⟨1, p.b, ⟨#[]⟩⟩ ++ (K.encI ⟨2, 0, p.s⟩ ++ [])))).length ≤ 67
  rw [List.length_append, List.length_append, List.length_append, List.length_append]
  simp only [List.length_nil]
  omega
theorem ptrS_pos {p : K.Pt} (h : K.okP p = true) : 0 < (K.ptrS p).size := by
  rw [ptrS_eq h, K.txt_size]
  show 0 < (K.encI ⟨1, p.a, ⟨#[]⟩⟩ ++ (K.encI ⟨1, p.z, ⟨#[]⟩⟩ ++ (K.encI ⟨1, p.b, ⟨#[]⟩⟩ ++ (K.encI ⟨2, 0, p.s⟩ ++ [])))).length
  rw [List.length_append]
  show 0 < (1 :: K.cnt (K.fold p.a)).length + _
  rw [List.length_cons]
  omega
theorem its_right {u : U} (h : K.okP u.p = true) (hf : K.FitP u.p) : ∀ x ∈ itsU u, K.Right x := fun x hx => by
  unfold itsU at hx
  simp only [List.mem_cons, List.not_mem_nil, or_false] at hx
  rcases hx with rfl | rfl | rfl
  · exact ⟨by unfold K.formed; simp, by unfold K.big; simp⟩
  · exact ⟨by unfold K.formed; simp, by unfold K.big; simp⟩
  · have := ptrS_size h hf
    refine ⟨by unfold K.formed; simp, ?_⟩
    show decide ((2 : Int) = 2 ∧ 4000 < (K.ptrS u.p).size) = false
    simp
    omega
theorem its_fits {u : U} (hf : FitU u) : ∀ x ∈ itsU u, K.Fits x := fun x hx => by
  unfold itsU at hx
  simp only [List.mem_cons, List.not_mem_nil, or_false] at hx
  rcases hx with rfl | rfl | rfl
  · exact ⟨by show (-9223372036854775808 : Int) ≤ 77; omega, by show (77 : Int) ≤ 9223372036854775807; omega⟩
  · exact hf.1
  · exact ⟨by show (-9223372036854775808 : Int) ≤ 0; omega, by show (0 : Int) ≤ 9223372036854775807; omega⟩
theorem its_fault {u : U} (h : K.okP u.p = true) (hf : K.FitP u.p) : K.fault (itsU u) = 0 := K.fault_right (by simp [itsU]) (its_right h hf)
theorem its_len {u : U} (h : K.okP u.p = true) (hf : FitU u) : (K.encs (itsU u)).length ≤ 95 := by
  have h1 := ptrS_size h hf.2
  have e2 := int_len u.t hf.1.1 hf.1.2
  have e4 := txt_len (K.ptrS u.p) (by omega)
  have e1 : (K.encI ⟨1, 77, ⟨#[]⟩⟩).length ≤ 3 := by
    show (1 :: K.cnt (K.fold 77)).length ≤ 3
    rw [show K.fold 77 = 154 by decide, K.cnt_big (by omega)]
    rw [show 154 / 128 = 1 by decide, K.cnt_small (by omega)]
    exact Nat.le_refl _
  show (K.encI ⟨1, 77, ⟨#[]⟩⟩ ++ (K.encI ⟨1, u.t, ⟨#[]⟩⟩ ++ (K.encI ⟨2, 0, K.ptrS u.p⟩ ++ []))).length ≤ 95
  rw [List.length_append, List.length_append, List.length_append]
  simp only [List.length_nil]
  omega
theorem secE_its {u : U} (h : K.okP u.p = true) (hf : FitU u) : secE (itsU u) = 0 := secE_ok (its_fault h hf.2) (its_len h hf)
theorem secL_its {u : U} (h : K.okP u.p = true) (hf : FitU u) : secL (itsU u) = encL u := by unfold secL; rw [if_pos (secE_its h hf)]; rfl
theorem encL_length {u : U} (h : K.okP u.p = true) (hf : FitU u) : (encL u).length = 128 := secB_length (its_len h hf)
theorem encL_lt {u : U} (h : K.okP u.p = true) (hf : FitU u) : ∀ b ∈ encL u, b < 256 := secB_lt (its_len h hf) (K.encs_lt _)
/-- these bytes are that record's -/
def Is (L : List Nat) (u : U) : Prop := Ok u ∧ L = encL u
theorem Is.back {L : List Nat} {u : U} (h : Is L u) : unsL L = itsU u ∧ unsE L = 0 := by
  have h1 := secL_back (secE_its (ok_p h.1) h.1.2) (its_fits h.1.2)
  rw [secL_its (ok_p h.1) h.1.2] at h1
  rw [h.2]
  exact h1
theorem unP_ptrS {p : K.Pt} (h : K.okP p = true) (hf : K.FitP p) : K.unP (K.sb (K.ptrS p)) = some p := by
  have hb := K.sb_txt (K.encs_lt (K.itsP p))
  rw [ptrS_eq h, hb]
  unfold K.unP
  have hr := (K.fault_ok (K.itsP_right h)).2
  rw [K.decs_enc 2000 (K.itsP p) (by show 4 ≤ 2000; omega) hr (fun x hx => (itsP_good hf x hx).1)]
  obtain ⟨a, z, b, s⟩ := p
  show K.ofIts [⟨1, a, ⟨#[]⟩⟩, ⟨1, z, ⟨#[]⟩⟩, ⟨1, b, ⟨#[]⟩⟩, ⟨2, 0, s⟩] = _
  exact if_pos ⟨rfl, rfl, h⟩
theorem unP_back {L : List Nat} {p : K.Pt} (hL : ∀ b ∈ L, b < 256) (h : K.unP L = some p) : K.okP p = true ∧ L = K.encs (K.itsP p) := by
  unfold K.unP at h
  cases hd : K.decs 2000 L with
  | none => rw [hd] at h; cases h
  | some l =>
    rw [hd] at h
    obtain ⟨h1, _, h3, _⟩ := K.decs_back 2000 L l hL hd
    replace h : K.ofIts l = some p := h
    match l, h with
    | [x0, x1, x2, x3], h =>
      replace h : (if x0.k = 1 ∧ x2.k = 1 ∧ K.okP ⟨x0.n, x1.n, x2.n, x3.s⟩ = true then some (⟨x0.n, x1.n, x2.n, x3.s⟩ : K.Pt) else none) = some p := h
      by_cases hc : x0.k = 1 ∧ x2.k = 1 ∧ K.okP ⟨x0.n, x1.n, x2.n, x3.s⟩ = true
      · rw [if_pos hc] at h
        injection h with h
        subst h
        refine ⟨hc.2.2, ?_⟩
        rw [(K.its_eq (h3 x0 (by simp)) (h3 x1 (by simp)) (h3 x2 (by simp)) (h3 x3 (by simp)) hc.2.2).2 ⟨hc.1, hc.2.1⟩]
        exact h1
      · rw [if_neg hc] at h; cases h
theorem uns_zero {L : List Nat} (hL : ∀ b ∈ L, b < 256) (h : unsE L = 0) : L = secB (K.encs (unsL L)) ∧ ∀ x ∈ unsL L, K.Right x := by
  cases hu : unsB L with
  | none => have := (uns_none hu).2; omega
  | some N =>
    obtain ⟨e1, e2⟩ := uns_some hu
    obtain ⟨h1, h2⟩ := unsB_back hu
    have hN : ∀ b ∈ N, b < 256 := fun b hb => hL b (by rw [h2]; unfold secB; simp [hb])
    rw [e2] at h
    unfold outE at h
    cases hd : K.decs 2000 N with
    | none => rw [hd] at h; simp at h
    | some l =>
      have e3 : unsL L = l := by rw [e1]; unfold outL; rw [hd]; rfl
      obtain ⟨g1, _, g3, _⟩ := K.decs_back 2000 N l hN hd
      rw [e3, ← g1]
      exact ⟨h2, g3⟩
theorem is_of {L : List Nat} (hL : ∀ b ∈ L, b < 256) (hE : unsE L = 0) {x0 x1 x2 : K.It} (hl : unsL L = [x0, x1, x2]) {p : K.Pt} (hp : K.unP (K.sb x2.s) = some p) (hf : K.FitP p) (h0 : x0 = ⟨1, 77, ⟨#[]⟩⟩) (h1 : 1 ≤ x1.n)
    (hx : x1.n ≤ 9223372036854775807) : Is L ⟨x1.n, p⟩ := by
  obtain ⟨e1, e2⟩ := uns_zero hL hE
  obtain ⟨ho, hb⟩ := unP_back (K.sb_lt x2.s) hp
  have es : x2.s = K.ptrS p := by
    rw [ptrS_eq ho, ← hb, K.txt_sb]
  have r1 := (e2 x1 (by rw [hl]; simp)).cases
  have r2 := (e2 x2 (by rw [hl]; simp)).cases
  have q1 : x1 = ⟨1, x1.n, ⟨#[]⟩⟩ := by
    rcases r1 with c | c
    · obtain ⟨k, n, s⟩ := x1
      dsimp only at c ⊢
      rw [c.1, c.2]
    · omega
  have q2 : x2 = ⟨2, 0, K.ptrS p⟩ := by
    rcases r2 with c | c
    · have hp := ptrS_pos ho
      rw [← es, c.2] at hp
      exact absurd hp (by decide)
    · obtain ⟨k, n, s⟩ := x2
      dsimp only at c es ⊢
      rw [c.1, c.2.1, es]
  refine ⟨⟨?_, ⟨by show -9223372036854775808 ≤ x1.n; omega, hx⟩, hf⟩, ?_⟩
  · unfold okU
    rw [Bool.and_eq_true]
    exact ⟨decide_eq_true h1, ho⟩
  · rw [e1, hl, h0, q2]
    show secB (K.encs [_, x1, _]) = secB (K.encs [_, ⟨1, x1.n, ⟨#[]⟩⟩, _])
    rw [← q1]
theorem encL_inj {u v : U} (hu : Ok u) (hv : Ok v) (h : encL u = encL v) : u = v := by
  have h1 := Is.back (L := encL u) ⟨hu, rfl⟩
  have h2 := Is.back (L := encL u) (u := v) ⟨hv, h⟩
  have e := h1.1.symm.trans h2.1
  unfold itsU at e
  injection e with _ e
  injection e with e1 e
  injection e with e2 _
  injection e1 with _ e1 _
  injection e2 with _ _ e2
  have e3 := unP_ptrS (ok_p hu) hu.2.2
  rw [e2, unP_ptrS (ok_p hv) hv.2.2] at e3
  obtain ⟨t, p⟩ := u
  obtain ⟨t', p'⟩ := v
  dsimp only at e1 e3
  injection e3 with e3
  rw [e1, e3]
theorem Is.one {L : List Nat} {u v : U} (hu : Is L u) (hv : Is L v) : u = v := encL_inj hu.1 hv.1 (hu.2.symm.trans hv.2)
end Lab
end Go.Proofs.YtikenhcglbfgpaaDoor
