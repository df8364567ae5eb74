/-
  Pieces of intents as lists: what a piece's sector is, and which bytes are a piece's. No conditions beyond those that each theorem types.
-/
import Derived.Test.YtikenhcglbfgpaaDoorLabMathM
import Derived.Test.YtikenhcglbfgpaaDoorPackSec
import Derived.Test.YtikenhcglbfgpaaDoorPackUnsM
import Derived.Test.YtikenhcglbfgpaaDoorShaLaidM
import Derived.Test.YtikenhcglbfgpaaDoorPackBothM
import Derived.Test.YtikenhcglbfgpaaDoorStrBM
import Derived.Maps.OwnSet
import Derived.Maps.RangeWalk
import Derived.DeepKeys4
import Derived.WalkArith
namespace Go.Proofs.YtikenhcglbfgpaaDoor
set_option maxRecDepth 100000
open Go Go.RowKit
set_option linter.unusedVariables false
namespace Itn
/-- a piece: is it the last one of its intent? its bytes -/
structure Pc where
  l : Bool
  s : ByteArray
def zeroP : Pc := ⟨false, ⟨#[]⟩⟩
def bit (l : Bool) : Int := if l then 1 else 0
def itsI (b k : Int) (p : Pc) : List K.It := [⟨1, 55, ⟨#[]⟩⟩, ⟨1, b, ⟨#[]⟩⟩, ⟨1, k, ⟨#[]⟩⟩, ⟨1, bit p.l, ⟨#[]⟩⟩, ⟨2, 0, p.s⟩]
def pcL (b k : Int) (p : Pc) : List Nat := secB (K.encs (itsI b k p))
def Z (x : Int) : Prop := -9223372036854775808 ≤ x ∧ x ≤ 9223372036854775807
structure OkI (b k : Int) (p : Pc) : Prop where
  b : Z b
  k : Z k
  s : p.s.size ≤ 56
section
variable {b k b' k' : Int} {p q : Pc} {L : List Nat}
theorem its_fits (h : OkI b k p) : ∀ x ∈ itsI b k p, K.Fits x := fun x hx => by
  unfold itsI at hx
  simp only [List.mem_cons, List.not_mem_nil, or_false] at hx
  have hb := h.b
  have hk := h.k
  unfold Z at hb hk
  unfold K.Fits
  rcases hx with rfl | rfl | rfl | rfl | rfl
  · dsimp only; omega
  · exact hb
  · exact hk
  · dsimp only; unfold bit; split <;> omega
  · dsimp only; omega
theorem right_num (n : Int) : K.Right ⟨1, n, ⟨#[]⟩⟩ := ⟨by simp [K.formed], by simp [K.big]⟩
theorem right_txt {s : ByteArray} (h : s.size ≤ 4000) : K.Right ⟨2, 0, s⟩ := ⟨by simp [K.formed], by simp [K.big]; omega⟩
theorem its_right (h : OkI b k p) : ∀ x ∈ itsI b k p, K.Right x := fun x hx => by
  unfold itsI at hx
  simp only [List.mem_cons, List.not_mem_nil, or_false] at hx
  have hs := h.s
  rcases hx with rfl | rfl | rfl | rfl | rfl
  · exact right_num _
  · exact right_num _
  · exact right_num _
  · exact right_num _
  · exact right_txt (by omega)
theorem its_fault (h : OkI b k p) : K.fault (itsI b k p) = 0 := K.fault_right (by simp [itsI]) (its_right h)
theorem small_len (n : Int) (h : 0 ≤ n) (h2 : n < 64) : (K.encI ⟨1, n, ⟨#[]⟩⟩).length = 2 := by
  show (1 :: K.cnt (K.fold n)).length = 2
  have hf : K.fold n < 128 := by unfold K.fold; split <;> omega
  rw [K.cnt_small hf]
  rfl
theorem its_len (h : OkI b k p) : (K.encs (itsI b k p)).length ≤ 95 := by
  have e1 := small_len 55 (by omega) (by omega)
  have e2 := Lab.int_len b h.b.1 h.b.2
  have e3 := Lab.int_len k h.k.1 h.k.2
  have e4 := small_len (bit p.l) (by unfold bit; split <;> omega) (by unfold bit; split <;> omega)
  have e5 := Lab.txt_len p.s (by have := h.s; omega)
  have hs := h.s
  show (K.encI ⟨1, 55, ⟨#[]⟩⟩ ++ (K.encI ⟨1, b, ⟨#[]⟩⟩ ++ (K.encI ⟨1, k, ⟨#[]⟩⟩ ++ (K.encI ⟨1, bit p.l, ⟨#[]⟩⟩ ++ (K.encI ⟨2, 0, p.s⟩ ++ []))))).length ≤ 95
  rw [List.length_append, List.length_append, List.length_append, List.length_append, List.length_append]
  simp only [List.length_nil]
  omega
theorem secE_its (h : OkI b k p) : secE (itsI b k p) = 0 := secE_ok (its_fault h) (its_len h)
theorem secL_its (h : OkI b k p) : secL (itsI b k p) = pcL b k p := by unfold secL; rw [if_pos (secE_its h)]; rfl
theorem pcL_length (h : OkI b k p) : (pcL b k p).length = 128 := secB_length (its_len h)
theorem pcL_lt (h : OkI b k p) : ∀ x ∈ pcL b k p, x < 256 := secB_lt (its_len h) (K.encs_lt _)
/-- these bytes are that piece's -/
def Is (L : List Nat) (b k : Int) (p : Pc) : Prop := OkI b k p ∧ L = pcL b k p
theorem Is.back (h : Is L b k p) : unsL L = itsI b k p ∧ unsE L = 0 := by
  have h1 := secL_back (secE_its h.1) (its_fits h.1)
  rw [secL_its h.1] at h1
  rw [h.2]
  exact h1
theorem bit_inj {x y : Bool} (h : bit x = bit y) : x = y := by cases x <;> cases y <;> simp_all [bit]
theorem Is.one (h : Is L b k p) (h' : Is L b' k' q) : b = b' ∧ k = k' ∧ p = q := by
  have e := h.back.1.symm.trans h'.back.1
  unfold itsI at e
  injection e with _ e
  injection e with e1 e
  injection e with e2 e
  injection e with e3 e
  injection e with e4 _
  injection e1 with _ e1 _
  injection e2 with _ e2 _
  injection e3 with _ e3 _
  injection e4 with _ _ e4
  obtain ⟨l, s⟩ := p
  obtain ⟨l', s'⟩ := q
  have := bit_inj e3
  dsimp only at this e4
  subst this e4
  exact ⟨e1, e2, rfl⟩
theorem is_of (hL : ∀ x ∈ L, x < 256) (hE : unsE L = 0) (hl : unsL L = itsI b k p) (hb : Z b) (hk : Z k) (hs : p.s.size ≤ 56) : Is L b k p := by
  obtain ⟨e1, _⟩ := Lab.uns_zero hL hE
  exact ⟨⟨hb, hk, hs⟩, by rw [hl] at e1; exact e1⟩
theorem not_is (h : unsE L ≠ 0) : ∀ b k p, ¬ Is L b k p := fun b k p hu => h hu.back.2
theorem not_is5 (h : (unsL L).length ≠ 5) : ∀ b k p, ¬ Is L b k p := fun b k p hu => h (by rw [hu.back.1]; rfl)
end
end Itn
end Go.Proofs.YtikenhcglbfgpaaDoor
namespace Go.Proofs.YtikenhcglbfgpaaDoor
open Go Go.RowKit
set_option maxRecDepth 100000
set_option linter.unusedVariables false
namespace Lab
theorem its_good {u : U} (h : K.okP u.p = true) (hf : FitU u) : ∀ x ∈ itsU u, Good x := fun x hx => by
  refine ⟨its_fits hf x hx, ?_⟩
  have hp := ptrS_size h hf.2
  unfold itsU at hx
  simp only [List.mem_cons, List.not_mem_nil, or_false] at hx
  rcases hx with rfl | rfl | rfl
  · show 0 ≤ _
    exact Nat.zero_le _
  · show 0 ≤ _
    exact Nat.zero_le _
  · show (K.ptrS u.p).size ≤ _
    unfold maxLen
    omega
theorem its_cells (t : Int) (p : K.Pt) : (icells (itsU ⟨t, p⟩)).toArray = #[.int .i64 1, .int .i64 77, .string ⟨#[]⟩, .int .i64 1, .int .i64 t, .string ⟨#[]⟩, .int .i64 2, .int .i64 0, .string (K.ptrS p)] := rfl
end Lab
end Go.Proofs.YtikenhcglbfgpaaDoor
namespace Go.Proofs.YtikenhcglbfgpaaDoor
set_option maxRecDepth 100000
open Go Go.RowKit
set_option linter.unusedVariables false

theorem beq_no (a b : ByteArray) (h : a ≠ b) : (a.toList == b.toList) = false := by
  have : a.toList ≠ b.toList := fun e => h (bytes_eq e)
  simp [this]
end Go.Proofs.YtikenhcglbfgpaaDoor
namespace Go.Proofs.YtikenhcglbfgpaaDoor
open Go Go.RowKit
set_option maxRecDepth 100000
set_option linter.unusedVariables false
namespace Lab
/-- what a reader of a record answers -/
def DecU (L : List Nat) (e : Ending) : Prop :=
  (∃ u, Is L u ∧ e = .returned (.tuple #[.agg (uA u), .int .i64 0])) ∨ ((∀ u, ¬ Is L u) ∧ e = .returned (.tuple #[.agg #[.int .i64 0, .int .i64 0, .int .i64 0, .int .i64 0, .string ⟨#[]⟩], .int .i64 2]))
def set5 (w : World) (g : Nat) (a b c d e : Value) : World := ((((w.setCell ⟨g, 0, none⟩ a).setCell ⟨g, 1, none⟩ b).setCell ⟨g, 2, none⟩ c).setCell ⟨g, 3, none⟩ d).setCell ⟨g, 4, none⟩ e
theorem set5_blk {w : World} {g : Nat} {t : TypeId} {x0 x1 x2 x3 x4 : Value} (h : Blk w g t #[x0, x1, x2, x3, x4]) (a b c d e : Value) : Blk (set5 w g a b c d e) g t #[a, b, c, d, e] := ((((h.set_ 0 a).set_ 1 b).set_ 2 c).set_ 3 d).set_ 4 e
theorem set5_below {w0 w : World} {base g : Nat} (h : Below base w0 w) (hg : base ≤ g) (a b c d e : Value) : Below base w0 (set5 w g a b c d e) :=
  ((((h.setCell (p := ⟨g, 0, none⟩) hg a).setCell (p := ⟨g, 1, none⟩) hg b).setCell (p := ⟨g, 2, none⟩) hg c).setCell (p := ⟨g, 3, none⟩) hg d).setCell (p := ⟨g, 4, none⟩) hg e
theorem uber_facts {w : World} {g : Nat} {t : TypeId} {a b c d e : Value} (h : Blk w g t #[a, b, c, d, e]) : (w.cell? ⟨g, 0, none⟩ = some a ∧ w.cell? ⟨g, 1, none⟩ = some b ∧ w.cell? ⟨g, 2, none⟩ = some c ∧ w.cell? ⟨g, 3, none⟩ = some d ∧ w.cell? ⟨g, 4, none⟩ = some e) ∧
    (w.frozen? ⟨g, 0, none⟩ = false ∧ w.frozen? ⟨g, 1, none⟩ = false ∧ w.frozen? ⟨g, 2, none⟩ = false ∧ w.frozen? ⟨g, 3, none⟩ = false ∧ w.frozen? ⟨g, 4, none⟩ = false) :=
  ⟨⟨h.cell 0, h.cell 1, h.cell 2, h.cell 3, h.cell 4⟩, h.frozen 0, h.frozen 1, h.frozen 2, h.frozen 3, h.frozen 4⟩
theorem not_is {L : List Nat} (h : unsE L ≠ 0) : ∀ u, ¬ Is L u := fun u hu => h hu.back.2
theorem not_is3 {L : List Nat} (h : (unsL L).length ≠ 3) : ∀ u, ¬ Is L u := fun u hu => h (by rw [hu.back.1]; rfl)
theorem good_of {L : List Nat} (hL : ∀ b ∈ L, b < 256) (h : unsE L = 0) : ∀ x ∈ unsL L, K.Fits x := by
  cases hu : unsB L with
  | none => have := (uns_none hu).2; omega
  | some N =>
    obtain ⟨e1, e2⟩ := uns_some hu
    obtain ⟨h1, h2⟩ := unsB_back hu
    have hN : ∀ b ∈ N, b < 256 := fun b hb => hL b (by rw [h2]; unfold secB; simp [hb])
    rw [e2] at h
    unfold outE at h
    cases hd : K.decs 2000 N with
    | none => rw [hd] at h; simp at h
    | some l =>
      have e3 : unsL L = l := by rw [e1]; unfold outL; rw [hd]; rfl
      obtain ⟨_, _, _, g4⟩ := K.decs_back 2000 N l hN hd
      rw [e3]
      exact g4
theorem is_items {L : List Nat} {u : U} {x0 x1 x2 : K.It} (h : Is L u) (hl : unsL L = [x0, x1, x2]) : x0 = ⟨1, 77, ⟨#[]⟩⟩ ∧ x1 = ⟨1, u.t, ⟨#[]⟩⟩ ∧ x2 = ⟨2, 0, K.ptrS u.p⟩ := by
  have e := hl.symm.trans h.back.1
  unfold itsU at e
  injection e with e0 e
  injection e with e1 e
  injection e with e2 _
  exact ⟨e0, e1, e2⟩
end Lab
end Go.Proofs.YtikenhcglbfgpaaDoor
namespace Go.Proofs.YtikenhcglbfgpaaDoor
set_option maxRecDepth 100000
open Go.RowKit
set_option linter.unusedVariables false

theorem laidOut_ : laidOutB Tryd.prog = true := by kernel_rfl
theorem row_place : (62 : TypeId) < Tryd.prog.types.size := of_decide_eq_true (by kernel_rfl)
theorem wide_place : (match Tryd.prog.underlying 62 with | some (.array _ _) | some (.struct _) => true | _ => false) = true := by rw [Tryd.underlying62]
theorem law_place : WideMaps.KeyLaw Tryd.prog 62 := deep_law_laid laidOut_ (m := 2) (by omega) row_place (by kernel_rfl) wide_place
theorem keyed : Maps.Keyed Tryd.prog 62 := Maps.Keyed.of_law law_place

/-- A place. -/
def pkey (d a : Nat) : Value := .agg #[.int .i64 (d : Int), .int .i64 (a : Int)]
theorem pkey_inj {d a d' a' : Nat} (h : pkey d a = pkey d' a') : d = d' ∧ a = a' := by
  unfold pkey at h
  simp at h
  omega
def RVp (p : Value → Bool) (v : Value) : Option (DataW Value × List MemPlace) := if p v then some (.held v, []) else none
theorem RVp_of {p : Value → Bool} {v : Value} (h : p v = true) : RVp p v = some (.held v, []) := if_pos h
theorem RVp_inv {p : Value → Bool} {v : Value} {y : DataW Value × List MemPlace} (h : RVp p v = some y) : p v = true ∧ y = (.held v, []) := by
  unfold RVp at h
  split at h
  · rename_i hp
    injection h with h
    exact ⟨hp, h.symm⟩
  · cases h
def anyV (_ : Value) : Bool := true
theorem wf_nat {n : Nat} (h : n < 4611686018427387904) : (Lit.int .i64 (n : Int)).wf = true := WalkArith.wf_i64 (by omega)
noncomputable def klit (d a : Nat) : Lit := (keyOf Tryd.prog 62 (pkey d a)).getD (.bool false)
theorem key_ok {d a : Nat} (hd : d < 4611686018427387904) (ha : a < 4611686018427387904) : keyOf Tryd.prog 62 (pkey d a) = some (klit d a) := by
  have h : (keyOf Tryd.prog 62 (pkey d a)).isSome = true := by
    have hkt : Tryd.prog.keyType 62 = true := by kernel_rfl
    have hc : Tryd.prog.cellsOf 62 = 2 := by kernel_rfl
    have hc3 : Tryd.prog.cellsOf 3 = 1 := by kernel_rfl
    have w1 : (Lit.int .i64 (d : Int)).wf = true := wf_nat hd
    have w2 : (Lit.int .i64 (a : Int)).wf = true := wf_nat ha
    obtain ⟨m, hm⟩ : ∃ m, Tryd.prog.types.size = m + 1 := ⟨Tryd.prog.types.size.pred, (Nat.succ_pred_eq_of_pos (Nat.lt_of_le_of_lt (Nat.zero_le _) row_place)).symm⟩
    have hf : Value.formed Tryd.prog 62 (pkey d a) = true := by simp [pkey, Value.formed, Tryd.underlying62, hc]
    have hl : (Tryd.prog.keyLits (Tryd.prog.types.size + 1) 62 (pkey d a).cells.toList).isSome = true := by
      rw [hm]
      simp [pkey, Value.cells, Program.keyLits, Tryd.underlying62, Tryd.underlying3, hc, hc3, w1, w2]
    unfold keyOf
    rw [Tryd.underlying62]
    rw [if_pos (by rw [hkt, hf]; rfl)]
    rw [Option.isSome_map]
    exact hl
  unfold klit
  cases e : keyOf Tryd.prog 62 (pkey d a)
  · rw [e] at h; cases h
  · rfl
/-- every key is a place's -/
theorem key_inv {key : Value} {kl : Lit} (h : keyOf Tryd.prog 62 key = some kl) : ∃ i j : Int, key = .agg #[.int .i64 i, .int .i64 j] := by
  have hc : Tryd.prog.cellsOf 62 = 2 := by kernel_rfl
  have hc3 : Tryd.prog.cellsOf 3 = 1 := by kernel_rfl
  obtain ⟨m, hm⟩ : ∃ m, Tryd.prog.types.size = m + 1 := ⟨Tryd.prog.types.size.pred, (Nat.succ_pred_eq_of_pos (Nat.lt_of_le_of_lt (Nat.zero_le _) row_place)).symm⟩
  unfold keyOf at h
  rw [Tryd.underlying62] at h
  simp only at h
  split at h
  rotate_left
  · cases h
  rename_i hf
  simp only [Bool.and_eq_true] at hf
  cases key <;> simp [Value.formed, Tryd.underlying62, hc] at hf
  rename_i cs
  obtain ⟨l, hl⟩ : ∃ l, cs.toList = l := ⟨_, rfl⟩
  have hsz : l.length = 2 := by rw [← hl, Array.length_toList]; exact hf.2
  obtain ⟨x, y, rfl⟩ : ∃ x y, l = [x, y] := by
    match l, hsz with
    | [x, y], _ => exact ⟨x, y, rfl⟩
  have hcs : cs = #[x, y] := by apply Array.toList_inj.1; rw [hl]
  subst hcs
  rw [hm] at h
  simp [Value.cells, Program.keyLits, Tryd.underlying62, Tryd.underlying3, hc, hc3] at h
  cases x <;> try (simp at h; done)
  rename_i q i
  dsimp only at h
  by_cases hq : q = IntKind.i64 ∧ (Lit.int .i64 i).wf = true
  rotate_left
  · rw [if_neg hq] at h
    cases h
  rw [if_pos hq] at h
  obtain ⟨rfl, _⟩ := hq
  cases y <;> try (simp at h; done)
  rename_i q j
  by_cases hq : q = IntKind.i64 ∧ (Lit.int .i64 j).wf = true
  rotate_left
  · simp [hq] at h
  obtain ⟨rfl, _⟩ := hq
  exact ⟨i, j, rfl⟩
theorem klit_inj {d a d' a' : Nat} (hd : d < 4611686018427387904) (ha : a < 4611686018427387904) (hd' : d' < 4611686018427387904) (ha' : a' < 4611686018427387904) (h : klit d a = klit d' a') : d = d' ∧ a = a' := by
  have h1 := key_ok hd ha
  have h2 := key_ok hd' ha'
  rw [h] at h1
  exact pkey_inj (keyed.inj h1 h2)

/-- block b is a map of at most n entries, F says what stands at each place -/
def MapFp (p : Value → Bool) (w : World) (b n : Nat) (F : Nat → Nat → Option Value) : Prop :=
  ∃ D : DataW Value, w.ownsMap Tryd.prog 62 (RVp p) b n D ∧ Maps.IsMap D ∧ ∀ d a, d < 4611686018427387904 → a < 4611686018427387904 → ∀ zd, D.atKey (klit d a) zd = (F d a).elim zd .held

abbrev MapF := MapFp anyV
section
variable {okv : Value → Bool} {w w' : World} {b n : Nat} {F : Nat → Nat → Option Value}
theorem MapFp.lt (h : MapFp okv w b n F) : b < w.heap.size := by obtain ⟨D, h1, _⟩ := h; exact h1.lt
theorem MapFp.mono (h : MapFp okv w b n F) {n' : Nat} (hn : n ≤ n') : MapFp okv w b n' F := by obtain ⟨D, h1, h2⟩ := h; exact ⟨D, h1.mono hn, h2⟩
theorem MapFp.isMap (h : MapFp okv w b n F) : ∃ es c, w.heap[b]? = some (.map es c) := by obtain ⟨D, ⟨es, c, h1, _⟩, _⟩ := h; exact ⟨es, c, h1⟩
theorem MapFp.block (h : MapFp okv w b n F) (hb : w'.heap[b]? = w.heap[b]?) : MapFp okv w' b n F := by
  obtain ⟨D, ⟨es, c, h1, h2⟩, h3⟩ := h
  exact ⟨D, ⟨es, c, hb.trans h1, h2⟩, h3⟩
theorem MapFp.drew (h : MapFp okv w b n F) : MapFp okv w.drew b n F := h
theorem MapFp.drewN (h : MapFp okv w b n F) (k : Nat) : MapFp okv (w.drewN k) b n F := h
theorem MapFp.alloc (h : MapFp okv w b n F) (o : Obj) : MapFp okv (w.alloc o) b n F := h.block (Below.heap_alloc w o b h.lt)
theorem MapFp.setCell (h : MapFp okv w b n F) {p : Addr} (hp : b ≠ p.block) (u : Value) : MapFp okv (w.setCell p u) b n F := h.block (Below.heap_setCell w p u b hp)
theorem MapFp.grown {row : Option Nat} (h : MapFp okv w b n F) (hg : w.grownBy w' row) (hne : some b ≠ row) : MapFp okv w' b n F := h.block (hg.block b h.lt hne)
theorem MapFp.ne_blk (h : MapFp okv w b n F) {g : Nat} {t : TypeId} {cs : Array Value} (hg : Blk w g t cs) : b ≠ g := by
  obtain ⟨es, c, h1⟩ := h.isMap
  rintro rfl
  unfold Blk at hg
  rw [h1] at hg
  cases hg
theorem MapFp.congr (h : MapFp okv w b n F) {G : Nat → Nat → Option Value} (he : ∀ d a, d < 4611686018427387904 → a < 4611686018427387904 → F d a = G d a) : MapFp okv w b n G := by
  obtain ⟨D, h1, h2, h3⟩ := h
  exact ⟨D, h1, h2, fun d a hd ha zd => by rw [← he d a hd ha]; exact h3 d a hd ha zd⟩
theorem MapFp.made (w : World) : MapFp okv (w.alloc (.map #[] 0)) w.heap.size 0 (fun _ _ => none) :=
  ⟨_, World.ownsMap_made w Tryd.prog 62 (RVp okv), Maps.isMap_empty, fun d a _ _ zd => rfl⟩
/-- 'm[p]' and 'v, ok := m[p]' -/
theorem MapFp.look {t e : TypeId} (h : MapFp okv w b n F) (ht : Tryd.prog.underlying t = some (.map 62 e)) {z : Value} (hz : (zeroValue e).run Tryd.prog w = .ok z w) {d a : Nat} (hd : d < 4611686018427387904) (ha : a < 4611686018427387904) (c : Bool) :
    (Instr.lookup t (.map (some b)) (pkey d a) c).run Tryd.prog w = .ok (if c then .tuple #[(F d a).getD z, .bool (F d a).isSome] else (F d a).getD z) w := by
  obtain ⟨D, ⟨es, cl, h1, h2, _, rfl⟩, _, h3⟩ := h
  rcases Maps.fit_look c keyed ht hz h1 h2 (key_ok hd ha) with ⟨hrun, _, hat⟩ | ⟨e0, y, _, _, hrun, hRv, hat, _⟩
  · have e1 := (h3 d a hd ha (.held (.int .i64 0))).symm.trans (hat _)
    have e2 := (h3 d a hd ha (.held (.int .i64 1))).symm.trans (hat _)
    cases hF : F d a with
    | none => rw [hrun]; rfl
    | some v =>
      rw [hF] at e1 e2
      simp only [Option.elim] at e1 e2
      rw [e1] at e2
      cases e2
  · have e1 := (h3 d a hd ha (.held (.int .i64 0))).symm.trans (hat _)
    have e2 := (h3 d a hd ha (.held (.int .i64 1))).symm.trans (hat _)
    obtain ⟨_, rfl⟩ := RVp_inv hRv
    cases hF : F d a with
    | none =>
      rw [hF] at e1 e2
      simp only [Option.elim] at e1 e2
      rw [← e1] at e2
      cases e2
    | some v =>
      rw [hF] at e1
      simp only [Option.elim] at e1
      cases e1
      rw [hrun]
      rfl
def putF (F : Nat → Nat → Option Value) (d a : Nat) (v : Value) (d' a' : Nat) : Option Value := if d' = d ∧ a' = a then some v else F d' a'
/-- 'm[p] = v' -/
theorem MapFp.put {t e : TypeId} (h : MapFp okv w b n F) (ht : Tryd.prog.underlying t = some (.map 62 e)) (hn : n < maxLen) {d a : Nat} (hd : d < 4611686018427387904) (ha : a < 4611686018427387904) (v : Value) (hv : okv v = true) :
    ∃ w', (Instr.mapUpdate t (.map (some b)) (pkey d a) v).run Tryd.prog w = .ok () w' ∧ MapFp okv w' b (n + 1) (putF F d a v) ∧ w.grownBy w' (some b) ∧ w'.heap.size = w.heap.size := by
  obtain ⟨D, h1, h2, h3⟩ := h
  obtain ⟨es, cl, hb, F0, hs, hD⟩ := h1
  obtain ⟨es', clock', hrun, F', hput, _⟩ := Maps.fit_store (R' := RVp okv) keyed ht hb F0 (Nat.lt_of_le_of_lt hs hn) (fun _ _ _ _ hz => hz) (key_ok hd ha) (RVp_of hv)
  obtain ⟨w2, hrun2, r1, r2⟩ := World.ownsMap.update ⟨es, cl, hb, F0, hs, hD⟩ keyed ht hn (key_ok hd ha) (RVp_of hv)
  have hw : w2 = ChangeMaps.setBlock w b (.map es' clock') := by
    rw [hrun] at hrun2
    injection hrun2 with _ e
    exact e.symm
  refine ⟨w2, hrun2, ⟨_, r1, h2.put _ _, ?_⟩, r2, by rw [hw]; simp [ChangeMaps.setBlock]⟩
  intro d' a' hd' ha' zd
  unfold putF
  by_cases e : d' = d ∧ a' = a
  · obtain ⟨rfl, rfl⟩ := e
    rw [if_pos ⟨rfl, rfl⟩, Maps.atKey_put_same h2 (keyed.key (key_ok hd ha))]
    rfl
  · rw [if_neg e, Maps.atKey_put_other (fun x => e (klit_inj hd' ha' hd ha x))]
    exact h3 d' a' hd' ha' zd
theorem wpList_mapPut {ops : Array Oper} {rest : List Oper} {o : Oper} {ac : Act} {Q : Exit → Act → World → Prop}
    (hg : o.guard = none) (m x v : Operand) (t e : TypeId) (hop : o.op = Op.mapUpdate t m x v) (ht : Tryd.prog.underlying t = some (.map 62 e)) (b n : Nat) (F : Nat → Nat → Option Value)
    (hm : ac.eval m = .map (some b)) (h : MapFp okv w b n F) (hn : n < maxLen) (d a : Nat) (hd : d < 4611686018427387904) (ha : a < 4611686018427387904) (val : Value) (hx : ac.eval x = pkey d a) (hv : ac.eval v = val) (hpv : okv val = true)
    (hK : ∀ w', MapFp okv w' b (n + 1) (putF F d a val) → w.grownBy w' (some b) → w'.heap.size = w.heap.size → wpList Tryd.prog ops Q rest (ac.put o.dst undef) w') :
    wpList Tryd.prog ops Q (o :: rest) ac w := by
  refine wpList_plain hg fun K' hK' => ?_
  obtain ⟨w', hrun, r1, r2, r3⟩ := h.put ht hn hd ha val hpv
  unfold Oper.wp
  simp [execOp, hop, hm, hx, hv, hrun, Result.andThen]
  exact hK' _ _ (hK w' r1 r2 r3)
end
end Go.Proofs.YtikenhcglbfgpaaDoor
