/-
  Sectors, as plain mathematics: what is in one, what is told of one. No conditions.
-/
import Derived.Test.YtikenhcglbfgpaaDoorPackBothM
import Derived.Test.YtikenhcglbfgpaaDoorShaOpen
import Derived.Test.YtikenhcglbfgpaaDoorRows
import Derived.Test.YtikenhcglbfgpaaDoorChecked
import Derived.ProofKit
import Derived.LaidMore
import Derived.OpenShut
import Derived.Stop.Joined
namespace Go.Proofs.YtikenhcglbfgpaaDoor
set_option maxRecDepth 100000
open Go Go.RowKit
set_option linter.unusedVariables false
/-- a sum's 32 bytes -/
def sumL (L : List Nat) : List Nat := (List.range 32).map (M.sum L.length (lst L))
theorem sumL_length (L : List Nat) : (sumL L).length = 32 := by simp [sumL]
theorem sumL_lt (L : List Nat) : ∀ b ∈ sumL L, b < 256 := fun b h => by
  obtain ⟨j, _, rfl⟩ := List.mem_map.1 h
  exact M.sum_lt _ _ _
theorem lst_sumL {L : List Nat} {j : Nat} (h : j < 32) : lst (sumL L) j = M.sum L.length (lst L) j := by
  unfold lst sumL
  rw [List.getD_eq_getElem?_getD, List.getElem?_map, List.getElem?_range h]
  rfl
theorem lst_app (L R : List Nat) (j : Nat) : lst (L ++ R) j = if j < L.length then lst L j else lst R (j - L.length) := by
  unfold lst
  rw [List.getD_eq_getElem?_getD, List.getD_eq_getElem?_getD, List.getD_eq_getElem?_getD]
  by_cases h : j < L.length
  · rw [if_pos h, List.getElem?_append_left h]
  · rw [if_neg h, List.getElem?_append_right (by omega)]
theorem lst_in {L : List Nat} {j : Nat} (h : j < L.length) : L[j]? = some (lst L j) := by
  unfold lst
  rw [List.getD_eq_getElem?_getD, List.getElem?_eq_getElem h]
  rfl
theorem list_ext_lst {L R : List Nat} (hl : L.length = R.length) (h : ∀ j, j < L.length → lst L j = lst R j) : L = R := by
  apply List.ext_getElem?
  intro j
  by_cases hj : j < L.length
  · rw [lst_in hj, lst_in (by omega), h j hj]
  · rw [List.getElem?_eq_none (by omega), List.getElem?_eq_none (by omega)]
/-- bytes, and their sum behind -/
theorem cat_sum (L : List Nat) (j : Nat) (h : j < L.length + 32) : cat L.length (lst L) (M.sum L.length (lst L)) j = lst (L ++ sumL L) j := by
  rw [lst_app]
  unfold cat
  by_cases h1 : j < L.length
  · rw [if_pos h1, if_pos h1]
  · rw [if_neg h1, if_neg h1, lst_sumL (by omega)]
theorem strB_sum (L : List Nat) : strB 32 (M.sum L.length (lst L)) = K.txt (sumL L) := by
  rw [← strB_lst, sumL_length]
  exact strB_congr fun j hj => (lst_sumL hj).symm
/-- a sector of bytes -/
def secB (L : List Nat) : List Nat := (L.length + 32) :: (L ++ sumL L) ++ List.replicate (95 - L.length) 0
theorem secB_length {L : List Nat} (h : L.length ≤ 95) : (secB L).length = 128 := by
  unfold secB
  simp [sumL_length]
  omega
theorem secB_lt {L : List Nat} (h : L.length ≤ 95) (hL : ∀ b ∈ L, b < 256) : ∀ b ∈ secB L, b < 256 := fun b hb => by
  unfold secB at hb
  rcases List.mem_append.1 hb with h1 | h1
  · rcases List.mem_cons.1 h1 with rfl | h1
    · omega
    · rcases List.mem_append.1 h1 with h1 | h1
      · exact hL b h1
      · exact sumL_lt L b h1
  · have := (List.mem_replicate.1 h1).2
    omega
/-- what 'Sector' answers -/
def secE (l : List K.It) : Int := if K.fault l ≠ 0 then K.fault l else if 95 < (K.encs l).length then 14 else 0
def secL (l : List K.It) : List Nat := if secE l = 0 then secB (K.encs l) else []
theorem secE_zero {l : List K.It} (h : secE l = 0) : K.fault l = 0 ∧ (K.encs l).length ≤ 95 := by
  unfold secE at h
  by_cases h1 : K.fault l = 0
  · rw [if_neg (fun q => q h1)] at h
    by_cases h2 : 95 < (K.encs l).length
    · rw [if_pos h2] at h; cases h
    · exact ⟨h1, by omega⟩
  · rw [if_pos h1] at h
    exact absurd h h1
theorem secE_ok {l : List K.It} (h1 : K.fault l = 0) (h2 : (K.encs l).length ≤ 95) : secE l = 0 := by
  unfold secE
  rw [if_neg (fun q => q h1), if_neg (by omega)]
/-- the bytes between the count and the noughts -/
def bodyL (L : List Nat) : List Nat := (L.take (1 + lst L 0)).drop 1
/-- what is in a sector, if it is one -/
noncomputable def unsB (L : List Nat) : Option (List Nat) := open Classical in
  if L.length = 128 ∧ lst L 0 ≤ 127 ∧ (∀ b ∈ L.drop (1 + lst L 0), b = 0) ∧ 32 ≤ (bodyL L).length ∧ sealed (bodyL L).length (lst (bodyL L)) then some ((bodyL L).take ((bodyL L).length - 32)) else none
noncomputable def unsL (L : List Nat) : List K.It := match unsB L with | none => [] | some M => outL M
noncomputable def unsE (L : List Nat) : Int := match unsB L with | none => 2 | some M => outE M
theorem lst_take {L : List Nat} {n j : Nat} (h : j < n) : lst (L.take n) j = lst L j := by
  unfold lst
  rw [List.getD_eq_getElem?_getD, List.getD_eq_getElem?_getD, List.getElem?_take_of_lt h]
theorem sealed_app (L : List Nat) : sealed (L ++ sumL L).length (lst (L ++ sumL L)) := fun j hj => by
  have e : (L ++ sumL L).length - 32 = L.length := by simp [sumL_length]
  rw [e, M.sum_congr (Y := lst L) (fun k hk => by rw [lst_app, if_pos hk]), lst_app, if_neg (by omega), show L.length + j - L.length = j by omega, lst_sumL hj]
theorem sealed_eq {B : List Nat} (h32 : 32 ≤ B.length) (hs : sealed B.length (lst B)) : B = B.take (B.length - 32) ++ sumL (B.take (B.length - 32)) := by
  have hl : (B.take (B.length - 32)).length = B.length - 32 := by rw [List.length_take]; omega
  refine list_ext_lst (by rw [List.length_append, hl, sumL_length]; omega) fun j hj => ?_
  rw [lst_app, hl]
  by_cases h : j < B.length - 32
  · rw [if_pos h, lst_take h]
  · rw [if_neg h, lst_sumL (by omega), hl, M.sum_congr (Y := lst B) (fun k hk => lst_take hk), hs (j - (B.length - 32)) (by omega), show B.length - 32 + (j - (B.length - 32)) = j by omega]
theorem bodyL_sec {L : List Nat} : bodyL (secB L) = L ++ sumL L := by
  have e0 : lst (secB L) 0 = L.length + 32 := rfl
  unfold bodyL
  rw [e0]
  unfold secB
  rw [show 1 + (L.length + 32) = (L.length + 32) + 1 by omega, List.cons_append, List.take_succ_cons, List.drop_succ_cons, List.drop_zero, List.take_append_of_le_length (by simp [sumL_length]), List.take_of_length_le (by simp [sumL_length])]
theorem unsB_sec {L : List Nat} (h : L.length ≤ 95) : unsB (secB L) = some L := by
  have e0 : lst (secB L) 0 = L.length + 32 := rfl
  have eb := bodyL_sec (L := L)
  have hl : (L ++ sumL L).length = L.length + 32 := by simp [sumL_length]
  unfold unsB
  rw [if_pos ?_]
  · rw [eb, hl, show L.length + 32 - 32 = L.length by omega, List.take_append_of_le_length (Nat.le_refl _), List.take_of_length_le (Nat.le_refl _)]
  · refine ⟨secB_length h, by rw [e0]; omega, fun b hb => ?_, by rw [eb, hl]; omega, by rw [eb]; exact sealed_app L⟩
    rw [e0] at hb
    unfold secB at hb
    rw [show 1 + (L.length + 32) = (L.length + 32) + 1 by omega, List.cons_append, List.drop_succ_cons, List.drop_append_of_le_length (by simp [sumL_length]), List.drop_of_length_le (by simp [sumL_length])] at hb
    exact (List.mem_replicate.1 (by simpa using hb)).2
/-- what is told is in the sector's form -/
theorem unsB_back {L N : List Nat} (h : unsB L = some N) : N.length ≤ 95 ∧ L = secB N := by
  unfold unsB at h
  split at h
  · rename_i hc
    obtain ⟨h1, h2, h3, h4, h5⟩ := hc
    injection h with h
    have hb := sealed_eq h4 h5
    have hbl : (bodyL L).length = lst L 0 := by unfold bodyL; rw [List.length_drop, List.length_take]; omega
    rw [hbl] at hb h
    have hn : N.length = lst L 0 - 32 := by rw [← h, List.length_take, hbl]; omega
    rw [h] at hb
    refine ⟨by omega, ?_⟩
    have e1 : L = L.take (1 + lst L 0) ++ L.drop (1 + lst L 0) := (List.take_append_drop _ _).symm
    have e2 : L.drop (1 + lst L 0) = List.replicate (95 - N.length) 0 := by
      refine List.eq_replicate_iff.2 ⟨?_, h3⟩
      rw [List.length_drop]
      omega
    have e3 : L.take (1 + lst L 0) = lst L 0 :: bodyL L := by
      unfold bodyL
      cases L with
      | nil => simp at h1
      | cons a t => rw [show 1 + lst (a :: t) 0 = lst (a :: t) 0 + 1 by omega, List.take_succ_cons]; rfl
    unfold secB
    rw [← hb, show N.length + 32 = lst L 0 by rw [hbl] at h4; omega, ← e3, ← e2]
    exact e1
  · cases h
theorem secL_back {l : List K.It} (h : secE l = 0) (hg : ∀ x ∈ l, K.Fits x) : unsL (secL l) = l ∧ unsE (secL l) = 0 := by
  obtain ⟨h1, h2⟩ := secE_zero h
  have hr := K.fault_ok h1
  have hd := K.decs_enc 2000 l hr.1 hr.2 hg
  unfold secL unsL unsE
  rw [if_pos h, unsB_sec h2]
  show (K.decs 2000 (K.encs l)).getD [] = l ∧ (if (K.decs 2000 (K.encs l)).isSome then (0 : Int) else 2) = 0
  rw [hd]
  exact ⟨rfl, rfl⟩
end Go.Proofs.YtikenhcglbfgpaaDoor
namespace Go.Proofs.YtikenhcglbfgpaaDoor
set_option maxRecDepth 100000
open Go Go.RowKit
set_option linter.unusedVariables false

namespace K
structure Pt where
  a : Int
  z : Int
  b : Int
  s : ByteArray
def okP (p : Pt) : Bool := decide (0 ≤ p.a ∧ 1 ≤ p.z ∧ p.z ≤ 1024 ∧ 0 ≤ p.b ∧ p.s.size = 32)
def itsP (p : Pt) : List It := [⟨1, p.a, ⟨#[]⟩⟩, ⟨1, p.z, ⟨#[]⟩⟩, ⟨1, p.b, ⟨#[]⟩⟩, ⟨2, 0, p.s⟩]
def ptrS (p : Pt) : ByteArray := if okP p then txt (encs (itsP p)) else ⟨#[]⟩
def ptrE (p : Pt) : Int := if okP p then 0 else 2
def FitP (p : Pt) : Prop := (-9223372036854775808 ≤ p.a ∧ p.a ≤ 9223372036854775807) ∧ (-9223372036854775808 ≤ p.z ∧ p.z ≤ 9223372036854775807) ∧ (-9223372036854775808 ≤ p.b ∧ p.b ≤ 9223372036854775807) ∧ p.s.size ≤ maxLen
theorem itsP_right {p : Pt} (h : okP p = true) : fault (itsP p) = 0 := by
  unfold okP at h
  have h := of_decide_eq_true h
  refine fault_right (by simp [itsP]) fun x hx => ?_
  simp only [itsP, List.mem_cons, List.not_mem_nil, or_false] at hx
  rcases hx with rfl | rfl | rfl | rfl
  · exact ⟨by simp [formed], by simp [big]⟩
  · exact ⟨by simp [formed], by simp [big]⟩
  · exact ⟨by simp [formed], by simp [big]⟩
  · exact ⟨by simp [formed], by simp [big]; omega⟩
end K
theorem itsP_good {p : K.Pt} (h : K.FitP p) : ∀ x ∈ K.itsP p, Good x := by
  obtain ⟨h1, h2, h3, h4⟩ := h
  intro x hx
  simp only [K.itsP, List.mem_cons, List.not_mem_nil, or_false] at hx
  rcases hx with rfl | rfl | rfl | rfl
  · exact ⟨h1, by show (0 : Nat) ≤ maxLen; omega⟩
  · exact ⟨h2, by show (0 : Nat) ≤ maxLen; omega⟩
  · exact ⟨h3, by show (0 : Nat) ≤ maxLen; omega⟩
  · exact ⟨⟨by show (-9223372036854775808 : Int) ≤ 0; omega, by show (0 : Int) ≤ 9223372036854775807; omega⟩, h4⟩
def ptA (p : K.Pt) : Array Value := #[.int .i64 p.a, .int .i64 p.z, .int .i64 p.b, .string p.s]

theorem itsP_cells (a z b : Int) (s : ByteArray) : (icells (K.itsP ⟨a, z, b, s⟩)).toArray = #[.int .i64 1, .int .i64 a, .string ⟨#[]⟩, .int .i64 1, .int .i64 z, .string ⟨#[]⟩, .int .i64 1, .int .i64 b, .string ⟨#[]⟩, .int .i64 2, .int .i64 0, .string s] := rfl
end Go.Proofs.YtikenhcglbfgpaaDoor
namespace Go.Proofs.YtikenhcglbfgpaaDoor
set_option maxRecDepth 100000
open Go Go.RowKit
set_option linter.unusedVariables false

namespace K
def zeroP : Pt := ⟨0, 0, 0, ⟨#[]⟩⟩
def ofIts : List It → Option Pt
  | [x0, x1, x2, x3] => if x0.k = 1 ∧ x2.k = 1 ∧ okP ⟨x0.n, x1.n, x2.n, x3.s⟩ = true then some ⟨x0.n, x1.n, x2.n, x3.s⟩ else none
  | _ => none
/-- the pointer of bytes -/
def unP (L : List Nat) : Option Pt := (decs 2000 L).bind ofIts
theorem ofIts_short {l : List It} (h : l.length ≠ 4) : ofIts l = none := by
  match l, h with
  | [], _ => rfl
  | [_], _ => rfl
  | [_, _], _ => rfl
  | [_, _, _], _ => rfl
  | [_, _, _, _], h => exact absurd rfl h
  | _ :: _ :: _ :: _ :: _ :: _, _ => rfl
theorem its_eq {x0 x1 x2 x3 : It} (r0 : Right x0) (r1 : Right x1) (r2 : Right x2) (r3 : Right x3) (h : okP ⟨x0.n, x1.n, x2.n, x3.s⟩ = true) : itsP ⟨x0.n, x1.n, x2.n, x3.s⟩ = [x0, x1, x2, x3] ↔ x0.k = 1 ∧ x2.k = 1 := by
  unfold okP at h
  have h := of_decide_eq_true h
  dsimp only at h
  constructor
  · intro e
    unfold itsP at e
    injection e with e0 e
    injection e with e1 e
    injection e with e2 e
    exact ⟨by rw [← e0], by rw [← e2]⟩
  · rintro ⟨h0, h2⟩
    obtain ⟨k0, n0, s0⟩ := x0
    obtain ⟨k1, n1, s1⟩ := x1
    obtain ⟨k2, n2, s2⟩ := x2
    obtain ⟨k3, n3, s3⟩ := x3
    dsimp only at h0 h2 h
    have c0 := r0.cases
    have c1 := r1.cases
    have c2 := r2.cases
    have c3 := r3.cases
    dsimp only at c0 c1 c2 c3
    have q0 : s0 = ⟨#[]⟩ := by rcases c0 with c | c; exact c.2; omega
    have q1 : k1 = 1 ∧ s1 = ⟨#[]⟩ := by rcases c1 with c | c; exact c; omega
    have q2 : s2 = ⟨#[]⟩ := by rcases c2 with c | c; exact c.2; omega
    have q3 : k3 = 2 ∧ n3 = 0 := by
      rcases c3 with c | c
      · rw [c.2] at h
        have : (⟨#[]⟩ : ByteArray).size = 0 := rfl
        omega
      · exact ⟨c.1, c.2.1⟩
    obtain ⟨q1, q1'⟩ := q1
    obtain ⟨q3, q3'⟩ := q3
    subst h0 h2 q0 q1 q1' q2 q3 q3'
    rfl
end K
/-- what the texts' readers answer -/
def UnOut (L : List Nat) (e : Ending) : Prop :=
  (K.unP L = none ∧ e = .returned (.tuple #[.agg (ptA K.zeroP), .int .i64 2])) ∨ ∃ p, K.unP L = some p ∧ K.FitP p ∧ K.okP p = true ∧ e = .returned (.tuple #[.agg (ptA p), .int .i64 0])
theorem results_cell2 {fn : Func} {t s : Tmp} {ty : TypeId} (h : fn.results = #[.cell t ty, .tmp s]) {tmps : Array Value} {g : Nat} {v v1 : Value} {w : World} (hp : tmps.getD t undef = .pointer (some ⟨g, 0, none⟩)) (hl : (loadVar ty ⟨g, 0, none⟩).run Tryd.prog w = .ok v w) (h1 : tmps.getD s undef = v1) :
    (results fn tmps).run Tryd.prog w = .ok (.tuple #[v, v1]) w := by
  have hp2 : tmps[t]?.getD undef = .pointer (some ⟨g, 0, none⟩) := by rw [← hp]; simp
  have h12 : tmps[s]?.getD undef = v1 := by rw [← h1]; simp
  simp [results, h]
  rw [hp2]
  simp [asAddr, hl, h12]
theorem wpList_conv_s {w : World} {ops : Array Oper} {rest : List Oper} {o : Oper} {a : Act} {Q : Exit → Act → World → Prop} (hgd : o.guard = none) (x : Operand) (ho : o.op = .convert 9 38 x) {s : ByteArray} (hx : a.eval x = .string s) (hn : s.size ≤ maxLen)
    (h : ∀ A c w', RdB w' w'.heap.size A (K.sb s).length (lst (K.sb s)) → (K.sb s).length ≤ c → c ≤ maxLen → Below w.heap.size w w' → wpList Tryd.prog ops Q rest (a.put o.dst (.slice A (K.sb s).length c)) w') : wpList Tryd.prog ops Q (o :: rest) a w := by
  have hx2 : a.eval x = .string (strB s.size (lst (K.sb s))) := by rw [str_is]; exact hx
  refine wpList_conv_str hgd x ho hx2 (fun j _ => lst_lt (K.sb_lt s) j) hn fun c w' h1 h2 => ?_
  have hl := K.sb_length s
  obtain ⟨A, c', e, hr, hlc, hcm, _, _⟩ := h1.shape (fun j _ => lst_lt (K.sb_lt s) j)
  injection e with e1 e2 e3
  subst e3
  rw [e1]
  rw [← hl] at hr hlc ⊢
  exact h A c w' hr hlc hcm h2
end Go.Proofs.YtikenhcglbfgpaaDoor
namespace Go.Proofs.YtikenhcglbfgpaaDoor
set_option maxRecDepth 100000
open Go Go.RowKit
set_option linter.unusedVariables false

theorem decs_right {L : List Nat} {l : List K.It} (hL : ∀ b ∈ L, b < 256) (h : K.decs 2000 L = some l) : K.fault l = 0 ∧ L = K.encs l ∧ ∀ x ∈ l, Good x := by
  obtain ⟨h1, h2, h3, h4⟩ := K.decs_back 2000 L l hL h
  refine ⟨K.fault_right h2 h3, h1, fun x hx => ⟨h4 x hx, ?_⟩⟩
  rcases (h3 x hx).cases with ⟨_, e⟩ | ⟨_, _, e⟩
  · rw [e]; show (0 : Nat) ≤ maxLen; omega
  · unfold maxLen; omega
def set4 (w : World) (g : Nat) (a b c d : Value) : World := (((w.setCell ⟨g, 0, none⟩ a).setCell ⟨g, 1, none⟩ b).setCell ⟨g, 2, none⟩ c).setCell ⟨g, 3, none⟩ d
theorem set4_below {w0 w : World} {base g : Nat} (h : Below base w0 w) (hg : base ≤ g) (a b c d : Value) : Below base w0 (set4 w g a b c d) :=
  (((h.setCell (p := ⟨g, 0, none⟩) hg a).setCell (p := ⟨g, 1, none⟩) hg b).setCell (p := ⟨g, 2, none⟩) hg c).setCell (p := ⟨g, 3, none⟩) hg d
end Go.Proofs.YtikenhcglbfgpaaDoor
namespace Go.Proofs.YtikenhcglbfgpaaDoor
set_option maxRecDepth 100000
open Go Go.ChangeShapes Go.WideShapes Go.ChangeAt Go.RowKit
set_option linter.unusedVariables false

def laidL : List (String × DataW Unit) := [("hoard/sha.roots", Rows.laid_hoard_sha_roots)]
theorem gRoots : Tryd.prog.globalNamed "hoard/sha.roots" = some 0 := by kernel_rfl
theorem tRoots : (Tryd.prog.globals[0]?).map (·.type) = some 107 := by kernel_rfl
theorem door_met (os : Os) (args : Array Value) : laidMetH Tryd.prog laidL ((World.doorLaid Tryd.prog 400 os).forCall (fun _ _ => 0) ⟨#[], args, []⟩).memory :=
  laidMetH_of_parts3 (fuel := 8) (laidMet_of_run' 8 (by kernel_rfl) (by kernel_rfl)) (by kernel_rfl) (by kernel_rfl)
theorem roots_lits : (Rows.laid_hoard_sha_roots : DataW Unit) = .agg ((List.range 64).map fun t => .lit (.int .u32 ((M.rt t : Nat) : Int))) := by kernel_rfl
theorem laid_of {W : World} (h : laidMetH Tryd.prog laidL W) : Laid W := by
  rw [MakeChecks.laidMetH_plain _ _ _ (by kernel_rfl)] at h
  obtain ⟨ps, ⟨g0, t0, cs0, f0, p0, q0, hg0, ht0, hv0, hd0, _, _⟩, _, _⟩ := h
  obtain rfl := Option.some.inj (gRoots.symm.trans hg0)
  obtain rfl := Option.some.inj (tRoots.symm.trans ht0)
  obtain ⟨xs, m1, rfl, hx1, hlen, hn3, hel⟩ := DataW.trod_array Tryd.underlying107 hd0
  have c1 : Tryd.prog.cellsOf 96 = 1 := by kernel_rfl
  rw [roots_lits] at hx1
  simp only [Prod.mk.injEq, DataW.agg.injEq] at hx1
  intro t ht
  have h0 := hel t ht
  have hlx : t < xs.length := by omega
  rw [List.getElem?_eq_getElem hlx] at h0
  obtain ⟨k, e1, e2, _⟩ := DataW.trod_int Tryd.underlying96 h0
  have hk : k = ((M.rt t : Nat) : Int) := by
    have h1 := congrArg (fun l => l[t]?) hx1.1
    simp [hlx, ht, e2] at h1
    first | exact h1 | exact h1.symm
  have h2 := World.var?_cell hg0 hv0 t
  rw [h2]
  rw [c1, Nat.mul_one] at e1
  have h3 := congrArg (fun l => l[0]?) e1
  simp at h3
  rw [h3, hk]
end Go.Proofs.YtikenhcglbfgpaaDoor
