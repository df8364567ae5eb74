/-
  Sectors, as plain mathematics: what is in one, what is told of one. No conditions.
-/
import Derived.Test.YthioanenljpclaaGreatDoorShaSpreadM
import Derived.Test.YthioanenljpclaaGreatDoorShaOpenM
namespace Go.Proofs.YthioanenljpclaaGreatDoor
set_option maxRecDepth 100000
open Go Go.RowKit
set_option linter.unusedVariables false
/-- a sum's 32 bytes -/
def sumL (L : List Nat) : List Nat := (List.range 32).map (M.sum L.length (lst L))
theorem sumL_length (L : List Nat) : (sumL L).length = 32 := by simp [sumL]
theorem sumL_lt (L : List Nat) : ∀ b ∈ sumL L, b < 256 := fun b h => by
  obtain ⟨j, _, rfl⟩ := List.mem_map.1 h
  exact M.sum_lt _ _ _
theorem lst_sumL {L : List Nat} {j : Nat} (h : j < 32) : lst (sumL L) j = M.sum L.length (lst L) j := by
  unfold lst sumL
  rw [List.getD_eq_getElem?_getD, List.getElem?_map, List.getElem?_range h]
  rfl
theorem lst_app (L R : List Nat) (j : Nat) : lst (L ++ R) j = if j < L.length then lst L j else lst R (j - L.length) := by
  unfold lst
  rw [List.getD_eq_getElem?_getD, List.getD_eq_getElem?_getD, List.getD_eq_getElem?_getD]
  by_cases h : j < L.length
  · rw [if_pos h, List.getElem?_append_left h]
  · rw [if_neg h, List.getElem?_append_right (by omega)]
theorem lst_in {L : List Nat} {j : Nat} (h : j < L.length) : L[j]? = some (lst L j) := by
  unfold lst
  rw [List.getD_eq_getElem?_getD, List.getElem?_eq_getElem h]
  rfl
theorem list_ext_lst {L R : List Nat} (hl : L.length = R.length) (h : ∀ j, j < L.length → lst L j = lst R j) : L = R := by
  apply List.ext_getElem?
  intro j
  by_cases hj : j < L.length
  · rw [lst_in hj, lst_in (by omega), h j hj]
  · rw [List.getElem?_eq_none (by omega), List.getElem?_eq_none (by omega)]
/-- bytes, and their sum behind -/
theorem cat_sum (L : List Nat) (j : Nat) (h : j < L.length + 32) : cat L.length (lst L) (M.sum L.length (lst L)) j = lst (L ++ sumL L) j := by
  rw [lst_app]
  unfold cat
  by_cases h1 : j < L.length
  · rw [if_pos h1, if_pos h1]
  · rw [if_neg h1, if_neg h1, lst_sumL (by omega)]
theorem strB_sum (L : List Nat) : strB 32 (M.sum L.length (lst L)) = K.txt (sumL L) := by
  rw [← strB_lst, sumL_length]
  exact strB_congr fun j hj => (lst_sumL hj).symm
/-- a sector of bytes -/
def secB (L : List Nat) : List Nat := (L.length + 32) :: (L ++ sumL L) ++ List.replicate (95 - L.length) 0
theorem secB_length {L : List Nat} (h : L.length ≤ 95) : (secB L).length = 128 := by
  unfold secB
  simp [sumL_length]
  omega
theorem secB_lt {L : List Nat} (h : L.length ≤ 95) (hL : ∀ b ∈ L, b < 256) : ∀ b ∈ secB L, b < 256 := fun b hb => by
  unfold secB at hb
  rcases List.mem_append.1 hb with h1 | h1
  · rcases List.mem_cons.1 h1 with rfl | h1
    · omega
    · rcases List.mem_append.1 h1 with h1 | h1
      · exact hL b h1
      · exact sumL_lt L b h1
  · have := (List.mem_replicate.1 h1).2
    omega
/-- what 'Sector' answers -/
def secE (l : List K.It) : Int := if K.fault l ≠ 0 then K.fault l else if 95 < (K.encs l).length then 14 else 0
def secL (l : List K.It) : List Nat := if secE l = 0 then secB (K.encs l) else []
theorem secE_zero {l : List K.It} (h : secE l = 0) : K.fault l = 0 ∧ (K.encs l).length ≤ 95 := by
  unfold secE at h
  by_cases h1 : K.fault l = 0
  · rw [if_neg (fun q => q h1)] at h
    by_cases h2 : 95 < (K.encs l).length
    · rw [if_pos h2] at h; cases h
    · exact ⟨h1, by omega⟩
  · rw [if_pos h1] at h
    exact absurd h h1
theorem secE_ok {l : List K.It} (h1 : K.fault l = 0) (h2 : (K.encs l).length ≤ 95) : secE l = 0 := by
  unfold secE
  rw [if_neg (fun q => q h1), if_neg (by omega)]
/-- the bytes between the count and the noughts -/
def bodyL (L : List Nat) : List Nat := (L.take (1 + lst L 0)).drop 1
/-- what is in a sector, if it is one -/
noncomputable def unsB (L : List Nat) : Option (List Nat) := open Classical in
  if L.length = 128 ∧ lst L 0 ≤ 127 ∧ (∀ b ∈ L.drop (1 + lst L 0), b = 0) ∧ 32 ≤ (bodyL L).length ∧ sealed (bodyL L).length (lst (bodyL L)) then some ((bodyL L).take ((bodyL L).length - 32)) else none
noncomputable def unsL (L : List Nat) : List K.It := match unsB L with | none => [] | some M => outL M
noncomputable def unsE (L : List Nat) : Int := match unsB L with | none => 2 | some M => outE M
theorem lst_take {L : List Nat} {n j : Nat} (h : j < n) : lst (L.take n) j = lst L j := by
  unfold lst
  rw [List.getD_eq_getElem?_getD, List.getD_eq_getElem?_getD, List.getElem?_take_of_lt h]
theorem sealed_app (L : List Nat) : sealed (L ++ sumL L).length (lst (L ++ sumL L)) := fun j hj => by
  have e : (L ++ sumL L).length - 32 = L.length := by simp [sumL_length]
  rw [e, M.sum_congr (Y := lst L) (fun k hk => by rw [lst_app, if_pos hk]), lst_app, if_neg (by omega), show L.length + j - L.length = j by omega, lst_sumL hj]
theorem sealed_eq {B : List Nat} (h32 : 32 ≤ B.length) (hs : sealed B.length (lst B)) : B = B.take (B.length - 32) ++ sumL (B.take (B.length - 32)) := by
  have hl : (B.take (B.length - 32)).length = B.length - 32 := by rw [List.length_take]; omega
  refine list_ext_lst (by rw [List.length_append, hl, sumL_length]; omega) fun j hj => ?_
  rw [lst_app, hl]
  by_cases h : j < B.length - 32
  · rw [if_pos h, lst_take h]
  · rw [if_neg h, lst_sumL (by omega), hl, M.sum_congr (Y := lst B) (fun k hk => lst_take hk), hs (j - (B.length - 32)) (by omega), show B.length - 32 + (j - (B.length - 32)) = j by omega]
theorem bodyL_sec {L : List Nat} : bodyL (secB L) = L ++ sumL L := by
  have e0 : lst (secB L) 0 = L.length + 32 := rfl
  unfold bodyL
  rw [e0]
  unfold secB
  rw [show 1 + (L.length + 32) = (L.length + 32) + 1 by omega, List.cons_append, List.take_succ_cons, List.drop_succ_cons, List.drop_zero, List.take_append_of_le_length (by simp [sumL_length]), List.take_of_length_le (by simp [sumL_length])]
theorem unsB_sec {L : List Nat} (h : L.length ≤ 95) : unsB (secB L) = some L := by
  have e0 : lst (secB L) 0 = L.length + 32 := rfl
  have eb := bodyL_sec (L := L)
  have hl : (L ++ sumL L).length = L.length + 32 := by simp [sumL_length]
  unfold unsB
  rw [if_pos ?_]
  · rw [eb, hl, show L.length + 32 - 32 = L.length by omega, List.take_append_of_le_length (Nat.le_refl _), List.take_of_length_le (Nat.le_refl _)]
  · refine ⟨secB_length h, by rw [e0]; omega, fun b hb => ?_, by rw [eb, hl]; omega, by rw [eb]; exact sealed_app L⟩
    rw [e0] at hb
    unfold secB at hb
    rw [show 1 + (L.length + 32) = (L.length + 32) + 1 by omega, List.cons_append, List.drop_succ_cons, List.drop_append_of_le_length (by simp [sumL_length]), List.drop_of_length_le (by simp [sumL_length])] at hb
    exact (List.mem_replicate.1 (by simpa using hb)).2
/-- what is told is in the sector's form -/
theorem unsB_back {L N : List Nat} (h : unsB L = some N) : N.length ≤ 95 ∧ L = secB N := by
  unfold unsB at h
  split at h
  · rename_i hc
    obtain ⟨h1, h2, h3, h4, h5⟩ := hc
    injection h with h
    have hb := sealed_eq h4 h5
    have hbl : (bodyL L).length = lst L 0 := by unfold bodyL; rw [List.length_drop, List.length_take]; omega
    rw [hbl] at hb h
    have hn : N.length = lst L 0 - 32 := by rw [← h, List.length_take, hbl]; omega
    rw [h] at hb
    refine ⟨by omega, ?_⟩
    have e1 : L = L.take (1 + lst L 0) ++ L.drop (1 + lst L 0) := (List.take_append_drop _ _).symm
    have e2 : L.drop (1 + lst L 0) = List.replicate (95 - N.length) 0 := by
      refine List.eq_replicate_iff.2 ⟨?_, h3⟩
      rw [List.length_drop]
      omega
    have e3 : L.take (1 + lst L 0) = lst L 0 :: bodyL L := by
      unfold bodyL
      cases L with
      | nil => simp at h1
      | cons a t => rw [show 1 + lst (a :: t) 0 = lst (a :: t) 0 + 1 by omega, List.take_succ_cons]; rfl
    unfold secB
    rw [← hb, show N.length + 32 = lst L 0 by rw [hbl] at h4; omega, ← e3, ← e2]
    exact e1
  · cases h
theorem secL_back {l : List K.It} (h : secE l = 0) (hg : ∀ x ∈ l, K.Fits x) : unsL (secL l) = l ∧ unsE (secL l) = 0 := by
  obtain ⟨h1, h2⟩ := secE_zero h
  have hr := K.fault_ok h1
  have hd := K.decs_enc 2000 l hr.1 hr.2 hg
  unfold secL unsL unsE
  rw [if_pos h, unsB_sec h2]
  show (K.decs 2000 (K.encs l)).getD [] = l ∧ (if (K.decs 2000 (K.encs l)).isSome then (0 : Int) else 2) = 0
  rw [hd]
  exact ⟨rfl, rfl⟩
end Go.Proofs.YthioanenljpclaaGreatDoor
namespace Go.Proofs.YthioanenljpclaaGreatDoor
set_option maxRecDepth 100000
open Go Go.RowKit
set_option linter.unusedVariables false

namespace K
structure Pt where
  a : Int
  z : Int
  b : Int
  s : ByteArray
def okP (p : Pt) : Bool := decide (0 ≤ p.a ∧ 1 ≤ p.z ∧ p.z ≤ 1024 ∧ 0 ≤ p.b ∧ p.s.size = 32)
def itsP (p : Pt) : List It := [⟨1, p.a, ⟨#[]⟩⟩, ⟨1, p.z, ⟨#[]⟩⟩, ⟨1, p.b, ⟨#[]⟩⟩, ⟨2, 0, p.s⟩]
def ptrS (p : Pt) : ByteArray := if okP p then txt (encs (itsP p)) else ⟨#[]⟩
def ptrE (p : Pt) : Int := if okP p then 0 else 2
def FitP (p : Pt) : Prop := (-9223372036854775808 ≤ p.a ∧ p.a ≤ 9223372036854775807) ∧ (-9223372036854775808 ≤ p.z ∧ p.z ≤ 9223372036854775807) ∧ (-9223372036854775808 ≤ p.b ∧ p.b ≤ 9223372036854775807) ∧ p.s.size ≤ maxLen
theorem itsP_right {p : Pt} (h : okP p = true) : fault (itsP p) = 0 := by
  unfold okP at h
  have h := of_decide_eq_true h
  refine fault_right (by simp [itsP]) fun x hx => ?_
  simp only [itsP, List.mem_cons, List.not_mem_nil, or_false] at hx
  rcases hx with rfl | rfl | rfl | rfl
  · exact ⟨by simp [formed], by simp [big]⟩
  · exact ⟨by simp [formed], by simp [big]⟩
  · exact ⟨by simp [formed], by simp [big]⟩
  · exact ⟨by simp [formed], by simp [big]; omega⟩
end K
theorem itsP_good {p : K.Pt} (h : K.FitP p) : ∀ x ∈ K.itsP p, Good x := by
  obtain ⟨h1, h2, h3, h4⟩ := h
  intro x hx
  simp only [K.itsP, List.mem_cons, List.not_mem_nil, or_false] at hx
  rcases hx with rfl | rfl | rfl | rfl
  · exact ⟨h1, by show (0 : Nat) ≤ maxLen; omega⟩
  · exact ⟨h2, by show (0 : Nat) ≤ maxLen; omega⟩
  · exact ⟨h3, by show (0 : Nat) ≤ maxLen; omega⟩
  · exact ⟨⟨by show (-9223372036854775808 : Int) ≤ 0; omega, by show (0 : Int) ≤ 9223372036854775807; omega⟩, h4⟩
def ptA (p : K.Pt) : Array Value := #[.int .i64 p.a, .int .i64 p.z, .int .i64 p.b, .string p.s]

set_option maxHeartbeats 1600000 in
theorem pointed_any (p : K.Pt) (w : World) (hp : p.s.size ≤ maxLen) :
    Calls Tryz.prog 68 #[.agg (ptA p)] w fun e w' => e = .returned (.bool (K.okP p)) ∧ Below w.heap.size w w' := by
  obtain ⟨a, z, b, s⟩ := p
  unfold ptA
  dsimp only at hp ⊢
  have L1 : Hid (Below w.heap.size w (w.alloc (.cells #[.int .i64 a, .int .i64 z, .int .i64 b, .string s] 38))) := Lib.hid ((Below.refl _ _).alloc (Nat.le_refl _) _)
  unfold maxLen at hp
  by_cases ha : 0 ≤ a
  · by_cases hz1 : 1 ≤ z
    · by_cases hz2 : z ≤ 1024
      · by_cases hb : 0 ≤ b
        · by_cases h5 : s.size = 32
          · have HO : K.okP ⟨a, z, b, s⟩ = true := by simp [K.okP, ha, hz1, hz2, hb, h5]
            have t5 : ((s.size : Int) == 32) = true := by simp; omega
            rw [HO]
            clear h5 HO
            go_enter Tryz.func68, Tryz.ntmps68
            go_wp2
            go_ret
            exact ⟨ret_bool rfl, L1.out⟩
          · have HO : K.okP ⟨a, z, b, s⟩ = false := by simp [K.okP, h5]
            have t5 : ((s.size : Int) == 32) = false := by simp; omega
            rw [HO]
            clear h5 HO
            go_enter Tryz.func68, Tryz.ntmps68
            go_wp2
            go_ret
            exact ⟨ret_bool rfl, L1.out⟩
        · have HO : K.okP ⟨a, z, b, s⟩ = false := by simp [K.okP, hb]
          rw [HO]
          have hb : b < 0 := by omega
          clear HO
          go_enter Tryz.func68, Tryz.ntmps68
          go_wp2
          go_ret
          exact ⟨ret_bool rfl, L1.out⟩
      · have HO : K.okP ⟨a, z, b, s⟩ = false := by simp [K.okP, hz2]
        rw [HO]
        have hz2 : 1024 < z := by omega
        clear HO
        go_enter Tryz.func68, Tryz.ntmps68
        go_wp2
        go_ret
        exact ⟨ret_bool rfl, L1.out⟩
    · have HO : K.okP ⟨a, z, b, s⟩ = false := by simp [K.okP, hz1]
      rw [HO]
      have hz1 : z < 1 := by omega
      clear HO
      go_enter Tryz.func68, Tryz.ntmps68
      go_wp2
      go_ret
      exact ⟨ret_bool rfl, L1.out⟩
  · have HO : K.okP ⟨a, z, b, s⟩ = false := by simp [K.okP, ha]
    rw [HO]
    have ha : a < 0 := by omega
    clear HO
    go_enter Tryz.func68, Tryz.ntmps68
    go_wp2
    go_ret
    exact ⟨ret_bool rfl, L1.out⟩
set_option maxHeartbeats 1600000 in
theorem rightPtr_any (p : K.Pt) (w : World) (hp : p.s.size ≤ maxLen) :
    Calls Tryz.prog 59 #[.agg (ptA p)] w fun e w' => e = .returned (.bool (K.okP p)) ∧ Below w.heap.size w w' := by
  obtain ⟨a, z, b, s⟩ := p
  unfold ptA
  dsimp only at hp ⊢
  have L1 : Hid (Below w.heap.size w (w.alloc (.cells #[.int .i64 a, .int .i64 z, .int .i64 b, .string s] 38))) := Lib.hid ((Below.refl _ _).alloc (Nat.le_refl _) _)
  unfold maxLen at hp
  by_cases ha : 0 ≤ a
  · by_cases hb : 0 ≤ b
    · by_cases hz1 : 1 ≤ z
      · by_cases hz2 : z ≤ 1024
        · by_cases h5 : s.size = 32
          · have HO : K.okP ⟨a, z, b, s⟩ = true := by simp [K.okP, ha, hb, hz1, hz2, h5]
            have t5 : ((s.size : Int) == 32) = true := by simp; omega
            rw [HO]
            clear h5 HO
            go_enter Tryz.func59, Tryz.ntmps59
            go_wp2
            go_ret
            exact ⟨ret_bool rfl, L1.out⟩
          · have HO : K.okP ⟨a, z, b, s⟩ = false := by simp [K.okP, h5]
            have t5 : ((s.size : Int) == 32) = false := by simp; omega
            rw [HO]
            clear h5 HO
            go_enter Tryz.func59, Tryz.ntmps59
            go_wp2
            go_ret
            exact ⟨ret_bool rfl, L1.out⟩
        · have HO : K.okP ⟨a, z, b, s⟩ = false := by simp [K.okP, hz2]
          rw [HO]
          have hz2 : 1024 < z := by omega
          clear HO
          go_enter Tryz.func59, Tryz.ntmps59
          go_wp2
          go_ret
          exact ⟨ret_bool rfl, L1.out⟩
      · have HO : K.okP ⟨a, z, b, s⟩ = false := by simp [K.okP, hz1]
        rw [HO]
        have hz1 : z < 1 := by omega
        clear HO
        go_enter Tryz.func59, Tryz.ntmps59
        go_wp2
        go_ret
        exact ⟨ret_bool rfl, L1.out⟩
    · have HO : K.okP ⟨a, z, b, s⟩ = false := by simp [K.okP, hb]
      rw [HO]
      have hb : b < 0 := by omega
      clear HO
      go_enter Tryz.func59, Tryz.ntmps59
      go_wp2
      go_ret
      exact ⟨ret_bool rfl, L1.out⟩
  · have HO : K.okP ⟨a, z, b, s⟩ = false := by simp [K.okP, ha]
    rw [HO]
    have ha : a < 0 := by omega
    clear HO
    go_enter Tryz.func59, Tryz.ntmps59
    go_wp2
    go_ret
    exact ⟨ret_bool rfl, L1.out⟩
theorem isize_ptr : (Tryz.prog.info? 38).map (·.size) = some 4 := by kernel_rfl
theorem itsP_cells (a z b : Int) (s : ByteArray) : (icells (K.itsP ⟨a, z, b, s⟩)).toArray = #[.int .i64 1, .int .i64 a, .string ⟨#[]⟩, .int .i64 1, .int .i64 z, .string ⟨#[]⟩, .int .i64 1, .int .i64 b, .string ⟨#[]⟩, .int .i64 2, .int .i64 0, .string s] := rfl
set_option maxHeartbeats 1600000 in
theorem items_any (p : K.Pt) (w : World) :
    Calls Tryz.prog 61 #[.agg (ptA p)] w fun e w' => ∃ A c, e = .returned (.slice A 4 c) ∧ RdT w' w'.heap.size A (K.itsP p) ∧ 4 ≤ c ∧ c ≤ maxLen ∧ Below w.heap.size w w' := by
  obtain ⟨a, z, b, s⟩ := p
  unfold ptA
  dsimp only
  have L1 : Hid (Below w.heap.size w ((w.alloc (.cells #[.int .i64 a, .int .i64 z, .int .i64 b, .string s] 38)).alloc (.cells (icells (K.itsP ⟨a, z, b, s⟩)).toArray 104))) := Lib.hid (((Below.refl _ _).alloc (Nat.le_refl _) _).alloc (by simp) _)
  have R1 : Hid (RdT ((w.alloc (.cells #[.int .i64 a, .int .i64 z, .int .i64 b, .string s] 38)).alloc (.cells (icells (K.itsP ⟨a, z, b, s⟩)).toArray 104)) (w.heap.size + 1 + 1) (some ⟨w.heap.size + 1, 0, none⟩) (K.itsP ⟨a, z, b, s⟩)) := Lib.hid (by
    have h := rdi_new (w.alloc (.cells #[.int .i64 a, .int .i64 z, .int .i64 b, .string s] 38)) (K.itsP ⟨a, z, b, s⟩)
    rw [show (w.alloc (.cells #[.int .i64 a, .int .i64 z, .int .i64 b, .string s] 38)).heap.size = w.heap.size + 1 by simp] at h
    exact h)
  rw [itsP_cells] at L1 R1
  go_enter Tryz.func61, Tryz.ntmps61
  go_wp2
  go_ret
  exact ⟨_, _, rfl, by simpa using R1.out, by omega, by unfold maxLen; omega, L1.out⟩
set_option maxHeartbeats 1600000 in
theorem ptr_any (p : K.Pt) (w : World) (hp : K.FitP p) :
    Calls Tryz.prog 55 #[.agg (ptA p)] w fun e w' => e = .returned (.tuple #[.string (K.ptrS p), .int .i64 (K.ptrE p)]) ∧ Below w.heap.size w w' := by
  have HP := fun W => pointed_any p W hp.2.2.2
  have HG := Lib.hid (itsP_good hp)
  have HPH := Lib.hid HP
  unfold K.ptrS K.ptrE
  by_cases hok : K.okP p = true
  · rw [if_pos hok, if_pos hok]
    have HR := Lib.hid (K.itsP_right hok)
    rw [hok] at HPH
    have hln : (K.itsP p).length = 4 := rfl
    have HEN := Lib.hid fun (A : Option Addr) (c B : Nat) (W : World) hx hB hlc hcm => encode_ok A (K.itsP p) c B W hx hB HG.out hlc hcm HR.out
    have R1 := fun (W : World) => rdi_new W (K.itsP p)
    obtain ⟨a, z, b, s⟩ := p
    unfold ptA at HPH ⊢
    dsimp only at HPH ⊢
    simp only [itsP_cells] at R1
    have RN := Lib.hid R1
    have L1 : Hid (Below w.heap.size w (w.alloc (.cells #[.int .i64 a, .int .i64 z, .int .i64 b, .string s] 38))) := Lib.hid ((Below.refl _ _).alloc (Nat.le_refl _) _)
    have X1 : Hid (Blk (w.alloc (.cells #[.int .i64 a, .int .i64 z, .int .i64 b, .string s] 38)) w.heap.size 38 #[.int .i64 a, .int .i64 z, .int .i64 b, .string s]) := Lib.hid (Blk.new _ _ _)
    clear HP hok R1 hp hln
    go_enter Tryz.func55, Tryz.ntmps55
    go_wp2_with fail
    refine (HPH.out _).mono ?_
    rintro e w2 ⟨rfl, hl2⟩
    have L2 := Lib.hid (L1.out.trans (hl2.mono (by simp)))
    have X2 := Lib.hid (X1.out.below hl2 (by simp))
    have s2 := L2.out.size
    have d0 := X2.out.cell 0
    have d1 := X2.out.cell 1
    have d2 := X2.out.cell 2
    have d3 := X2.out.cell 3
    simp only [List.getElem?_toArray, List.getElem?_cons_zero, List.getElem?_cons_succ] at d0 d1 d2 d3
    have R3 := Lib.hid (RN.out w2)
    have L3 : Hid (Below w.heap.size w (w2.alloc (.cells #[.int .i64 1, .int .i64 a, .string ⟨#[]⟩, .int .i64 1, .int .i64 z, .string ⟨#[]⟩, .int .i64 1, .int .i64 b, .string ⟨#[]⟩, .int .i64 2, .int .i64 0, .string s] 104))) := Lib.hid (L2.out.alloc s2 _)
    clear hl2 X1 L1
    go_wp2_with fail
    refine (HEN.out (some ⟨w2.heap.size, 0, none⟩) 4 (w2.heap.size + 1) _ R3.out (by simp) (Nat.le_refl _) (by unfold maxLen; omega)).mono ?_
    rintro e w4 ⟨v4, rfl, ho4, hl4⟩
    have L4 := Lib.hid (L3.out.trans (hl4.mono (by simp; omega)))
    obtain ⟨A4, c4, rfl, r4, lc4, cm4, _, _⟩ := ho4.shape (K.encs_lt _)
    have SC := conv_lst (c := c4) r4
    unfold maxLen at cm4
    clear ho4 hl4 r4 d0 d1 d2 d3
    go_wp2_with fail
    go_ret2
    exact ⟨rfl, L4.out⟩
  · have hok : K.okP p = false := by simpa using hok
    rw [if_neg (by rw [hok]; simp), if_neg (by rw [hok]; simp)]
    rw [hok] at HPH
    obtain ⟨a, z, b, s⟩ := p
    unfold ptA at HPH ⊢
    dsimp only at HPH ⊢
    have L1 : Hid (Below w.heap.size w (w.alloc (.cells #[.int .i64 a, .int .i64 z, .int .i64 b, .string s] 38))) := Lib.hid ((Below.refl _ _).alloc (Nat.le_refl _) _)
    clear HP hok hp
    go_enter Tryz.func55, Tryz.ntmps55
    go_wp2_with fail
    refine (HPH.out _).mono ?_
    rintro e w2 ⟨rfl, hl2⟩
    have L2 := Lib.hid (L1.out.trans (hl2.mono (by simp)))
    clear hl2
    go_wp2_with fail
    go_ret2
    exact ⟨rfl, L2.out⟩
set_option maxHeartbeats 1600000 in
theorem docPtr_any (p : K.Pt) (w : World) (hp : K.FitP p) :
    Calls Tryz.prog 50 #[.agg (ptA p)] w fun e w' => e = .returned (.tuple #[.string (K.ptrS p), .int .i64 (K.ptrE p)]) ∧ Below w.heap.size w w' := by
  have HPH := Lib.hid fun W => rightPtr_any p W hp.2.2.2
  have HG := Lib.hid (itsP_good hp)
  have HI := Lib.hid fun W => items_any p W
  unfold K.ptrS K.ptrE
  by_cases hok : K.okP p = true
  · rw [if_pos hok, if_pos hok]
    have HR := Lib.hid (K.itsP_right hok)
    rw [hok] at HPH
    have HEN := Lib.hid fun (A : Option Addr) (c B : Nat) (W : World) hx hB hlc hcm => refEncode_any A (K.itsP p) c B W hx hB HG.out hlc hcm HR.out
    obtain ⟨a, z, b, s⟩ := p
    unfold ptA at HPH HI ⊢
    dsimp only at HPH HI ⊢
    have L1 : Hid (Below w.heap.size w (w.alloc (.cells #[.int .i64 a, .int .i64 z, .int .i64 b, .string s] 38))) := Lib.hid ((Below.refl _ _).alloc (Nat.le_refl _) _)
    have X1 : Hid (Blk (w.alloc (.cells #[.int .i64 a, .int .i64 z, .int .i64 b, .string s] 38)) w.heap.size 38 #[.int .i64 a, .int .i64 z, .int .i64 b, .string s]) := Lib.hid (Blk.new _ _ _)
    clear hok hp
    go_enter Tryz.func50, Tryz.ntmps50
    go_wp2_with fail
    refine (HPH.out _).mono ?_
    rintro e w2 ⟨rfl, hl2⟩
    have L2 := Lib.hid (L1.out.trans (hl2.mono (by simp)))
    have X2 := Lib.hid (X1.out.below hl2 (by simp))
    have s2 := L2.out.size
    have LD := Lib.hid (load_blk X2.out Tryz.underlying38 rfl isize_ptr)
    clear hl2 X1 L1
    go_wp2_with (refine wpList_loadX rfl 38 (.tmp 1) rfl _ _ rfl LD.out ?_; refine of_hid ?_)
    refine Lib.hid ?_
    go_wp2_with fail
    refine (HI.out _).mono ?_
    rintro e w3 ⟨A3, c3, rfl, r3, lc3, cm3, hl3⟩
    have L3 := Lib.hid (L2.out.trans (hl3.mono s2))
    have R3 := Lib.hid r3
    have C3 := Lib.hid cm3
    clear hl3 r3
    go_wp2_with fail
    refine (HEN.out A3 c3 w3.heap.size _ R3.out (Nat.le_refl _) lc3 C3.out).mono ?_
    rintro e w4 ⟨rfl, hl4⟩
    have L4 := Lib.hid (L3.out.trans (hl4.mono L3.out.size))
    clear hl4
    go_wp2_with fail
    go_ret2
    exact ⟨rfl, L4.out⟩
  · have hok : K.okP p = false := by simpa using hok
    rw [if_neg (by rw [hok]; simp), if_neg (by rw [hok]; simp)]
    rw [hok] at HPH
    obtain ⟨a, z, b, s⟩ := p
    unfold ptA at HPH ⊢
    dsimp only at HPH ⊢
    have L1 : Hid (Below w.heap.size w (w.alloc (.cells #[.int .i64 a, .int .i64 z, .int .i64 b, .string s] 38))) := Lib.hid ((Below.refl _ _).alloc (Nat.le_refl _) _)
    clear hok hp
    go_enter Tryz.func50, Tryz.ntmps50
    go_wp2_with fail
    refine (HPH.out _).mono ?_
    rintro e w2 ⟨rfl, hl2⟩
    have L2 := Lib.hid (L1.out.trans (hl2.mono (by simp)))
    clear hl2
    go_wp2_with fail
    go_ret2
    exact ⟨rfl, L2.out⟩
end Go.Proofs.YthioanenljpclaaGreatDoor
